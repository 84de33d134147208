
/- readings of the document; signatures; readings whatever the reader's state; writers that keep other blocks -/
import Derived.Test.YtemdmdgigmhlbaaGreatPkU
import Derived.Test.YtemdmdgigmhlbaaGreatPaA
import Derived.Test.YtemdmdgigmhlbaaGreatKit6
import Derived.OrdersIn
import Derived.TacticsIn
import Derived.Tactics
import Derived.Test.YtemdmdgigmhlbaaGreatPkW
import Derived.Lib.AppendStr
import Derived.Lib.Builder
set_option linter.unusedSimpArgs false
set_option linter.unusedVariables false
namespace Go.Proofs.YtemdmdgigmhlbaaGreat
open Go.RowKit Go.Qc Go.Shelf
attribute [local go_sem] txt_size txt_append ib_fold

/-- The document's reader. -/
def rv (s : List UInt8) (a : Nat) (e : Int) : Value := .agg #[.string (txt s), .int .i64 a, .int .i64 e]
theorem rFail_any (s : List UInt8) (a : Nat) (e k : Int) (w : World) :
    Calls Tryz.prog 87 #[rv s a e, .int .i64 k] w fun o w' => o = .returned (rv s a (if e = 0 then k else e)) ∧ Below w.heap.size w w' := by
  unfold rv
  by_cases he : e = 0
  · subst he
    rw [if_pos rfl]
    have hB : Below w.heap.size w ((w.alloc (.cells #[.string (txt s), .int .i64 a, .int .i64 k] 96)).alloc (.cells #[.string (txt s), .int .i64 a, .int .i64 k] 96)) := ((Below.refl _ w).alloc (Nat.le_refl _) _).alloc (by simp) _
    have hb := Blk.new (w.alloc (.cells #[.string (txt s), .int .i64 a, .int .i64 k] 96)) 96 #[.string (txt s), .int .i64 a, .int .i64 k]
    rw [show (w.alloc (.cells #[.string (txt s), .int .i64 a, .int .i64 k] 96)).heap.size = w.heap.size + 1 by simp] at hb
    have y0 := hb.cell_ (i := 0) rfl
    have y1 := hb.cell_ (i := 1) rfl
    have y2 := hb.cell_ (i := 2) rfl
    go_enter Tryz.func87, Tryz.ntmps87
    go_wp2
    refine bodyPost_ret (v := .agg #[.string (txt s), .int .i64 a, .int .i64 k]) (by simp [results, Tryz.f87, go_sem, y0, y1, y2]) rfl ?_
    exact ⟨rfl, hB⟩
  · rw [if_neg he]
    have h1 : (e == 0) = false := by simpa using he
    have hB : Below w.heap.size w ((w.alloc (.cells #[.string (txt s), .int .i64 a, .int .i64 e] 96)).alloc (.cells #[.string (txt s), .int .i64 a, .int .i64 e] 96)) := ((Below.refl _ w).alloc (Nat.le_refl _) _).alloc (by simp) _
    have hb := Blk.new (w.alloc (.cells #[.string (txt s), .int .i64 a, .int .i64 e] 96)) 96 #[.string (txt s), .int .i64 a, .int .i64 e]
    rw [show (w.alloc (.cells #[.string (txt s), .int .i64 a, .int .i64 e] 96)).heap.size = w.heap.size + 1 by simp] at hb
    have y0 := hb.cell_ (i := 0) rfl
    have y1 := hb.cell_ (i := 1) rfl
    have y2 := hb.cell_ (i := 2) rfl
    go_enter Tryz.func87, Tryz.ntmps87
    go_wp2
    refine bodyPost_ret (v := .agg #[.string (txt s), .int .i64 a, .int .i64 e]) (by simp [results, Tryz.f87, go_sem, y0, y1, y2]) rfl ?_
    exact ⟨rfl, hB⟩
end Go.Proofs.YtemdmdgigmhlbaaGreat

namespace Go.Proofs.YtemdmdgigmhlbaaGreat
open Go.RowKit Go.Qc Go.Shelf
attribute [local go_sem] txt_size txt_append ib_fold

theorem ib_wrap64 (x : UInt8) : wrap64 (ib x) = ib x := by
  have h : ib x = (x.toNat : Int) := rfl
  have := x.toNat_lt
  rw [h]; unfold wrap64; omega
theorem infoR3 : (Tryz.prog.info? 96).map (·.size) = some 3 := by kernel_rfl
/-- What a reading of the document's tells: the reader behind it, and what was read. -/
def RPost {α : Type} (val : α → Value) (zero : Value) (s : List UInt8) (a : Nat) (w : World) (r : Except Int (α × Nat)) (o : Ending) (w' : World) : Prop :=
  match r with
  | .ok (v, n) => o = .returned (.tuple #[rv s (a + n) 0, val v]) ∧ Below w.heap.size w w'
  | .error e => o = .returned (.tuple #[rv s a e, zero]) ∧ e ≠ 0 ∧ Below w.heap.size w w'
set_option maxRecDepth 100000 in
set_option maxHeartbeats 200000000 in
theorem rGetNum_any (s : List UInt8) (a : Nat) (hs : s.length ≤ 1000000000000) (ha : a ≤ s.length) (w : World) :
    Calls Tryz.prog 86 #[rv s a 0] w fun o w' => RPost intV (.int .i64 0) s a w (scanN 0 0 (s.drop a)) o w' := by
  have cF : ∀ (k : Int) (W : World), Calls Tryz.prog 87 #[.agg #[.string (txt s), .int .i64 a, .int .i64 0], .int .i64 k] W fun o w' => o = .returned (.agg #[.string (txt s), .int .i64 a, .int .i64 k]) ∧ Below W.heap.size W w' := fun k W => by
    have := rFail_any s a 0 k W
    rw [if_pos rfl] at this
    exact this
  unfold rv
  have hk : (w.alloc (.cells #[.string (txt s), .int .i64 a, .int .i64 0] 96)).heap.size = w.heap.size + 1 := by simp
  have hb1 := (Blk.new w 96 #[.string (txt s), .int .i64 a, .int .i64 0]).alloc (.cells #[.string ⟨#[]⟩, .int .i64 0, .int .i64 0] 96)
  have hb2 := Blk.new (w.alloc (.cells #[.string (txt s), .int .i64 a, .int .i64 0] 96)) 96 #[.string ⟨#[]⟩, .int .i64 0, .int .i64 0]
  rw [hk] at hb2
  have hX : Below w.heap.size w ((w.alloc (.cells #[.string (txt s), .int .i64 a, .int .i64 0] 96)).alloc (.cells #[.string ⟨#[]⟩, .int .i64 0, .int .i64 0] 96)) := ((Below.refl _ w).alloc (Nat.le_refl _) _).alloc (by simp) _
  go_enter Tryz.func86, Tryz.ntmps86
  go_wp2
  generalize (w.alloc (.cells #[.string (txt s), .int .i64 a, .int .i64 0] 96)).alloc (.cells #[.string ⟨#[]⟩, .int .i64 0, .int .i64 0] 96) = W at *
  clear hk
  have x0 : W.cell? ⟨w.heap.size, 0, none⟩ = some (.string (txt s)) := hb1.cell_ (i := 0) rfl
  have x1 : W.cell? ⟨w.heap.size, 1, none⟩ = some (.int .i64 a) := hb1.cell_ (i := 1) rfl
  have x2 : W.cell? ⟨w.heap.size, 2, none⟩ = some (.int .i64 0) := hb1.cell_ (i := 2) rfl
  have f1 := hb1.frozen 1
  go_loopw [4, 5, 6] (fun v p i wr => wr = W ∧ ∃ (d V P : Nat) (U Q D : Int), D ≤ 8 ∧ 0 ≤ D ∧ v = .int .i64 U ∧ p = .int .i64 Q ∧ i = .int .i64 D ∧ Hid (D = d ∧ U = V ∧ Q = P ∧ P = 2 ^ (7 * d) ∧ V < P ∧ a + d ≤ s.length ∧ scanN 0 0 (s.drop a) = scanN d V (s.drop (a + d)))) (fun _ _ i _ => 9 - (intOf i).toNat)
  case atStart => exact ⟨rfl, 0, 0, 1, 0, 1, 0, by decide, by decide, rfl, rfl, rfl, hid ⟨rfl, rfl, rfl, by decide, by decide, by omega, by simp⟩⟩
  case round =>
    obtain ⟨rfl, d, V, P, U, Q, D, hD8, hD0, rfl, rfl, rfl, HH⟩ := hrel
    have hDd := HH.out.1
    have hUV := HH.out.2.1
    have hQP := HH.out.2.2.1
    have hd : d ≤ 8 := by omega
    have hi9 : D < 9 := by omega
    by_cases hlt : a + d < s.length
    · obtain ⟨x, hx⟩ : ∃ x, s[a + d]? = some x := ⟨_, List.getElem?_eq_getElem hlt⟩
      have hdr : s.drop (a + d) = x :: s.drop (a + d + 1) := by
        rw [List.drop_eq_getElem_cons hlt]; congr 1
        rw [List.getElem?_eq_getElem hlt] at hx; exact Option.some.inj hx
      obtain ⟨A, hA⟩ : ∃ A : Nat, A = a + d := ⟨_, rfl⟩
      have eA : (a : Int) + D = (A : Int) := by omega
      have hAb : A < s.length := by omega
      have hidx := run_index_str s A x (by rw [hA]; exact hx) A rfl
      have z1 : ¬ (s.length : Int) ≤ (A : Int) := by omega
      have HAA := hid hA
      clear hA
      obtain ⟨-, -, -, hP, hVP, hal, hsc⟩ := HH.out
      have hwb := ib_wrap64 x
      rw [hdr, scanN] at hsc
      rw [← hP] at hsc
      have hP8 : P ≤ 72057594037927936 := by rw [hP]; exact pow_le8 d hd
      have hPd8 : d = 8 → P = 72057594037927936 := fun h => by rw [hP, h]
      have hPd7 : d ≤ 7 → P ≤ 562949953421312 := fun h => by
        have : 2 ^ (7 * d) ≤ 2 ^ (7 * 7) := Nat.pow_le_pow_right (by decide) (Nat.mul_le_mul_left 7 h)
        rw [hP]; exact this
      have hPn0 : 128 * P = 2 ^ (7 * (d + 1)) := by rw [hP, Nat.mul_add, Nat.pow_add, Nat.mul_comm]
      have HPN := hid hPn0
      clear hP hPn0 HH
      obtain ⟨B, hB⟩ : ∃ B, B = x.toNat := ⟨_, rfl⟩
      have hib : ib x = (B : Int) := by rw [hB]; rfl
      have hB255 : B ≤ 255 := by have := x.toNat_lt; omega
      rw [← hB] at hsc
      obtain ⟨q, hq⟩ : ∃ q, q = B % 128 := ⟨_, rfl⟩
      obtain ⟨M, hM⟩ : ∃ M, M = q * P := ⟨_, rfl⟩
      have hq127 : q ≤ 127 := by omega
      have t1 : (ib x).tmod 128 = (q : Int) := by rw [hib, Int.tmod_eq_emod_of_nonneg (by omega)]; omega
      have m1 : (q : Int) * Q = (M : Int) := by rw [hM, hQP, Int.natCast_mul]
      have hU0 : 0 ≤ U := by omega
      have hUP : U < Q := by omega
      rw [← hq, ← hM] at hsc
      have HSC := hid hsc
      have HX := hid hX
      have HDd := hid hDd
      have HUV := hid hUV
      have HQP := hid hQP
      clear hsc hdr hx hlt
      by_cases h8 : d = 8
      · have hPv : P = 72057594037927936 := hPd8 h8
        have e8 : (D == 8) = true := by simp; omega
        have e8b : ¬ D < 8 := by omega
        have e8c : (0 : Int) < D := by omega
        have hQv : Q = 72057594037927936 := by omega
        by_cases h64 : 64 < B
        · have c1 : (64 : Int) < ib x := by omega
          have hsc := HSC.out
          rw [if_pos ⟨h8, h64⟩] at hsc
          have HS := hid hsc
          clear hsc HSC h64 t1 m1 hM hq127 hPv hib e8b e8c hUP hB255 hB hq hPd8 hPd7 hP8 hVP hal hDd hUV hQP
          go_wp2_with (first
            | (go_at_call 87; (with_reducible refine (cF 3 _).mono ?_); rintro o3 w3 ⟨rfl, hB3⟩; have hb3 := hb2.below hB3; have hX3 := HX.out.trans (hB3.mono hX.size))
            | (with_reducible refine wpList_store_blk rfl 96 _ _ rfl (w.heap.size + 1) _ #[.string (txt s), .int .i64 a, .int .i64 3] 96 hb3 rfl rfl ?c2_1 ?c3_1 ?c4_1 ?_))
          case c2_1 => first | kernel_rfl | simpa using infoR3
          try (case c3_1 => rfl)
          case c4_1 => simp [Value.oneCell']
          intro w9 hb9 hg9
          have y0 := hb9.cell_ (i := 0) rfl
          have y1 := hb9.cell_ (i := 1) rfl
          have y2 := hb9.cell_ (i := 2) rfl
          go_wp2
          refine bodyPost_ret (v := .tuple #[.agg #[.string (txt s), .int .i64 a, .int .i64 3], .int .i64 0]) (by simp [results, Tryz.f86, go_sem, y0, y1, y2]) rfl ?_
          rw [HS.out]
          exact ⟨rfl, by decide, hX3.grown hg9 hX3.size (by intro k e; cases e; omega)⟩
        · have c1 : ¬ (64 : Int) < ib x := by omega
          have hsc := HSC.out
          rw [if_neg (by omega), if_neg (by omega)] at hsc
          have hqB : q = B := by omega
          by_cases hz : B = 64 ∧ 0 < V
          · have c2 : (ib x == 64) = true := by simp; omega
            have c3 : (0 : Int) < U := by omega
            rw [if_pos (.inr (by rw [hM, hqB, hPv]; omega))] at hsc
            have HS := hid hsc
            have hib64 : ib x = 64 := by omega
            clear hsc HSC h64 t1 m1 hM hq127 hPv hib e8c hz hqB hUP hB255 hB hq hPd8 hPd7 hP8 hVP hal hDd hUV hQP
            go_wp2_with (first
              | (go_at_call 87; (with_reducible refine (cF 3 _).mono ?_); rintro o3 w3 ⟨rfl, hB3⟩; have hb3 := hb2.below hB3; have hX3 := HX.out.trans (hB3.mono hX.size))
              | (with_reducible refine wpList_store_blk rfl 96 _ _ rfl (w.heap.size + 1) _ #[.string (txt s), .int .i64 a, .int .i64 3] 96 hb3 rfl rfl ?c2_2 ?c3_2 ?c4_2 ?_))
            case c2_2 => first | kernel_rfl | simpa using infoR3
            try (case c3_2 => rfl)
            case c4_2 => simp [Value.oneCell']
            intro w9 hb9 hg9
            have y0 := hb9.cell_ (i := 0) rfl
            have y1 := hb9.cell_ (i := 1) rfl
            have y2 := hb9.cell_ (i := 2) rfl
            go_wp2
            refine bodyPost_ret (v := .tuple #[.agg #[.string (txt s), .int .i64 a, .int .i64 3], .int .i64 0]) (by simp [results, Tryz.f86, go_sem, y0, y1, y2]) rfl ?_
            rw [HS.out]
            exact ⟨rfl, by decide, hX3.grown hg9 hX3.size (by intro k e; cases e; omega)⟩
          · obtain ⟨K, hK⟩ : ∃ K, K = B * P := ⟨_, rfl⟩
            have m3 : ib x * Q = (K : Int) := by rw [hK, hib, hQP]; simp
            have hKM : M = K := by rw [hM, hK, hqB]
            have hK62 : K ≤ 4611686018427387904 := by rw [hK, hPv]; omega
            have hVK : U + K ≤ 4611686018427387904 := by rw [hK, hPv]; omega
            have c4 : ib x < 128 := by omega
            rw [hKM] at hsc
            by_cases hb0 : B = 0
            · have c5 : (ib x == 0) = true := by simp; omega
              have hib0 : ib x = 0 := by omega
              rw [if_pos (.inl ⟨hb0, by omega⟩)] at hsc
              have HS := hid hsc
              have hc64 : (ib x == 64) = false := by simp; omega
              clear hsc HSC h64 hz t1 m1 hM hq127 hPv hib hqB hK hKM hb0 hUP hB255 hB hq hPd8 hPd7 hP8 hVP hal hDd hUV hQP
              go_wp2_with (first
                | (go_at_call 87; (with_reducible refine (cF 3 _).mono ?_); rintro o3 w3 ⟨rfl, hB3⟩; have hb3 := hb2.below hB3; have hX3 := HX.out.trans (hB3.mono hX.size))
                | (with_reducible refine wpList_store_blk rfl 96 _ _ rfl (w.heap.size + 1) _ #[.string (txt s), .int .i64 a, .int .i64 3] 96 hb3 rfl rfl ?c2_3 ?c3_3 ?c4_3 ?_))
              case c2_3 => first | kernel_rfl | simpa using infoR3
              try (case c3_3 => rfl)
              case c4_3 => simp [Value.oneCell']
              intro w9 hb9 hg9
              have y0 := hb9.cell_ (i := 0) rfl
              have y1 := hb9.cell_ (i := 1) rfl
              have y2 := hb9.cell_ (i := 2) rfl
              go_wp2
              refine bodyPost_ret (v := .tuple #[.agg #[.string (txt s), .int .i64 a, .int .i64 3], .int .i64 0]) (by simp [results, Tryz.f86, go_sem, y0, y1, y2]) rfl ?_
              rw [HS.out]
              exact ⟨rfl, by decide, hX3.grown hg9 hX3.size (by intro k e; cases e; omega)⟩
            · have c5 : (ib x == 0) = false := by simp; omega
              rw [if_neg (by omega)] at hsc
              have HS := hid hsc
              by_cases hb64 : B = 64
              · have c2 : (ib x == 64) = true := by simp; omega
                have c3 : ¬ (0 : Int) < U := by omega
                clear hQv
                clear hsc HSC h64 hz t1 m1 hM hq127 hPv hib hqB hK hKM hb0 hUP hB255 hB hq hPd8 hPd7 hP8 hVP hal hDd hUV hQP hb64
                have hs1 := hb1.set 1 (.int .i64 ((a : Int) + (D + 1)))
                have hs2 := blk_gb hb2 (gb_set (gb_refl wr (some w.heap.size)) 1 (.int .i64 ((a : Int) + (D + 1)))) (by omega)
                have u0 := hs1.cell_ (i := 0) rfl
                have u1 := hs1.cell_ (i := 1) rfl
                have u2 := hs1.cell_ (i := 2) rfl
                simp at u0 u1 u2
                go_wp2_with (first
                  | (with_reducible refine wpList_store_blk rfl 96 _ _ rfl (w.heap.size + 1) _ #[.string (txt s), .int .i64 ((a : Int) + (D + 1)), .int .i64 0] 96 hs2 rfl rfl ?c2_4 ?c3_4 ?c4_4 ?_))
                case c2_4 => first | kernel_rfl | simpa using infoR3
                try (case c3_4 => rfl)
                case c4_4 => simp [Value.oneCell']
                intro w9 hb9 hg9
                have y0 := hb9.cell_ (i := 0) rfl
                have y1 := hb9.cell_ (i := 1) rfl
                have y2 := hb9.cell_ (i := 2) rfl
                go_wp2
                refine bodyPost_ret (v := .tuple #[.agg #[.string (txt s), .int .i64 ((a : Int) + (D + 1)), .int .i64 0], .int .i64 (U + (K : Int))]) (by simp [results, Tryz.f86, go_sem, y0, y1, y2]) rfl ?_
                rw [HS.out]
                refine ⟨by rw [HUV.out, HDd.out]; simp [rv, intV], ?_⟩
                exact (HX.out.setCell (p := ⟨w.heap.size, 1, none⟩) (Nat.le_refl _) _).grown hg9 (by simpa using HX.out.size) (by intro k e; cases e; omega)
              · have c2 : (ib x == 64) = false := by simp; omega
                clear hQv
                clear hsc HSC h64 hz t1 m1 hM hq127 hPv hib hqB hK hKM hb0 hUP hB255 hB hq hPd8 hPd7 hP8 hVP hal hDd hUV hQP hb64
                have hs1 := hb1.set 1 (.int .i64 ((a : Int) + (D + 1)))
                have hs2 := blk_gb hb2 (gb_set (gb_refl wr (some w.heap.size)) 1 (.int .i64 ((a : Int) + (D + 1)))) (by omega)
                have u0 := hs1.cell_ (i := 0) rfl
                have u1 := hs1.cell_ (i := 1) rfl
                have u2 := hs1.cell_ (i := 2) rfl
                simp at u0 u1 u2
                go_wp2_with (first
                  | (with_reducible refine wpList_store_blk rfl 96 _ _ rfl (w.heap.size + 1) _ #[.string (txt s), .int .i64 ((a : Int) + (D + 1)), .int .i64 0] 96 hs2 rfl rfl ?c2_5 ?c3_5 ?c4_5 ?_))
                case c2_5 => first | kernel_rfl | simpa using infoR3
                try (case c3_5 => rfl)
                case c4_5 => simp [Value.oneCell']
                intro w9 hb9 hg9
                have y0 := hb9.cell_ (i := 0) rfl
                have y1 := hb9.cell_ (i := 1) rfl
                have y2 := hb9.cell_ (i := 2) rfl
                go_wp2
                refine bodyPost_ret (v := .tuple #[.agg #[.string (txt s), .int .i64 ((a : Int) + (D + 1)), .int .i64 0], .int .i64 (U + (K : Int))]) (by simp [results, Tryz.f86, go_sem, y0, y1, y2]) rfl ?_
                rw [HS.out]
                refine ⟨by rw [HUV.out, HDd.out]; simp [rv, intV], ?_⟩
                exact (HX.out.setCell (p := ⟨w.heap.size, 1, none⟩) (Nat.le_refl _) _).grown hg9 (by simpa using HX.out.size) (by intro k e; cases e; omega)
      · have hP7 : P ≤ 562949953421312 := hPd7 (by omega)
        have hMb : M ≤ 127 * P := by rw [hM]; exact Nat.mul_le_mul_right _ hq127
        have hM56 : M ≤ 71494644084506624 := by omega
        have hVM : V + M < 128 * P := by omega
        have hUM : U + M ≤ 72057594037927936 := by omega
        have hQ7 : Q ≤ 562949953421312 := by omega
        have hQ1 : 0 ≤ Q := by omega
        have HVM := hid hVM
        clear hMb hVM
        have hne8 : (D == 8) = false := by simp; omega
        have d8 : D < 8 := by omega
        have hsc := HSC.out
        rw [if_neg (by omega)] at hsc
        clear HSC
        by_cases h128 : 128 ≤ B
        · rw [if_pos h128] at hsc
          have HS := hid hsc
          have c4 : ¬ ib x < 128 := by omega
          have hd1 : a + (d + 1) ≤ s.length := by omega
          have HIB := hid hib
          have HMM := hid hM
          clear hsc hib hM hB255 hB hq hPd8 hPd7 hP8 hVP hal hDd hUV hQP
          go_wp2
          go_roundw
          case rel => exact ⟨by first | rfl | trivial, d + 1, V + M, 128 * P, U + M, 128 * Q, D + 1, by omega, by omega, by go_num, by go_num, by go_num, hid ⟨by rw [HDd.out]; simp, by rw [HUV.out]; simp, by rw [HQP.out]; simp, HPN.out, HVM.out, hd1, by rw [HS.out]; congr 1⟩⟩
          case measure => (simp [intOf]; try omega)
        · rw [if_neg h128] at hsc
          have c4 : ib x < 128 := by omega
          by_cases hb0 : B = 0 ∧ 0 < d
          · have c5 : (0 : Int) < D := by omega
            have c6 : (ib x == 0) = true := by simp; omega
            have hib0 : ib x = 0 := by omega
            rw [if_pos (.inl hb0)] at hsc
            have HS := hid hsc
            clear hsc h128 hib hM hb0 hB255 hB hq hPd8 hPd7 hP8 hVP hal hDd hUV hQP
            go_wp2_with (first
              | (go_at_call 87; (with_reducible refine (cF 3 _).mono ?_); rintro o3 w3 ⟨rfl, hB3⟩; have hb3 := hb2.below hB3; have hX3 := HX.out.trans (hB3.mono hX.size))
              | (with_reducible refine wpList_store_blk rfl 96 _ _ rfl (w.heap.size + 1) _ #[.string (txt s), .int .i64 a, .int .i64 3] 96 hb3 rfl rfl ?c2_6 ?c3_6 ?c4_6 ?_))
            case c2_6 => first | kernel_rfl | simpa using infoR3
            try (case c3_6 => rfl)
            case c4_6 => simp [Value.oneCell']
            intro w9 hb9 hg9
            have y0 := hb9.cell_ (i := 0) rfl
            have y1 := hb9.cell_ (i := 1) rfl
            have y2 := hb9.cell_ (i := 2) rfl
            go_wp2
            refine bodyPost_ret (v := .tuple #[.agg #[.string (txt s), .int .i64 a, .int .i64 3], .int .i64 0]) (by simp [results, Tryz.f86, go_sem, y0, y1, y2]) rfl ?_
            rw [HS.out]
            exact ⟨rfl, by decide, hX3.grown hg9 hX3.size (by intro k e; cases e; omega)⟩
          · rw [if_neg (by omega)] at hsc
            have HS := hid hsc
            by_cases hd2 : 0 < d
            · have c5 : (0 : Int) < D := by omega
              have c6 : (ib x == 0) = false := by simp; omega
              clear hsc h128 hb0 hib hM hB255 hB hq hPd8 hPd7 hP8 hVP hal hDd hUV hQP hd2
              have hs1 := hb1.set 1 (.int .i64 ((a : Int) + (D + 1)))
              have hs2 := blk_gb hb2 (gb_set (gb_refl wr (some w.heap.size)) 1 (.int .i64 ((a : Int) + (D + 1)))) (by omega)
              have u0 := hs1.cell_ (i := 0) rfl
              have u1 := hs1.cell_ (i := 1) rfl
              have u2 := hs1.cell_ (i := 2) rfl
              simp at u0 u1 u2
              go_wp2_with (first
                | (with_reducible refine wpList_store_blk rfl 96 _ _ rfl (w.heap.size + 1) _ #[.string (txt s), .int .i64 ((a : Int) + (D + 1)), .int .i64 0] 96 hs2 rfl rfl ?c2_7 ?c3_7 ?c4_7 ?_))
              case c2_7 => first | kernel_rfl | simpa using infoR3
              try (case c3_7 => rfl)
              case c4_7 => simp [Value.oneCell']
              intro w9 hb9 hg9
              have y0 := hb9.cell_ (i := 0) rfl
              have y1 := hb9.cell_ (i := 1) rfl
              have y2 := hb9.cell_ (i := 2) rfl
              go_wp2
              refine bodyPost_ret (v := .tuple #[.agg #[.string (txt s), .int .i64 ((a : Int) + (D + 1)), .int .i64 0], .int .i64 (U + (M : Int))]) (by simp [results, Tryz.f86, go_sem, y0, y1, y2]) rfl ?_
              rw [HS.out]
              refine ⟨by rw [HUV.out, HDd.out]; simp [rv, intV], ?_⟩
              exact (HX.out.setCell (p := ⟨w.heap.size, 1, none⟩) (Nat.le_refl _) _).grown hg9 (by simpa using HX.out.size) (by intro k e; cases e; omega)
            · have c5 : ¬ (0 : Int) < D := by omega
              clear hsc h128 hb0 hib hM hB255 hB hq hPd8 hPd7 hP8 hVP hal hDd hUV hQP hd2
              have hs1 := hb1.set 1 (.int .i64 ((a : Int) + (D + 1)))
              have hs2 := blk_gb hb2 (gb_set (gb_refl wr (some w.heap.size)) 1 (.int .i64 ((a : Int) + (D + 1)))) (by omega)
              have u0 := hs1.cell_ (i := 0) rfl
              have u1 := hs1.cell_ (i := 1) rfl
              have u2 := hs1.cell_ (i := 2) rfl
              simp at u0 u1 u2
              go_wp2_with (first
                | (with_reducible refine wpList_store_blk rfl 96 _ _ rfl (w.heap.size + 1) _ #[.string (txt s), .int .i64 ((a : Int) + (D + 1)), .int .i64 0] 96 hs2 rfl rfl ?c2_8 ?c3_8 ?c4_8 ?_))
              case c2_8 => first | kernel_rfl | simpa using infoR3
              try (case c3_8 => rfl)
              case c4_8 => simp [Value.oneCell']
              intro w9 hb9 hg9
              have y0 := hb9.cell_ (i := 0) rfl
              have y1 := hb9.cell_ (i := 1) rfl
              have y2 := hb9.cell_ (i := 2) rfl
              go_wp2
              refine bodyPost_ret (v := .tuple #[.agg #[.string (txt s), .int .i64 ((a : Int) + (D + 1)), .int .i64 0], .int .i64 (U + (M : Int))]) (by simp [results, Tryz.f86, go_sem, y0, y1, y2]) rfl ?_
              rw [HS.out]
              refine ⟨by rw [HUV.out, HDd.out]; simp [rv, intV], ?_⟩
              exact (HX.out.setCell (p := ⟨w.heap.size, 1, none⟩) (Nat.le_refl _) _).grown hg9 (by simpa using HX.out.size) (by intro k e; cases e; omega)
    · obtain ⟨A, hA⟩ : ∃ A : Nat, A = a + d := ⟨_, rfl⟩
      have eA : (a : Int) + D = (A : Int) := by omega
      have z1 : (s.length : Int) ≤ (A : Int) := by omega
      have hAb : A ≤ 2000000000000 := by omega
      have HDd := hid hDd
      have hnil : s.drop (a + d) = [] := List.drop_of_length_le (by omega)
      have hsc : scanN 0 0 (s.drop a) = .error 2 := by
        rw [HH.out.2.2.2.2.2.2, hnil]; rfl
      have HS := hid hsc
      clear hsc hDd hUV hQP hA hnil hlt
      go_wp2_with (first
        | (go_at_call 87; (with_reducible refine (cF 2 _).mono ?_); rintro o3 w3 ⟨rfl, hB3⟩; have hb3 := hb2.below hB3; have hX3 := hX.trans (hB3.mono hX.size))
        | (with_reducible refine wpList_store_blk rfl 96 _ _ rfl (w.heap.size + 1) _ #[.string (txt s), .int .i64 a, .int .i64 2] 96 hb3 rfl rfl ?c2_9 ?c3_9 ?c4_9 ?_))
      case c2_9 => first | kernel_rfl | simpa using infoR3
      try (case c3_9 => rfl)
      case c4_9 => simp [Value.oneCell']
      intro w9 hb9 hg9
      have y0 := hb9.cell_ (i := 0) rfl
      have y1 := hb9.cell_ (i := 1) rfl
      have y2 := hb9.cell_ (i := 2) rfl
      go_wp2
      refine bodyPost_ret (v := .tuple #[.agg #[.string (txt s), .int .i64 a, .int .i64 2], .int .i64 0]) (by simp [results, Tryz.f86, go_sem, y0, y1, y2]) rfl ?_
      rw [HS.out]
      exact ⟨rfl, by decide, hX3.grown hg9 hX3.size (by intro k e; cases e; omega)⟩
end Go.Proofs.YtemdmdgigmhlbaaGreat

namespace Go.Proofs.YtemdmdgigmhlbaaGreat
open Go.RowKit Go.Qc Go.Shelf
attribute [local go_sem] txt_size txt_append ib_fold

theorem scanN_err : ∀ (l : List UInt8) (d v : Nat) (e : Int), scanN d v l = .error e → e ≠ 0
  | [], d, v, e, h => by
    rw [scanN] at h
    injection h with h
    subst h; decide
  | b :: t, d, v, e, h => by
    rw [scanN] at h
    split at h
    · injection h with h
      subst h; decide
    · split at h
      · exact scanN_err t _ _ e h
      · split at h
        · injection h with h
          subst h; decide
        · cases h
theorem rF_any (s : List UInt8) (a : Nat) (k : Int) (W : World) : Calls Tryz.prog 87 #[.agg #[.string (txt s), .int .i64 a, .int .i64 0], .int .i64 k] W fun o w' => o = .returned (.agg #[.string (txt s), .int .i64 a, .int .i64 k]) ∧ Below W.heap.size W w' := by
  have := rFail_any s a 0 k W
  rw [if_pos rfl] at this
  exact this
theorem wpList_store_rv {w : World} {ops : Array Oper} {rest : List Oper} {o : Oper} {a : Act} {Q : Exit → Act → World → Prop} (hgd : o.guard = none) (x y : Operand) (ho : o.op = .store 96 x y) (g : Nat) (old : Array Value) (u0 : ByteArray) (u1 u2 : Int)
    (hg : Blk w g 96 old) (hold : old.size = 3) (hx : a.eval x = .pointer (some ⟨g, 0, none⟩)) (hy : a.eval y = .agg #[.string u0, .int .i64 u1, .int .i64 u2])
    (h : ∀ w', Blk w' g 96 #[.string u0, .int .i64 u1, .int .i64 u2] → w.grownBy w' (some g) → wpList Tryz.prog ops Q rest (a.put o.dst undef) w') : wpList Tryz.prog ops Q (o :: rest) a w :=
  wpList_store_blk hgd 96 x y ho g old _ 96 hg hx hy infoR3 (by rw [hold]; rfl) (by simp [Value.oneCell']) h
theorem blk_c {w : World} {g : Nat} {t : TypeId} {cs : Array Value} (h : Blk w g t cs) (i : Nat) (v : Value) (hv : cs[i]? = some v) : w.cell? ⟨g, i, none⟩ = some v := by
  obtain ⟨hi, he⟩ := Array.getElem?_eq_some_iff.1 hv
  rw [← he]; exact h.cell_ (Array.getElem?_eq_getElem hi)
set_option maxHeartbeats 8000000 in
theorem rcount_gen (s : List UInt8) (a a2 : Nat) (e e2 most n : Int) (w : World)
    (cN : ∀ W : World, Calls Tryz.prog 86 #[.agg #[.string (txt s), .int .i64 a, .int .i64 e]] W fun o w' => o = .returned (.tuple #[.agg #[.string (txt s), .int .i64 a2, .int .i64 e2], .int .i64 n]) ∧ Below W.heap.size W w') (big : Bool)
    (hb : ((e2 == 0) && decide (most < n)) = big) (he : big = true → e = 0) :
    Calls Tryz.prog 64 #[.agg #[.string (txt s), .int .i64 a, .int .i64 e], .int .i64 most] w fun o w' => o = .returned (if big then .tuple #[.agg #[.string (txt s), .int .i64 a, .int .i64 4], .int .i64 0] else .tuple #[.agg #[.string (txt s), .int .i64 a2, .int .i64 e2], .int .i64 n]) ∧ Below w.heap.size w w' := by
  have x0 := (Blk.new w 96 #[.string (txt s), .int .i64 a, .int .i64 e]).alloc (.cells #[.string ⟨#[]⟩, .int .i64 0, .int .i64 0] 96)
  have x1 := Blk.new (w.alloc (.cells #[.string (txt s), .int .i64 a, .int .i64 e] 96)) 96 #[.string ⟨#[]⟩, .int .i64 0, .int .i64 0]
  have hk : (w.alloc (.cells #[.string (txt s), .int .i64 a, .int .i64 e] 96)).heap.size = w.heap.size + 1 := by simp
  rw [hk] at x1
  have hX : Below w.heap.size w ((w.alloc (.cells #[.string (txt s), .int .i64 a, .int .i64 e] 96)).alloc (.cells #[.string ⟨#[]⟩, .int .i64 0, .int .i64 0] 96)) := ((Below.refl _ w).alloc (Nat.le_refl _) _).alloc (by simp) _
  have hsz : ((w.alloc (.cells #[.string (txt s), .int .i64 a, .int .i64 e] 96)).alloc (.cells #[.string ⟨#[]⟩, .int .i64 0, .int .i64 0] 96)).heap.size = w.heap.size + 1 + 1 := by simp
  go_enter Tryz.func64, Tryz.ntmps64
  go_wp2_with (fail)
  generalize (w.alloc (.cells #[.string (txt s), .int .i64 a, .int .i64 e] 96)).alloc (.cells #[.string ⟨#[]⟩, .int .i64 0, .int .i64 0] 96) = W at *
  have key : ∀ W1, Below W.heap.size W W1 → (∀ o, (W1.alloc o).cell? ⟨w.heap.size, 0, none⟩ = some (.string (txt s))) ∧ (∀ o, (W1.alloc o).cell? ⟨w.heap.size, 1, none⟩ = some (.int .i64 a)) ∧ (∀ o, (W1.alloc o).cell? ⟨w.heap.size, 2, none⟩ = some (.int .i64 e)) ∧ (∀ o, Blk (W1.alloc o) (w.heap.size + 1) 96 #[.string ⟨#[]⟩, .int .i64 0, .int .i64 0]) := fun W1 h =>
    ⟨fun o => ((x0.below h).alloc o).cell_ (i := 0) rfl, fun o => ((x0.below h).alloc o).cell_ (i := 1) rfl, fun o => ((x0.below h).alloc o).cell_ (i := 2) rfl, fun o => (x1.below h).alloc o⟩
  clear hk x0 x1
  cases big with
  | true =>
    obtain rfl := he rfl
    rw [Bool.and_eq_true] at hb
    obtain ⟨hb1, hb2⟩ := hb
    have hb2 := of_decide_eq_true hb2
    go_wp2_with (first
      | (go_at_call 86; (with_reducible refine (cN _).mono ?_); rintro o1 w1 ⟨rfl, h1⟩; obtain ⟨k0, k1, k2, k3⟩ := key _ h1; have hX1 := hX.trans (h1.mono hX.size); have hX2 := hX1.alloc hX1.size (.cells #[.string (txt s), .int .i64 a2, .int .i64 e2] 96); have k4 := k3 (.cells #[.string (txt s), .int .i64 a2, .int .i64 e2] 96))
      | (go_at_call 87; (with_reducible refine (rF_any s a 4 _).mono ?_); rintro o2 w2 ⟨rfl, h2⟩; have k5 := k4.below h2; have hX3 := hX2.trans (h2.mono hX2.size))
      | ((with_reducible refine wpList_store_rv rfl _ _ rfl (w.heap.size + 1) _ _ _ _ k5 rfl rfl rfl ?_); intro w9 hb9 hg9; have y0 := hb9.cell_ (i := 0) rfl; have y1 := hb9.cell_ (i := 1) rfl; have y2 := hb9.cell_ (i := 2) rfl))
    refine bodyPost_ret (v := .tuple #[.agg #[.string (txt s), .int .i64 a, .int .i64 4], .int .i64 0]) (by simp [results, Tryz.f64, go_sem, y0, y1, y2]) rfl ?_
    exact ⟨rfl, hX3.grown hg9 hX3.size (by intro k e; cases e; omega)⟩
  | false =>
    have hh : (e2 == 0) = false ∨ ((e2 == 0) = true ∧ ¬ most < n) := by
      cases h : (e2 == 0) with
      | false => exact .inl rfl
      | true => rw [h, Bool.true_and] at hb; exact .inr ⟨rfl, of_decide_eq_false hb⟩
    rcases hh with hh | ⟨hh, hh2⟩
    all_goals
      go_wp2_with (first
        | (go_at_call 86; (with_reducible refine (cN _).mono ?_); rintro o1 w1 ⟨rfl, h1⟩; obtain ⟨k0, k1, k2, k3⟩ := key _ h1; have hX1 := hX.trans (h1.mono hX.size); have hX2 := hX1.alloc hX1.size (.cells #[.string (txt s), .int .i64 a2, .int .i64 e2] 96); have k4 := k3 (.cells #[.string (txt s), .int .i64 a2, .int .i64 e2] 96))
        | ((with_reducible refine wpList_store_rv rfl _ _ rfl (w.heap.size + 1) _ _ _ _ k4 rfl rfl rfl ?_); intro w9 hb9 hg9; have y0 := hb9.cell_ (i := 0) rfl; have y1 := hb9.cell_ (i := 1) rfl; have y2 := hb9.cell_ (i := 2) rfl))
      refine bodyPost_ret (v := .tuple #[.agg #[.string (txt s), .int .i64 a2, .int .i64 e2], .int .i64 n]) (by simp [results, Tryz.f64, go_sem, y0, y1, y2]) rfl ?_
      exact ⟨rfl, hX2.grown hg9 hX2.size (by intro k e; cases e; omega)⟩
theorem rcount_any (s : List UInt8) (a : Nat) (most : Int) (hs : s.length ≤ 1000000000000) (ha : a ≤ s.length) (w : World) :
    Calls Tryz.prog 64 #[rv s a 0, .int .i64 most] w fun o w' => RPost intV (.int .i64 0) s a w (cntN most (s.drop a)) o w' := by
  have cN := fun W => rGetNum_any s a hs ha W
  unfold cntN
  cases hsc : scanN 0 0 (s.drop a) with
  | ok p =>
    obtain ⟨v, n⟩ := p
    rw [hsc] at cN
    simp only
    by_cases hm : most < v
    · rw [if_pos hm]
      refine (rcount_gen s a (a + n) 0 0 most v w cN true (by simpa using hm) (fun _ => rfl)).mono ?_
      rintro o w' ⟨rfl, hb⟩
      exact ⟨rfl, by decide, hb⟩
    · rw [if_neg hm]
      refine (rcount_gen s a (a + n) 0 0 most v w cN false (by simpa using hm) (fun h => by cases h)).mono ?_
      rintro o w' ⟨rfl, hb⟩
      exact ⟨rfl, hb⟩
  | error e =>
    rw [hsc] at cN
    simp only
    have he : e ≠ 0 := scanN_err _ _ _ _ hsc
    refine (rcount_gen s a a 0 e most 0 w (fun W => (cN W).mono (by rintro o w' ⟨h1, _, h2⟩; exact ⟨h1, h2⟩)) false (by have : (e == 0) = false := beq_false_of_ne he; rw [this]; rfl) (fun h => by cases h)).mono ?_
    rintro o w' ⟨rfl, hb⟩
    exact ⟨rfl, he, hb⟩
end Go.Proofs.YtemdmdgigmhlbaaGreat

namespace Go.Proofs.YtemdmdgigmhlbaaGreat
open Go.RowKit Go.Qc Go.Shelf
attribute [local go_sem] txt_size txt_append ib_fold

set_option maxHeartbeats 8000000 in
theorem rsome_short (s : List UInt8) (a : Nat) (n : Int) (hs : s.length ≤ 1000000000000) (ha : a ≤ s.length) (hn : (s.length : Int) < a + n) (f : Nat) (w : World) :
    Calls Tryz.prog 65 #[rv s a 0, .int .i64 f, .int .i64 n] w fun o w' => o = .returned (.tuple #[rv s f 2, .string ⟨#[]⟩]) ∧ Below w.heap.size w w' := by
  have hn1 : (s.length : Int) - a < n := by omega
  unfold rv
  have hk : (w.alloc (.cells #[.string (txt s), .int .i64 f, .int .i64 0] 96)).heap.size = w.heap.size + 1 := by simp
  have k4 := Blk.new (w.alloc (.cells #[.string (txt s), .int .i64 f, .int .i64 0] 96)) 96 #[.string ⟨#[]⟩, .int .i64 0, .int .i64 0]
  rw [hk] at k4
  have hX : Below w.heap.size w ((w.alloc (.cells #[.string (txt s), .int .i64 f, .int .i64 0] 96)).alloc (.cells #[.string ⟨#[]⟩, .int .i64 0, .int .i64 0] 96)) := ((Below.refl _ w).alloc (Nat.le_refl _) _).alloc (by simp) _
  have cF := rF_any s f 2 ((w.alloc (.cells #[.string (txt s), .int .i64 f, .int .i64 0] 96)).alloc (.cells #[.string ⟨#[]⟩, .int .i64 0, .int .i64 0] 96))
  clear hk
  go_enter Tryz.func65, Tryz.ntmps65
  go_wp2_with (first
    | (go_at_call 87; (with_reducible refine cF.mono ?_); rintro o2 w2 ⟨rfl, h2⟩; have k5 := k4.below h2; have hX3 := hX.trans (h2.mono hX.size))
    | ((with_reducible refine wpList_store_rv rfl _ _ rfl (w.heap.size + 1) _ _ _ _ k5 rfl rfl rfl ?_); intro w9 hb9 hg9; have y0 := hb9.cell_ (i := 0) rfl; have y1 := hb9.cell_ (i := 1) rfl; have y2 := hb9.cell_ (i := 2) rfl))
  refine bodyPost_ret (v := .tuple #[.agg #[.string (txt s), .int .i64 f, .int .i64 2], .string ⟨#[]⟩]) (by simp [results, Tryz.f65, go_sem, y0, y1, y2]) rfl ?_
  exact ⟨rfl, hX3.grown hg9 hX3.size (by intro k e; cases e; omega)⟩
set_option maxHeartbeats 8000000 in
theorem rsome_ok (s : List UInt8) (a n : Nat) (hs : s.length ≤ 1000000000000) (hn : a + n ≤ s.length) (f : Nat) (w : World) :
    Calls Tryz.prog 65 #[rv s a 0, .int .i64 f, .int .i64 n] w fun o w' => o = .returned (.tuple #[rv s (a + n) 0, .string (txt ((s.drop a).take n))]) ∧ Below w.heap.size w w' := by
  obtain ⟨E, hE⟩ : ∃ E : Nat, E = a + n := ⟨_, rfl⟩
  have eE : (a : Int) + n = (E : Int) := by omega
  have hn1 : ¬ (s.length : Int) - a < n := by omega
  have b1 : (a : Int) ≤ (E : Int) := by omega
  have b2 : (E : Int) ≤ s.length := by omega
  have b3 : (0 : Int) ≤ (E : Int) := by omega
  rw [← slice_txt, ← hE]
  unfold rv
  have HE := hid hE
  clear hE hn
  have hB : Below w.heap.size w ((w.alloc (.cells #[.string (txt s), .int .i64 E, .int .i64 0] 96)).alloc (.cells #[.string (txt s), .int .i64 E, .int .i64 0] 96)) := ((Below.refl _ w).alloc (Nat.le_refl _) _).alloc (by simp) _
  have hb := Blk.new (w.alloc (.cells #[.string (txt s), .int .i64 E, .int .i64 0] 96)) 96 #[.string (txt s), .int .i64 E, .int .i64 0]
  rw [show (w.alloc (.cells #[.string (txt s), .int .i64 E, .int .i64 0] 96)).heap.size = w.heap.size + 1 by simp] at hb
  have y0 := hb.cell_ (i := 0) rfl
  have y1 := hb.cell_ (i := 1) rfl
  have y2 := hb.cell_ (i := 2) rfl
  go_enter Tryz.func65, Tryz.ntmps65
  go_wp2
  refine bodyPost_ret (v := .tuple #[.agg #[.string (txt s), .int .i64 E, .int .i64 0], .string ((txt s).extract a E)]) (by simp [results, Tryz.f65, go_sem, y0, y1, y2]) rfl ?_
  exact ⟨rfl, hB⟩
end Go.Proofs.YtemdmdgigmhlbaaGreat

namespace Go.Proofs.YtemdmdgigmhlbaaGreat
open Go.RowKit Go.Qc Go.Shelf
attribute [local go_sem] txt_size txt_append ib_fold

/-- A reader's box and the box of the answer, behind whatever leaves them alone. -/
structure RB (w W : World) (c0 c1 : Array Value) : Prop where
  b0 : Blk W w.heap.size 96 c0
  b1 : Blk W (w.heap.size + 1) 96 c1
  x : Below w.heap.size w W
theorem RB.start (w : World) (c0 c1 : Array Value) : RB w ((w.alloc (.cells c0 96)).alloc (.cells c1 96)) c0 c1 := by
  have hk : (w.alloc (.cells c0 96)).heap.size = w.heap.size + 1 := by simp
  have h1 := Blk.new (w.alloc (.cells c0 96)) 96 c1
  rw [hk] at h1
  exact ⟨(Blk.new w 96 c0).alloc _, h1, ((Below.refl _ w).alloc (Nat.le_refl _) _).alloc (by simp) _⟩
theorem RB.below {w W W' : World} {c0 c1 : Array Value} (h : RB w W c0 c1) (hb : Below W.heap.size W W') : RB w W' c0 c1 := ⟨h.b0.below hb, h.b1.below hb, h.x.trans (hb.mono h.x.size)⟩
theorem RB.alloc {w W : World} {c0 c1 : Array Value} (h : RB w W c0 c1) (o : Obj) : RB w (W.alloc o) c0 c1 := ⟨h.b0.alloc o, h.b1.alloc o, h.x.alloc h.x.size o⟩
set_option maxHeartbeats 8000000 in
theorem rGetText_err (s : List UInt8) (a : Nat) (e e2 most : Int) (he : e2 ≠ 0) (w : World)
    (cC : ∀ W : World, Calls Tryz.prog 64 #[.agg #[.string (txt s), .int .i64 a, .int .i64 e], .int .i64 most] W fun o w' => o = .returned (.tuple #[.agg #[.string (txt s), .int .i64 a, .int .i64 e2], .int .i64 0]) ∧ Below W.heap.size W w') :
    Calls Tryz.prog 49 #[.agg #[.string (txt s), .int .i64 a, .int .i64 e], .int .i64 most] w fun o w' => o = .returned (.tuple #[.agg #[.string (txt s), .int .i64 a, .int .i64 e2], .string ⟨#[]⟩]) ∧ Below w.heap.size w w' := by
  have he1 : (e2 != 0) = true := by simpa using he
  have hR := RB.start w #[.string (txt s), .int .i64 a, .int .i64 e] #[.string ⟨#[]⟩, .int .i64 0, .int .i64 0]
  have hC := cC ((w.alloc (.cells #[.string (txt s), .int .i64 a, .int .i64 e] 96)).alloc (.cells #[.string ⟨#[]⟩, .int .i64 0, .int .i64 0] 96))
  go_enter Tryz.func49, Tryz.ntmps49
  go_wp2_with (first
    | (go_at_call 64; (with_reducible refine hC.mono ?_); rintro o1 w1 ⟨rfl, h1⟩; have hR1 := (hR.below h1).alloc (.cells #[.string (txt s), .int .i64 a, .int .i64 e2] 96); have k0 := blk_c hR1.b0 0 _ rfl; have k1 := blk_c hR1.b0 1 _ rfl; have k2 := blk_c hR1.b0 2 _ rfl; have k5 := hR1.b1)
    | ((with_reducible refine wpList_store_rv rfl _ _ rfl (w.heap.size + 1) _ _ _ _ k5 rfl rfl rfl ?_); intro w9 hb9 hg9; have y0 := hb9.cell_ (i := 0) rfl; have y1 := hb9.cell_ (i := 1) rfl; have y2 := hb9.cell_ (i := 2) rfl))
  refine bodyPost_ret (v := .tuple #[.agg #[.string (txt s), .int .i64 a, .int .i64 e2], .string ⟨#[]⟩]) (by simp [results, Tryz.f49, go_sem, y0, y1, y2]) rfl ?_
  exact ⟨rfl, hR1.x.grown hg9 hR1.x.size (by intro k e; cases e; omega)⟩
set_option maxHeartbeats 8000000 in
theorem rGetText_go (s : List UInt8) (a a2 a3 : Nat) (e most k e3 : Int) (T : ByteArray) (w : World)
    (cC : ∀ W : World, Calls Tryz.prog 64 #[.agg #[.string (txt s), .int .i64 a, .int .i64 e], .int .i64 most] W fun o w' => o = .returned (.tuple #[.agg #[.string (txt s), .int .i64 a2, .int .i64 0], .int .i64 k]) ∧ Below W.heap.size W w')
    (cS : ∀ W : World, Calls Tryz.prog 65 #[.agg #[.string (txt s), .int .i64 a2, .int .i64 0], .int .i64 a, .int .i64 k] W fun o w' => o = .returned (.tuple #[.agg #[.string (txt s), .int .i64 a3, .int .i64 e3], .string T]) ∧ Below W.heap.size W w') :
    Calls Tryz.prog 49 #[.agg #[.string (txt s), .int .i64 a, .int .i64 e], .int .i64 most] w fun o w' => o = .returned (.tuple #[.agg #[.string (txt s), .int .i64 a3, .int .i64 e3], .string T]) ∧ Below w.heap.size w w' := by
  have hR := RB.start w #[.string (txt s), .int .i64 a, .int .i64 e] #[.string ⟨#[]⟩, .int .i64 0, .int .i64 0]
  have hC := cC ((w.alloc (.cells #[.string (txt s), .int .i64 a, .int .i64 e] 96)).alloc (.cells #[.string ⟨#[]⟩, .int .i64 0, .int .i64 0] 96))
  go_enter Tryz.func49, Tryz.ntmps49
  go_wp2_with (first
    | (go_at_call 64; (with_reducible refine hC.mono ?_); rintro o1 w1 ⟨rfl, h1⟩; have hR1 := (hR.below h1).alloc (.cells #[.string (txt s), .int .i64 a2, .int .i64 0] 96); have k0 := blk_c hR1.b0 0 _ rfl; have k1 := blk_c hR1.b0 1 _ rfl; have k2 := blk_c hR1.b0 2 _ rfl)
    | (go_at_call 65; (with_reducible refine (cS _).mono ?_); rintro o2 w2 ⟨rfl, h2⟩; have hR2 := hR1.below h2; have k5 := hR2.b1)
    | ((with_reducible refine wpList_store_rv rfl _ _ rfl (w.heap.size + 1) _ _ _ _ k5 rfl rfl rfl ?_); intro w9 hb9 hg9; have y0 := hb9.cell_ (i := 0) rfl; have y1 := hb9.cell_ (i := 1) rfl; have y2 := hb9.cell_ (i := 2) rfl))
  refine bodyPost_ret (v := .tuple #[.agg #[.string (txt s), .int .i64 a3, .int .i64 e3], .string T]) (by simp [results, Tryz.f49, go_sem, y0, y1, y2]) rfl ?_
  exact ⟨rfl, hR2.x.grown hg9 hR2.x.size (by intro k e; cases e; omega)⟩
theorem cntN_err (most : Int) (l : List UInt8) (e : Int) (h : cntN most l = .error e) : e ≠ 0 := by
  unfold cntN at h
  split at h
  · split at h
    · injection h with h; subst h; decide
    · cases h
  · rename_i e' hs
    injection h with h
    subst h
    exact scanN_err _ _ _ _ hs
theorem rGetText_any (s : List UInt8) (a : Nat) (most : Int) (hs : s.length ≤ 1000000000000) (ha : a ≤ s.length) (w : World) :
    Calls Tryz.prog 49 #[rv s a 0, .int .i64 most] w fun o w' => RPost strT (.string ⟨#[]⟩) s a w (textR most (s.drop a)) o w' := by
  have cC := fun W => rcount_any s a most hs ha W
  unfold textR
  cases hc : cntN most (s.drop a) with
  | error e =>
    rw [hc] at cC
    have he := cntN_err _ _ _ hc
    simp only
    refine (rGetText_err s a 0 e most he w (fun W => (cC W).mono (by rintro o w' ⟨h1, _, h2⟩; exact ⟨h1, h2⟩))).mono ?_
    rintro o w' ⟨rfl, hb⟩
    exact ⟨rfl, he, hb⟩
  | ok p =>
    obtain ⟨v, n⟩ := p
    rw [hc] at cC
    simp only
    have hka : a + n ≤ s.length := by
      unfold cntN at hc
      cases hs2 : scanN 0 0 (s.drop a) with
      | ok pr =>
        obtain ⟨v2, n2⟩ := pr
        rw [hs2] at hc
        simp only at hc
        split at hc
        · cases hc
        · injection hc with e1
          injection e1 with e2 e3
          rw [← e3]
          exact scanN_len s a v2 n2 hs2 ha
      | error e => rw [hs2] at hc; cases hc
    have hdl : (s.drop a).length = s.length - a := List.length_drop
    by_cases hle : n + v ≤ (s.drop a).length
    · rw [if_pos hle]
      refine (rGetText_go s a (a + n) (a + n + v) 0 most v 0 (txt ((s.drop (a + n)).take v)) w cC (fun W => rsome_ok s (a + n) v hs (by omega) a W)).mono ?_
      rintro o w' ⟨rfl, hb⟩
      refine ⟨?_, hb⟩
      rw [List.drop_drop, Nat.add_assoc]
      rfl
    · rw [if_neg hle]
      refine (rGetText_go s a (a + n) a 0 most v 2 ⟨#[]⟩ w cC (fun W => rsome_short s (a + n) v hs hka (by omega) a W)).mono ?_
      rintro o w' ⟨rfl, hb⟩
      exact ⟨rfl, by decide, hb⟩
end Go.Proofs.YtemdmdgigmhlbaaGreat

namespace Go.Proofs.YtemdmdgigmhlbaaGreat
open Go.RowKit Go.Qc Go.Shelf
attribute [local go_sem] txt_size txt_append ib_fold

structure RI (w W : World) (c0 c1 : Array Value) : Prop where
  b0 : Blk W w.heap.size 96 c0
  b1 : Blk W (w.heap.size + 1) 96 c1
  b2 : Blk W (w.heap.size + 1 + 1) 42 (idVals zeroB)
  x : Below w.heap.size w W
theorem RI.start (w : World) (c0 c1 : Array Value) : RI w (((w.alloc (.cells c0 96)).alloc (.cells c1 96)).alloc (.cells (idVals zeroB) 42)) c0 c1 := by
  have hk : (w.alloc (.cells c0 96)).heap.size = w.heap.size + 1 := by simp
  have hk2 : ((w.alloc (.cells c0 96)).alloc (.cells c1 96)).heap.size = w.heap.size + 1 + 1 := by simp
  have h1 := Blk.new (w.alloc (.cells c0 96)) 96 c1
  have h2 := Blk.new ((w.alloc (.cells c0 96)).alloc (.cells c1 96)) 42 (idVals zeroB)
  rw [hk] at h1
  rw [hk2] at h2
  exact ⟨((Blk.new w 96 c0).alloc _).alloc _, h1.alloc _, h2, (((Below.refl _ w).alloc (Nat.le_refl _) _).alloc (by simp) _).alloc (by simp; omega) _⟩
theorem RI.below {w W W' : World} {c0 c1 : Array Value} (h : RI w W c0 c1) (hb : Below W.heap.size W W') : RI w W' c0 c1 := ⟨h.b0.below hb, h.b1.below hb, h.b2.below hb, h.x.trans (hb.mono h.x.size)⟩
theorem RI.alloc {w W : World} {c0 c1 : Array Value} (h : RI w W c0 c1) (o : Obj) : RI w (W.alloc o) c0 c1 := ⟨h.b0.alloc o, h.b1.alloc o, h.b2.alloc o, h.x.alloc h.x.size o⟩
end Go.Proofs.YtemdmdgigmhlbaaGreat

namespace Go.Proofs.YtemdmdgigmhlbaaGreat
open Go.RowKit Go.Qc Go.Shelf
attribute [local go_sem] txt_size txt_append ib_fold

/-- A block of another type than a row's own stays where the row grows. -/
theorem blk_apart {W W' : World} {g base n size : Nat} {t e : TypeId} {cs : Array Value} {v : Value} {xs : List Value} (h : Blk W g t cs) (hr : W.ownsRow base e size v n xs) (hte : t ≠ e) (hg : W.grownBy W' v.ownBlock) : Blk W' g t cs := by
  refine (hg.block g h.lt ?_).trans h
  rcases hr.2 with ⟨rfl, _⟩ | ⟨g2, cap, cur, rfl, _, hgb, _⟩
  · simp [Value.ownBlock]
  · intro e'
    obtain rfl : g = g2 := by simpa [Value.ownBlock] using e'
    have := (show W.heap[g]? = _ from h).symm.trans hgb
    simp at this
    exact hte this.2
end Go.Proofs.YtemdmdgigmhlbaaGreat

namespace Go.Proofs.YtemdmdgigmhlbaaGreat
open Go.RowKit Go.Qc Go.Shelf
attribute [local go_sem] txt_size txt_append ib_fold

theorem RB.apart {w W W' : World} {c0 c1 : Array Value} {base n : Nat} {v : Value} {xs : List Value} (h : RB w W c0 c1) (hr : W.ownsRow base 42 32 v n xs) (hbase : w.heap.size ≤ base) (hg : W.grownBy W' v.ownBlock) : RB w W' c0 c1 :=
  ⟨blk_apart h.b0 hr (by decide) hg, blk_apart h.b1 hr (by decide) hg, h.x.grown hg h.x.size (fun k hk => Nat.le_trans hbase (hr.lt k hk).1)⟩
theorem RB.other {w W W' : World} {c0 c1 : Array Value} {g : Nat} (h : RB w W c0 c1) (hg : W.grownBy W' (some g)) (h2 : w.heap.size + 1 < g) : RB w W' c0 c1 :=
  ⟨blk_gb h.b0 hg (by omega), blk_gb h.b1 hg (by omega), h.x.grown hg h.x.size (fun k hk => by cases hk; omega)⟩
end Go.Proofs.YtemdmdgigmhlbaaGreat

namespace Go.Proofs.YtemdmdgigmhlbaaGreat
open Go.RowKit Go.Qc Go.Shelf
attribute [local go_sem] txt_size txt_append ib_fold

/-- Where a reader is, and what is wrong, behind a number, a row of ids; what is read. -/
def stN (s : List UInt8) (a : Nat) (e : Int) : Nat × Int := if e = 0 then (match scanN 0 0 (s.drop a) with | .ok (_, n) => (a + n, 0) | .error e' => (a, e')) else (a, e)
def stI (most : Int) (s : List UInt8) (a : Nat) (e : Int) : Nat × Int := if e = 0 then (match rowsR idR most (s.drop a) with | .ok (_, n) => (a + n, 0) | .error e' => (a, e')) else (a, e)
end Go.Proofs.YtemdmdgigmhlbaaGreat

namespace Go.Proofs.YtemdmdgigmhlbaaGreat
open Go.RowKit Go.Qc Go.Shelf
attribute [local go_sem] txt_size txt_append ib_fold

def q1 (s : List UInt8) (a : Nat) := stN s a 0
def q2 (s : List UInt8) (a : Nat) := stI 256 s (q1 s a).1 (q1 s a).2
def q3 (s : List UInt8) (a : Nat) := stI 256 s (q2 s a).1 (q2 s a).2
def q4 (s : List UInt8) (a : Nat) := stI 10 s (q3 s a).1 (q3 s a).2
end Go.Proofs.YtemdmdgigmhlbaaGreat

namespace Go.Proofs.YtemdmdgigmhlbaaGreat
open Go.RowKit Go.Qc Go.Shelf
attribute [local go_sem] txt_size txt_append ib_fold

end Go.Proofs.YtemdmdgigmhlbaaGreat

namespace Go.Proofs.YtemdmdgigmhlbaaGreat
open Go.RowKit Go.Qc
attribute [local go_sem] txt_size txt_append ib_fold

/-- Blocks of other types stay. -/
def KpW (w w' : World) : Prop := ∀ (g : Nat) (t : TypeId) (cs : Array Value), t ≠ 5 → t ≠ 89 → Blk w g t cs → Blk w' g t cs
theorem KpW.refl (w : World) : KpW w w := fun _ _ _ _ _ h => h
theorem KpW.trans {a b c : World} (h : KpW a b) (k : KpW b c) : KpW a c := fun g t cs h1 h2 hb => k g t cs h1 h2 (h g t cs h1 h2 hb)
theorem KpW.row {w w' : World} {b n : Nat} {v : Value} {xs : List Value} (ho : w.ownsRow b 5 1 v n xs) (hg : w.grownBy w' v.ownBlock) : KpW w w' := fun g t cs h1 _ h => by
  refine (hg.block g h.lt ?_).trans h
  rcases ho.2 with ⟨rfl, _⟩ | ⟨g2, cap, cur, rfl, _, hgb, _⟩
  · simp [Value.ownBlock]
  · intro e'
    obtain rfl : g = g2 := by simpa [Value.ownBlock] using e'
    have := (show w.heap[g]? = _ from h).symm.trans hgb
    simp at this
    exact h1 this.2
theorem KpW.put {w : World} {b : Nat} {cs0 : Array Value} (hb : Blk w b 89 cs0) (v : Value) : KpW w (w.setCell ⟨b, 0, none⟩ v) := fun g t cs _ h2 h => by
  refine blk_gb h (gb_set (gb_refl w (some b)) 0 v) ?_
  rintro rfl
  have := (show w.heap[g]? = _ from h).symm.trans (show w.heap[g]? = _ from hb)
  simp at this
  exact h2 this.2
end Go.Proofs.YtemdmdgigmhlbaaGreat

namespace Go.Proofs.YtemdmdgigmhlbaaGreat
open Go.RowKit Go.Qc Go.Shelf
attribute [local go_sem] txt_size txt_append ib_fold

end Go.Proofs.YtemdmdgigmhlbaaGreat

namespace Go.Proofs.YtemdmdgigmhlbaaGreat
open Go.RowKit Go.Qc Go.Shelf

end Go.Proofs.YtemdmdgigmhlbaaGreat

namespace Go.Proofs.YtemdmdgigmhlbaaGreat
open Go.RowKit Go.Qc
attribute [local go_sem] txt_size txt_append ib_fold

end Go.Proofs.YtemdmdgigmhlbaaGreat

namespace Go.Proofs.YtemdmdgigmhlbaaGreat
open Go.RowKit Go.Qc Go.Shelf
attribute [local go_sem] txt_size txt_append ib_fold

end Go.Proofs.YtemdmdgigmhlbaaGreat

namespace Go.Proofs.YtemdmdgigmhlbaaGreat
open Go.RowKit Go.Qc Go.Shelf
attribute [local go_sem] txt_size txt_append ib_fold

end Go.Proofs.YtemdmdgigmhlbaaGreat

namespace Go.Proofs.YtemdmdgigmhlbaaGreat
open Go.RowKit Go.Qc Go.Shelf
attribute [local go_sem] txt_size txt_append ib_fold

end Go.Proofs.YtemdmdgigmhlbaaGreat

namespace Go.Proofs.YtemdmdgigmhlbaaGreat
open Go.RowKit Go.Qc Go.Shelf
attribute [local go_sem] txt_size txt_append ib_fold

end Go.Proofs.YtemdmdgigmhlbaaGreat

namespace Go.Proofs.YtemdmdgigmhlbaaGreat
open Go.RowKit Go.Qc Go.Shelf
attribute [local go_sem] txt_size txt_append ib_fold

end Go.Proofs.YtemdmdgigmhlbaaGreat

namespace Go.Proofs.YtemdmdgigmhlbaaGreat
open Go.RowKit Go.Qc Go.Shelf
attribute [local go_sem] txt_size txt_append ib_fold

end Go.Proofs.YtemdmdgigmhlbaaGreat

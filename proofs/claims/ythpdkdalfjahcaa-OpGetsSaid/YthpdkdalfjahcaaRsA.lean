
/- readings of the document; signatures; readings whatever the reader's state; writers that keep other blocks -/
import Derived.Test.YthpdkdalfjahcaaPkU
import Derived.Test.YthpdkdalfjahcaaPaA
import Derived.Test.YthpdkdalfjahcaaOrd
import Derived.Test.YthpdkdalfjahcaaPkW
import Derived.Lib.AppendStr
import Derived.Lib.Builder
set_option linter.unusedSimpArgs false
set_option linter.unusedVariables false
namespace Go.Proofs.Ythpdkdalfjahcaa
open Go.RowKit Go.Qc Go.Shelf
attribute [local go_sem] txt_size txt_append ib_fold

/-- The document's reader. -/
def rv (s : List UInt8) (a : Nat) (e : Int) : Value := .agg #[.string (txt s), .int .i64 a, .int .i64 e]
theorem rFail_any (s : List UInt8) (a : Nat) (e k : Int) (w : World) :
    Calls Try.prog 104 #[rv s a e, .int .i64 k] w fun o w' => o = .returned (rv s a (if e = 0 then k else e)) ∧ Below w.heap.size w w' := by
  unfold rv
  by_cases he : e = 0
  · subst he
    rw [if_pos rfl]
    have hB : Below w.heap.size w ((w.alloc (.cells #[.string (txt s), .int .i64 a, .int .i64 k] 69)).alloc (.cells #[.string (txt s), .int .i64 a, .int .i64 k] 69)) := ((Below.refl _ w).alloc (Nat.le_refl _) _).alloc (by simp) _
    have hb := Blk.new (w.alloc (.cells #[.string (txt s), .int .i64 a, .int .i64 k] 69)) 69 #[.string (txt s), .int .i64 a, .int .i64 k]
    rw [show (w.alloc (.cells #[.string (txt s), .int .i64 a, .int .i64 k] 69)).heap.size = w.heap.size + 1 by simp] at hb
    have y0 := hb.cell_ (i := 0) rfl
    have y1 := hb.cell_ (i := 1) rfl
    have y2 := hb.cell_ (i := 2) rfl
    go_enter Try.func104, Try.ntmps104
    go_wp2
    refine bodyPost_ret (v := .agg #[.string (txt s), .int .i64 a, .int .i64 k]) (by simp [results, Try.f104, go_sem, y0, y1, y2]) rfl ?_
    exact ⟨rfl, hB⟩
  · rw [if_neg he]
    have h1 : (e == 0) = false := by simpa using he
    have hB : Below w.heap.size w ((w.alloc (.cells #[.string (txt s), .int .i64 a, .int .i64 e] 69)).alloc (.cells #[.string (txt s), .int .i64 a, .int .i64 e] 69)) := ((Below.refl _ w).alloc (Nat.le_refl _) _).alloc (by simp) _
    have hb := Blk.new (w.alloc (.cells #[.string (txt s), .int .i64 a, .int .i64 e] 69)) 69 #[.string (txt s), .int .i64 a, .int .i64 e]
    rw [show (w.alloc (.cells #[.string (txt s), .int .i64 a, .int .i64 e] 69)).heap.size = w.heap.size + 1 by simp] at hb
    have y0 := hb.cell_ (i := 0) rfl
    have y1 := hb.cell_ (i := 1) rfl
    have y2 := hb.cell_ (i := 2) rfl
    go_enter Try.func104, Try.ntmps104
    go_wp2
    refine bodyPost_ret (v := .agg #[.string (txt s), .int .i64 a, .int .i64 e]) (by simp [results, Try.f104, go_sem, y0, y1, y2]) rfl ?_
    exact ⟨rfl, hB⟩
end Go.Proofs.Ythpdkdalfjahcaa

namespace Go.Proofs.Ythpdkdalfjahcaa
open Go.RowKit Go.Qc Go.Shelf
attribute [local go_sem] txt_size txt_append ib_fold

theorem ib_wrap64 (x : UInt8) : wrap64 (ib x) = ib x := by
  have h : ib x = (x.toNat : Int) := rfl
  have := x.toNat_lt
  rw [h]; unfold wrap64; omega
theorem infoR3 : (Try.prog.info? 69).map (·.size) = some 3 := by kernel_rfl
/-- What a reading of the document's tells: the reader behind it, and what was read. -/
def RPost {α : Type} (val : α → Value) (zero : Value) (s : List UInt8) (a : Nat) (w : World) (r : Except Int (α × Nat)) (o : Ending) (w' : World) : Prop :=
  match r with
  | .ok (v, n) => o = .returned (.tuple #[rv s (a + n) 0, val v]) ∧ Below w.heap.size w w'
  | .error e => o = .returned (.tuple #[rv s a e, zero]) ∧ e ≠ 0 ∧ Below w.heap.size w w'
theorem rGetNum_old (s : List UInt8) (a : Nat) (e : Int) (he : e ≠ 0) (w : World) :
    Calls Try.prog 92 #[rv s a e] w fun o w' => o = .returned (.tuple #[rv s a e, .int .i64 0]) ∧ Below w.heap.size w w' := by
  unfold rv
  have h1 : (e != 0) = true := by simpa using he
  have hB : Below w.heap.size w ((w.alloc (.cells #[.string (txt s), .int .i64 a, .int .i64 e] 69)).alloc (.cells #[.string (txt s), .int .i64 a, .int .i64 e] 69)) := ((Below.refl _ w).alloc (Nat.le_refl _) _).alloc (by simp) _
  have hb := Blk.new (w.alloc (.cells #[.string (txt s), .int .i64 a, .int .i64 e] 69)) 69 #[.string (txt s), .int .i64 a, .int .i64 e]
  rw [show (w.alloc (.cells #[.string (txt s), .int .i64 a, .int .i64 e] 69)).heap.size = w.heap.size + 1 by simp] at hb
  have y0 := hb.cell_ (i := 0) rfl
  have y1 := hb.cell_ (i := 1) rfl
  have y2 := hb.cell_ (i := 2) rfl
  go_enter Try.func92, Try.ntmps92
  go_wp2
  refine bodyPost_ret (v := .tuple #[.agg #[.string (txt s), .int .i64 a, .int .i64 e], .int .i64 0]) (by simp [results, Try.f92, go_sem, y0, y1, y2]) rfl ?_
  exact ⟨rfl, hB⟩
set_option maxRecDepth 100000 in
set_option maxHeartbeats 200000000 in
theorem rGetNum_any (s : List UInt8) (a : Nat) (hs : s.length ≤ 1000000000000) (ha : a ≤ s.length) (w : World) :
    Calls Try.prog 92 #[rv s a 0] w fun o w' => RPost intV (.int .i64 0) s a w (scanN 0 0 (s.drop a)) o w' := by
  have cF : ∀ (k : Int) (W : World), Calls Try.prog 104 #[.agg #[.string (txt s), .int .i64 a, .int .i64 0], .int .i64 k] W fun o w' => o = .returned (.agg #[.string (txt s), .int .i64 a, .int .i64 k]) ∧ Below W.heap.size W w' := fun k W => by
    have := rFail_any s a 0 k W
    rw [if_pos rfl] at this
    exact this
  unfold rv
  have hk : (w.alloc (.cells #[.string (txt s), .int .i64 a, .int .i64 0] 69)).heap.size = w.heap.size + 1 := by simp
  have hb1 := (Blk.new w 69 #[.string (txt s), .int .i64 a, .int .i64 0]).alloc (.cells #[.string ⟨#[]⟩, .int .i64 0, .int .i64 0] 69)
  have hb2 := Blk.new (w.alloc (.cells #[.string (txt s), .int .i64 a, .int .i64 0] 69)) 69 #[.string ⟨#[]⟩, .int .i64 0, .int .i64 0]
  rw [hk] at hb2
  have hX : Below w.heap.size w ((w.alloc (.cells #[.string (txt s), .int .i64 a, .int .i64 0] 69)).alloc (.cells #[.string ⟨#[]⟩, .int .i64 0, .int .i64 0] 69)) := ((Below.refl _ w).alloc (Nat.le_refl _) _).alloc (by simp) _
  go_enter Try.func92, Try.ntmps92
  go_wp2
  generalize (w.alloc (.cells #[.string (txt s), .int .i64 a, .int .i64 0] 69)).alloc (.cells #[.string ⟨#[]⟩, .int .i64 0, .int .i64 0] 69) = W at *
  clear hk
  have x0 : W.cell? ⟨w.heap.size, 0, none⟩ = some (.string (txt s)) := hb1.cell_ (i := 0) rfl
  have x1 : W.cell? ⟨w.heap.size, 1, none⟩ = some (.int .i64 a) := hb1.cell_ (i := 1) rfl
  have x2 : W.cell? ⟨w.heap.size, 2, none⟩ = some (.int .i64 0) := hb1.cell_ (i := 2) rfl
  have f1 := hb1.frozen 1
  go_loopw [4, 5, 6] (fun v p i wr => wr = W ∧ ∃ (d V P : Nat) (U Q D : Int), D ≤ 8 ∧ 0 ≤ D ∧ v = .int .i64 U ∧ p = .int .i64 Q ∧ i = .int .i64 D ∧ Hid (D = d ∧ U = V ∧ Q = P ∧ P = 2 ^ (7 * d) ∧ V < P ∧ a + d ≤ s.length ∧ scanN 0 0 (s.drop a) = scanN d V (s.drop (a + d)))) (fun _ _ i _ => 9 - (intOf i).toNat)
  case atStart => exact ⟨rfl, 0, 0, 1, 0, 1, 0, by decide, by decide, rfl, rfl, rfl, hid ⟨rfl, rfl, rfl, by decide, by decide, by omega, by simp⟩⟩
  case round =>
    obtain ⟨rfl, d, V, P, U, Q, D, hD8, hD0, rfl, rfl, rfl, HH⟩ := hrel
    have hDd := HH.out.1
    have hUV := HH.out.2.1
    have hQP := HH.out.2.2.1
    have hd : d ≤ 8 := by omega
    have hi9 : D < 9 := by omega
    by_cases hlt : a + d < s.length
    · obtain ⟨x, hx⟩ : ∃ x, s[a + d]? = some x := ⟨_, List.getElem?_eq_getElem hlt⟩
      have hdr : s.drop (a + d) = x :: s.drop (a + d + 1) := by
        rw [List.drop_eq_getElem_cons hlt]; congr 1
        rw [List.getElem?_eq_getElem hlt] at hx; exact Option.some.inj hx
      obtain ⟨A, hA⟩ : ∃ A : Nat, A = a + d := ⟨_, rfl⟩
      have eA : (a : Int) + D = (A : Int) := by omega
      have hAb : A < s.length := by omega
      have hidx := run_index_str s A x (by rw [hA]; exact hx) A rfl
      have z1 : ¬ (s.length : Int) ≤ (A : Int) := by omega
      have HAA := hid hA
      clear hA
      obtain ⟨-, -, -, hP, hVP, hal, hsc⟩ := HH.out
      have hwb := ib_wrap64 x
      rw [hdr, scanN] at hsc
      rw [← hP] at hsc
      have hP8 : P ≤ 72057594037927936 := by rw [hP]; exact pow_le8 d hd
      have hPd8 : d = 8 → P = 72057594037927936 := fun h => by rw [hP, h]
      have hPd7 : d ≤ 7 → P ≤ 562949953421312 := fun h => by
        have : 2 ^ (7 * d) ≤ 2 ^ (7 * 7) := Nat.pow_le_pow_right (by decide) (Nat.mul_le_mul_left 7 h)
        rw [hP]; exact this
      have hPn0 : 128 * P = 2 ^ (7 * (d + 1)) := by rw [hP, Nat.mul_add, Nat.pow_add, Nat.mul_comm]
      have HPN := hid hPn0
      clear hP hPn0 HH
      obtain ⟨B, hB⟩ : ∃ B, B = x.toNat := ⟨_, rfl⟩
      have hib : ib x = (B : Int) := by rw [hB]; rfl
      have hB255 : B ≤ 255 := by have := x.toNat_lt; omega
      rw [← hB] at hsc
      obtain ⟨q, hq⟩ : ∃ q, q = B % 128 := ⟨_, rfl⟩
      obtain ⟨M, hM⟩ : ∃ M, M = q * P := ⟨_, rfl⟩
      have hq127 : q ≤ 127 := by omega
      have t1 : (ib x).tmod 128 = (q : Int) := by rw [hib, Int.tmod_eq_emod_of_nonneg (by omega)]; omega
      have m1 : (q : Int) * Q = (M : Int) := by rw [hM, hQP, Int.natCast_mul]
      have hU0 : 0 ≤ U := by omega
      have hUP : U < Q := by omega
      rw [← hq, ← hM] at hsc
      have HSC := hid hsc
      have HX := hid hX
      have HDd := hid hDd
      have HUV := hid hUV
      have HQP := hid hQP
      clear hsc hdr hx hlt
      by_cases h8 : d = 8
      · have hPv : P = 72057594037927936 := hPd8 h8
        have e8 : (D == 8) = true := by simp; omega
        have e8b : ¬ D < 8 := by omega
        have e8c : (0 : Int) < D := by omega
        have hQv : Q = 72057594037927936 := by omega
        by_cases h64 : 64 < B
        · have c1 : (64 : Int) < ib x := by omega
          have hsc := HSC.out
          rw [if_pos ⟨h8, h64⟩] at hsc
          have HS := hid hsc
          clear hsc HSC h64 t1 m1 hM hq127 hPv hib e8b e8c hUP hB255 hB hq hPd8 hPd7 hP8 hVP hal hDd hUV hQP
          go_wp2_with (first
            | (go_at_call 104; (with_reducible refine (cF 3 _).mono ?_); rintro o3 w3 ⟨rfl, hB3⟩; have hb3 := hb2.below hB3; have hX3 := HX.out.trans (hB3.mono hX.size))
            | (with_reducible refine wpList_store_blk rfl 69 _ _ rfl (w.heap.size + 1) _ #[.string (txt s), .int .i64 a, .int .i64 3] 69 hb3 rfl rfl ?c2_1 ?c3_1 ?c4_1 ?_))
          case c2_1 => first | kernel_rfl | simpa using infoR3
          try (case c3_1 => rfl)
          case c4_1 => simp [Value.oneCell']
          intro w9 hb9 hg9
          have y0 := hb9.cell_ (i := 0) rfl
          have y1 := hb9.cell_ (i := 1) rfl
          have y2 := hb9.cell_ (i := 2) rfl
          go_wp2
          refine bodyPost_ret (v := .tuple #[.agg #[.string (txt s), .int .i64 a, .int .i64 3], .int .i64 0]) (by simp [results, Try.f92, go_sem, y0, y1, y2]) rfl ?_
          rw [HS.out]
          exact ⟨rfl, by decide, hX3.grown hg9 hX3.size (by intro k e; cases e; omega)⟩
        · have c1 : ¬ (64 : Int) < ib x := by omega
          have hsc := HSC.out
          rw [if_neg (by omega), if_neg (by omega)] at hsc
          have hqB : q = B := by omega
          by_cases hz : B = 64 ∧ 0 < V
          · have c2 : (ib x == 64) = true := by simp; omega
            have c3 : (0 : Int) < U := by omega
            rw [if_pos (.inr (by rw [hM, hqB, hPv]; omega))] at hsc
            have HS := hid hsc
            have hib64 : ib x = 64 := by omega
            clear hsc HSC h64 t1 m1 hM hq127 hPv hib e8c hz hqB hUP hB255 hB hq hPd8 hPd7 hP8 hVP hal hDd hUV hQP
            go_wp2_with (first
              | (go_at_call 104; (with_reducible refine (cF 3 _).mono ?_); rintro o3 w3 ⟨rfl, hB3⟩; have hb3 := hb2.below hB3; have hX3 := HX.out.trans (hB3.mono hX.size))
              | (with_reducible refine wpList_store_blk rfl 69 _ _ rfl (w.heap.size + 1) _ #[.string (txt s), .int .i64 a, .int .i64 3] 69 hb3 rfl rfl ?c2_2 ?c3_2 ?c4_2 ?_))
            case c2_2 => first | kernel_rfl | simpa using infoR3
            try (case c3_2 => rfl)
            case c4_2 => simp [Value.oneCell']
            intro w9 hb9 hg9
            have y0 := hb9.cell_ (i := 0) rfl
            have y1 := hb9.cell_ (i := 1) rfl
            have y2 := hb9.cell_ (i := 2) rfl
            go_wp2
            refine bodyPost_ret (v := .tuple #[.agg #[.string (txt s), .int .i64 a, .int .i64 3], .int .i64 0]) (by simp [results, Try.f92, go_sem, y0, y1, y2]) rfl ?_
            rw [HS.out]
            exact ⟨rfl, by decide, hX3.grown hg9 hX3.size (by intro k e; cases e; omega)⟩
          · obtain ⟨K, hK⟩ : ∃ K, K = B * P := ⟨_, rfl⟩
            have m3 : ib x * Q = (K : Int) := by rw [hK, hib, hQP]; simp
            have hKM : M = K := by rw [hM, hK, hqB]
            have hK62 : K ≤ 4611686018427387904 := by rw [hK, hPv]; omega
            have hVK : U + K ≤ 4611686018427387904 := by rw [hK, hPv]; omega
            have c4 : ib x < 128 := by omega
            rw [hKM] at hsc
            by_cases hb0 : B = 0
            · have c5 : (ib x == 0) = true := by simp; omega
              have hib0 : ib x = 0 := by omega
              rw [if_pos (.inl ⟨hb0, by omega⟩)] at hsc
              have HS := hid hsc
              have hc64 : (ib x == 64) = false := by simp; omega
              clear hsc HSC h64 hz t1 m1 hM hq127 hPv hib hqB hK hKM hb0 hUP hB255 hB hq hPd8 hPd7 hP8 hVP hal hDd hUV hQP
              go_wp2_with (first
                | (go_at_call 104; (with_reducible refine (cF 3 _).mono ?_); rintro o3 w3 ⟨rfl, hB3⟩; have hb3 := hb2.below hB3; have hX3 := HX.out.trans (hB3.mono hX.size))
                | (with_reducible refine wpList_store_blk rfl 69 _ _ rfl (w.heap.size + 1) _ #[.string (txt s), .int .i64 a, .int .i64 3] 69 hb3 rfl rfl ?c2_3 ?c3_3 ?c4_3 ?_))
              case c2_3 => first | kernel_rfl | simpa using infoR3
              try (case c3_3 => rfl)
              case c4_3 => simp [Value.oneCell']
              intro w9 hb9 hg9
              have y0 := hb9.cell_ (i := 0) rfl
              have y1 := hb9.cell_ (i := 1) rfl
              have y2 := hb9.cell_ (i := 2) rfl
              go_wp2
              refine bodyPost_ret (v := .tuple #[.agg #[.string (txt s), .int .i64 a, .int .i64 3], .int .i64 0]) (by simp [results, Try.f92, go_sem, y0, y1, y2]) rfl ?_
              rw [HS.out]
              exact ⟨rfl, by decide, hX3.grown hg9 hX3.size (by intro k e; cases e; omega)⟩
            · have c5 : (ib x == 0) = false := by simp; omega
              rw [if_neg (by omega)] at hsc
              have HS := hid hsc
              by_cases hb64 : B = 64
              · have c2 : (ib x == 64) = true := by simp; omega
                have c3 : ¬ (0 : Int) < U := by omega
                clear hQv
                clear hsc HSC h64 hz t1 m1 hM hq127 hPv hib hqB hK hKM hb0 hUP hB255 hB hq hPd8 hPd7 hP8 hVP hal hDd hUV hQP hb64
                have hs1 := hb1.set 1 (.int .i64 ((a : Int) + (D + 1)))
                have hs2 := blk_gb hb2 (gb_set (gb_refl wr (some w.heap.size)) 1 (.int .i64 ((a : Int) + (D + 1)))) (by omega)
                have u0 := hs1.cell_ (i := 0) rfl
                have u1 := hs1.cell_ (i := 1) rfl
                have u2 := hs1.cell_ (i := 2) rfl
                simp at u0 u1 u2
                go_wp2_with (first
                  | (with_reducible refine wpList_store_blk rfl 69 _ _ rfl (w.heap.size + 1) _ #[.string (txt s), .int .i64 ((a : Int) + (D + 1)), .int .i64 0] 69 hs2 rfl rfl ?c2_4 ?c3_4 ?c4_4 ?_))
                case c2_4 => first | kernel_rfl | simpa using infoR3
                try (case c3_4 => rfl)
                case c4_4 => simp [Value.oneCell']
                intro w9 hb9 hg9
                have y0 := hb9.cell_ (i := 0) rfl
                have y1 := hb9.cell_ (i := 1) rfl
                have y2 := hb9.cell_ (i := 2) rfl
                go_wp2
                refine bodyPost_ret (v := .tuple #[.agg #[.string (txt s), .int .i64 ((a : Int) + (D + 1)), .int .i64 0], .int .i64 (U + (K : Int))]) (by simp [results, Try.f92, go_sem, y0, y1, y2]) rfl ?_
                rw [HS.out]
                refine ⟨by rw [HUV.out, HDd.out]; simp [rv, intV], ?_⟩
                exact (HX.out.setCell (p := ⟨w.heap.size, 1, none⟩) (Nat.le_refl _) _).grown hg9 (by simpa using HX.out.size) (by intro k e; cases e; omega)
              · have c2 : (ib x == 64) = false := by simp; omega
                clear hQv
                clear hsc HSC h64 hz t1 m1 hM hq127 hPv hib hqB hK hKM hb0 hUP hB255 hB hq hPd8 hPd7 hP8 hVP hal hDd hUV hQP hb64
                have hs1 := hb1.set 1 (.int .i64 ((a : Int) + (D + 1)))
                have hs2 := blk_gb hb2 (gb_set (gb_refl wr (some w.heap.size)) 1 (.int .i64 ((a : Int) + (D + 1)))) (by omega)
                have u0 := hs1.cell_ (i := 0) rfl
                have u1 := hs1.cell_ (i := 1) rfl
                have u2 := hs1.cell_ (i := 2) rfl
                simp at u0 u1 u2
                go_wp2_with (first
                  | (with_reducible refine wpList_store_blk rfl 69 _ _ rfl (w.heap.size + 1) _ #[.string (txt s), .int .i64 ((a : Int) + (D + 1)), .int .i64 0] 69 hs2 rfl rfl ?c2_5 ?c3_5 ?c4_5 ?_))
                case c2_5 => first | kernel_rfl | simpa using infoR3
                try (case c3_5 => rfl)
                case c4_5 => simp [Value.oneCell']
                intro w9 hb9 hg9
                have y0 := hb9.cell_ (i := 0) rfl
                have y1 := hb9.cell_ (i := 1) rfl
                have y2 := hb9.cell_ (i := 2) rfl
                go_wp2
                refine bodyPost_ret (v := .tuple #[.agg #[.string (txt s), .int .i64 ((a : Int) + (D + 1)), .int .i64 0], .int .i64 (U + (K : Int))]) (by simp [results, Try.f92, go_sem, y0, y1, y2]) rfl ?_
                rw [HS.out]
                refine ⟨by rw [HUV.out, HDd.out]; simp [rv, intV], ?_⟩
                exact (HX.out.setCell (p := ⟨w.heap.size, 1, none⟩) (Nat.le_refl _) _).grown hg9 (by simpa using HX.out.size) (by intro k e; cases e; omega)
      · have hP7 : P ≤ 562949953421312 := hPd7 (by omega)
        have hMb : M ≤ 127 * P := by rw [hM]; exact Nat.mul_le_mul_right _ hq127
        have hM56 : M ≤ 71494644084506624 := by omega
        have hVM : V + M < 128 * P := by omega
        have hUM : U + M ≤ 72057594037927936 := by omega
        have hQ7 : Q ≤ 562949953421312 := by omega
        have hQ1 : 0 ≤ Q := by omega
        have HVM := hid hVM
        clear hMb hVM
        have hne8 : (D == 8) = false := by simp; omega
        have d8 : D < 8 := by omega
        have hsc := HSC.out
        rw [if_neg (by omega)] at hsc
        clear HSC
        by_cases h128 : 128 ≤ B
        · rw [if_pos h128] at hsc
          have HS := hid hsc
          have c4 : ¬ ib x < 128 := by omega
          have hd1 : a + (d + 1) ≤ s.length := by omega
          have HIB := hid hib
          have HMM := hid hM
          clear hsc hib hM hB255 hB hq hPd8 hPd7 hP8 hVP hal hDd hUV hQP
          go_wp2
          go_roundw
          case rel => exact ⟨by first | rfl | trivial, d + 1, V + M, 128 * P, U + M, 128 * Q, D + 1, by omega, by omega, by go_num, by go_num, by go_num, hid ⟨by rw [HDd.out]; simp, by rw [HUV.out]; simp, by rw [HQP.out]; simp, HPN.out, HVM.out, hd1, by rw [HS.out]; congr 1⟩⟩
          case measure => (simp [intOf]; try omega)
        · rw [if_neg h128] at hsc
          have c4 : ib x < 128 := by omega
          by_cases hb0 : B = 0 ∧ 0 < d
          · have c5 : (0 : Int) < D := by omega
            have c6 : (ib x == 0) = true := by simp; omega
            have hib0 : ib x = 0 := by omega
            rw [if_pos (.inl hb0)] at hsc
            have HS := hid hsc
            clear hsc h128 hib hM hb0 hB255 hB hq hPd8 hPd7 hP8 hVP hal hDd hUV hQP
            go_wp2_with (first
              | (go_at_call 104; (with_reducible refine (cF 3 _).mono ?_); rintro o3 w3 ⟨rfl, hB3⟩; have hb3 := hb2.below hB3; have hX3 := HX.out.trans (hB3.mono hX.size))
              | (with_reducible refine wpList_store_blk rfl 69 _ _ rfl (w.heap.size + 1) _ #[.string (txt s), .int .i64 a, .int .i64 3] 69 hb3 rfl rfl ?c2_6 ?c3_6 ?c4_6 ?_))
            case c2_6 => first | kernel_rfl | simpa using infoR3
            try (case c3_6 => rfl)
            case c4_6 => simp [Value.oneCell']
            intro w9 hb9 hg9
            have y0 := hb9.cell_ (i := 0) rfl
            have y1 := hb9.cell_ (i := 1) rfl
            have y2 := hb9.cell_ (i := 2) rfl
            go_wp2
            refine bodyPost_ret (v := .tuple #[.agg #[.string (txt s), .int .i64 a, .int .i64 3], .int .i64 0]) (by simp [results, Try.f92, go_sem, y0, y1, y2]) rfl ?_
            rw [HS.out]
            exact ⟨rfl, by decide, hX3.grown hg9 hX3.size (by intro k e; cases e; omega)⟩
          · rw [if_neg (by omega)] at hsc
            have HS := hid hsc
            by_cases hd2 : 0 < d
            · have c5 : (0 : Int) < D := by omega
              have c6 : (ib x == 0) = false := by simp; omega
              clear hsc h128 hb0 hib hM hB255 hB hq hPd8 hPd7 hP8 hVP hal hDd hUV hQP hd2
              have hs1 := hb1.set 1 (.int .i64 ((a : Int) + (D + 1)))
              have hs2 := blk_gb hb2 (gb_set (gb_refl wr (some w.heap.size)) 1 (.int .i64 ((a : Int) + (D + 1)))) (by omega)
              have u0 := hs1.cell_ (i := 0) rfl
              have u1 := hs1.cell_ (i := 1) rfl
              have u2 := hs1.cell_ (i := 2) rfl
              simp at u0 u1 u2
              go_wp2_with (first
                | (with_reducible refine wpList_store_blk rfl 69 _ _ rfl (w.heap.size + 1) _ #[.string (txt s), .int .i64 ((a : Int) + (D + 1)), .int .i64 0] 69 hs2 rfl rfl ?c2_7 ?c3_7 ?c4_7 ?_))
              case c2_7 => first | kernel_rfl | simpa using infoR3
              try (case c3_7 => rfl)
              case c4_7 => simp [Value.oneCell']
              intro w9 hb9 hg9
              have y0 := hb9.cell_ (i := 0) rfl
              have y1 := hb9.cell_ (i := 1) rfl
              have y2 := hb9.cell_ (i := 2) rfl
              go_wp2
              refine bodyPost_ret (v := .tuple #[.agg #[.string (txt s), .int .i64 ((a : Int) + (D + 1)), .int .i64 0], .int .i64 (U + (M : Int))]) (by simp [results, Try.f92, go_sem, y0, y1, y2]) rfl ?_
              rw [HS.out]
              refine ⟨by rw [HUV.out, HDd.out]; simp [rv, intV], ?_⟩
              exact (HX.out.setCell (p := ⟨w.heap.size, 1, none⟩) (Nat.le_refl _) _).grown hg9 (by simpa using HX.out.size) (by intro k e; cases e; omega)
            · have c5 : ¬ (0 : Int) < D := by omega
              clear hsc h128 hb0 hib hM hB255 hB hq hPd8 hPd7 hP8 hVP hal hDd hUV hQP hd2
              have hs1 := hb1.set 1 (.int .i64 ((a : Int) + (D + 1)))
              have hs2 := blk_gb hb2 (gb_set (gb_refl wr (some w.heap.size)) 1 (.int .i64 ((a : Int) + (D + 1)))) (by omega)
              have u0 := hs1.cell_ (i := 0) rfl
              have u1 := hs1.cell_ (i := 1) rfl
              have u2 := hs1.cell_ (i := 2) rfl
              simp at u0 u1 u2
              go_wp2_with (first
                | (with_reducible refine wpList_store_blk rfl 69 _ _ rfl (w.heap.size + 1) _ #[.string (txt s), .int .i64 ((a : Int) + (D + 1)), .int .i64 0] 69 hs2 rfl rfl ?c2_8 ?c3_8 ?c4_8 ?_))
              case c2_8 => first | kernel_rfl | simpa using infoR3
              try (case c3_8 => rfl)
              case c4_8 => simp [Value.oneCell']
              intro w9 hb9 hg9
              have y0 := hb9.cell_ (i := 0) rfl
              have y1 := hb9.cell_ (i := 1) rfl
              have y2 := hb9.cell_ (i := 2) rfl
              go_wp2
              refine bodyPost_ret (v := .tuple #[.agg #[.string (txt s), .int .i64 ((a : Int) + (D + 1)), .int .i64 0], .int .i64 (U + (M : Int))]) (by simp [results, Try.f92, go_sem, y0, y1, y2]) rfl ?_
              rw [HS.out]
              refine ⟨by rw [HUV.out, HDd.out]; simp [rv, intV], ?_⟩
              exact (HX.out.setCell (p := ⟨w.heap.size, 1, none⟩) (Nat.le_refl _) _).grown hg9 (by simpa using HX.out.size) (by intro k e; cases e; omega)
    · obtain ⟨A, hA⟩ : ∃ A : Nat, A = a + d := ⟨_, rfl⟩
      have eA : (a : Int) + D = (A : Int) := by omega
      have z1 : (s.length : Int) ≤ (A : Int) := by omega
      have hAb : A ≤ 2000000000000 := by omega
      have HDd := hid hDd
      have hnil : s.drop (a + d) = [] := List.drop_of_length_le (by omega)
      have hsc : scanN 0 0 (s.drop a) = .error 2 := by
        rw [HH.out.2.2.2.2.2.2, hnil]; rfl
      have HS := hid hsc
      clear hsc hDd hUV hQP hA hnil hlt
      go_wp2_with (first
        | (go_at_call 104; (with_reducible refine (cF 2 _).mono ?_); rintro o3 w3 ⟨rfl, hB3⟩; have hb3 := hb2.below hB3; have hX3 := hX.trans (hB3.mono hX.size))
        | (with_reducible refine wpList_store_blk rfl 69 _ _ rfl (w.heap.size + 1) _ #[.string (txt s), .int .i64 a, .int .i64 2] 69 hb3 rfl rfl ?c2_9 ?c3_9 ?c4_9 ?_))
      case c2_9 => first | kernel_rfl | simpa using infoR3
      try (case c3_9 => rfl)
      case c4_9 => simp [Value.oneCell']
      intro w9 hb9 hg9
      have y0 := hb9.cell_ (i := 0) rfl
      have y1 := hb9.cell_ (i := 1) rfl
      have y2 := hb9.cell_ (i := 2) rfl
      go_wp2
      refine bodyPost_ret (v := .tuple #[.agg #[.string (txt s), .int .i64 a, .int .i64 2], .int .i64 0]) (by simp [results, Try.f92, go_sem, y0, y1, y2]) rfl ?_
      rw [HS.out]
      exact ⟨rfl, by decide, hX3.grown hg9 hX3.size (by intro k e; cases e; omega)⟩
end Go.Proofs.Ythpdkdalfjahcaa

namespace Go.Proofs.Ythpdkdalfjahcaa
open Go.RowKit Go.Qc Go.Shelf
attribute [local go_sem] txt_size txt_append ib_fold

theorem scanN_err : ∀ (l : List UInt8) (d v : Nat) (e : Int), scanN d v l = .error e → e ≠ 0
  | [], d, v, e, h => by
    rw [scanN] at h
    injection h with h
    subst h; decide
  | b :: t, d, v, e, h => by
    rw [scanN] at h
    split at h
    · injection h with h
      subst h; decide
    · split at h
      · exact scanN_err t _ _ e h
      · split at h
        · injection h with h
          subst h; decide
        · cases h
theorem rF_any (s : List UInt8) (a : Nat) (k : Int) (W : World) : Calls Try.prog 104 #[.agg #[.string (txt s), .int .i64 a, .int .i64 0], .int .i64 k] W fun o w' => o = .returned (.agg #[.string (txt s), .int .i64 a, .int .i64 k]) ∧ Below W.heap.size W w' := by
  have := rFail_any s a 0 k W
  rw [if_pos rfl] at this
  exact this
theorem wpList_store_rv {w : World} {ops : Array Oper} {rest : List Oper} {o : Oper} {a : Act} {Q : Exit → Act → World → Prop} (hgd : o.guard = none) (x y : Operand) (ho : o.op = .store 69 x y) (g : Nat) (old : Array Value) (u0 : ByteArray) (u1 u2 : Int)
    (hg : Blk w g 69 old) (hold : old.size = 3) (hx : a.eval x = .pointer (some ⟨g, 0, none⟩)) (hy : a.eval y = .agg #[.string u0, .int .i64 u1, .int .i64 u2])
    (h : ∀ w', Blk w' g 69 #[.string u0, .int .i64 u1, .int .i64 u2] → w.grownBy w' (some g) → wpList Try.prog ops Q rest (a.put o.dst undef) w') : wpList Try.prog ops Q (o :: rest) a w :=
  wpList_store_blk hgd 69 x y ho g old _ 69 hg hx hy infoR3 (by rw [hold]; rfl) (by simp [Value.oneCell']) h
theorem blk_c {w : World} {g : Nat} {t : TypeId} {cs : Array Value} (h : Blk w g t cs) (i : Nat) (v : Value) (hv : cs[i]? = some v) : w.cell? ⟨g, i, none⟩ = some v := by
  obtain ⟨hi, he⟩ := Array.getElem?_eq_some_iff.1 hv
  rw [← he]; exact h.cell_ (Array.getElem?_eq_getElem hi)
set_option maxHeartbeats 8000000 in
theorem rcount_gen (s : List UInt8) (a a2 : Nat) (e e2 most n : Int) (w : World)
    (cN : ∀ W : World, Calls Try.prog 92 #[.agg #[.string (txt s), .int .i64 a, .int .i64 e]] W fun o w' => o = .returned (.tuple #[.agg #[.string (txt s), .int .i64 a2, .int .i64 e2], .int .i64 n]) ∧ Below W.heap.size W w') (big : Bool)
    (hb : ((e2 == 0) && decide (most < n)) = big) (he : big = true → e = 0) :
    Calls Try.prog 123 #[.agg #[.string (txt s), .int .i64 a, .int .i64 e], .int .i64 most] w fun o w' => o = .returned (if big then .tuple #[.agg #[.string (txt s), .int .i64 a, .int .i64 4], .int .i64 0] else .tuple #[.agg #[.string (txt s), .int .i64 a2, .int .i64 e2], .int .i64 n]) ∧ Below w.heap.size w w' := by
  have x0 := (Blk.new w 69 #[.string (txt s), .int .i64 a, .int .i64 e]).alloc (.cells #[.string ⟨#[]⟩, .int .i64 0, .int .i64 0] 69)
  have x1 := Blk.new (w.alloc (.cells #[.string (txt s), .int .i64 a, .int .i64 e] 69)) 69 #[.string ⟨#[]⟩, .int .i64 0, .int .i64 0]
  have hk : (w.alloc (.cells #[.string (txt s), .int .i64 a, .int .i64 e] 69)).heap.size = w.heap.size + 1 := by simp
  rw [hk] at x1
  have hX : Below w.heap.size w ((w.alloc (.cells #[.string (txt s), .int .i64 a, .int .i64 e] 69)).alloc (.cells #[.string ⟨#[]⟩, .int .i64 0, .int .i64 0] 69)) := ((Below.refl _ w).alloc (Nat.le_refl _) _).alloc (by simp) _
  have hsz : ((w.alloc (.cells #[.string (txt s), .int .i64 a, .int .i64 e] 69)).alloc (.cells #[.string ⟨#[]⟩, .int .i64 0, .int .i64 0] 69)).heap.size = w.heap.size + 1 + 1 := by simp
  go_enter Try.func123, Try.ntmps123
  go_wp2_with (fail)
  generalize (w.alloc (.cells #[.string (txt s), .int .i64 a, .int .i64 e] 69)).alloc (.cells #[.string ⟨#[]⟩, .int .i64 0, .int .i64 0] 69) = W at *
  have key : ∀ W1, Below W.heap.size W W1 → (∀ o, (W1.alloc o).cell? ⟨w.heap.size, 0, none⟩ = some (.string (txt s))) ∧ (∀ o, (W1.alloc o).cell? ⟨w.heap.size, 1, none⟩ = some (.int .i64 a)) ∧ (∀ o, (W1.alloc o).cell? ⟨w.heap.size, 2, none⟩ = some (.int .i64 e)) ∧ (∀ o, Blk (W1.alloc o) (w.heap.size + 1) 69 #[.string ⟨#[]⟩, .int .i64 0, .int .i64 0]) := fun W1 h =>
    ⟨fun o => ((x0.below h).alloc o).cell_ (i := 0) rfl, fun o => ((x0.below h).alloc o).cell_ (i := 1) rfl, fun o => ((x0.below h).alloc o).cell_ (i := 2) rfl, fun o => (x1.below h).alloc o⟩
  clear hk x0 x1
  cases big with
  | true =>
    obtain rfl := he rfl
    rw [Bool.and_eq_true] at hb
    obtain ⟨hb1, hb2⟩ := hb
    have hb2 := of_decide_eq_true hb2
    go_wp2_with (first
      | (go_at_call 92; (with_reducible refine (cN _).mono ?_); rintro o1 w1 ⟨rfl, h1⟩; obtain ⟨k0, k1, k2, k3⟩ := key _ h1; have hX1 := hX.trans (h1.mono hX.size); have hX2 := hX1.alloc hX1.size (.cells #[.string (txt s), .int .i64 a2, .int .i64 e2] 69); have k4 := k3 (.cells #[.string (txt s), .int .i64 a2, .int .i64 e2] 69))
      | (go_at_call 104; (with_reducible refine (rF_any s a 4 _).mono ?_); rintro o2 w2 ⟨rfl, h2⟩; have k5 := k4.below h2; have hX3 := hX2.trans (h2.mono hX2.size))
      | ((with_reducible refine wpList_store_rv rfl _ _ rfl (w.heap.size + 1) _ _ _ _ k5 rfl rfl rfl ?_); intro w9 hb9 hg9; have y0 := hb9.cell_ (i := 0) rfl; have y1 := hb9.cell_ (i := 1) rfl; have y2 := hb9.cell_ (i := 2) rfl))
    refine bodyPost_ret (v := .tuple #[.agg #[.string (txt s), .int .i64 a, .int .i64 4], .int .i64 0]) (by simp [results, Try.f123, go_sem, y0, y1, y2]) rfl ?_
    exact ⟨rfl, hX3.grown hg9 hX3.size (by intro k e; cases e; omega)⟩
  | false =>
    have hh : (e2 == 0) = false ∨ ((e2 == 0) = true ∧ ¬ most < n) := by
      cases h : (e2 == 0) with
      | false => exact .inl rfl
      | true => rw [h, Bool.true_and] at hb; exact .inr ⟨rfl, of_decide_eq_false hb⟩
    rcases hh with hh | ⟨hh, hh2⟩
    all_goals
      go_wp2_with (first
        | (go_at_call 92; (with_reducible refine (cN _).mono ?_); rintro o1 w1 ⟨rfl, h1⟩; obtain ⟨k0, k1, k2, k3⟩ := key _ h1; have hX1 := hX.trans (h1.mono hX.size); have hX2 := hX1.alloc hX1.size (.cells #[.string (txt s), .int .i64 a2, .int .i64 e2] 69); have k4 := k3 (.cells #[.string (txt s), .int .i64 a2, .int .i64 e2] 69))
        | ((with_reducible refine wpList_store_rv rfl _ _ rfl (w.heap.size + 1) _ _ _ _ k4 rfl rfl rfl ?_); intro w9 hb9 hg9; have y0 := hb9.cell_ (i := 0) rfl; have y1 := hb9.cell_ (i := 1) rfl; have y2 := hb9.cell_ (i := 2) rfl))
      refine bodyPost_ret (v := .tuple #[.agg #[.string (txt s), .int .i64 a2, .int .i64 e2], .int .i64 n]) (by simp [results, Try.f123, go_sem, y0, y1, y2]) rfl ?_
      exact ⟨rfl, hX2.grown hg9 hX2.size (by intro k e; cases e; omega)⟩
theorem rcount_any (s : List UInt8) (a : Nat) (most : Int) (hs : s.length ≤ 1000000000000) (ha : a ≤ s.length) (w : World) :
    Calls Try.prog 123 #[rv s a 0, .int .i64 most] w fun o w' => RPost intV (.int .i64 0) s a w (cntN most (s.drop a)) o w' := by
  have cN := fun W => rGetNum_any s a hs ha W
  unfold cntN
  cases hsc : scanN 0 0 (s.drop a) with
  | ok p =>
    obtain ⟨v, n⟩ := p
    rw [hsc] at cN
    simp only
    by_cases hm : most < v
    · rw [if_pos hm]
      refine (rcount_gen s a (a + n) 0 0 most v w cN true (by simpa using hm) (fun _ => rfl)).mono ?_
      rintro o w' ⟨rfl, hb⟩
      exact ⟨rfl, by decide, hb⟩
    · rw [if_neg hm]
      refine (rcount_gen s a (a + n) 0 0 most v w cN false (by simpa using hm) (fun h => by cases h)).mono ?_
      rintro o w' ⟨rfl, hb⟩
      exact ⟨rfl, hb⟩
  | error e =>
    rw [hsc] at cN
    simp only
    have he : e ≠ 0 := scanN_err _ _ _ _ hsc
    refine (rcount_gen s a a 0 e most 0 w (fun W => (cN W).mono (by rintro o w' ⟨h1, _, h2⟩; exact ⟨h1, h2⟩)) false (by have : (e == 0) = false := beq_false_of_ne he; rw [this]; rfl) (fun h => by cases h)).mono ?_
    rintro o w' ⟨rfl, hb⟩
    exact ⟨rfl, he, hb⟩
theorem rcount_old (s : List UInt8) (a : Nat) (e most : Int) (he : e ≠ 0) (w : World) :
    Calls Try.prog 123 #[rv s a e, .int .i64 most] w fun o w' => o = .returned (.tuple #[rv s a e, .int .i64 0]) ∧ Below w.heap.size w w' := by
  refine (rcount_gen s a a e e most 0 w (fun W => rGetNum_old s a e he W) false (by have : (e == 0) = false := beq_false_of_ne he; rw [this]; rfl) (fun h => by cases h)).mono ?_
  rintro o w' ⟨rfl, hb⟩
  exact ⟨rfl, hb⟩
end Go.Proofs.Ythpdkdalfjahcaa

namespace Go.Proofs.Ythpdkdalfjahcaa
open Go.RowKit Go.Qc Go.Shelf
attribute [local go_sem] txt_size txt_append ib_fold

theorem rsome_old (s : List UInt8) (a : Nat) (e n : Int) (he : e ≠ 0) (f : Nat) (w : World) :
    Calls Try.prog 129 #[rv s a e, .int .i64 f, .int .i64 n] w fun o w' => o = .returned (.tuple #[rv s f e, .string ⟨#[]⟩]) ∧ Below w.heap.size w w' := by
  have he1 : (e != 0) = true := by simpa using he
  unfold rv
  have hB : Below w.heap.size w ((w.alloc (.cells #[.string (txt s), .int .i64 f, .int .i64 e] 69)).alloc (.cells #[.string (txt s), .int .i64 f, .int .i64 e] 69)) := ((Below.refl _ w).alloc (Nat.le_refl _) _).alloc (by simp) _
  have hb := Blk.new (w.alloc (.cells #[.string (txt s), .int .i64 f, .int .i64 e] 69)) 69 #[.string (txt s), .int .i64 f, .int .i64 e]
  rw [show (w.alloc (.cells #[.string (txt s), .int .i64 f, .int .i64 e] 69)).heap.size = w.heap.size + 1 by simp] at hb
  have y0 := hb.cell_ (i := 0) rfl
  have y1 := hb.cell_ (i := 1) rfl
  have y2 := hb.cell_ (i := 2) rfl
  go_enter Try.func129, Try.ntmps129
  go_wp2
  refine bodyPost_ret (v := .tuple #[.agg #[.string (txt s), .int .i64 f, .int .i64 e], .string ⟨#[]⟩]) (by simp [results, Try.f129, go_sem, y0, y1, y2]) rfl ?_
  exact ⟨rfl, hB⟩
set_option maxHeartbeats 8000000 in
theorem rsome_short (s : List UInt8) (a : Nat) (n : Int) (hs : s.length ≤ 1000000000000) (ha : a ≤ s.length) (hn : (s.length : Int) < a + n) (f : Nat) (w : World) :
    Calls Try.prog 129 #[rv s a 0, .int .i64 f, .int .i64 n] w fun o w' => o = .returned (.tuple #[rv s f 2, .string ⟨#[]⟩]) ∧ Below w.heap.size w w' := by
  have hn1 : (s.length : Int) - a < n := by omega
  unfold rv
  have hk : (w.alloc (.cells #[.string (txt s), .int .i64 f, .int .i64 0] 69)).heap.size = w.heap.size + 1 := by simp
  have k4 := Blk.new (w.alloc (.cells #[.string (txt s), .int .i64 f, .int .i64 0] 69)) 69 #[.string ⟨#[]⟩, .int .i64 0, .int .i64 0]
  rw [hk] at k4
  have hX : Below w.heap.size w ((w.alloc (.cells #[.string (txt s), .int .i64 f, .int .i64 0] 69)).alloc (.cells #[.string ⟨#[]⟩, .int .i64 0, .int .i64 0] 69)) := ((Below.refl _ w).alloc (Nat.le_refl _) _).alloc (by simp) _
  have cF := rF_any s f 2 ((w.alloc (.cells #[.string (txt s), .int .i64 f, .int .i64 0] 69)).alloc (.cells #[.string ⟨#[]⟩, .int .i64 0, .int .i64 0] 69))
  clear hk
  go_enter Try.func129, Try.ntmps129
  go_wp2_with (first
    | (go_at_call 104; (with_reducible refine cF.mono ?_); rintro o2 w2 ⟨rfl, h2⟩; have k5 := k4.below h2; have hX3 := hX.trans (h2.mono hX.size))
    | ((with_reducible refine wpList_store_rv rfl _ _ rfl (w.heap.size + 1) _ _ _ _ k5 rfl rfl rfl ?_); intro w9 hb9 hg9; have y0 := hb9.cell_ (i := 0) rfl; have y1 := hb9.cell_ (i := 1) rfl; have y2 := hb9.cell_ (i := 2) rfl))
  refine bodyPost_ret (v := .tuple #[.agg #[.string (txt s), .int .i64 f, .int .i64 2], .string ⟨#[]⟩]) (by simp [results, Try.f129, go_sem, y0, y1, y2]) rfl ?_
  exact ⟨rfl, hX3.grown hg9 hX3.size (by intro k e; cases e; omega)⟩
set_option maxHeartbeats 8000000 in
theorem rsome_ok (s : List UInt8) (a n : Nat) (hs : s.length ≤ 1000000000000) (hn : a + n ≤ s.length) (f : Nat) (w : World) :
    Calls Try.prog 129 #[rv s a 0, .int .i64 f, .int .i64 n] w fun o w' => o = .returned (.tuple #[rv s (a + n) 0, .string (txt ((s.drop a).take n))]) ∧ Below w.heap.size w w' := by
  obtain ⟨E, hE⟩ : ∃ E : Nat, E = a + n := ⟨_, rfl⟩
  have eE : (a : Int) + n = (E : Int) := by omega
  have hn1 : ¬ (s.length : Int) - a < n := by omega
  have b1 : (a : Int) ≤ (E : Int) := by omega
  have b2 : (E : Int) ≤ s.length := by omega
  have b3 : (0 : Int) ≤ (E : Int) := by omega
  rw [← slice_txt, ← hE]
  unfold rv
  have HE := hid hE
  clear hE hn
  have hB : Below w.heap.size w ((w.alloc (.cells #[.string (txt s), .int .i64 E, .int .i64 0] 69)).alloc (.cells #[.string (txt s), .int .i64 E, .int .i64 0] 69)) := ((Below.refl _ w).alloc (Nat.le_refl _) _).alloc (by simp) _
  have hb := Blk.new (w.alloc (.cells #[.string (txt s), .int .i64 E, .int .i64 0] 69)) 69 #[.string (txt s), .int .i64 E, .int .i64 0]
  rw [show (w.alloc (.cells #[.string (txt s), .int .i64 E, .int .i64 0] 69)).heap.size = w.heap.size + 1 by simp] at hb
  have y0 := hb.cell_ (i := 0) rfl
  have y1 := hb.cell_ (i := 1) rfl
  have y2 := hb.cell_ (i := 2) rfl
  go_enter Try.func129, Try.ntmps129
  go_wp2
  refine bodyPost_ret (v := .tuple #[.agg #[.string (txt s), .int .i64 E, .int .i64 0], .string ((txt s).extract a E)]) (by simp [results, Try.f129, go_sem, y0, y1, y2]) rfl ?_
  exact ⟨rfl, hB⟩
end Go.Proofs.Ythpdkdalfjahcaa

namespace Go.Proofs.Ythpdkdalfjahcaa
open Go.RowKit Go.Qc Go.Shelf
attribute [local go_sem] txt_size txt_append ib_fold

/-- A reader's box and the box of the answer, behind whatever leaves them alone. -/
structure RB (w W : World) (c0 c1 : Array Value) : Prop where
  b0 : Blk W w.heap.size 69 c0
  b1 : Blk W (w.heap.size + 1) 69 c1
  x : Below w.heap.size w W
theorem RB.start (w : World) (c0 c1 : Array Value) : RB w ((w.alloc (.cells c0 69)).alloc (.cells c1 69)) c0 c1 := by
  have hk : (w.alloc (.cells c0 69)).heap.size = w.heap.size + 1 := by simp
  have h1 := Blk.new (w.alloc (.cells c0 69)) 69 c1
  rw [hk] at h1
  exact ⟨(Blk.new w 69 c0).alloc _, h1, ((Below.refl _ w).alloc (Nat.le_refl _) _).alloc (by simp) _⟩
theorem RB.below {w W W' : World} {c0 c1 : Array Value} (h : RB w W c0 c1) (hb : Below W.heap.size W W') : RB w W' c0 c1 := ⟨h.b0.below hb, h.b1.below hb, h.x.trans (hb.mono h.x.size)⟩
theorem RB.alloc {w W : World} {c0 c1 : Array Value} (h : RB w W c0 c1) (o : Obj) : RB w (W.alloc o) c0 c1 := ⟨h.b0.alloc o, h.b1.alloc o, h.x.alloc h.x.size o⟩
set_option maxHeartbeats 8000000 in
theorem rGetText_err (s : List UInt8) (a : Nat) (e e2 most : Int) (he : e2 ≠ 0) (w : World)
    (cC : ∀ W : World, Calls Try.prog 123 #[.agg #[.string (txt s), .int .i64 a, .int .i64 e], .int .i64 most] W fun o w' => o = .returned (.tuple #[.agg #[.string (txt s), .int .i64 a, .int .i64 e2], .int .i64 0]) ∧ Below W.heap.size W w') :
    Calls Try.prog 105 #[.agg #[.string (txt s), .int .i64 a, .int .i64 e], .int .i64 most] w fun o w' => o = .returned (.tuple #[.agg #[.string (txt s), .int .i64 a, .int .i64 e2], .string ⟨#[]⟩]) ∧ Below w.heap.size w w' := by
  have he1 : (e2 != 0) = true := by simpa using he
  have hR := RB.start w #[.string (txt s), .int .i64 a, .int .i64 e] #[.string ⟨#[]⟩, .int .i64 0, .int .i64 0]
  have hC := cC ((w.alloc (.cells #[.string (txt s), .int .i64 a, .int .i64 e] 69)).alloc (.cells #[.string ⟨#[]⟩, .int .i64 0, .int .i64 0] 69))
  go_enter Try.func105, Try.ntmps105
  go_wp2_with (first
    | (go_at_call 123; (with_reducible refine hC.mono ?_); rintro o1 w1 ⟨rfl, h1⟩; have hR1 := (hR.below h1).alloc (.cells #[.string (txt s), .int .i64 a, .int .i64 e2] 69); have k0 := blk_c hR1.b0 0 _ rfl; have k1 := blk_c hR1.b0 1 _ rfl; have k2 := blk_c hR1.b0 2 _ rfl; have k5 := hR1.b1)
    | ((with_reducible refine wpList_store_rv rfl _ _ rfl (w.heap.size + 1) _ _ _ _ k5 rfl rfl rfl ?_); intro w9 hb9 hg9; have y0 := hb9.cell_ (i := 0) rfl; have y1 := hb9.cell_ (i := 1) rfl; have y2 := hb9.cell_ (i := 2) rfl))
  refine bodyPost_ret (v := .tuple #[.agg #[.string (txt s), .int .i64 a, .int .i64 e2], .string ⟨#[]⟩]) (by simp [results, Try.f105, go_sem, y0, y1, y2]) rfl ?_
  exact ⟨rfl, hR1.x.grown hg9 hR1.x.size (by intro k e; cases e; omega)⟩
set_option maxHeartbeats 8000000 in
theorem rGetText_go (s : List UInt8) (a a2 a3 : Nat) (e most k e3 : Int) (T : ByteArray) (w : World)
    (cC : ∀ W : World, Calls Try.prog 123 #[.agg #[.string (txt s), .int .i64 a, .int .i64 e], .int .i64 most] W fun o w' => o = .returned (.tuple #[.agg #[.string (txt s), .int .i64 a2, .int .i64 0], .int .i64 k]) ∧ Below W.heap.size W w')
    (cS : ∀ W : World, Calls Try.prog 129 #[.agg #[.string (txt s), .int .i64 a2, .int .i64 0], .int .i64 a, .int .i64 k] W fun o w' => o = .returned (.tuple #[.agg #[.string (txt s), .int .i64 a3, .int .i64 e3], .string T]) ∧ Below W.heap.size W w') :
    Calls Try.prog 105 #[.agg #[.string (txt s), .int .i64 a, .int .i64 e], .int .i64 most] w fun o w' => o = .returned (.tuple #[.agg #[.string (txt s), .int .i64 a3, .int .i64 e3], .string T]) ∧ Below w.heap.size w w' := by
  have hR := RB.start w #[.string (txt s), .int .i64 a, .int .i64 e] #[.string ⟨#[]⟩, .int .i64 0, .int .i64 0]
  have hC := cC ((w.alloc (.cells #[.string (txt s), .int .i64 a, .int .i64 e] 69)).alloc (.cells #[.string ⟨#[]⟩, .int .i64 0, .int .i64 0] 69))
  go_enter Try.func105, Try.ntmps105
  go_wp2_with (first
    | (go_at_call 123; (with_reducible refine hC.mono ?_); rintro o1 w1 ⟨rfl, h1⟩; have hR1 := (hR.below h1).alloc (.cells #[.string (txt s), .int .i64 a2, .int .i64 0] 69); have k0 := blk_c hR1.b0 0 _ rfl; have k1 := blk_c hR1.b0 1 _ rfl; have k2 := blk_c hR1.b0 2 _ rfl)
    | (go_at_call 129; (with_reducible refine (cS _).mono ?_); rintro o2 w2 ⟨rfl, h2⟩; have hR2 := hR1.below h2; have k5 := hR2.b1)
    | ((with_reducible refine wpList_store_rv rfl _ _ rfl (w.heap.size + 1) _ _ _ _ k5 rfl rfl rfl ?_); intro w9 hb9 hg9; have y0 := hb9.cell_ (i := 0) rfl; have y1 := hb9.cell_ (i := 1) rfl; have y2 := hb9.cell_ (i := 2) rfl))
  refine bodyPost_ret (v := .tuple #[.agg #[.string (txt s), .int .i64 a3, .int .i64 e3], .string T]) (by simp [results, Try.f105, go_sem, y0, y1, y2]) rfl ?_
  exact ⟨rfl, hR2.x.grown hg9 hR2.x.size (by intro k e; cases e; omega)⟩
theorem cntN_err (most : Int) (l : List UInt8) (e : Int) (h : cntN most l = .error e) : e ≠ 0 := by
  unfold cntN at h
  split at h
  · split at h
    · injection h with h; subst h; decide
    · cases h
  · rename_i e' hs
    injection h with h
    subst h
    exact scanN_err _ _ _ _ hs
theorem rGetText_any (s : List UInt8) (a : Nat) (most : Int) (hs : s.length ≤ 1000000000000) (ha : a ≤ s.length) (w : World) :
    Calls Try.prog 105 #[rv s a 0, .int .i64 most] w fun o w' => RPost strT (.string ⟨#[]⟩) s a w (textR most (s.drop a)) o w' := by
  have cC := fun W => rcount_any s a most hs ha W
  unfold textR
  cases hc : cntN most (s.drop a) with
  | error e =>
    rw [hc] at cC
    have he := cntN_err _ _ _ hc
    simp only
    refine (rGetText_err s a 0 e most he w (fun W => (cC W).mono (by rintro o w' ⟨h1, _, h2⟩; exact ⟨h1, h2⟩))).mono ?_
    rintro o w' ⟨rfl, hb⟩
    exact ⟨rfl, he, hb⟩
  | ok p =>
    obtain ⟨v, n⟩ := p
    rw [hc] at cC
    simp only
    have hka : a + n ≤ s.length := by
      unfold cntN at hc
      cases hs2 : scanN 0 0 (s.drop a) with
      | ok pr =>
        obtain ⟨v2, n2⟩ := pr
        rw [hs2] at hc
        simp only at hc
        split at hc
        · cases hc
        · injection hc with e1
          injection e1 with e2 e3
          rw [← e3]
          exact scanN_len s a v2 n2 hs2 ha
      | error e => rw [hs2] at hc; cases hc
    have hdl : (s.drop a).length = s.length - a := List.length_drop
    by_cases hle : n + v ≤ (s.drop a).length
    · rw [if_pos hle]
      refine (rGetText_go s a (a + n) (a + n + v) 0 most v 0 (txt ((s.drop (a + n)).take v)) w cC (fun W => rsome_ok s (a + n) v hs (by omega) a W)).mono ?_
      rintro o w' ⟨rfl, hb⟩
      refine ⟨?_, hb⟩
      rw [List.drop_drop, Nat.add_assoc]
      rfl
    · rw [if_neg hle]
      refine (rGetText_go s a (a + n) a 0 most v 2 ⟨#[]⟩ w cC (fun W => rsome_short s (a + n) v hs hka (by omega) a W)).mono ?_
      rintro o w' ⟨rfl, hb⟩
      exact ⟨rfl, by decide, hb⟩
theorem rGetText_old (s : List UInt8) (a : Nat) (e most : Int) (he : e ≠ 0) (w : World) :
    Calls Try.prog 105 #[rv s a e, .int .i64 most] w fun o w' => o = .returned (.tuple #[rv s a e, .string ⟨#[]⟩]) ∧ Below w.heap.size w w' :=
  rGetText_err s a e e most he w (fun W => rcount_old s a e most he W)
end Go.Proofs.Ythpdkdalfjahcaa

namespace Go.Proofs.Ythpdkdalfjahcaa
open Go.RowKit Go.Qc Go.Shelf
attribute [local go_sem] txt_size txt_append ib_fold

theorem mixedRr : Try.prog.follows .mixedOrders = true := by kernel_rfl
theorem below_drewR (w : World) : Below w.heap.size w w.drew := ⟨(Below.refl w.heap.size w).os, (Below.refl w.heap.size w).tape, (Below.refl w.heap.size w).output, (Below.refl w.heap.size w).size, (Below.refl w.heap.size w).block⟩
/-- A row of bytes, its first ones copied. -/
def mixB (T : List UInt8) (k : Nat) : List UInt8 := T.take k ++ zeroB.drop k
theorem mixB_len (T : List UInt8) (k : Nat) (hk : k ≤ T.length) (h : T.length ≤ 32) : (mixB T k).length = 32 := by
  unfold mixB
  rw [List.length_append, List.length_take, List.length_drop, show zeroB.length = 32 from rfl]; omega
theorem mixB_set (T : List UInt8) (k : Nat) (x : UInt8) (hx : T[k]? = some x) (h : T.length ≤ 32) : (idVals (mixB T k)).setIfInBounds k (u8v x) = idVals (mixB T (k + 1)) := by
  have hk := (List.getElem?_eq_some_iff.1 hx).1
  unfold idVals
  rw [List.setIfInBounds_toArray, ← List.map_set]
  congr 2
  unfold mixB
  rw [take_snoc hx, List.append_assoc]
  have hz : zeroB.length = 32 := rfl
  rw [List.drop_eq_getElem_cons (by omega : k < zeroB.length), List.set_append_right _ _ (by rw [List.length_take]; omega)]
  rw [List.length_take, show k - min k T.length = 0 by omega]
  rfl
structure RI (w W : World) (c0 c1 : Array Value) : Prop where
  b0 : Blk W w.heap.size 69 c0
  b1 : Blk W (w.heap.size + 1) 69 c1
  b2 : Blk W (w.heap.size + 1 + 1) 24 (idVals zeroB)
  x : Below w.heap.size w W
theorem RI.start (w : World) (c0 c1 : Array Value) : RI w (((w.alloc (.cells c0 69)).alloc (.cells c1 69)).alloc (.cells (idVals zeroB) 24)) c0 c1 := by
  have hk : (w.alloc (.cells c0 69)).heap.size = w.heap.size + 1 := by simp
  have hk2 : ((w.alloc (.cells c0 69)).alloc (.cells c1 69)).heap.size = w.heap.size + 1 + 1 := by simp
  have h1 := Blk.new (w.alloc (.cells c0 69)) 69 c1
  have h2 := Blk.new ((w.alloc (.cells c0 69)).alloc (.cells c1 69)) 24 (idVals zeroB)
  rw [hk] at h1
  rw [hk2] at h2
  exact ⟨((Blk.new w 69 c0).alloc _).alloc _, h1.alloc _, h2, (((Below.refl _ w).alloc (Nat.le_refl _) _).alloc (by simp) _).alloc (by simp; omega) _⟩
theorem RI.below {w W W' : World} {c0 c1 : Array Value} (h : RI w W c0 c1) (hb : Below W.heap.size W W') : RI w W' c0 c1 := ⟨h.b0.below hb, h.b1.below hb, h.b2.below hb, h.x.trans (hb.mono h.x.size)⟩
theorem RI.alloc {w W : World} {c0 c1 : Array Value} (h : RI w W c0 c1) (o : Obj) : RI w (W.alloc o) c0 c1 := ⟨h.b0.alloc o, h.b1.alloc o, h.b2.alloc o, h.x.alloc h.x.size o⟩
theorem results_rows {P : Program} {fn : Func} {p q : Tmp} {ty tz : TypeId} (h : fn.results = #[.cell p ty, .cell q tz]) (tmps : Array Value) (w : World) (g g2 : Nat) (t t2 : TypeId) (cs ds : Array Value) (fr fr2 : Nat × Nat) (d d2 : TypeDesc)
    (hp : tmps.getD p undef = .pointer (some ⟨g, 0, none⟩)) (hg : w.heap[g]? = some (.cells cs t fr)) (hu : P.underlying ty = some d) (hd : (match d with | .struct _ | .array _ _ => true | _ => false) = true) (hi : (P.info? ty).map (·.size) = some cs.size)
    (hq : tmps.getD q undef = .pointer (some ⟨g2, 0, none⟩)) (hg2 : w.heap[g2]? = some (.cells ds t2 fr2)) (hu2 : P.underlying tz = some d2) (hd2 : (match d2 with | .struct _ | .array _ _ => true | _ => false) = true) (hi2 : (P.info? tz).map (·.size) = some ds.size) :
    (results fn tmps).run P w = .ok (.tuple #[.agg cs, .agg ds]) w := by
  have hp' : tmps[p]?.getD undef = .pointer (some ⟨g, 0, none⟩) := by simpa using hp
  have hq' : tmps[q]?.getD undef = .pointer (some ⟨g2, 0, none⟩) := by simpa using hq
  simp [results, h, hp', hq', asAddr, run_loadVar_row w g t ty cs fr d hg hu hd hi, run_loadVar_row w g2 t2 tz ds fr2 d2 hg2 hu2 hd2 hi2]
theorem wpList_store_idb {w : World} {ops : Array Oper} {rest : List Oper} {o : Oper} {a : Act} {Q : Exit → Act → World → Prop} (hgd : o.guard = none) (x y : Operand) (ho : o.op = .store 24 x y) (g : Nat) (old : Array Value) (b : List UInt8) (hb : b.length = 32)
    (hg : Blk w g 24 old) (hold : old.size = 32) (hx : a.eval x = .pointer (some ⟨g, 0, none⟩)) (hy : a.eval y = .agg (List.map u8v b).toArray)
    (h : ∀ w', Blk w' g 24 (idVals b) → w.grownBy w' (some g) → wpList Try.prog ops Q rest (a.put o.dst undef) w') : wpList Try.prog ops Q (o :: rest) a w :=
  wpList_store_blk hgd 24 x y ho g old (idVals b) 24 hg hx hy (by rw [idVals_size, hb]; exact sizeId) (by rw [hold, idVals_size, hb]) (idVals_one b) h
set_option maxRecDepth 100000 in
set_option maxHeartbeats 40000000 in
theorem rGetId_gen (s : List UInt8) (a a2 : Nat) (e e2 : Int) (T : List UInt8) (hT : T.length ≤ 32) (w : World)
    (cS : ∀ W : World, Calls Try.prog 129 #[.agg #[.string (txt s), .int .i64 a, .int .i64 e], .int .i64 a, .int .i64 32] W fun o w' => o = .returned (.tuple #[.agg #[.string (txt s), .int .i64 a2, .int .i64 e2], .string (txt T)]) ∧ Below W.heap.size W w') :
    Calls Try.prog 107 #[.agg #[.string (txt s), .int .i64 a, .int .i64 e]] w fun o w' => o = .returned (.tuple #[.agg #[.string (txt s), .int .i64 a2, .int .i64 e2], .agg (idVals (mixB T T.length))]) ∧ Below w.heap.size w w' := by
  have hR := RI.start w #[.string (txt s), .int .i64 a, .int .i64 e] #[.string ⟨#[]⟩, .int .i64 0, .int .i64 0]
  have hC := cS (((w.alloc (.cells #[.string (txt s), .int .i64 a, .int .i64 e] 69)).alloc (.cells #[.string ⟨#[]⟩, .int .i64 0, .int .i64 0] 69)).alloc (.cells (idVals zeroB) 24))
  have hz := zeroB_vals
  have hu := Try.underlying24
  rw [hz] at hR hC
  go_enter Try.func107, Try.ntmps107
  go_wp2_with (first
    | (go_at_call 129; (with_reducible refine hC.mono ?_); rintro o1 w1 ⟨rfl, h1⟩; have hR1 := (hR.below h1).alloc (.cells #[.string (txt s), .int .i64 a2, .int .i64 e2] 69); have k4 := Blk.new w1 69 #[.string (txt s), .int .i64 a2, .int .i64 e2]))
  have hs6 : (w1.alloc (.cells #[.string (txt s), .int .i64 a2, .int .i64 e2] 69)).heap.size = w1.heap.size + 1 := by simp
  have k6 := Blk.new (w1.alloc (.cells #[.string (txt s), .int .i64 a2, .int .i64 e2] 69)) 24 #[.int .u8 0, .int .u8 0, .int .u8 0, .int .u8 0, .int .u8 0, .int .u8 0, .int .u8 0, .int .u8 0, .int .u8 0, .int .u8 0, .int .u8 0, .int .u8 0, .int .u8 0, .int .u8 0, .int .u8 0, .int .u8 0, .int .u8 0, .int .u8 0, .int .u8 0, .int .u8 0, .int .u8 0, .int .u8 0, .int .u8 0, .int .u8 0, .int .u8 0, .int .u8 0, .int .u8 0, .int .u8 0, .int .u8 0, .int .u8 0, .int .u8 0, .int .u8 0]
  rw [hs6] at k6
  have k4 := k4.alloc (.cells #[.int .u8 0, .int .u8 0, .int .u8 0, .int .u8 0, .int .u8 0, .int .u8 0, .int .u8 0, .int .u8 0, .int .u8 0, .int .u8 0, .int .u8 0, .int .u8 0, .int .u8 0, .int .u8 0, .int .u8 0, .int .u8 0, .int .u8 0, .int .u8 0, .int .u8 0, .int .u8 0, .int .u8 0, .int .u8 0, .int .u8 0, .int .u8 0, .int .u8 0, .int .u8 0, .int .u8 0, .int .u8 0, .int .u8 0, .int .u8 0, .int .u8 0, .int .u8 0] 24)
  have hR2 := hR1.alloc (.cells #[.int .u8 0, .int .u8 0, .int .u8 0, .int .u8 0, .int .u8 0, .int .u8 0, .int .u8 0, .int .u8 0, .int .u8 0, .int .u8 0, .int .u8 0, .int .u8 0, .int .u8 0, .int .u8 0, .int .u8 0, .int .u8 0, .int .u8 0, .int .u8 0, .int .u8 0, .int .u8 0, .int .u8 0, .int .u8 0, .int .u8 0, .int .u8 0, .int .u8 0, .int .u8 0, .int .u8 0, .int .u8 0, .int .u8 0, .int .u8 0, .int .u8 0, .int .u8 0] 24)
  have hg1 := hR.b2.lt
  have hg2 := h1.size
  generalize (w1.alloc (.cells #[.string (txt s), .int .i64 a2, .int .i64 e2] 69)).alloc (.cells #[.int .u8 0, .int .u8 0, .int .u8 0, .int .u8 0, .int .u8 0, .int .u8 0, .int .u8 0, .int .u8 0, .int .u8 0, .int .u8 0, .int .u8 0, .int .u8 0, .int .u8 0, .int .u8 0, .int .u8 0, .int .u8 0, .int .u8 0, .int .u8 0, .int .u8 0, .int .u8 0, .int .u8 0, .int .u8 0, .int .u8 0, .int .u8 0, .int .u8 0, .int .u8 0, .int .u8 0, .int .u8 0, .int .u8 0, .int .u8 0, .int .u8 0, .int .u8 0] 24) = W2 at *
  rw [← hz] at k6
  have hT0 : mixB T 0 = zeroB := by unfold mixB; rw [List.take_zero, List.drop_zero, List.nil_append]
  clear hR hR1 h1 hs6 hC hz
  go_loopw [7] (fun i wr => ∃ k : Nat, k ≤ T.length ∧ i = .int .i64 k ∧ Hid (Blk wr (w1.heap.size + 1) 24 (idVals (mixB T k)) ∧ Blk wr w1.heap.size 69 #[.string (txt s), .int .i64 a2, .int .i64 e2] ∧ RI w wr #[.string (txt s), .int .i64 a, .int .i64 e] #[.string ⟨#[]⟩, .int .i64 0, .int .i64 0])) (fun i _ => T.length - (intOf i).toNat)
  case atStart => exact ⟨0, Nat.zero_le _, rfl, hid ⟨by rw [hT0]; exact k6, k4, hR2⟩⟩
  case round =>
    obtain ⟨k, hk, rfl, HB⟩ := hrel
    obtain ⟨b6, b4, bR⟩ := HB.out
    clear k6 k4 hR2 HB
    have hlt4 := bR.b2.lt
    by_cases hlt : k < T.length
    · obtain ⟨x, hx⟩ : ∃ x, T[k]? = some x := ⟨_, List.getElem?_eq_getElem hlt⟩
      have hidx := run_index_str T k x hx k rfl
      have z1 : (k : Int) < T.length := by omega
      have z2 : (k : Int) < 32 := by omega
      have hml := mixB_len T k hk hT
      have c6 := b6.cell_ (i := k) (Array.getElem?_eq_getElem (by rw [idVals_size, hml]; omega))
      have f6 := b6.frozen k
      have n6 := b6.set k (u8v x)
      rw [mixB_set T k x hx hT] at n6
      have n4 := blk_gb b4 (gb_set (gb_refl wr (some (w1.heap.size + 1))) k (u8v x)) (by omega)
      have nR : RI w (wr.setCell ⟨w1.heap.size + 1, k, none⟩ (u8v x)) #[.string (txt s), .int .i64 a, .int .i64 e] #[.string ⟨#[]⟩, .int .i64 0, .int .i64 0] :=
        ⟨blk_gb bR.b0 (gb_set (gb_refl wr (some (w1.heap.size + 1))) k (u8v x)) (by omega), blk_gb bR.b1 (gb_set (gb_refl wr (some (w1.heap.size + 1))) k (u8v x)) (by omega), blk_gb bR.b2 (gb_set (gb_refl wr (some (w1.heap.size + 1))) k (u8v x)) (by omega), bR.x.setCell (p := ⟨w1.heap.size + 1, k, none⟩) (by show w.heap.size ≤ w1.heap.size + 1; omega) _⟩
      have HN := hid (And.intro n6 (And.intro n4 nR))
      generalize (idVals (mixB T k))[k]'(by rw [idVals_size, hml]; omega) = old at *
      clear n6 n4 nR hx hml
      unfold u8v at HN
      go_wp2
      go_roundw
      case rel => exact ⟨k + 1, hlt, by go_num, hid HN.out⟩
      case measure => simp [intOf]; omega
    · obtain rfl : k = T.length := by omega
      have z1 : ¬ (T.length : Int) < T.length := by omega
      have hml := mixB_len T T.length (Nat.le_refl _) hT
      obtain ⟨M, hM⟩ : ∃ M, M = mixB T T.length := ⟨_, rfl⟩
      rw [← hM] at hml b6
      have HM := hid hM
      have hzM : (Try.prog.info? 24).map (·.size) = some (M.map u8v).length := by rw [List.length_map, hml]; exact sizeId
      have HML := hid hml
      clear hml hlt hM hT0
      go_wp2_with (fail)
      refine wp_region_each mixedRr [[0, 1, 2, 3], [0, 2, 1, 3], [1, 0, 2, 3]] (by kernel_rfl) (by kernel_rfl) ?_
      have d6 : Blk wr.drew (w1.heap.size + 1) 24 (idVals M) := b6.below (below_drewR wr)
      have d4 := b4.below (below_drewR wr)
      have dR := bR.below (below_drewR wr)
      generalize wr.drew = W at *
      clear b6 b4 bR
      have c0 := blk_c d4 0 _ rfl
      have c1 := blk_c d4 1 _ rfl
      have c2 := blk_c d4 2 _ rfl
      have r6 := range_blk d6
      have hz32 : (idVals zeroB).size = 32 := by rw [idVals_size]; rfl
      have hb1 := dR.b1
      have hb2 := dR.b2
      have hBX := dR.x
      intro os hos
      simp [listsOf] at hos
      rcases hos with rfl | rfl | rfl
      all_goals
        go_wp2_with (first
          | (with_reducible refine wpList_load_if (by with_unfolding_all rfl) 24 _ rfl _ _ rfl (M.map u8v) _ r6 hu (by with_unfolding_all rfl) hzM ?_)
          | (with_reducible refine wpList_load_if (by with_unfolding_all rfl) 24 _ rfl _ _ rfl (M.map u8v) _ r6' hu (by with_unfolding_all rfl) hzM ?_)
          | ((with_reducible refine wpList_store_rv rfl _ _ rfl (w.heap.size + 1) _ _ _ _ hb1 rfl rfl rfl ?_); intro w8 hb8 hg8; have r6' := range_blk (blk_gb d6 hg8 (by omega)); have hb2' := blk_gb hb2 hg8 (by omega); have hBX' := hBX.grown hg8 hBX.size (by intro k e; cases e; omega))
          | ((with_reducible refine wpList_store_idb rfl _ _ rfl (w.heap.size + 1 + 1) _ M HML.out hb2' hz32 rfl rfl ?_); intro w9 hb9 hg9; have hb8' := blk_gb hb8 hg9 (by omega)))
        refine bodyPost_ret (v := .tuple #[.agg #[.string (txt s), .int .i64 a2, .int .i64 e2], .agg (idVals M)]) (results_rows rfl _ _ _ _ _ _ _ _ _ _ _ _ rfl hb8' Try.underlying69 rfl infoR3 rfl hb9 Try.underlying24 rfl (by rw [idVals_size, HML.out]; exact sizeId)) rfl ?_
        exact ⟨by rw [HM.out], hBX'.grown hg9 hBX'.size (by intro k e; cases e; omega)⟩
theorem mixB_full (T : List UInt8) (h : T.length = 32) : mixB T T.length = T := by
  unfold mixB
  rw [List.take_length, h]; simp [zeroB]
theorem mixB_none : mixB [] ([] : List UInt8).length = zeroB := by simp [mixB]
theorem rGetId_any (s : List UInt8) (a : Nat) (hs : s.length ≤ 1000000000000) (ha : a ≤ s.length) (w : World) :
    Calls Try.prog 107 #[rv s a 0] w fun o w' => RPost idV (idV zeroB) s a w (idR (s.drop a)) o w' := by
  unfold idR
  by_cases h : 32 ≤ (s.drop a).length
  · rw [if_pos h]
    rw [List.length_drop] at h
    have hl : ((s.drop a).take 32).length = 32 := by rw [List.length_take, List.length_drop]; omega
    have := rGetId_gen s a (a + 32) 0 0 ((s.drop a).take 32) (by omega) w (fun W => rsome_ok s a 32 hs (by omega) a W)
    rw [mixB_full _ hl] at this
    exact this
  · rw [if_neg h]
    rw [List.length_drop] at h
    have := rGetId_gen s a a 0 2 [] (by simp) w (fun W => rsome_short s a 32 hs ha (by omega) a W)
    rw [mixB_none] at this
    refine this.mono ?_
    rintro o w' ⟨h1, h2⟩
    exact ⟨h1, by decide, h2⟩
theorem rGetId_old (s : List UInt8) (a : Nat) (e : Int) (he : e ≠ 0) (w : World) :
    Calls Try.prog 107 #[rv s a e] w fun o w' => o = .returned (.tuple #[rv s a e, idV zeroB]) ∧ Below w.heap.size w w' := by
  have := rGetId_gen s a a e e [] (by simp) w (fun W => rsome_old s a e 32 he a W)
  rw [mixB_none] at this
  exact this
end Go.Proofs.Ythpdkdalfjahcaa

namespace Go.Proofs.Ythpdkdalfjahcaa
open Go.RowKit Go.Qc Go.Shelf
attribute [local go_sem] txt_size txt_append ib_fold

/-- A block of another type than a row's own stays where the row grows. -/
theorem blk_apart {W W' : World} {g base n size : Nat} {t e : TypeId} {cs : Array Value} {v : Value} {xs : List Value} (h : Blk W g t cs) (hr : W.ownsRow base e size v n xs) (hte : t ≠ e) (hg : W.grownBy W' v.ownBlock) : Blk W' g t cs := by
  refine (hg.block g h.lt ?_).trans h
  rcases hr.2 with ⟨rfl, _⟩ | ⟨g2, cap, cur, rfl, _, hgb, _⟩
  · simp [Value.ownBlock]
  · intro e'
    obtain rfl : g = g2 := by simpa [Value.ownBlock] using e'
    have := (show W.heap[g]? = _ from h).symm.trans hgb
    simp at this
    exact hte this.2
end Go.Proofs.Ythpdkdalfjahcaa

namespace Go.Proofs.Ythpdkdalfjahcaa
open Go.RowKit Go.Qc Go.Shelf
attribute [local go_sem] txt_size txt_append ib_fold

theorem RB.apart {w W W' : World} {c0 c1 : Array Value} {base n : Nat} {v : Value} {xs : List Value} (h : RB w W c0 c1) (hr : W.ownsRow base 24 32 v n xs) (hbase : w.heap.size ≤ base) (hg : W.grownBy W' v.ownBlock) : RB w W' c0 c1 :=
  ⟨blk_apart h.b0 hr (by decide) hg, blk_apart h.b1 hr (by decide) hg, h.x.grown hg h.x.size (fun k hk => Nat.le_trans hbase (hr.lt k hk).1)⟩
theorem RB.other {w W W' : World} {c0 c1 : Array Value} {g : Nat} (h : RB w W c0 c1) (hg : W.grownBy W' (some g)) (h2 : w.heap.size + 1 < g) : RB w W' c0 c1 :=
  ⟨blk_gb h.b0 hg (by omega), blk_gb h.b1 hg (by omega), h.x.grown hg h.x.size (fun k hk => by cases hk; omega)⟩
end Go.Proofs.Ythpdkdalfjahcaa

namespace Go.Proofs.Ythpdkdalfjahcaa
open Go.RowKit Go.Qc Go.Shelf
attribute [local go_sem] txt_size txt_append ib_fold

/-- Where a reader is, and what is wrong, behind a number, a row of ids; what is read. -/
def stN (s : List UInt8) (a : Nat) (e : Int) : Nat × Int := if e = 0 then (match scanN 0 0 (s.drop a) with | .ok (_, n) => (a + n, 0) | .error e' => (a, e')) else (a, e)
def vaN (s : List UInt8) (a : Nat) (e : Int) : Nat := if e = 0 then (match scanN 0 0 (s.drop a) with | .ok (v, _) => v | .error _ => 0) else 0
def stI (most : Int) (s : List UInt8) (a : Nat) (e : Int) : Nat × Int := if e = 0 then (match rowsR idR most (s.drop a) with | .ok (_, n) => (a + n, 0) | .error e' => (a, e')) else (a, e)
theorem pkNum_old (g : Nat) (s : List UInt8) (a : Nat) (e : Int) (he : e ≠ 0) (w : World) (hr : Rdr g s a e w) :
    Calls Try.prog 35 #[.pointer (some ⟨g, 0, none⟩)] w fun o w' => o = .returned (.int .i64 0) ∧ Step g s a e w w' := by
  have hg := enters_of Try.func72 (by kernel_rfl) rfl
  have c2 := hr.c2
  have hne : (e != 0) = true := by simpa using he
  have cR : Calls Try.prog 71 #[.pointer (some ⟨g, 0, none⟩), .func (.func 72) #[.pointer (some ⟨g, 0, none⟩)] #[]] w fun o w' => o = .returned (.int .i64 0) ∧ Step g s a e w w' := by
    go_enter Try.func71, Try.ntmps71
    go_wp2
    go_ret
    exact ⟨rfl, Step.same hr⟩
  go_enter Try.func35, Try.ntmps35
  go_wp2_with (first
    | (go_at_call 71; (with_reducible refine cR.mono ?_); rintro o1 w1 ⟨rfl, h1⟩))
  go_ret
  exact ⟨rfl, h1⟩
theorem stN_le (s : List UInt8) (a : Nat) (e : Int) (ha : a ≤ s.length) : (stN s a e).1 ≤ s.length := by
  unfold stN
  split
  · cases h : scanN 0 0 (s.drop a) with
    | ok p => exact scanN_len s a p.1 p.2 h ha
    | error e => exact ha
  · exact ha
theorem pkNumT (g : Nat) (s : List UInt8) (a : Nat) (e : Int) (hs : s.length ≤ 1000000000000) (ha : a ≤ s.length) (w : World) (hr : Rdr g s a e w) :
    Calls Try.prog 35 #[.pointer (some ⟨g, 0, none⟩)] w fun o w' => o = .returned (.int .i64 (vaN s a e)) ∧ Step g s (stN s a e).1 (stN s a e).2 w w' := by
  unfold vaN stN
  by_cases he : e = 0
  · subst he
    rw [if_pos rfl, if_pos rfl]
    have := pkNum_any g s a hs ha w hr
    cases h : scanN 0 0 (s.drop a) with
    | ok p => rw [h] at this; exact this
    | error e => rw [h] at this; exact this.mono (by rintro o w' ⟨h1, _, h2⟩; exact ⟨h1, h2⟩)
  · rw [if_neg he, if_neg he]
    exact pkNum_old g s a e he w hr
theorem rGetNumT (s : List UInt8) (a : Nat) (e : Int) (hs : s.length ≤ 1000000000000) (ha : a ≤ s.length) (w : World) :
    Calls Try.prog 92 #[rv s a e] w fun o w' => o = .returned (.tuple #[rv s (stN s a e).1 (stN s a e).2, .int .i64 (vaN s a e)]) ∧ Below w.heap.size w w' := by
  unfold vaN stN
  by_cases he : e = 0
  · subst he
    rw [if_pos rfl, if_pos rfl]
    have := rGetNum_any s a hs ha w
    cases h : scanN 0 0 (s.drop a) with
    | ok p => rw [h] at this; exact this
    | error e => rw [h] at this; exact this.mono (by rintro o w' ⟨h1, _, h2⟩; exact ⟨h1, h2⟩)
  · rw [if_neg he, if_neg he]
    exact rGetNum_old s a e he w
end Go.Proofs.Ythpdkdalfjahcaa

namespace Go.Proofs.Ythpdkdalfjahcaa
open Go.RowKit Go.Qc Go.Shelf
attribute [local go_sem] txt_size txt_append ib_fold

def q1 (s : List UInt8) (a : Nat) := stN s a 0
def q2 (s : List UInt8) (a : Nat) := stI 256 s (q1 s a).1 (q1 s a).2
def q3 (s : List UInt8) (a : Nat) := stI 256 s (q2 s a).1 (q2 s a).2
def q4 (s : List UInt8) (a : Nat) := stI 10 s (q3 s a).1 (q3 s a).2
end Go.Proofs.Ythpdkdalfjahcaa

namespace Go.Proofs.Ythpdkdalfjahcaa
open Go.RowKit Go.Qc Go.Shelf
attribute [local go_sem] txt_size txt_append ib_fold

structure RG (w W : World) (c0 : Array Value) : Prop where
  b0 : Blk W w.heap.size 69 c0
  b1 : Blk W (w.heap.size + 1) 69 #[.string ⟨#[]⟩, .int .i64 0, .int .i64 0]
  b2 : Blk W (w.heap.size + 1 + 1) 63 #[.int .i64 0, .slice none 0 0, .slice none 0 0, .slice none 0 0]
  x : Below w.heap.size w W
theorem RG.start (w : World) (c0 : Array Value) : RG w (((w.alloc (.cells c0 69)).alloc (.cells #[.string ⟨#[]⟩, .int .i64 0, .int .i64 0] 69)).alloc (.cells #[.int .i64 0, .slice none 0 0, .slice none 0 0, .slice none 0 0] 63)) c0 := by
  have hk : (w.alloc (.cells c0 69)).heap.size = w.heap.size + 1 := by simp
  have hk2 : ((w.alloc (.cells c0 69)).alloc (.cells #[.string ⟨#[]⟩, .int .i64 0, .int .i64 0] 69)).heap.size = w.heap.size + 1 + 1 := by simp
  have h1 := Blk.new (w.alloc (.cells c0 69)) 69 #[.string ⟨#[]⟩, .int .i64 0, .int .i64 0]
  have h2 := Blk.new ((w.alloc (.cells c0 69)).alloc (.cells #[.string ⟨#[]⟩, .int .i64 0, .int .i64 0] 69)) 63 #[.int .i64 0, .slice none 0 0, .slice none 0 0, .slice none 0 0]
  rw [hk] at h1
  rw [hk2] at h2
  exact ⟨((Blk.new w 69 c0).alloc _).alloc _, h1.alloc _, h2, (((Below.refl _ w).alloc (Nat.le_refl _) _).alloc (by simp) _).alloc (by simp; omega) _⟩
theorem RG.below {w W W' : World} {c0 : Array Value} (h : RG w W c0) (hb : Below W.heap.size W W') : RG w W' c0 := ⟨h.b0.below hb, h.b1.below hb, h.b2.below hb, h.x.trans (hb.mono h.x.size)⟩
theorem RG.set {w W W' : World} {c0 c1 : Array Value} (h : RG w W c0) (hb : Blk W' w.heap.size 69 c1) (hg : W.grownBy W' (some w.heap.size)) : RG w W' c1 :=
  ⟨hb, blk_gb h.b1 hg (by omega), blk_gb h.b2 hg (by omega), h.x.grown hg h.x.size (fun k hk => by cases hk; omega)⟩
end Go.Proofs.Ythpdkdalfjahcaa

namespace Go.Proofs.Ythpdkdalfjahcaa
open Go.RowKit Go.Qc
attribute [local go_sem] txt_size txt_append ib_fold

/-- Blocks of other types stay. -/
def KpW (w w' : World) : Prop := ∀ (g : Nat) (t : TypeId) (cs : Array Value), t ≠ 5 → t ≠ 36 → Blk w g t cs → Blk w' g t cs
theorem KpW.refl (w : World) : KpW w w := fun _ _ _ _ _ h => h
theorem KpW.trans {a b c : World} (h : KpW a b) (k : KpW b c) : KpW a c := fun g t cs h1 h2 hb => k g t cs h1 h2 (h g t cs h1 h2 hb)
theorem KpW.later {w w' : World} (h : Below w.heap.size w w') : KpW w w' := fun _ _ _ _ _ hb => hb.below h
theorem KpW.row {w w' : World} {b n : Nat} {v : Value} {xs : List Value} (ho : w.ownsRow b 5 1 v n xs) (hg : w.grownBy w' v.ownBlock) : KpW w w' := fun g t cs h1 _ h => by
  refine (hg.block g h.lt ?_).trans h
  rcases ho.2 with ⟨rfl, _⟩ | ⟨g2, cap, cur, rfl, _, hgb, _⟩
  · simp [Value.ownBlock]
  · intro e'
    obtain rfl : g = g2 := by simpa [Value.ownBlock] using e'
    have := (show w.heap[g]? = _ from h).symm.trans hgb
    simp at this
    exact h1 this.2
theorem KpW.put {w : World} {b : Nat} {cs0 : Array Value} (hb : Blk w b 36 cs0) (v : Value) : KpW w (w.setCell ⟨b, 0, none⟩ v) := fun g t cs _ h2 h => by
  refine blk_gb h (gb_set (gb_refl w (some b)) 0 v) ?_
  rintro rfl
  have := (show w.heap[g]? = _ from h).symm.trans (show w.heap[g]? = _ from hb)
  simp at this
  exact h2 this.2
set_option maxRecDepth 100000 in
set_option maxHeartbeats 2000000 in
theorem wByte_any (b : Nat) (l : List UInt8) (x : UInt8) (hl : l.length ≤ 1000000000000) (w : World) (h : Wrt b l w) :
    Calls Try.prog 19 #[.pointer (some ⟨b, 0, none⟩), .int .u8 (ib x)] w fun o w' => o = .returned (.tuple #[]) ∧ Wrt b (l ++ [x]) w' ∧ Below b w w' ∧ KpW w w' := by
  obtain ⟨i0, hi, hz0, hz1, hz2⟩ := info_parts infoByte
  obtain ⟨v, hbk, hown, hne⟩ := h
  have hlt := hbk.lt
  have c0 : w.cell? ⟨b, 0, none⟩ = some v := hbk.cell_ rfl
  have hlx : ([x] : List UInt8).length = 1 := rfl
  go_enter Try.func19, Try.ntmps19
  have hnew : ∀ j u, ([x].map u8v)[j]? = some u → (w.alloc (.cells #[.int .u8 (ib x)] 5)).cell? ((⟨w.heap.size, 0, none⟩ : Addr).add j) = some u := fun j u hj => by
    rw [Addr.add_lit, Nat.zero_add, (Blk.new w 5 #[.int .u8 (ib x)]).cell]
    rw [List.getElem?_toArray]
    exact hj
  go_wp2_with (at_builtin; refine wpList_append_own2 _ rfl _ _ 34 rfl b 5 i0 (.int .u8 0) 1 1 Try.underlying34 hi hz0 hz1 hz2 rfl (by decide) _ _ _ rfl (hown.alloc _) ⟨w.heap.size, 0, none⟩ 1 1 (by decide) ([x].map u8v) rfl rfl hnew (u8v_one [x]) ?c2 ?c3 ?c4 ?_)
  case c2 => unfold maxLen; omega
  case c3 => omega
  case c4 => simp; omega
  intro v8 w8 hv8 hg8 hn8
  have hb0 : Below b w (w.alloc (.cells #[.int .u8 (ib x)] 5)) := (Below.refl _ _).alloc (Nat.le_of_lt hlt) _
  have hb8 : Below b w w8 := hb0.grown hg8 (Nat.le_trans (Nat.le_of_lt hlt) hb0.size) (fun k hk => (hown.lt k hk).1)
  have hbk8 : Blk w8 b 36 #[v] := (hg8.block b (by simp; omega) (fun e => hne e.symm)).trans (hbk.alloc _)
  have hne8 : v8.ownBlock ≠ some b := fun e => by
    rcases hn8 with h | h
    · exact hne (h.symm.trans e)
    · rw [h] at e
      have e2 := Option.some.inj e
      (try simp at e2)
      omega
  have f0 := hbk8.frozen 0
  have d0 : w8.cell? ⟨b, 0, none⟩ = some v := hbk8.cell_ rfl
  have hsl : ∃ ao n' cap, v8 = .slice ao n' cap := by
    rcases hv8.2 with ⟨hv, _⟩ | ⟨g, cap, cur, hv, _⟩
    · exact ⟨_, _, _, hv⟩
    · exact ⟨_, _, _, hv⟩
  have hset : Blk (w8.setCell ⟨b, 0, none⟩ v8) b 36 #[v8] := hbk8.set 0 v8
  have hv9 := hv8.kept (gb_set (gb_refl w8 (some b)) 0 v8) (.inr hne8)
  have hk8 : KpW w w8 := (KpW.later ((Below.refl _ w).alloc (Nat.le_refl _) (.cells #[.int .u8 (ib x)] 5))).trans (KpW.row (hown.alloc _) hg8)
  clear hnew hb0 hg8 hn8 hown hbk
  obtain ⟨ao, n', cap, rfl⟩ := hsl
  go_wp2
  go_end0
  exact ⟨rfl, ⟨_, hset, (by rw [List.length_append, List.map_append]; exact hv9), hne8⟩, hb8.setCell (p := ⟨b, 0, none⟩) (Nat.le_refl _) _, hk8.trans (KpW.put hbk8 _)⟩

set_option maxRecDepth 100000 in
set_option maxHeartbeats 4000000 in
theorem wNum_any (b : Nat) (l : List UInt8) (v : Nat) (hv : v ≤ 4611686018427387904) (hl : l.length + 100 ≤ 1000000000000) (w : World) (h : Wrt b l w) :
    Calls Try.prog 20 #[.pointer (some ⟨b, 0, none⟩), .int .i64 v] w fun o w' => o = .returned (.bool true) ∧ Wrt b (l ++ numE v) w' ∧ Below b w w' ∧ KpW w w' := by
  have v0 : ¬ (v : Int) < 0 := by omega
  have v1 : ¬ (4611686018427387904 : Int) < v := by omega
  have hbw := Nat.le_of_lt h.lt
  go_enter Try.func20, Try.ntmps20
  go_wp2
  refine wp_scope_label 0 (fun a' w' => ∃ (x : Nat) (pre : List UInt8) (u5 u6 u7 u8 u9 u10 u11 u12 u13 u14 u15 u16 u17 u18 u19 u20 u21 u22 u23 : Value), a' = { tmps := #[.pointer (some ⟨b, 0, none⟩), .int .i64 x, undef, undef, .bool false, u5, u6, u7, u8, u9, u10, u11, u12, u13, u14, u15, u16, u17, u18, u19, u20, u21, u22, u23], defers := [] } ∧ Wrt b (l ++ pre) w' ∧ pre ++ numE x = numE v ∧ x ≤ v ∧ (Below b w w' ∧ KpW w w')) (fun a' _ => (intOf (a'.tmps.getD 1 undef)).toNat) rfl (fun a' w' hJ => ?pass) (fun hrest => ?first)
  case first =>
    refine wp_seq (wp_mono (Q := fun e a' w' => e = .normal ∧ w' = w ∧ a' = { tmps := #[.pointer (some ⟨b, 0, none⟩), .int .i64 v, undef, undef, .bool false, .int .i64 v, .bool false, .bool false, .int .i64 v, .bool false, .bool false, undef, undef, undef, undef, undef, undef, undef, undef, undef, undef, undef, undef, undef], defers := [] }) ?_ ?_)
    · go_wp2
    · rintro e a' w' ⟨rfl, rfl, rfl⟩
      refine wp_seq ?_
      apply wp_label
      exact hrest _ _ ⟨v, [], _, _, _, _, _, _, _, _, _, _, _, _, _, _, _, _, _, _, _, rfl, by rw [List.append_nil]; exact h, rfl, Nat.le_refl _, Below.refl _ _, KpW.refl _⟩
  case pass =>
    obtain ⟨x, pre, u5, u6, u7, u8, u9, u10, u11, u12, u13, u14, u15, u16, u17, u18, u19, u20, u21, u22, u23, rfl, hW, hpre, hxv, hB⟩ := hJ
    have hlen : (l ++ pre).length ≤ 1000000000000 := by
      have h1 := numE_len 8 v (Nat.lt_of_le_of_lt hv (by decide))
      have h2 := congrArg List.length hpre
      rw [List.length_append] at h2 ⊢
      omega
    have HLEN := hid hlen
    have HPRE := hid hpre
    clear hlen hpre
    by_cases hx : x < 128
    · have hby := fun W h => wByte_any b (l ++ pre) (UInt8.ofNat x) HLEN.out W h
      rw [← ib_of_nat x (by omega)] at hby
      have b1 : ¬ (128 : Int) ≤ x := by omega
      have hE := numE_lt hx
      have HE := hid hE
      have HB := hid hB
      clear hE hB
      go_wp2_with (first
        | (go_at_call 19; (with_reducible refine (hby _ hW).mono ?_); rintro o1 w1 ⟨rfl, h1, h2, k2⟩))
      (try simp only [Exit.jump])
      go_ret
      exact ⟨rfl, by rw [← HPRE.out, HE.out, ← List.append_assoc]; exact h1, HB.out.1.trans h2, HB.out.2.trans k2⟩
    · have hby := fun W h => wByte_any b (l ++ pre) (UInt8.ofNat (x % 128 + 128)) HLEN.out W h
      have hor : bits .or .u8 128 ((x : Int) % 256) = ib (UInt8.ofNat (x % 128 + 128)) := by
        have := or128 (x % 256) (by omega)
        rw [show x % 256 % 128 = x % 128 by omega, Int.natCast_emod] at this
        exact this
      have b1 : (128 : Int) ≤ x := by omega
      have hE := numE_ge hx
      generalize UInt8.ofNat (x % 128 + 128) = y at *
      have HE := hid hE
      have HB := hid hB
      clear hE hB
      go_wp2_with (first
        | (go_at_call 19; (with_reducible refine (hby _ hW).mono ?_); rintro o1 w1 ⟨rfl, h1, h2, k2⟩))
      go_step3
      refine ⟨rfl, ⟨x / 128, pre ++ [y], _, _, _, _, _, _, _, _, _, _, _, _, _, _, _, _, _, _, _, rfl, by rw [← List.append_assoc]; exact h1, by rw [← HPRE.out, HE.out, List.append_assoc]; rfl, by omega, HB.out.1.trans h2, HB.out.2.trans k2⟩, ?_⟩
      simp [intOf]; omega
set_option maxRecDepth 100000 in
set_option maxHeartbeats 8000000 in
set_option linter.unusedSimpArgs false in
theorem wId_any (b : Nat) (l a : List UInt8) (ha : a.length = 32) (hl : l.length ≤ 1000000000000) (w : World) (h : Wrt b l w) :
    Calls Try.prog 22 #[.pointer (some ⟨b, 0, none⟩), .agg (idVals a)] w fun o w' => o = .returned (.tuple #[]) ∧ Wrt b (l ++ a) w' ∧ Below b w w' ∧ KpW w w' := by
  obtain ⟨i0, hi, hz0, hz1, hz2⟩ := info_parts infoByte
  have hs := fun W g => run_slice_whole (P := Try.prog) W 24 5 g 0 32 i0 Try.underlying24 hi hz1 (by decide)
  obtain ⟨v, hbk0, hown0, hne⟩ := h
  have hlt := hbk0.lt
  have hbk : Blk (w.alloc (.cells (idVals a) 24)).drew b 36 #[v] := (hbk0.alloc _).drewN 1
  have hown : (w.alloc (.cells (idVals a) 24)).drew.ownsRow b 5 1 v l.length (l.map u8v) := hown0.alloc _
  have hrg : (w.alloc (.cells (idVals a) 24)).drew.rangeAt w.heap.size 0 (a.map u8v) := (range_blk (Blk.new w 24 (idVals a))).below (below_drew1 _)
  have hnew := range_add hrg
  have c0 : (w.alloc (.cells (idVals a) 24)).drew.cell? ⟨b, 0, none⟩ = some v := hbk.cell_ rfl
  have hBW : Below b w (w.alloc (.cells (idVals a) 24)).drew := below_drewN ((Below.refl b w).alloc (Nat.le_of_lt hlt) _) 1
  have hq1 : l.length + 32 ≤ maxLen := by unfold maxLen; omega
  have hq2 : (l.length + 32) * 1 ≤ 140737488355328 := by omega
  have hq3 : b ≤ (w.alloc (.cells (idVals a) 24)).drew.heap.size := Nat.le_of_lt hbk.lt
  have hk0 : KpW w (w.alloc (.cells (idVals a) 24)).drew := KpW.later (below_drewN ((Below.refl _ w).alloc (Nat.le_refl _) _) 1)
  have HLA := hid ha
  clear hbk0 hown0 hrg ha hlt
  go_enter Try.func22, Try.ntmps22
  go_wp2_with (fail)
  refine wp_region_held_drew (S := fun _ => True) (by kernel_rfl) trivial (fun hHeld => ?_)
  generalize (w.alloc (.cells (idVals a) 24)).drew = W0 at *
  refine' wpAnyH_take (i := 0) (v := .pointer (some ⟨b, 0, none⟩)) rfl (by kernel_rfl) (by kernel_rfl) (by kernel_rfl) (fun _ _ _ h => h) (Or.inl ⟨by rfl, fun w' hw' => by go_simp⟩) hHeld ?_
  try simp only [Act.put, List.getElem_toArray, List.getElem_cons_succ, List.getElem_cons_zero, List.setIfInBounds_toArray, List.set_cons_zero, List.set_cons_succ]
  refine' wpAnyH_take (i := 1) (v := .pointer (some ⟨b, 0, none⟩)) rfl (by kernel_rfl) (by kernel_rfl) (by kernel_rfl) (fun _ _ _ h => h) (Or.inl ⟨by rfl, fun w' hw' => by go_simp⟩) hHeld ?_
  try simp only [Act.put, List.getElem_toArray, List.getElem_cons_succ, List.getElem_cons_zero, List.setIfInBounds_toArray, List.set_cons_zero, List.set_cons_succ]
  refine' wpAnyH_take (i := 2) (v := .pointer (some ⟨b, 0, none⟩)) rfl (by kernel_rfl) (by kernel_rfl) (by kernel_rfl) (fun _ _ _ h => h) (Or.inl ⟨by rfl, fun w' hw' => by go_simp⟩) hHeld ?_
  try simp only [Act.put, List.getElem_toArray, List.getElem_cons_succ, List.getElem_cons_zero, List.setIfInBounds_toArray, List.set_cons_zero, List.set_cons_succ]
  refine' wpAnyH_take (i := 3) (v := .pointer (some ⟨b, 0, none⟩)) rfl (by kernel_rfl) (by kernel_rfl) (by kernel_rfl) (fun _ _ _ h => h) (Or.inl ⟨by rfl, fun w' hw' => by go_simp⟩) hHeld ?_
  try simp only [Act.put, List.getElem_toArray, List.getElem_cons_succ, List.getElem_cons_zero, List.setIfInBounds_toArray, List.set_cons_zero, List.set_cons_succ]
  refine' wpAnyH_take (i := 5) (v := .slice (some ⟨w.heap.size, 0, none⟩) 32 32) rfl (by kernel_rfl) (by kernel_rfl) (by kernel_rfl) (fun _ _ _ h => h) (Or.inl ⟨by rfl, fun w' hw' => by have hv := hs w' w.heap.size; go_simp⟩) hHeld ?_
  try simp only [Act.put, List.getElem_toArray, List.getElem_cons_succ, List.getElem_cons_zero, List.setIfInBounds_toArray, List.set_cons_zero, List.set_cons_succ]
  refine wpAnyH_ready (rs := [4]) (by kernel_rfl) (by simp) ?_
  refine AllReadyH.cons rfl (fun K hK => ?_) AllReadyH.nil
  go_simp
  refine hK.out _ _ trivial (fun hHeld => ?_)
  clear hK K
  try simp only [Act.put, List.getElem_toArray, List.getElem_cons_succ, List.getElem_cons_zero, List.setIfInBounds_toArray, List.set_cons_zero, List.set_cons_succ]
  refine wpAnyH_ready (rs := [6]) (by kernel_rfl) (by simp) ?_
  refine AllReadyH.cons rfl (fun K hK => ?_) AllReadyH.nil
  rw [if_pos (by rfl)]
  refine wp_append_own _ _ _ 34 rfl b 5 i0 (.int .u8 0) 1 1 Try.underlying34 hi hz0 hz1 hz2 rfl (by decide) v l.length (l.map u8v) rfl hown ⟨w.heap.size, 0, none⟩ 32 32 (a.map u8v) rfl (by rw [List.length_map, HLA.out]) hnew (u8v_one a) hq1 hq2 hq3 ?_
  intro v8 w8 hv8 hg8 _
  rw [show l.length + 32 = (l ++ a).length by rw [List.length_append, HLA.out], ← List.map_append] at hv8
  have hb8 : Below b W0 w8 := (Below.refl b W0).grown hg8 hq3 (fun k hk => (hown.lt k hk).1)
  have hbk8 : Blk w8 b 36 #[v] := (hg8.block b hbk.lt (fun e => hne e.symm)).trans hbk
  have hne8 : v8.ownBlock ≠ some b := Lib.ownBlock_ne hv8 hbk8 (by decide)
  have f0 := hbk8.frozen 0
  have d0 : w8.cell? ⟨b, 0, none⟩ = some v := hbk8.cell_ rfl
  have hsl : ∃ ao n' cap, v8 = .slice ao n' cap := by
    rcases hv8.2 with ⟨hv, _⟩ | ⟨g, cap, cur, hv, _⟩
    · exact ⟨_, _, _, hv⟩
    · exact ⟨_, _, _, hv⟩
  have hset : Blk (w8.setCell ⟨b, 0, none⟩ v8) b 36 #[v8] := hbk8.set 0 v8
  have hv9 := hv8.kept (gb_set (gb_refl w8 (some b)) 0 v8) (.inr hne8)
  refine hK.out _ _ trivial (fun hHeld => ?_)
  have hk8 := hk0.trans (KpW.row hown hg8)
  clear hK K hg8 hv8
  obtain ⟨ao, n', cap, rfl⟩ := hsl
  try simp only [Act.put, List.getElem_toArray, List.getElem_cons_succ, List.getElem_cons_zero, List.setIfInBounds_toArray, List.set_cons_zero, List.set_cons_succ]
  refine' wpAnyH_take (i := 7) (v := .pointer (some ⟨b, 0, none⟩)) rfl (by kernel_rfl) (by kernel_rfl) (by kernel_rfl) (fun _ _ _ h => h) (Or.inl ⟨by rfl, fun w' hw' => by go_simp⟩) hHeld ?_
  try simp only [Act.put, List.getElem_toArray, List.getElem_cons_succ, List.getElem_cons_zero, List.setIfInBounds_toArray, List.set_cons_zero, List.set_cons_succ]
  refine' wpAnyH_take (i := 8) (v := .pointer (some ⟨b, 0, none⟩)) rfl (by kernel_rfl) (by kernel_rfl) (by kernel_rfl) (fun _ _ _ h => h) (Or.inl ⟨by rfl, fun w' hw' => by go_simp⟩) hHeld ?_
  try simp only [Act.put, List.getElem_toArray, List.getElem_cons_succ, List.getElem_cons_zero, List.setIfInBounds_toArray, List.set_cons_zero, List.set_cons_succ]
  refine wpAnyH_ready (rs := [9]) (by kernel_rfl) (by simp) ?_
  refine AllReadyH.cons rfl (fun K hK => ?_) AllReadyH.nil
  go_simp
  refine hK.out _ _ trivial (fun hHeld => ?_)
  clear hK K
  refine wpAnyH_done (by kernel_rfl) ?_ _
  go_wp2
  go_end0
  exact ⟨rfl, ⟨_, hset, hv9, hne8⟩, (hBW.trans hb8).setCell (p := ⟨b, 0, none⟩) (Nat.le_refl _) _, hk8.trans (KpW.put hbk8 _)⟩

end Go.Proofs.Ythpdkdalfjahcaa

namespace Go.Proofs.Ythpdkdalfjahcaa
open Go.RowKit Go.Qc Go.Shelf
attribute [local go_sem] txt_size txt_append ib_fold

end Go.Proofs.Ythpdkdalfjahcaa

namespace Go.Proofs.Ythpdkdalfjahcaa
open Go.RowKit Go.Qc Go.Shelf

theorem step_below {g : Nat} {s : List UInt8} {a : Nat} {e : Int} {w w' : World} (hr : Rdr g s a e w) (h : Step g s a e w w') : Below w.heap.size w w' := by
  refine ⟨h.gb.os, h.gb.tape, h.gb.output, h.gb.size, fun k hk => ?_⟩
  by_cases hkg : k = g
  · subst hkg
    exact (show w'.heap[k]? = _ from h.r).trans (show w.heap[k]? = _ from hr).symm
  · exact h.gb.block k hk (fun e => hkg (Option.some.inj e))
end Go.Proofs.Ythpdkdalfjahcaa

namespace Go.Proofs.Ythpdkdalfjahcaa
open Go.RowKit Go.Qc
attribute [local go_sem] txt_size txt_append ib_fold

set_option maxRecDepth 100000 in
set_option maxHeartbeats 4000000 in
theorem wText_any (b : Nat) (l t : List UInt8) (ht : t.length ≤ 100000000) (hl : l.length ≤ 100000000) (w : World) (h : Wrt b l w) :
    Calls Try.prog 21 #[.pointer (some ⟨b, 0, none⟩), .string (txt t)] w fun o w' => o = .returned (.tuple #[]) ∧ Wrt b (l ++ (numE t.length ++ t)) w' ∧ Below b w w' ∧ KpW w w' := by
  obtain ⟨i0, hi, hz0, hz1, hz2⟩ := info_parts infoByte
  have hnl := numE_len 8 t.length (Nat.lt_of_le_of_lt ht (by decide))
  have cN := fun W h => wNum_any b l t.length (Nat.le_trans ht (by decide)) (by omega) W h
  obtain ⟨L2, hL2⟩ : ∃ L2, L2 = l ++ numE t.length := ⟨_, rfl⟩
  have hll : L2.length ≤ 100000009 := by rw [hL2, List.length_append]; omega
  rw [← hL2] at cN
  have HL2 := hid hL2
  clear hL2 hnl
  have hbw := Nat.le_of_lt h.lt
  go_enter Try.func21, Try.ntmps21
  go_wp2_with (first
    | (go_at_call 20; (with_reducible refine (cN _ h).mono ?_); rintro o1 w1 ⟨rfl, hW, hB, hKN⟩; obtain ⟨v, hbk, hown, hne⟩ := hW; have hlt := hbk.lt; have c0 : w1.cell? ⟨b, 0, none⟩ = some v := hbk.cell_ rfl)
    | (at_builtin; refine Lib.wpList_append_own_string _ rfl _ _ 34 9 rfl b 5 i0 Try.underlying34 Try.underlying9 hi hz0 hz1 hz2 _ _ _ rfl hown (txt t) rfl ?c2 ?c3 ?c4 ?_))
  case c2 => rw [txt_size]; unfold maxLen; omega
  case c3 => rw [txt_size]; omega
  case c4 => omega
  intro v8 w8 hv8 hg8 _
  rw [strCells_txt] at hv8
  (try rw [txt_size] at hv8)
  rw [← List.length_append, ← List.map_append] at hv8
  have hb8 : Below b w1 w8 := (Below.refl b w1).grown hg8 (Nat.le_of_lt hlt) (fun k hk => (hown.lt k hk).1)
  have hbk8 : Blk w8 b 36 #[v] := (hg8.block b hlt (fun e => hne e.symm)).trans hbk
  have hne8 : v8.ownBlock ≠ some b := Lib.ownBlock_ne hv8 hbk8 (by decide)
  have f0 := hbk8.frozen 0
  have d0 : w8.cell? ⟨b, 0, none⟩ = some v := hbk8.cell_ rfl
  have hsl : ∃ ao n' cap, v8 = .slice ao n' cap := by
    rcases hv8.2 with ⟨hv, _⟩ | ⟨g, cap, cur, hv, _⟩
    · exact ⟨_, _, _, hv⟩
    · exact ⟨_, _, _, hv⟩
  have hset : Blk (w8.setCell ⟨b, 0, none⟩ v8) b 36 #[v8] := hbk8.set 0 v8
  have hv9 := hv8.kept (gb_set (gb_refl w8 (some b)) 0 v8) (.inr hne8)
  have hk8 : KpW w w8 := hKN.trans (KpW.row hown hg8)
  clear hg8 hown hbk
  obtain ⟨ao, n', cap, rfl⟩ := hsl
  go_wp2
  go_end0
  exact ⟨rfl, ⟨_, hset, (by rw [← List.append_assoc, ← HL2.out]; exact hv9), hne8⟩, (hB.trans hb8).setCell (p := ⟨b, 0, none⟩) (Nat.le_refl _) _, hk8.trans (KpW.put hbk8 _)⟩
set_option maxHeartbeats 8000000 in
theorem wTexts_any (b : Nat) (l : List UInt8) (A : Option Addr) (n c : Nat) (m : List (List UInt8)) (hm : m.length = n) (hn : n ≤ 1000) (h8 : ∀ x ∈ m, x.length ≤ 1000) (hl : l.length ≤ 10000000) (w0 w : World) (h0 : w0.heap.size ≤ b) (hw0 : Below w0.heap.size w0 w) (hr : Rd w0 A (m.map strV)) (h : Wrt b l w) :
    Calls Try.prog 25 #[.pointer (some ⟨b, 0, none⟩), .slice A n c] w fun o w' => o = .returned (.tuple #[]) ∧ Wrt b (l ++ textsE m) w' ∧ Below b w w' ∧ KpW w w' := by
  have hnl := numE_len9 n (Nat.le_trans hn (by decide))
  have cN := fun W h => wNum_any b l n (Nat.le_trans hn (by decide)) (by omega) W h
  have hWr : Calls Try.prog 67 #[.pointer (some ⟨b, 0, none⟩), .slice A n c, .func (.func 21) #[.pointer (some ⟨b, 0, none⟩)] #[]] w fun o w' => o = .returned (.tuple #[]) ∧ Wrt b (l ++ textsE m) w' ∧ Below b w w' ∧ KpW w w' := by
    have hg := enters_of Try.func21 (by kernel_rfl) rfl
    unfold textsE
    rw [hm]
    obtain ⟨L, hL⟩ : ∃ L, L = l ++ numE n := ⟨_, rfl⟩
    have hLl : L.length ≤ 10000009 := by rw [hL, List.length_append]; omega
    rw [← hL] at cN
    rw [← List.append_assoc, ← hL]
    have HM := hid hm
    have H8 := hid h8
    clear hL hnl hm h8
    go_enter Try.func67, Try.ntmps67
    go_wp2_with (first
      | (go_at_call 20; (with_reducible refine (cN _ h).mono ?_); rintro o1 w1 ⟨rfl, hW1, hB1, hK1⟩))
    go_loopw [14] (fun i wr => ∃ k : Nat, k ≤ n ∧ i = .int .i64 k ∧ Wrt b (L ++ (m.take k).flatMap textE) wr ∧ Below b w wr ∧ KpW w wr) (fun i _ => n - (intOf i).toNat)
    case atStart => exact ⟨0, by omega, rfl, by rw [List.take_zero, List.flatMap_nil, List.append_nil]; exact hW1, hB1, hK1⟩
    case round =>
      obtain ⟨k, hk, rfl, hW, hB, hKK⟩ := hrel
      clear hW1 hB1 hK1
      by_cases hlt : k < n
      · obtain ⟨p, hp⟩ : ∃ p, m[k]? = some p := ⟨_, List.getElem?_eq_getElem (by rw [HM.out]; exact hlt)⟩
        obtain ⟨ad, rfl, hcell⟩ := rd_in (hr.below (hw0.trans (hB.mono h0))) k (strV p) (by rw [List.getElem?_map, hp]; rfl)
        unfold strV at hcell
        have hp8 := H8.out p (List.mem_of_getElem? hp)
        have hfl : (L ++ (m.take k).flatMap textE).length ≤ 100000000 := by
          have := flatE_len2 (m.take k) (fun x hx => H8.out x (List.mem_of_mem_take hx))
          rw [List.length_take, HM.out] at this
          rw [List.length_append]
          omega
        have cI : ∀ W, Wrt b (L ++ (m.take k).flatMap textE) W → Calls Try.prog 21 #[.pointer (some ⟨b, 0, none⟩), .string (txt p)] W fun o w' => o = .returned (.tuple #[]) ∧ Wrt b (L ++ (m.take k).flatMap textE ++ textE p) w' ∧ Below b W w' ∧ KpW W w' := fun W h => wText_any b _ p (Nat.le_trans hp8 (by decide)) hfl W h
        have HS := hid (flatE_snoc hp)
        generalize (m.take k).flatMap textE = Q at *
        generalize textE p = T at *
        have b1 : (k : Int) < n := by omega
        clear hp hfl
        go_wp2_with (first
          | ((with_reducible refine (cI _ hW).mono ?_); rintro o4 w4 ⟨rfl, hW4, hB4, hK4⟩))
        go_roundw
        case rel => exact ⟨k + 1, hlt, by go_num, by rw [HS.out, ← List.append_assoc]; exact hW4, hB.trans hB4, hKK.trans hK4⟩
        case measure => simp [intOf]; omega
      · obtain rfl : k = n := by omega
        rw [List.take_of_length_le (by rw [HM.out]; exact Nat.le_refl _)] at hW
        have b1 : ¬ (k : Int) < k := by omega
        go_wp2
        go_end0
        exact ⟨rfl, hW, hB, hKK⟩
  clear cN
  go_enter Try.func25, Try.ntmps25
  go_wp2_with (first
    | (go_at_call 67; (with_reducible refine hWr.mono ?_); rintro o1 w1 ⟨rfl, hW1, hB1, hK1⟩))
  go_end0
  exact ⟨rfl, hW1, hB1, hK1⟩
end Go.Proofs.Ythpdkdalfjahcaa

namespace Go.Proofs.Ythpdkdalfjahcaa
open Go.RowKit Go.Qc Go.Shelf
attribute [local go_sem] txt_size txt_append ib_fold

set_option maxRecDepth 100000 in
set_option maxHeartbeats 40000000 in
theorem rGetTexts_err (s : List UInt8) (a : Nat) (e e2 most long : Int) (he : e2 ≠ 0) (w : World)
    (cC : ∀ W : World, Calls Try.prog 123 #[.agg #[.string (txt s), .int .i64 a, .int .i64 e], .int .i64 most] W fun o w' => o = .returned (.tuple #[.agg #[.string (txt s), .int .i64 a, .int .i64 e2], .int .i64 0]) ∧ Below W.heap.size W w') :
    Calls Try.prog 106 #[.agg #[.string (txt s), .int .i64 a, .int .i64 e], .int .i64 most, .int .i64 long] w fun o w' => o = .returned (.tuple #[.agg #[.string (txt s), .int .i64 a, .int .i64 e2], .slice none 0 0]) ∧ Below w.heap.size w w' := by
  have he1 : (e2 != 0) = true := by simpa using he
  have hR := RB.start w #[.string (txt s), .int .i64 a, .int .i64 e] #[.string ⟨#[]⟩, .int .i64 0, .int .i64 0]
  have hC := cC ((w.alloc (.cells #[.string (txt s), .int .i64 a, .int .i64 e] 69)).alloc (.cells #[.string ⟨#[]⟩, .int .i64 0, .int .i64 0] 69))
  go_enter Try.func106, Try.ntmps106
  go_wp2_with (first
    | (go_at_call 123; (with_reducible refine hC.mono ?_); rintro o1 w1 ⟨rfl, h1⟩; have hR1 := (hR.below h1).alloc (.cells #[.string (txt s), .int .i64 a, .int .i64 e2] 69); have k4 := Blk.new w1 69 #[.string (txt s), .int .i64 a, .int .i64 e2]))
  have hR2 := hR1.alloc (.cells #[] 9)
  have k5 := k4.alloc (.cells #[] 9)
  have hlt := (hR.below h1).b1.lt
  generalize (w1.alloc (.cells #[.string (txt s), .int .i64 a, .int .i64 e2] 69)).alloc (.cells #[] 9) = W2 at *
  clear hR hR1 k4 hC
  go_loopw [11] (fun i wr => i = .int .i64 0 ∧ wr = W2) (fun _ _ => 0)
  case atStart => exact ⟨rfl, rfl⟩
  case round =>
    obtain ⟨rfl, rfl⟩ := hrel
    have k0 := blk_c hR2.b0 0 _ rfl
    have k1 := blk_c hR2.b0 1 _ rfl
    have k2 := blk_c hR2.b0 2 _ rfl
    have c0 := blk_c k5 0 _ rfl
    have c1 := blk_c k5 1 _ rfl
    have c2 := blk_c k5 2 _ rfl
    have f1 := k5.frozen 1
    have s0 := k5.set 1 (.int .i64 (a : Int))
    have s1 := blk_gb hR2.b1 (gb_set (gb_refl wr (some w1.heap.size)) 1 (.int .i64 (a : Int))) (by omega)
    have u0 := blk_c s0 0 (.string (txt s)) rfl
    have u1 := blk_c s0 1 (.int .i64 (a : Int)) rfl
    have u2 := blk_c s0 2 (.int .i64 e2) rfl
    have hXs := hR2.x.setCell (p := ⟨w1.heap.size, 1, none⟩) (by show w.heap.size ≤ w1.heap.size; omega) (.int .i64 (a : Int))
    go_wp2_with (first
      | ((with_reducible refine wpList_store_rv rfl _ _ rfl (w.heap.size + 1) _ _ _ _ s1 rfl rfl rfl ?_); intro w9 hb9 hg9; have y0 := hb9.cell_ (i := 0) rfl; have y1 := hb9.cell_ (i := 1) rfl; have y2 := hb9.cell_ (i := 2) rfl))
    refine bodyPost_ret (v := .tuple #[.agg #[.string (txt s), .int .i64 a, .int .i64 e2], .slice none 0 0]) (by simp [results, Try.f106, go_sem, y0, y1, y2]) rfl ?_
    exact ⟨rfl, hXs.grown hg9 hXs.size (by intro k e; cases e; omega)⟩
theorem rGetTexts_old (s : List UInt8) (a : Nat) (e most long : Int) (he : e ≠ 0) (w : World) :
    Calls Try.prog 106 #[rv s a e, .int .i64 most, .int .i64 long] w fun o w' => o = .returned (.tuple #[rv s a e, .slice none 0 0]) ∧ Below w.heap.size w w' :=
  rGetTexts_err s a e e most long he w (fun W => rcount_old s a e most he W)
theorem own_rdrS {W W' : World} {base n g : Nat} {v : Value} {xs : List Value} {cs : Array Value} (h : W.ownsRow base 9 1 v n xs) (hb : Blk W g 69 cs) (hg : W.grownBy W' (some g)) : W'.ownsRow base 9 1 v n xs := by
  refine h.kept hg ?_
  rcases h.2 with ⟨rfl, _⟩ | ⟨g2, cap, cur, rfl, _, h2, _⟩
  · exact .inl rfl
  · right
    intro e
    obtain rfl : g2 = g := by simpa [Value.ownBlock] using e
    have := h2.symm.trans (show W.heap[g2]? = _ from hb)
    simp at this
theorem RB.apartS {w W W' : World} {c0 c1 : Array Value} {base n : Nat} {v : Value} {xs : List Value} (h : RB w W c0 c1) (hr : W.ownsRow base 9 1 v n xs) (hbase : w.heap.size ≤ base) (hg : W.grownBy W' v.ownBlock) : RB w W' c0 c1 :=
  ⟨blk_apart h.b0 hr (by decide) hg, blk_apart h.b1 hr (by decide) hg, h.x.grown hg h.x.size (fun k hk => Nat.le_trans hbase (hr.lt k hk).1)⟩
def TsPost (s : List UInt8) (a : Nat) (w : World) (r : Except Int (List (List UInt8) × Nat)) (o : Ending) (w' : World) : Prop :=
  match r with
  | .ok (L, n) => ∃ v, o = .returned (.tuple #[rv s (a + n) 0, v]) ∧ w'.ownsRow w.heap.size 9 1 v L.length (L.map strV) ∧ a + n ≤ s.length ∧ Below w.heap.size w w'
  | .error e => o = .returned (.tuple #[rv s a e, .slice none 0 0]) ∧ e ≠ 0 ∧ Below w.heap.size w w'
end Go.Proofs.Ythpdkdalfjahcaa

namespace Go.Proofs.Ythpdkdalfjahcaa
open Go.RowKit Go.Qc Go.Shelf
attribute [local go_sem] txt_size txt_append ib_fold

theorem str_new (W : World) (v : Value) : ∀ j u, [v][j]? = some u → (W.alloc (.cells #[v] 9)).cell? ((⟨W.heap.size, 0, none⟩ : Addr).add j) = some u := fun j u hj => by
  rw [Addr.add_lit, Nat.zero_add, (Blk.new W 9 #[v]).cell]
  rw [List.getElem?_toArray]
  exact hj
theorem textR_err {long : Int} {l : List UInt8} {e : Int} (h : textR long l = .error e) : e ≠ 0 := by
  unfold textR at h
  cases hc : cntN long l with
  | error e2 => rw [hc] at h; simp only at h; injection h with h; subst h; exact cntN_err _ _ _ hc
  | ok p => rw [hc] at h; simp only at h; split at h <;> first | (cases h; done) | (injection h with h; subst h; decide)
theorem blk_apartS {W W' : World} {g base n size : Nat} {t e : TypeId} {cs : Array Value} {v : Value} {xs : List Value} (h : Blk W g t cs) (hr : W.ownsRow base e size v n xs) (hte : t ≠ e) (hg : W.grownBy W' v.ownBlock) : Blk W' g t cs := by
  refine (hg.block g h.lt ?_).trans h
  rcases hr.2 with ⟨rfl, _⟩ | ⟨g2, cap, cur, rfl, _, hgb, _⟩
  · simp [Value.ownBlock]
  · intro e'
    obtain rfl : g = g2 := by simpa [Value.ownBlock] using e'
    have := (show W.heap[g]? = _ from h).symm.trans hgb
    simp at this
    exact hte this.2
set_option maxRecDepth 100000 in
set_option maxHeartbeats 40000000 in
theorem rGetTexts_go (s : List UInt8) (a k n B0 : Nat) (hB0 : B0 = a + k) (most long : Int) (hs : s.length ≤ 1000000000000) (hka : a + k ≤ s.length) (w : World)
    (cC : ∀ W : World, Calls Try.prog 123 #[.agg #[.string (txt s), .int .i64 a, .int .i64 0], .int .i64 most] W fun o w' => o = .returned (.tuple #[.agg #[.string (txt s), .int .i64 B0, .int .i64 0], .int .i64 n]) ∧ Below W.heap.size W w') :
    Calls Try.prog 106 #[.agg #[.string (txt s), .int .i64 a, .int .i64 0], .int .i64 most, .int .i64 long] w fun o w' => TsPost s a w (leftR [] k (rowR (textR long) n (s.drop (a + k)))) o w' := by
  obtain ⟨j0, hj, hjz, hjs, hjb⟩ := info_parts infoStr
  obtain ⟨R0, hR0⟩ : ∃ R0, R0 = leftR [] k (rowR (textR long) n (s.drop (a + k))) := ⟨_, rfl⟩
  rw [← hR0]
  have HR0 := hid hR0
  have HB0 := hid hB0
  clear hR0 hB0
  have hR := RB.start w #[.string (txt s), .int .i64 a, .int .i64 0] #[.string ⟨#[]⟩, .int .i64 0, .int .i64 0]
  have hC := cC ((w.alloc (.cells #[.string (txt s), .int .i64 a, .int .i64 0] 69)).alloc (.cells #[.string ⟨#[]⟩, .int .i64 0, .int .i64 0] 69))
  go_enter Try.func106, Try.ntmps106
  go_wp2_with (first
    | (go_at_call 123; (with_reducible refine hC.mono ?_); rintro o1 w1 ⟨rfl, h1⟩; have hR1 := (hR.below h1).alloc (.cells #[.string (txt s), .int .i64 B0, .int .i64 0] 69); have k4 := Blk.new w1 69 #[.string (txt s), .int .i64 B0, .int .i64 0]))
  have hR2 := hR1.alloc (.cells #[] 9)
  have k5 := k4.alloc (.cells #[] 9)
  have hlt := (hR.below h1).b1.lt
  have hsz1 : (w1.alloc (.cells #[.string (txt s), .int .i64 B0, .int .i64 0] 69)).heap.size = w1.heap.size + 1 := by simp
  have hown0 : ((w1.alloc (.cells #[.string (txt s), .int .i64 B0, .int .i64 0] 69)).alloc (.cells #[] 9)).ownsRow w.heap.size 9 1 (.slice (some ⟨w1.heap.size + 1, 0, none⟩) 0 0) 0 [] := by
    have := World.ownsRow_made (base := w.heap.size) (e := 9) (size := 1) (w1.alloc (.cells #[.string (txt s), .int .i64 B0, .int .i64 0] 69)) #[] 0 (by rw [hsz1]; omega) (by decide) rfl
    rwa [hsz1] at this
  generalize (w1.alloc (.cells #[.string (txt s), .int .i64 B0, .int .i64 0] 69)).alloc (.cells #[] 9) = W2 at *
  clear hR hR1 k4 hC hsz1 h1 cC
  go_loopw [10, 11] (fun v i wr => ∃ (c p q : Nat) (ex : Int) (xs : List (List UInt8)), c ≤ n ∧ i = .int .i64 c ∧ Hid (xs.length = c ∧ c ≤ 1000000000001) ∧ Hid (wr.ownsRow w.heap.size 9 1 v c (xs.map strV)) ∧ Hid (Blk wr w1.heap.size 69 #[.string (txt s), .int .i64 q, .int .i64 ex]) ∧ Hid (RB w wr #[.string (txt s), .int .i64 a, .int .i64 0] #[.string ⟨#[]⟩, .int .i64 0, .int .i64 0]) ∧ ((ex = 0 ∧ Hid (q = a + p ∧ c ≤ p ∧ a + p ≤ s.length ∧ R0 = leftR xs p (rowR (textR long) (n - c) (s.drop (a + p))))) ∨ (ex ≠ 0 ∧ Hid (R0 = .error ex)))) (fun _ i _ => n - (intOf i).toNat)
  case atStart => exact ⟨0, k, B0, 0, [], Nat.zero_le _, rfl, hid ⟨rfl, by decide⟩, hid hown0, hid k5, hid hR2, .inl ⟨rfl, hid ⟨HB0.out, Nat.zero_le _, hka, HR0.out⟩⟩⟩
  case round =>
    obtain ⟨c, p, q, ex, xs, hcn, rfl, HX, HO, HK, HRB, hcase⟩ := hrel
    clear hR2 k5 hown0 HR0
    have b6 := HK.out
    have bR := HRB.out
    have d0 := blk_c b6 0 _ rfl
    have d1 := blk_c b6 1 _ rfl
    have d2 := blk_c b6 2 _ rfl
    rcases hcase with ⟨rfl, HQ⟩ | ⟨hex, HE⟩
    · by_cases hlc : c < n
      · have z1 : (c : Int) < n := by omega
        obtain ⟨hq, hp, hap, hRR⟩ := HQ.out
        have hnc : n - c = (n - (c + 1)) + 1 := by omega
        rw [hnc] at hRR
        have cG : ∃ (q2 : Nat) (e2 : Int) (Y : List UInt8) (m : Nat), (∀ W : World, Calls Try.prog 105 #[.agg #[.string (txt s), .int .i64 q, .int .i64 0], .int .i64 long] W fun o w' => o = .returned (.tuple #[.agg #[.string (txt s), .int .i64 q2, .int .i64 e2], .string (txt Y)]) ∧ Below W.heap.size W w') ∧ 1 ≤ m ∧ ((e2 = 0 ∧ q2 = a + (p + m) ∧ a + (p + m) ≤ s.length ∧ R0 = leftR (xs ++ [Y]) (p + m) (rowR (textR long) (n - (c + 1)) (s.drop (a + (p + m))))) ∨ (e2 ≠ 0 ∧ R0 = .error e2)) := by
          have cS := fun W => rGetText_any s q long hs (by omega) W
          have hdq : s.drop q = s.drop (a + p) := by rw [hq]
          rw [hdq] at cS
          cases hi : textR long (s.drop (a + p)) with
          | ok z =>
            obtain ⟨X, m⟩ := z
            rw [hi] at cS
            have hstep := leftR_step (textR long) (n - (c + 1)) xs p m X _ hi
            rw [List.drop_drop] at hstep
            rw [hstep] at hRR
            obtain ⟨hm1, hm2⟩ := textR_len hi hap
            exact ⟨q + m, 0, X, m, fun W => cS W, hm1, .inl ⟨rfl, by omega, by omega, by rw [← Nat.add_assoc]; exact hRR⟩⟩
          | error e =>
            rw [hi] at cS
            rw [leftR_bad (textR long) _ xs p e _ hi] at hRR
            exact ⟨q, e, [], 1, fun W => (cS W).mono (by rintro o w' ⟨h1, _, h2⟩; exact ⟨h1, h2⟩), Nat.le_refl _, .inr ⟨textR_err hi, hRR⟩⟩
        obtain ⟨q2, e2, Y, m, cG, hm1, hend⟩ := cG
        have HEND := hid hend
        have HM1 := hid hm1
        have hc40 : c + 1 ≤ 1000000000001 := by omega
        have hown := HO.out
        clear hm1
        clear hRR hend hp hap hnc hq
        go_wp2_with (first
          | (go_at_call 105; (with_reducible refine (cG _).mono ?_); rintro o2 w2 ⟨rfl, h2⟩; have b62 := (b6.below h2).alloc (.cells #[.string (txt s), .int .i64 q2, .int .i64 e2] 69); have bR2 := (bR.below h2).alloc (.cells #[.string (txt s), .int .i64 q2, .int .i64 e2] 69); have hown2 := (own_below hown h2).alloc (.cells #[.string (txt s), .int .i64 q2, .int .i64 e2] 69); have hlt2 := (b6.below h2).lt)
          | ((with_reducible refine wpList_store_rv rfl _ _ rfl w1.heap.size _ _ _ _ b62 rfl rfl rfl ?_); intro w4 b64 hg4; have bR4 := bR2.other hg4 hlt; have hown4 := own_rdrS hown2 b62 hg4)
          | (at_builtin; refine wpList_append_own _ rfl _ _ 32 rfl w.heap.size 9 j0 (.string ⟨#[]⟩) 1 16 Try.underlying32 hj hjz hjs hjb rfl (by decide) _ _ _ rfl (hown4.alloc _) ⟨w4.heap.size, 0, none⟩ 1 1 [.string (txt Y)] rfl ?l1 (str_new w4 (.string (txt Y))) ?l0 ?l2 ?l3 ?l4 ?_))
        try case l0 => simp [Value.oneCell']
        try case l1 => rfl
        try case l2 => unfold maxLen; omega
        try case l3 => omega
        try case l4 => (try simp); have := bR4.x.size; omega
        intro v8 w8 hown8 hg8 _
        have b68 := blk_apartS (b64.alloc (.cells #[.string (txt Y)] 9)) (hown4.alloc (.cells #[.string (txt Y)] 9)) (by decide) hg8
        have bR8 := (bR4.alloc (.cells #[.string (txt Y)] 9)).apartS (hown4.alloc (.cells #[.string (txt Y)] 9)) (Nat.le_refl _) hg8
        clear hg8
        go_wp2
        go_roundw
        case rel =>
          rcases HEND.out with ⟨he0, h5, h6, h7⟩ | ⟨he0, h5⟩
          · exact ⟨c + 1, p + m, q2, e2, xs ++ [Y], hlc, by go_num, hid ⟨by rw [List.length_append, HX.out.1]; rfl, hc40⟩, hid (by rw [List.map_append]; exact hown8), hid b68, hid bR8, .inl ⟨he0, hid ⟨h5, by have := HQ.out.2.1; have := HM1.out; omega, h6, h7⟩⟩⟩
          · exact ⟨c + 1, p + m, q2, e2, xs ++ [Y], hlc, by go_num, hid ⟨by rw [List.length_append, HX.out.1]; rfl, hc40⟩, hid (by rw [List.map_append]; exact hown8), hid b68, hid bR8, .inr ⟨he0, hid h5⟩⟩
        case measure => simp [intOf]; omega
      · obtain rfl : c = n := by omega
        have z1 : ¬ (c : Int) < c := by omega
        obtain ⟨hq, hp, hap, hRR⟩ := HQ.out
        rw [Nat.sub_self, rowR] at hRR
        have HRR := hid hRR
        have HQQ := hid hq
        have HAP := hid hap
        have hb1 := bR.b1
        have hBX := bR.x
        clear hRR hq hp hap
        go_wp2_with (first
          | ((with_reducible refine wpList_store_rv rfl _ _ rfl (w.heap.size + 1) _ _ _ _ hb1 rfl rfl rfl ?_); intro w9 hb9 hg9; have y0 := hb9.cell_ (i := 0) rfl; have y1 := hb9.cell_ (i := 1) rfl; have y2 := hb9.cell_ (i := 2) rfl))
        refine bodyPost_ret (v := .tuple #[.agg #[.string (txt s), .int .i64 q, .int .i64 0], u10]) (by simp [results, Try.f106, go_sem, y0, y1, y2]) rfl ?_
        rw [HRR.out]
        refine ⟨u10, by rw [HQQ.out]; rfl, ?_, by simpa using HAP.out, hBX.grown hg9 hBX.size (by intro k e; cases e; omega)⟩
        have := own_rdrS HO.out hb1 hg9
        rw [List.append_nil, HX.out.1]
        exact this
    · have hex1 : (ex != 0) = true := by simpa using hex
      have hex2 : (ex == 0) = false := by simpa using hex
      have k0 := blk_c bR.b0 0 _ rfl
      have k1 := blk_c bR.b0 1 _ rfl
      have k2 := blk_c bR.b0 2 _ rfl
      have f1 := b6.frozen 1
      have s0 := b6.set 1 (.int .i64 (a : Int))
      have s1 := blk_gb bR.b1 (gb_set (gb_refl wr (some w1.heap.size)) 1 (.int .i64 (a : Int))) (by omega)
      have u0 := blk_c s0 0 (.string (txt s)) rfl
      have u1 := blk_c s0 1 (.int .i64 (a : Int)) rfl
      have u2 := blk_c s0 2 (.int .i64 ex) rfl
      have hXs := bR.x.setCell (p := ⟨w1.heap.size, 1, none⟩) (by show w.heap.size ≤ w1.heap.size; omega) (.int .i64 (a : Int))
      by_cases hlc : c < n
      all_goals
        first | (have z1 : (c : Int) < n := by omega) | (have z1 : ¬ (c : Int) < n := by omega)
        go_wp2_with (first
          | ((with_reducible refine wpList_store_rv rfl _ _ rfl (w.heap.size + 1) _ _ _ _ s1 rfl rfl rfl ?_); intro w9 hb9 hg9; have y0 := hb9.cell_ (i := 0) rfl; have y1 := hb9.cell_ (i := 1) rfl; have y2 := hb9.cell_ (i := 2) rfl))
        refine bodyPost_ret (v := .tuple #[.agg #[.string (txt s), .int .i64 a, .int .i64 ex], .slice none 0 0]) (by simp [results, Try.f106, go_sem, y0, y1, y2]) rfl ?_
        rw [HE.out]
        exact ⟨rfl, hex, hXs.grown hg9 hXs.size (by intro k e; cases e; omega)⟩
theorem rGetTexts_any (s : List UInt8) (a : Nat) (most long : Int) (hs : s.length ≤ 1000000000000) (ha : a ≤ s.length) (w : World) :
    Calls Try.prog 106 #[rv s a 0, .int .i64 most, .int .i64 long] w fun o w' => TsPost s a w (rowsR (textR long) most (s.drop a)) o w' := by
  have cC := fun W => rcount_any s a most hs ha W
  cases hc : cntN most (s.drop a) with
  | error e =>
    rw [hc] at cC
    rw [rowsR_bad _ _ _ _ hc]
    have he := cntN_err _ _ _ hc
    refine (rGetTexts_err s a 0 e most long he w (fun W => (cC W).mono (by rintro o w' ⟨h1, _, h2⟩; exact ⟨h1, h2⟩))).mono ?_
    rintro o w' ⟨h1, h2⟩
    exact ⟨h1, he, h2⟩
  | ok p =>
    obtain ⟨v, n⟩ := p
    rw [hc] at cC
    rw [rowsR_ok _ _ _ _ _ hc, List.drop_drop]
    have hka : a + n ≤ s.length := by
      unfold cntN at hc
      cases hs2 : scanN 0 0 (s.drop a) with
      | ok pr =>
        obtain ⟨v2, n2⟩ := pr
        rw [hs2] at hc
        simp only at hc
        split at hc
        · cases hc
        · injection hc with e1
          injection e1 with e2 e3
          rw [← e3]
          exact scanN_len s a v2 n2 hs2 ha
      | error e => rw [hs2] at hc; cases hc
    exact rGetTexts_go s a n v (a + n) rfl most long hs hka w cC
end Go.Proofs.Ythpdkdalfjahcaa

namespace Go.Proofs.Ythpdkdalfjahcaa
open Go.RowKit Go.Qc Go.Shelf
attribute [local go_sem] txt_size txt_append ib_fold

set_option maxHeartbeats 4000000 in
theorem pkText_old (g : Nat) (s : List UInt8) (a : Nat) (e most : Int) (he : e ≠ 0) (w : World) (hr : Rdr g s a e w) :
    Calls Try.prog 36 #[.pointer (some ⟨g, 0, none⟩), .int .i64 most] w fun o w' => o = .returned (.string ⟨#[]⟩) ∧ Step g s a e w w' := by
  have hne : (e != 0) = true := by simpa using he
  have hk : (w.alloc (.cells #[.pointer (some ⟨g, 0, none⟩)] 51)).heap.size = w.heap.size + 1 := by simp
  have b1 := (Blk.new w 51 #[.pointer (some ⟨g, 0, none⟩)]).alloc (.cells #[.int .i64 most] 3)
  have hr2 : Rdr g s a e ((w.alloc (.cells #[.pointer (some ⟨g, 0, none⟩)] 51)).alloc (.cells #[.int .i64 most] 3)) := (Blk.alloc hr _).alloc _
  have hB : Below w.heap.size w ((w.alloc (.cells #[.pointer (some ⟨g, 0, none⟩)] 51)).alloc (.cells #[.int .i64 most] 3)) := ((Below.refl _ w).alloc (Nat.le_refl _) _).alloc (by simp) _
  have hst : Step g s a e w ((w.alloc (.cells #[.pointer (some ⟨g, 0, none⟩)] 51)).alloc (.cells #[.int .i64 most] 3)) := (Step.same hr).below hB
  have cR : Calls Try.prog 73 #[.pointer (some ⟨g, 0, none⟩), .func (.func 74) #[] #[.pointer (some ⟨w.heap.size, 0, none⟩), .pointer (some ⟨w.heap.size + 1, 0, none⟩)]] ((w.alloc (.cells #[.pointer (some ⟨g, 0, none⟩)] 51)).alloc (.cells #[.int .i64 most] 3)) fun o w' => o = .returned (.string ⟨#[]⟩) ∧ Step g s a e ((w.alloc (.cells #[.pointer (some ⟨g, 0, none⟩)] 51)).alloc (.cells #[.int .i64 most] 3)) w' := by
    generalize (w.alloc (.cells #[.pointer (some ⟨g, 0, none⟩)] 51)).alloc (.cells #[.int .i64 most] 3) = W at *
    have c2 := hr2.c2
    go_enter Try.func73, Try.ntmps73
    go_wp2
    go_ret
    exact ⟨rfl, Step.same hr2⟩
  have e1 : ((w.alloc (.cells #[.pointer (some ⟨g, 0, none⟩)] 51)).alloc (.cells #[.int .i64 most] 3)).cell? ⟨w.heap.size, 0, none⟩ = some (.pointer (some ⟨g, 0, none⟩)) := b1.cell_ rfl
  clear b1 hr2 hk hB
  go_enter Try.func36, Try.ntmps36
  go_wp2_with (first
    | (go_at_call 73; (with_reducible refine cR.mono ?_); rintro o1 w1 ⟨rfl, h1⟩))
  go_ret
  exact ⟨rfl, hst.trans h1⟩
set_option maxHeartbeats 4000000 in
theorem pkTexts_old (g : Nat) (s : List UInt8) (a : Nat) (e most long : Int) (he : e ≠ 0) (w : World) (hr : Rdr g s a e w) :
    Calls Try.prog 41 #[.pointer (some ⟨g, 0, none⟩), .int .i64 most, .int .i64 long] w fun o w' => o = .returned (.slice none 0 0) ∧ Step g s a e w w' := by
  have hne : (e != 0) = true := by simpa using he
  have hk : (w.alloc (.cells #[.pointer (some ⟨g, 0, none⟩)] 51)).heap.size = w.heap.size + 1 := by simp
  have b1 := ((Blk.new w 51 #[.pointer (some ⟨g, 0, none⟩)]).alloc (.cells #[.int .i64 most] 3)).alloc (.cells #[.int .i64 long] 3)
  have hr2 : Rdr g s a e (((w.alloc (.cells #[.pointer (some ⟨g, 0, none⟩)] 51)).alloc (.cells #[.int .i64 most] 3)).alloc (.cells #[.int .i64 long] 3)) := ((Blk.alloc hr _).alloc _).alloc _
  have hB : Below w.heap.size w (((w.alloc (.cells #[.pointer (some ⟨g, 0, none⟩)] 51)).alloc (.cells #[.int .i64 most] 3)).alloc (.cells #[.int .i64 long] 3)) := (((Below.refl _ w).alloc (Nat.le_refl _) _).alloc (by simp) _).alloc (by simp; omega) _
  have hst : Step g s a e w (((w.alloc (.cells #[.pointer (some ⟨g, 0, none⟩)] 51)).alloc (.cells #[.int .i64 most] 3)).alloc (.cells #[.int .i64 long] 3)) := (Step.same hr).below hB
  have cR : Calls Try.prog 85 #[.pointer (some ⟨g, 0, none⟩), .func (.func 86) #[] #[.pointer (some ⟨w.heap.size, 0, none⟩), .pointer (some ⟨w.heap.size + 1, 0, none⟩), .pointer (some ⟨w.heap.size + 1 + 1, 0, none⟩)]] (((w.alloc (.cells #[.pointer (some ⟨g, 0, none⟩)] 51)).alloc (.cells #[.int .i64 most] 3)).alloc (.cells #[.int .i64 long] 3)) fun o w' => o = .returned (.slice none 0 0) ∧ Step g s a e (((w.alloc (.cells #[.pointer (some ⟨g, 0, none⟩)] 51)).alloc (.cells #[.int .i64 most] 3)).alloc (.cells #[.int .i64 long] 3)) w' := by
    generalize ((w.alloc (.cells #[.pointer (some ⟨g, 0, none⟩)] 51)).alloc (.cells #[.int .i64 most] 3)).alloc (.cells #[.int .i64 long] 3) = W at *
    have c2 := hr2.c2
    go_enter Try.func85, Try.ntmps85
    go_wp2
    go_ret
    exact ⟨rfl, Step.same hr2⟩
  have e1 : (((w.alloc (.cells #[.pointer (some ⟨g, 0, none⟩)] 51)).alloc (.cells #[.int .i64 most] 3)).alloc (.cells #[.int .i64 long] 3)).cell? ⟨w.heap.size, 0, none⟩ = some (.pointer (some ⟨g, 0, none⟩)) := b1.cell_ rfl
  clear b1 hr2 hk hB
  go_enter Try.func41, Try.ntmps41
  go_wp2_with (first
    | (go_at_call 85; (with_reducible refine cR.mono ?_); rintro o1 w1 ⟨rfl, h1⟩))
  go_ret
  exact ⟨rfl, hst.trans h1⟩
/-- Where a reader is, and what is wrong, behind a text, a row of texts; what is read. -/
def stT (most : Int) (s : List UInt8) (a : Nat) (e : Int) : Nat × Int := if e = 0 then (match textR most (s.drop a) with | .ok (_, n) => (a + n, 0) | .error e' => (a, e')) else (a, e)
def vaT (most : Int) (s : List UInt8) (a : Nat) (e : Int) : List UInt8 := if e = 0 then (match textR most (s.drop a) with | .ok (v, _) => v | .error _ => []) else []
def stX (most long : Int) (s : List UInt8) (a : Nat) (e : Int) : Nat × Int := if e = 0 then (match rowsR (textR long) most (s.drop a) with | .ok (_, n) => (a + n, 0) | .error e' => (a, e')) else (a, e)
def vaX (most long : Int) (s : List UInt8) (a : Nat) (e : Int) : List (List UInt8) := if e = 0 then (match rowsR (textR long) most (s.drop a) with | .ok (L, _) => L | .error _ => []) else []
theorem stT_le (most : Int) (s : List UInt8) (a : Nat) (e : Int) (ha : a ≤ s.length) : (stT most s a e).1 ≤ s.length := by
  unfold stT
  split
  · cases h : textR most (s.drop a) with
    | ok p => exact (textR_len h ha).2
    | error e => exact ha
  · exact ha
theorem pkTextT (g : Nat) (s : List UInt8) (a : Nat) (e most : Int) (hs : s.length ≤ 1000000000000) (ha : a ≤ s.length) (w : World) (hr : Rdr g s a e w) :
    Calls Try.prog 36 #[.pointer (some ⟨g, 0, none⟩), .int .i64 most] w fun o w' => o = .returned (.string (txt (vaT most s a e))) ∧ Step g s (stT most s a e).1 (stT most s a e).2 w w' := by
  unfold vaT stT
  by_cases he : e = 0
  · subst he
    rw [if_pos rfl, if_pos rfl]
    have := pkText_any g s a most hs ha w hr
    cases h : textR most (s.drop a) with
    | ok p => rw [h] at this; exact this
    | error e => rw [h] at this; exact this.mono (by rintro o w' ⟨h1, _, h2⟩; exact ⟨h1, h2⟩)
  · rw [if_neg he, if_neg he]
    exact pkText_old g s a e most he w hr
theorem pkTextsT (g : Nat) (s : List UInt8) (a : Nat) (e most long : Int) (hs : s.length ≤ 1000000000000) (ha : a ≤ s.length) (w : World) (hr : Rdr g s a e w) :
    Calls Try.prog 41 #[.pointer (some ⟨g, 0, none⟩), .int .i64 most, .int .i64 long] w fun o w' => ∃ v, o = .returned v ∧ w'.ownsRow w.heap.size 9 1 v (vaX most long s a e).length ((vaX most long s a e).map strV) ∧ (stX most long s a e).1 ≤ s.length ∧ Step g s (stX most long s a e).1 (stX most long s a e).2 w w' := by
  unfold vaX stX
  by_cases he : e = 0
  · subst he
    rw [if_pos rfl, if_pos rfl]
    have := pkTextsR_any g s a most long hs ha w hr
    cases h : rowsR (textR long) most (s.drop a) with
    | ok p => rw [h] at this; exact this
    | error e => rw [h] at this; exact this.mono (by rintro o w' ⟨h1, _, h2⟩; exact ⟨_, h1, World.ownsRow_nil _ _ _ _, ha, h2⟩)
  · rw [if_neg he, if_neg he]
    exact (pkTexts_old g s a e most long he w hr).mono (by rintro o w' ⟨h1, h2⟩; exact ⟨_, h1, World.ownsRow_nil _ _ _ _, ha, h2⟩)
theorem rGetTextT (s : List UInt8) (a : Nat) (e most : Int) (hs : s.length ≤ 1000000000000) (ha : a ≤ s.length) (w : World) :
    Calls Try.prog 105 #[rv s a e, .int .i64 most] w fun o w' => o = .returned (.tuple #[rv s (stT most s a e).1 (stT most s a e).2, .string (txt (vaT most s a e))]) ∧ Below w.heap.size w w' := by
  unfold vaT stT
  by_cases he : e = 0
  · subst he
    rw [if_pos rfl, if_pos rfl]
    have := rGetText_any s a most hs ha w
    cases h : textR most (s.drop a) with
    | ok p => rw [h] at this; exact this
    | error e => rw [h] at this; exact this.mono (by rintro o w' ⟨h1, _, h2⟩; exact ⟨h1, h2⟩)
  · rw [if_neg he, if_neg he]
    exact rGetText_old s a e most he w
theorem rGetTextsT (s : List UInt8) (a : Nat) (e most long : Int) (hs : s.length ≤ 1000000000000) (ha : a ≤ s.length) (w : World) :
    Calls Try.prog 106 #[rv s a e, .int .i64 most, .int .i64 long] w fun o w' => ∃ v, o = .returned (.tuple #[rv s (stX most long s a e).1 (stX most long s a e).2, v]) ∧ w'.ownsRow w.heap.size 9 1 v (vaX most long s a e).length ((vaX most long s a e).map strV) ∧ (stX most long s a e).1 ≤ s.length ∧ Below w.heap.size w w' := by
  unfold vaX stX
  by_cases he : e = 0
  · subst he
    rw [if_pos rfl, if_pos rfl]
    have := rGetTexts_any s a most long hs ha w
    cases h : rowsR (textR long) most (s.drop a) with
    | ok p => rw [h] at this; exact this
    | error e => rw [h] at this; exact this.mono (by rintro o w' ⟨h1, _, h2⟩; exact ⟨_, h1, World.ownsRow_nil _ _ _ _, ha, h2⟩)
  · rw [if_neg he, if_neg he]
    exact (rGetTexts_old s a e most long he w).mono (by rintro o w' ⟨h1, h2⟩; exact ⟨_, h1, World.ownsRow_nil _ _ _ _, ha, h2⟩)
end Go.Proofs.Ythpdkdalfjahcaa

namespace Go.Proofs.Ythpdkdalfjahcaa
open Go.RowKit Go.Qc Go.Shelf
attribute [local go_sem] txt_size txt_append ib_fold

set_option maxHeartbeats 4000000 in
theorem pkByte_old (g : Nat) (s : List UInt8) (a : Nat) (e : Int) (he : e ≠ 0) (w : World) (hr : Rdr g s a e w) :
    Calls Try.prog 34 #[.pointer (some ⟨g, 0, none⟩)] w fun o w' => o = .returned (.int .u8 0) ∧ Step g s a e w w' := by
  have hg := enters_of Try.func70 (by kernel_rfl) rfl
  have c2 := hr.c2
  have hne : (e != 0) = true := by simpa using he
  have cR : Calls Try.prog 69 #[.pointer (some ⟨g, 0, none⟩), .func (.func 70) #[.pointer (some ⟨g, 0, none⟩)] #[]] w fun o w' => o = .returned (.int .u8 0) ∧ Step g s a e w w' := by
    go_enter Try.func69, Try.ntmps69
    go_wp2
    go_ret
    exact ⟨rfl, Step.same hr⟩
  go_enter Try.func34, Try.ntmps34
  go_wp2_with (first
    | (go_at_call 69; (with_reducible refine cR.mono ?_); rintro o1 w1 ⟨rfl, h1⟩))
  go_ret
  exact ⟨rfl, h1⟩
def stB (s : List UInt8) (a : Nat) (e : Int) : Nat × Int := if e = 0 then (match byteR (s.drop a) with | .ok (_, n) => (a + n, 0) | .error e' => (a, e')) else (a, e)
def vaB (s : List UInt8) (a : Nat) (e : Int) : UInt8 := if e = 0 then (match byteR (s.drop a) with | .ok (v, _) => v | .error _ => 0) else 0
theorem pkByteT (g : Nat) (s : List UInt8) (a : Nat) (e : Int) (hs : s.length ≤ 1000000000000) (ha : a ≤ s.length) (w : World) (hr : Rdr g s a e w) :
    Calls Try.prog 34 #[.pointer (some ⟨g, 0, none⟩)] w fun o w' => o = .returned (u8v (vaB s a e)) ∧ Step g s (stB s a e).1 (stB s a e).2 w w' := by
  unfold vaB stB
  by_cases he : e = 0
  · subst he
    rw [if_pos rfl, if_pos rfl]
    have := pkByteR_any g s a hs ha w hr
    cases h : byteR (s.drop a) with
    | ok p => rw [h] at this; exact this
    | error e => rw [h] at this; exact this.mono (by rintro o w' ⟨h1, _, h2⟩; exact ⟨h1, h2⟩)
  · rw [if_neg he, if_neg he]
    exact pkByte_old g s a e he w hr
end Go.Proofs.Ythpdkdalfjahcaa

namespace Go.Proofs.Ythpdkdalfjahcaa
open Go.RowKit Go.Qc Go.Shelf
attribute [local go_sem] txt_size txt_append ib_fold

set_option maxHeartbeats 4000000 in
theorem rByte_old (s : List UInt8) (a : Nat) (e : Int) (he : e ≠ 0) (w : World) :
    Calls Try.prog 103 #[rv s a e] w fun o w' => o = .returned (.tuple #[rv s a e, .int .i64 0]) ∧ Below w.heap.size w w' := by
  unfold rv
  have h1 : (e != 0) = true := by simpa using he
  have hB : Below w.heap.size w ((w.alloc (.cells #[.string (txt s), .int .i64 a, .int .i64 e] 69)).alloc (.cells #[.string (txt s), .int .i64 a, .int .i64 e] 69)) := ((Below.refl _ w).alloc (Nat.le_refl _) _).alloc (by simp) _
  have hb := Blk.new (w.alloc (.cells #[.string (txt s), .int .i64 a, .int .i64 e] 69)) 69 #[.string (txt s), .int .i64 a, .int .i64 e]
  rw [show (w.alloc (.cells #[.string (txt s), .int .i64 a, .int .i64 e] 69)).heap.size = w.heap.size + 1 by simp] at hb
  have y0 := hb.cell_ (i := 0) rfl
  have y1 := hb.cell_ (i := 1) rfl
  have y2 := hb.cell_ (i := 2) rfl
  go_enter Try.func103, Try.ntmps103
  go_wp2
  refine bodyPost_ret (v := .tuple #[.agg #[.string (txt s), .int .i64 a, .int .i64 e], .int .i64 0]) (by simp [results, Try.f103, go_sem, y0, y1, y2]) rfl ?_
  exact ⟨rfl, hB⟩
set_option maxHeartbeats 4000000 in
theorem rByte_end (s : List UInt8) (a : Nat) (hs : s.length ≤ 1000000000000) (ha : s.length ≤ a) (w : World) :
    Calls Try.prog 103 #[rv s a 0] w fun o w' => o = .returned (.tuple #[rv s a 2, .int .i64 0]) ∧ Below w.heap.size w w' := by
  unfold rv
  have z1 : (s.length : Int) ≤ (a : Int) := by omega
  have z2 : decide ((s.length : Int) ≤ (a : Int)) = true := decide_eq_true z1
  have hR := RB.start w #[.string (txt s), .int .i64 a, .int .i64 0] #[.string ⟨#[]⟩, .int .i64 0, .int .i64 0]
  have hF := rF_any s a 2 ((w.alloc (.cells #[.string (txt s), .int .i64 a, .int .i64 0] 69)).alloc (.cells #[.string ⟨#[]⟩, .int .i64 0, .int .i64 0] 69))
  go_enter Try.func103, Try.ntmps103
  go_wp2_with (first
    | (go_at_call 104; (with_reducible refine hF.mono ?_); rintro o1 w1 ⟨rfl, h1⟩; have hR1 := hR.below h1; have k5 := hR1.b1)
    | ((with_reducible refine wpList_store_rv rfl _ _ rfl (w.heap.size + 1) _ _ _ _ k5 rfl rfl rfl ?_); intro w9 hb9 hg9; have y0 := hb9.cell_ (i := 0) rfl; have y1 := hb9.cell_ (i := 1) rfl; have y2 := hb9.cell_ (i := 2) rfl))
  refine bodyPost_ret (v := .tuple #[.agg #[.string (txt s), .int .i64 a, .int .i64 2], .int .i64 0]) (by simp [results, Try.f103, go_sem, y0, y1, y2]) rfl ?_
  exact ⟨rfl, hR1.x.grown hg9 hR1.x.size (by intro k e; cases e; omega)⟩
set_option maxHeartbeats 4000000 in
theorem rByte_ok (s : List UInt8) (a : Nat) (x : UInt8) (hs : s.length ≤ 1000000000000) (hx : s[a]? = some x) (w : World) :
    Calls Try.prog 103 #[rv s a 0] w fun o w' => o = .returned (.tuple #[rv s (a + 1) 0, .int .i64 (ib x)]) ∧ Below w.heap.size w w' := by
  unfold rv
  have hlt : a < s.length := (List.getElem?_eq_some_iff.1 hx).1
  have hidx := run_index_str s a x hx a rfl
  rw [show ((a + 1 : Nat) : Int) = (a : Int) + 1 by omega]
  have hw : wrap64 ((a : Int) + 1) = (a : Int) + 1 := by unfold wrap64; omega
  have hix := ib_wrap64 x
  have z1 : ¬ (s.length : Int) ≤ (a : Int) := by omega
  have z3 : ¬ s.length ≤ a := by omega
  have z2 : decide ((s.length : Int) ≤ (a : Int)) = false := decide_eq_false z1
  have hB : Below w.heap.size w ((w.alloc (.cells #[.string (txt s), .int .i64 ((a : Int) + 1), .int .i64 0] 69)).alloc (.cells #[.string (txt s), .int .i64 ((a : Int) + 1), .int .i64 0] 69)) := ((Below.refl _ w).alloc (Nat.le_refl _) _).alloc (by simp) _
  have hb := Blk.new (w.alloc (.cells #[.string (txt s), .int .i64 ((a : Int) + 1), .int .i64 0] 69)) 69 #[.string (txt s), .int .i64 ((a : Int) + 1), .int .i64 0]
  rw [show (w.alloc (.cells #[.string (txt s), .int .i64 ((a : Int) + 1), .int .i64 0] 69)).heap.size = w.heap.size + 1 by simp] at hb
  have y0 := hb.cell_ (i := 0) rfl
  have y1 := hb.cell_ (i := 1) rfl
  have y2 := hb.cell_ (i := 2) rfl
  clear hx
  go_enter Try.func103, Try.ntmps103
  go_wp2
  refine bodyPost_ret (v := .tuple #[.agg #[.string (txt s), .int .i64 ((a : Int) + 1), .int .i64 0], .int .i64 (ib x)]) (by simp [results, Try.f103, go_sem, y0, y1, y2]) rfl ?_
  exact ⟨rfl, hB⟩
theorem rByteT (s : List UInt8) (a : Nat) (e : Int) (hs : s.length ≤ 1000000000000) (ha : a ≤ s.length) (w : World) :
    Calls Try.prog 103 #[rv s a e] w fun o w' => o = .returned (.tuple #[rv s (stB s a e).1 (stB s a e).2, .int .i64 (ib (vaB s a e))]) ∧ Below w.heap.size w w' := by
  unfold vaB stB
  by_cases he : e = 0
  · subst he
    rw [if_pos rfl, if_pos rfl]
    by_cases hlt : a < s.length
    · have hx : s[a]? = some s[a] := List.getElem?_eq_getElem hlt
      rw [byteR_at hx]
      exact rByte_ok s a _ hs hx w
    · rw [List.drop_eq_nil_of_le (by omega)]
      exact rByte_end s a hs (by omega) w
  · rw [if_neg he, if_neg he]
    exact rByte_old s a e he w
end Go.Proofs.Ythpdkdalfjahcaa

namespace Go.Proofs.Ythpdkdalfjahcaa
open Go.RowKit Go.Qc Go.Shelf
attribute [local go_sem] txt_size txt_append ib_fold

set_option maxRecDepth 100000 in
set_option maxHeartbeats 4000000 in
theorem pkReadId_old (g : Nat) (s : List UInt8) (a : Nat) (e : Int) (he : e ≠ 0) (w : World) (hr : Rdr g s a e w) :
    Calls Try.prog 78 #[.pointer (some ⟨g, 0, none⟩), .func (.func 79) #[.pointer (some ⟨g, 0, none⟩)] #[]] w fun o w' => o = .returned (idV zeroB) ∧ Step g s a e w w' := by
  have hu := Try.underlying24
  have hlt := hr.lt
  have hne : (e != 0) = true := by simpa using he
  have hk : (w.alloc (.cells (idVals zeroB) 24)).heap.size = w.heap.size + 1 := by simp
  have hz := zeroB_vals
  have hA := (Blk.new w 24 (idVals zeroB)).alloc (.cells (idVals zeroB) 24)
  have hBk := Blk.new (w.alloc (.cells (idVals zeroB) 24)) 24 (idVals zeroB)
  rw [hk] at hBk
  have hr0 : Rdr g s a e ((w.alloc (.cells (idVals zeroB) 24)).alloc (.cells (idVals zeroB) 24)) := (Blk.alloc hr _).alloc _
  have hst0 : Step g s a e w ((w.alloc (.cells (idVals zeroB) 24)).alloc (.cells (idVals zeroB) 24)) := (Step.same hr).below (((Below.refl _ _).alloc (Nat.le_refl _) _).alloc (by simp) _)
  have hHZ : (Try.prog.info? 24).map (·.size) = some (zeroB.map u8v).length := sizeId
  have hBr : ∀ W, Blk W (w.heap.size + 1) 24 (idVals zeroB) → W.rangeAt (w.heap.size + 1) 0 (zeroB.map u8v) := fun W h => range_blk h
  have hB2 := hBr _ hBk
  rw [hz] at hA hB2 hr0 hst0
  have c2 := hr0.c2
  clear hr hk hBk hBr
  go_enter Try.func78, Try.ntmps78
  go_wp2_with (first
    | (with_reducible refine wpList_load_if (by with_unfolding_all rfl) 24 _ rfl _ _ rfl (zeroB.map u8v) _ hB2 hu (by with_unfolding_all rfl) hHZ ?_)
    | (with_reducible refine wpList_store_blk rfl 24 _ _ rfl w.heap.size _ (zeroB.map u8v).toArray 24 hA rfl rfl ?c2 ?c3 ?c4 ?_))
  case c2 => exact sizeId
  case c3 => rfl
  case c4 => exact idVals_one zeroB
  intro w9 hb9 hg9
  go_wp2
  refine bodyPost_ret (results_cell_row rfl _ _ _ _ _ _ _ rfl hb9 Try.underlying24 rfl sizeId) rfl ⟨rfl, ?_⟩
  exact hst0.new hg9 (Nat.le_refl _) hlt
set_option maxRecDepth 100000 in
set_option maxHeartbeats 4000000 in
theorem pkId_old (g : Nat) (s : List UInt8) (a : Nat) (e : Int) (he : e ≠ 0) (w : World) (hr : Rdr g s a e w) :
    Calls Try.prog 37 #[.pointer (some ⟨g, 0, none⟩)] w fun o w' => o = .returned (idV zeroB) ∧ Step g s a e w w' := by
  have hlt := hr.lt
  have hst : ∀ zc, Step g s a e w (w.alloc (.cells zc 24)) := fun zc => (Step.same hr).below ((Below.refl _ _).alloc (Nat.le_refl _) _)
  have cN := fun W h => pkReadId_old g s a e he W h
  clear hr
  go_enter Try.func37, Try.ntmps37
  go_wp2_with (first
    | (go_at_call 78; (with_reducible refine (cN _ (hst _).r).mono ?_); rintro o1 w1 ⟨rfl, h1⟩; have hR1 := blk_gb (Blk.new w 24 _) h1.gb (by omega); have hs1 := (hst _).trans h1)
    | (with_reducible refine wpList_store_blk rfl 24 _ _ rfl w.heap.size _ (idVals zeroB) 24 hR1 rfl rfl ?c2 ?c3 (idVals_one _) ?_))
  case c2 => exact sizeId
  case c3 => rfl
  intro w9 hb9 hg9
  go_wp2
  refine bodyPost_ret (results_cell_row rfl _ _ _ _ _ _ _ rfl hb9 Try.underlying24 rfl sizeId) rfl ⟨rfl, ?_⟩
  exact hs1.new hg9 (Nat.le_refl _) hlt
def stD (s : List UInt8) (a : Nat) (e : Int) : Nat × Int := if e = 0 then (match idR (s.drop a) with | .ok (_, n) => (a + n, 0) | .error e' => (a, e')) else (a, e)
def vaD (s : List UInt8) (a : Nat) (e : Int) : List UInt8 := if e = 0 then (match idR (s.drop a) with | .ok (v, _) => v | .error _ => zeroB) else zeroB
theorem pkIdT (g : Nat) (s : List UInt8) (a : Nat) (e : Int) (hs : s.length ≤ 1000000000000) (ha : a ≤ s.length) (w : World) (hr : Rdr g s a e w) :
    Calls Try.prog 37 #[.pointer (some ⟨g, 0, none⟩)] w fun o w' => o = .returned (idV (vaD s a e)) ∧ Step g s (stD s a e).1 (stD s a e).2 w w' := by
  unfold vaD stD
  by_cases he : e = 0
  · subst he
    rw [if_pos rfl, if_pos rfl]
    have := pkIdR_any g s a hs ha w hr
    cases h : idR (s.drop a) with
    | ok p => rw [h] at this; exact this
    | error e => rw [h] at this; exact this.mono (by rintro o w' ⟨h1, _, h2⟩; exact ⟨h1, h2⟩)
  · rw [if_neg he, if_neg he]
    exact pkId_old g s a e he w hr
theorem rGetIdT (s : List UInt8) (a : Nat) (e : Int) (hs : s.length ≤ 1000000000000) (ha : a ≤ s.length) (w : World) :
    Calls Try.prog 107 #[rv s a e] w fun o w' => o = .returned (.tuple #[rv s (stD s a e).1 (stD s a e).2, idV (vaD s a e)]) ∧ Below w.heap.size w w' := by
  unfold vaD stD
  by_cases he : e = 0
  · subst he
    rw [if_pos rfl, if_pos rfl]
    have := rGetId_any s a hs ha w
    cases h : idR (s.drop a) with
    | ok p => rw [h] at this; exact this
    | error e => rw [h] at this; exact this.mono (by rintro o w' ⟨h1, _, h2⟩; exact ⟨h1, h2⟩)
  · rw [if_neg he, if_neg he]
    exact rGetId_old s a e he w
end Go.Proofs.Ythpdkdalfjahcaa

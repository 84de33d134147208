
/- The document's trees: where a path is, whether there is room, a file less, a file more. -/
import Derived.Test.YtodfaakodgedbaaFl1
set_option linter.unusedSimpArgs false
set_option linter.unusedVariables false
namespace Go.Proofs.Ytodfaakodgedbaa
open Go.RowKit Go.Qc Go.Shelf
attribute [local go_sem] txt_size txt_append ib_fold txt_toL

/-- The place of a path. -/
def atV : List FD → List UInt8 → Int
  | [], _ => -1
  | x :: xs, s => if x.1 = s then 0 else if atV xs s < 0 then -1 else atV xs s + 1
theorem atV_none : ∀ (L : List FD) (s : List UInt8), (∀ x ∈ L, x.1 ≠ s) → atV L s = -1
  | [], _, _ => rfl
  | x :: xs, s, h => by
    rw [atV, if_neg (h x (by simp)), atV_none xs s (fun y hy => h y (by simp [hy]))]
    rfl
theorem atV_some : ∀ (L : List FD) (s : List UInt8) (k : Nat) (x : FD), L[k]? = some x → x.1 = s → (∀ y ∈ L.take k, y.1 ≠ s) → atV L s = k
  | [], s, k, x, hk, _, _ => by simp at hk
  | y :: ys, s, 0, x, hk, hx, _ => by
    simp at hk
    subst hk
    rw [atV, if_pos hx]
    rfl
  | y :: ys, s, k + 1, x, hk, hx, h => by
    rw [List.getElem?_cons_succ] at hk
    rw [atV, if_neg (h y (by simp)), atV_some ys s k x hk hx (fun z hz => h z (by simp [hz])), if_neg (by omega)]
    omega
/-- Is there room at a path? -/
def roomV (L : List FD) (s : List UInt8) : Int := if 0 ≤ atV L s then 7 else if L.any (fun f => covB f.1 s || covB s f.1) then 12 else 0

set_option maxRecDepth 100000 in
set_option maxHeartbeats 40000000 in
theorem rat_any (A : Option Addr) (n c : Nat) (Xs : List FlV) (s : List UInt8) (w : World) (hn : Xs.length = n) (bn : n ≤ 1000) (hr : FlRd w A Xs) :
    Calls Try.prog 28 #[.slice A n c, .string (txt s)] w fun e w' => e = .returned (.int .i64 (atV (Xs.map FlV.D) s)) ∧ Below w.heap.size w w' := by
  have bn9 : n ≤ 9223372036854775807 := by omega
  have HN := hid hn
  clear hn
  go_enter Try.func28, Try.ntmps28
  go_wp2
  go_loopw [5] (fun i wr => ∃ k : Nat, k ≤ n ∧ i = .int .i64 k ∧ Hid (∀ y ∈ (Xs.map FlV.D).take k, y.1 ≠ s) ∧ Below w.heap.size w wr) (fun i _ => n - (intOf i).toNat)
  case atStart => exact ⟨0, by omega, rfl, hid (by simp), Below.refl _ _⟩
  case round =>
    obtain ⟨k, hk, rfl, HT, hb⟩ := hrel
    by_cases hlt : k < n
    · obtain ⟨X, hXk⟩ : ∃ X, Xs[k]? = some X := ⟨_, List.getElem?_eq_getElem (by rw [HN.out]; exact hlt)⟩
      obtain ⟨g, q, -, h0, -, hix⟩ := (hr.below hb).pick c HN.out hXk
      have HX := hid hXk
      have b1 : (k : Int) < n := by omega
      clear hXk
      by_cases hps : X.p = s
      · have hb2 : (X.p == s) = true := beq_iff_eq.2 hps
        have HP := hid hps
        clear hps
        go_wp2
        go_ret
        exact ⟨by rw [atV_some _ _ k X.D (by rw [List.getElem?_map, HX.out]; rfl) HP.out HT.out]; rfl, hb⟩
      · have hb2 : (X.p == s) = false := beq_eq_false_iff_ne.2 hps
        have HP := hid hps
        clear hps
        go_wp2
        go_roundw
        case rel => exact ⟨k + 1, hlt, by go_num, hid (by
          intro y hy
          rw [take_snoc (x := X.D) (by rw [List.getElem?_map, HX.out]; rfl)] at hy
          rcases List.mem_append.1 hy with hy | hy
          · exact HT.out y hy
          · rw [List.mem_singleton.1 hy]; exact HP.out), hb⟩
        case measure => simp [intOf]; omega
    · obtain rfl : k = n := by omega
      have c1 : ¬ (k : Int) < k := by omega
      go_wp2
      go_ret
      refine ⟨?_, hb⟩
      rw [atV_none _ _ (fun y hy => HT.out y (by rwa [List.take_of_length_le (by rw [List.length_map, HN.out]; exact Nat.le_refl _)]))]
      rfl

set_option maxRecDepth 100000 in
set_option maxHeartbeats 40000000 in
theorem rroom_any (A : Option Addr) (n c : Nat) (Xs : List FlV) (s : List UInt8) (w : World) (hn : Xs.length = n) (bn : n ≤ 1000) (hr : FlRd w A Xs) (hp : ∀ X ∈ Xs, X.p.length ≤ 1000) (hs : s.length ≤ 1000) :
    Calls Try.prog 29 #[.slice A n c, .string (txt s)] w fun e w' => e = .returned (.int .i64 (roomV (Xs.map FlV.D) s)) ∧ Below w.heap.size w w' := by
  have bn9 : n ≤ 9223372036854775807 := by omega
  have cA := rat_any A n c Xs s w hn bn hr
  have HN := hid hn
  have HPP := hid hp
  clear hn hp
  by_cases hat : 0 ≤ atV (Xs.map FlV.D) s
  · have hR : roomV (Xs.map FlV.D) s = 7 := by unfold roomV; rw [if_pos hat]
    rw [hR]
    have HR := hid hR
    clear hR
    generalize atV (Xs.map FlV.D) s = a at *
    have d1 : decide (0 ≤ a) = true := decide_eq_true hat
    go_enter Try.func29, Try.ntmps29
    go_wp2_with (go_at_call 28; (with_reducible refine cA.mono ?_); rintro o1 w1 ⟨rfl, hb⟩)
    go_ret
    exact ⟨rfl, hb⟩
  · have hR : roomV (Xs.map FlV.D) s = if (Xs.map FlV.D).any (fun f => covB f.1 s || covB s f.1) then 12 else 0 := by unfold roomV; rw [if_neg hat]
    rw [hR]
    have HR := hid hR
    clear hR
    generalize atV (Xs.map FlV.D) s = a at *
    have d1 : decide (0 ≤ a) = false := decide_eq_false hat
    generalize hB : (if (Xs.map FlV.D).any (fun f => covB f.1 s || covB s f.1) then (12 : Int) else 0) = B at *
    have HB := hid hB
    clear hB
    go_enter Try.func29, Try.ntmps29
    go_wp2_with (go_at_call 28; (with_reducible refine cA.mono ?_); rintro o1 w1 ⟨rfl, hb⟩)
    clear cA
    go_loopw [5] (fun i wr => ∃ k : Nat, k ≤ n ∧ i = .int .i64 k ∧ Hid (∀ y ∈ (Xs.map FlV.D).take k, (covB y.1 s || covB s y.1) = false) ∧ Below w.heap.size w wr) (fun i _ => n - (intOf i).toNat)
    case atStart => exact ⟨0, by omega, rfl, hid (by simp), hb⟩
    case round =>
      clear hb
      obtain ⟨k, hk, rfl, HT, hb⟩ := hrel
      by_cases hlt : k < n
      · obtain ⟨X, hXk⟩ : ∃ X, Xs[k]? = some X := ⟨_, List.getElem?_eq_getElem (by rw [HN.out]; exact hlt)⟩
        obtain ⟨g, q, -, h0, -, hix⟩ := (hr.below hb).pick c HN.out hXk
        have HX := hid hXk
        have b1 : (k : Int) < n := by omega
        have lp := HPP.out X (List.mem_of_getElem? hXk)
        clear hXk
        have hD : (Xs.map FlV.D)[k]? = some X.D := by rw [List.getElem?_map, HX.out]; rfl
        have HD := hid hD
        clear hD
        cases h1 : covB X.p s with
        | true =>
          have c1 := rcovers_any X.p s (by omega) (by omega) wr
          rw [h1] at c1
          have H1 := hid h1
          clear h1
          go_wp2_with (go_at_call 52; (with_reducible refine c1.mono ?_); rintro o2 w2 ⟨rfl, rfl⟩)
          go_ret
          refine ⟨?_, hb⟩
          rw [← HB.out, if_pos (List.any_eq_true.2 ⟨_, List.mem_of_getElem? HD.out, by show (covB X.p s || covB s X.p) = true; rw [H1.out]; rfl⟩)]
          rfl
        | false =>
          have c1 := rcovers_any X.p s (by omega) (by omega) wr
          rw [h1] at c1
          have H1 := hid h1
          clear h1
          have hu : X.p = X.p := rfl
          cases h2 : covB s X.p with
          | true =>
            have c2 := rcovers_any s X.p (by omega) (by omega) wr
            rw [h2] at c2
            have H2 := hid h2
            clear h2
            go_wp2_with (first
              | (go_at_call 52; (with_reducible refine c1.mono ?_); rintro o2 w2 ⟨rfl, rfl⟩)
              | (go_at_call 52; (with_reducible refine c2.mono ?_); rintro o2 w2 ⟨rfl, rfl⟩))
            go_ret
            refine ⟨?_, hb⟩
            rw [← HB.out, if_pos (List.any_eq_true.2 ⟨_, List.mem_of_getElem? HD.out, by show (covB X.p s || covB s X.p) = true; rw [H2.out, Bool.or_true]⟩)]
            rfl
          | false =>
            have c2 := rcovers_any s X.p (by omega) (by omega) wr
            rw [h2] at c2
            have H2 := hid h2
            clear h2
            go_wp2_with (first
              | (go_at_call 52; (with_reducible refine c1.mono ?_); rintro o2 w2 ⟨rfl, rfl⟩)
              | (go_at_call 52; (with_reducible refine c2.mono ?_); rintro o2 w2 ⟨rfl, rfl⟩))
            go_roundw
            case rel => exact ⟨k + 1, hlt, by go_num, hid (by
              intro y hy
              rw [take_snoc HD.out] at hy
              rcases List.mem_append.1 hy with hy | hy
              · exact HT.out y hy
              · rw [List.mem_singleton.1 hy]; show (covB X.p s || covB s X.p) = false; rw [H1.out, H2.out]; rfl), hb⟩
            case measure => simp [intOf]; omega
      · obtain rfl : k = n := by omega
        have c1 : ¬ (k : Int) < k := by omega
        go_wp2
        go_ret
        refine ⟨?_, hb⟩
        rw [← HB.out, if_neg]
        · rfl
        intro h
        rw [List.any_eq_true] at h
        obtain ⟨y, hy, hy2⟩ := h
        have := HT.out y (by rwa [List.take_of_length_le (by rw [List.length_map, HN.out]; exact Nat.le_refl _)])
        rw [this] at hy2
        cases hy2

/-- A row of files of one's own is told. -/
def FlQ (w w' : World) (L : List FlV) (e : Ending) : Prop := ∃ v m, e = .returned v ∧ OwnF w' w.heap.size v m L ∧ Below w.heap.size w w'
theorem drop_same {α : Type} {L : List α} {k : Nat} {x : α} (hk : L[k]? = some x) : (L.take (k + 1)).eraseIdx k = (L.take k).eraseIdx k := by
  have hlt := (List.getElem?_eq_some_iff.1 hk).1
  have hl : (L.take k).length = k := by rw [List.length_take]; omega
  have h1 : (L.take k).eraseIdx k = L.take k := List.eraseIdx_of_length_le (by omega)
  rw [take_snoc hk, List.eraseIdx_append_of_length_le (by omega), hl, Nat.sub_self, h1]
  simp
theorem drop_more {α : Type} {L : List α} {k i : Nat} {x : α} (hk : L[k]? = some x) (hi : k ≠ i) : (L.take (k + 1)).eraseIdx i = (L.take k).eraseIdx i ++ [x] := by
  have hlt := (List.getElem?_eq_some_iff.1 hk).1
  have hl : (L.take k).length = k := by rw [List.length_take]; omega
  rw [take_snoc hk]
  by_cases h : i < k
  · rw [List.eraseIdx_append_of_lt_length (by omega)]
  · rw [List.eraseIdx_of_length_le (by rw [List.length_append, List.length_singleton]; omega), List.eraseIdx_of_length_le (by omega)]

set_option maxRecDepth 100000 in
set_option maxHeartbeats 40000000 in
theorem rdrop_any (A : Option Addr) (n c : Nat) (Xs : List FlV) (i : Nat) (w : World) (hn : Xs.length = n) (bn : n ≤ 900) (hr : FlRd w A Xs) :
    Calls Try.prog 31 #[.slice A n c, .int .i64 (i : Int)] w fun e w' => FlQ w w' (Xs.eraseIdx i) e := by
  have bn9 : n ≤ 9223372036854775807 := by omega
  have hb0 := (Below.refl w.heap.size w).alloc (Nat.le_refl _) (.cells #[] 51)
  have ho0 := OwnF.made w
  have HN := hid hn
  clear hn
  go_enter Try.func31, Try.ntmps31
  go_wp2
  go_loopw [5, 6] (fun v j wr => ∃ (k m : Nat), k ≤ n ∧ m ≤ k ∧ j = .int .i64 k ∧ OwnF wr w.heap.size v m ((Xs.take k).eraseIdx i) ∧ Below w.heap.size w wr) (fun _ j _ => n - (intOf j).toNat)
  case atStart => exact ⟨0, 0, by omega, by omega, rfl, by simpa using ho0, hb0⟩
  case round =>
    clear hb0 ho0
    obtain ⟨k, m, hk, hm, rfl, hown, hb⟩ := hrel
    by_cases hlt : k < n
    · obtain ⟨X, hXk⟩ : ∃ X, Xs[k]? = some X := ⟨_, List.getElem?_eq_getElem (by rw [HN.out]; exact hlt)⟩
      obtain ⟨g, q, hg, -, -, hix⟩ := hr.pick c HN.out hXk
      have fX : ∀ W, Below w.heap.size w W → W.rangeAt g q X.cs := fun W h => hg.below h
      have HX := hid hXk
      have b1 : (k : Int) < n := by omega
      clear hXk hg
      by_cases hki : k = i
      · subst hki
        have HO := hid hown
        clear hown
        go_wp2
        go_roundw
        case rel => exact ⟨k + 1, m, hlt, by omega, by go_num, by rw [drop_same HX.out]; exact HO.out, hb⟩
        case measure => simp [intOf]; omega
      · have e1 : ¬ (k : Int) = i := by omega
        have HK := hid hki
        clear hki
        generalize hL : (Xs.take k).eraseIdx i = L at hown
        have HL := hid hL
        clear hL
        have hb' := hb
        go_wp2_with (first
          | (with_reducible refine wpList_load_fl (by with_unfolding_all rfl) _ rfl _ _ rfl X (fX _ hb) ?_)
          | (at_builtin; refine wpList_append_fl1 rfl _ _ rfl w.heap.size _ _ _ rfl hown X rfl (by omega) hb.size ?_; intro v' W' hown' hbt; replace hb := hbt _ _ (Nat.le_refl _) hb; replace hown := hown'; clear hown' hbt))
        go_roundw
        case rel => exact ⟨k + 1, m + 1, hlt, by omega, by go_num, by rw [drop_more HX.out HK.out, HL.out]; exact hown, hb⟩
        case measure => simp [intOf]; omega
    · obtain rfl : k = n := by omega
      have c1 : ¬ (k : Int) < k := by omega
      rw [List.take_of_length_le (by rw [HN.out]; exact Nat.le_refl _)] at hown
      have HO := hid hown
      clear hown
      go_wp2
      go_ret
      exact ⟨_, m, rfl, HO.out, hb⟩

/-- A row by paths with a file more. -/
def putF : List FlV → FlV → List FlV
  | [], f => [f]
  | x :: xs, f => if Go.Op.bytesLess f.p x.p = true then f :: x :: xs else x :: putF xs f
/-- What is still to come. -/
def putR (d : Bool) (R : List FlV) (f : FlV) : List FlV := if d = true then R else putF R f

set_option maxRecDepth 100000 in
set_option maxHeartbeats 40000000 in
theorem rput14_any (A : Option Addr) (n c : Nat) (Xs : List FlV) (f : FlV) (w : World) (hn : Xs.length = n) (bn : n ≤ 900) (hr : FlRd w A Xs) :
    Calls Try.prog 30 #[.slice A n c, .agg #[.string (txt f.p), .slice f.A f.n f.c]] w fun e w' => FlQ w w' (putF Xs f) e := by
  have bn9 : n ≤ 9223372036854775807 := by omega
  have HN := hid hn
  clear hn
  have hw0 := (Below.refl w.heap.size w).alloc (Nat.le_refl _) (.cells #[.string (txt f.p), .slice f.A f.n f.c] 51)
  have hbx := Blk.new w 51 #[.string (txt f.p), .slice f.A f.n f.c]
  go_enter Try.func30, Try.ntmps30
  go_upto_region 1 with (fail)
  generalize w.alloc (.cells #[.string (txt f.p), .slice f.A f.n f.c] 51) = W0 at *
  have hb0 := (Below.refl W0.heap.size W0).alloc (Nat.le_refl _) (.cells #[] 51)
  have ho0 := OwnF.made W0
  have fF : ∀ W, Below W0.heap.size W0 W → W.rangeAt w.heap.size 0 f.cs := fun W h j u hj => by
    rw [Nat.zero_add]
    exact (hbx.below h).cell_ (by rw [← Array.getElem?_toList]; exact hj)
  have fR : FlRd W0 A Xs := hr.below hw0
  clear hr hbx
  go_wp2
  go_loopw [5, 6, 7] (fun v dv j wr => ∃ (k m : Nat) (Os : List FlV) (d : Bool), k ≤ n ∧ m ≤ k + 1 ∧ dv = .bool d ∧ j = .int .i64 k ∧ OwnF wr W0.heap.size v m Os ∧ Below W0.heap.size W0 wr ∧ Hid (putF Xs f = Os ++ putR d (Xs.drop k) f ∧ (d = false → m ≤ k))) (fun _ _ j _ => n - (intOf j).toNat)
  case atStart => exact ⟨0, 0, [], false, by omega, by omega, rfl, rfl, ho0, hb0, hid ⟨by rw [List.drop_zero]; rfl, fun _ => Nat.le_refl _⟩⟩
  case round =>
    clear hb0 ho0
    obtain ⟨k, m, Os, d, hk, hm, rfl, rfl, hown, hb, HI⟩ := hrel
    by_cases hlt : k < n
    · obtain ⟨X, hXk⟩ : ∃ X, Xs[k]? = some X := ⟨_, List.getElem?_eq_getElem (by rw [HN.out]; exact hlt)⟩
      obtain ⟨g, q, hg, -, -, hix⟩ := fR.pick c HN.out hXk
      have fX : ∀ W, Below W0.heap.size W0 W → W.rangeAt g q X.cs := fun W h => hg.below h
      have hdr : Xs.drop k = X :: Xs.drop (k + 1) := by
        obtain ⟨h1, h2⟩ := List.getElem?_eq_some_iff.1 hXk
        rw [List.drop_eq_getElem_cons h1, h2]
      have HDR := hid hdr
      have b1 : (k : Int) < n := by omega
      clear hXk hg hdr
      have p0 : wr.cell? ⟨g, q, none⟩ = some (.string (txt X.p)) := fX wr hb 0 _ rfl
      have f0 : wr.cell? ⟨w.heap.size, 0, none⟩ = some (.string (txt f.p)) := fF wr hb 0 _ rfl
      cases d with
      | true =>
        go_wp2
        go_quiet (fail)
        replace hb := below_drewN hb nq
        replace hown := hown.below (below_drewN (Below.refl _ _) nq)
        generalize wr.drewN nq = wd at *
        go_wp2_with (first
          | (with_reducible refine wpList_load_fl (by with_unfolding_all rfl) _ rfl _ _ rfl X (fX _ hb) ?_)
          | (at_builtin; refine wpList_append_fl1 rfl _ _ rfl W0.heap.size _ _ _ rfl hown X rfl (by omega) hb.size ?_; intro v' W' hown' hbt; replace hb := hbt _ _ (Nat.le_refl _) hb; replace hown := hown'; clear hown' hbt))
        go_roundw
        case rel => exact ⟨k + 1, m + 1, Os ++ [X], true, hlt, by omega, rfl, by go_num, hown, hb, hid ⟨by rw [HI.out.1, HDR.out, List.append_assoc]; rfl, fun h => by cases h⟩⟩
        case measure => simp [intOf]; omega
      | false =>
        have hm2 : m ≤ k := HI.out.2 (by trivial)
        cases hl : Go.Op.bytesLess f.p X.p with
        | true =>
          go_wp2
          go_quiet (fail)
          have HL := hid hl
          clear hl
          replace hb := below_drewN hb nq
          replace hown := hown.below (below_drewN (Below.refl _ _) nq)
          generalize wr.drewN nq = wd at *
          have f1 : f.p = f.p := rfl
          go_wp2_with (first
            | (with_reducible refine wpList_load_fl (by with_unfolding_all rfl) _ rfl _ _ rfl f (fF _ hb) ?_)
            | (with_reducible refine wpList_load_fl (by with_unfolding_all rfl) _ rfl _ _ rfl X (fX _ hb) ?_)
            | (at_builtin; refine wpList_append_fl1 rfl _ _ rfl W0.heap.size _ _ _ rfl hown f rfl (by omega) hb.size ?_; intro v' W' hown' hbt; replace hb := hbt _ _ (Nat.le_refl _) hb; replace hown := hown'; clear hown' hbt)
            | (at_builtin; refine wpList_append_fl1 rfl _ _ rfl W0.heap.size _ _ _ rfl hown X rfl (by omega) hb.size ?_; intro v' W' hown' hbt; replace hb := hbt _ _ (Nat.le_refl _) hb; replace hown := hown'; clear hown' hbt))
          go_roundw
          case rel => exact ⟨k + 1, m + 1 + 1, (Os ++ [f]) ++ [X], true, hlt, by omega, rfl, by go_num, hown, hb, hid ⟨by rw [HI.out.1, HDR.out, putR, if_neg (by decide), putF, if_pos HL.out, List.append_assoc, List.append_assoc]; rfl, fun h => by cases h⟩⟩
          case measure => simp [intOf]; omega
        | false =>
          go_wp2
          go_quiet (fail)
          have HL := hid hl
          clear hl
          replace hb := below_drewN hb nq
          replace hown := hown.below (below_drewN (Below.refl _ _) nq)
          generalize wr.drewN nq = wd at *
          go_wp2_with (first
            | (with_reducible refine wpList_load_fl (by with_unfolding_all rfl) _ rfl _ _ rfl X (fX _ hb) ?_)
            | (at_builtin; refine wpList_append_fl1 rfl _ _ rfl W0.heap.size _ _ _ rfl hown X rfl (by omega) hb.size ?_; intro v' W' hown' hbt; replace hb := hbt _ _ (Nat.le_refl _) hb; replace hown := hown'; clear hown' hbt))
          go_roundw
          case rel => exact ⟨k + 1, m + 1, Os ++ [X], false, hlt, by omega, rfl, by go_num, hown, hb, hid ⟨by rw [HI.out.1, HDR.out, putR, if_neg (by decide), putF, if_neg (by rw [HL.out]; decide), List.append_assoc]; rfl, fun _ => by omega⟩⟩
          case measure => simp [intOf]; omega
    · obtain rfl : k = n := by omega
      have c1 : ¬ (k : Int) < k := by omega
      have hnil : Xs.drop k = [] := List.drop_of_length_le (by rw [HN.out]; exact Nat.le_refl _)
      have HE := hid hnil
      clear hnil
      cases d with
      | true =>
        go_wp2
        go_ret
        exact ⟨_, m, rfl, by rw [HI.out.1, HE.out, putR, if_pos rfl, List.append_nil]; exact own_base hown hw0.size, hw0.trans (hb.mono hw0.size)⟩
      | false =>
        go_wp2_with (first
          | (with_reducible refine wpList_load_fl (by with_unfolding_all rfl) _ rfl _ _ rfl f (fF _ hb) ?_)
          | (at_builtin; refine wpList_append_fl1 rfl _ _ rfl W0.heap.size _ _ _ rfl hown f rfl (by omega) hb.size ?_; intro v' W' hown' hbt; replace hb := hbt _ _ (Nat.le_refl _) hb; replace hown := hown'; clear hown' hbt))
        go_ret
        exact ⟨_, m + 1, rfl, by rw [HI.out.1, HE.out, putR, if_neg (by decide), putF]; exact own_base hown hw0.size, hw0.trans (hb.mono hw0.size)⟩


end Go.Proofs.Ytodfaakodgedbaa

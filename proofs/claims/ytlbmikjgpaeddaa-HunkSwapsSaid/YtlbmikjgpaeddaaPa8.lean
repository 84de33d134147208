
/- path: what the document says of covering and joining; a path without its last part, and that part. -/
import Derived.Test.YtlbmikjgpaeddaaPa7
import Derived.Lib.Join
namespace Go.Proofs.Ytlbmikjgpaeddaa
open Go.RowKit Go.Qc Go.Shelf
attribute [local go_sem] txt_size txt_append ib_fold txt_toL

theorem covB_far (p s : List UInt8) (h0 : p ≠ []) (h1 : p ≠ s) : covB p s = (p ++ [47]).isPrefixOf s := by
  unfold covB
  have : p.isEmpty = false := by cases p <;> first | rfl | exact absurd rfl h0
  rw [this, beq_eq_false_iff_ne.2 h1]; rfl
theorem pre_at (p s : List UInt8) (b : UInt8) : (p ++ [b]).isPrefixOf s = decide (p.length < s.length ∧ s.take p.length = p ∧ s[p.length]? = some b) := by
  rw [Bool.eq_iff_iff, List.isPrefixOf_iff_prefix, decide_eq_true_eq]
  constructor
  · rintro ⟨r, rfl⟩
    refine ⟨by simp, by simp, by simp⟩
  · rintro ⟨h, h2, h3⟩
    refine ⟨s.drop (p.length + 1), ?_⟩
    obtain ⟨hk, h4⟩ := List.getElem?_eq_some_iff.1 h3
    conv => rhs; rw [← List.take_append_drop p.length s, h2, List.drop_eq_getElem_cons hk, h4]
    simp
set_option maxHeartbeats 1000000 in
theorem rcovers_any (p s : List UInt8) (hp : p.length ≤ 1000000) (hs : s.length ≤ 1000000) (w : World) :
    Calls Try.prog 14 #[.string (txt p), .string (txt s)] w fun e w' => e = .returned (.bool (covB p s)) ∧ w = w' := by
  by_cases h0 : p = []
  · subst h0
    have e : txt [] = ⟨#[]⟩ := rfl
    have ev : covB [] s = true := rfl
    rw [e, ev]
    go_enter Try.func14, Try.ntmps14
    go_wp2
    go_ret
    exact ⟨rfl, rfl⟩
  have n0 : p.isEmpty = false := by cases p <;> first | rfl | exact absurd rfl h0
  by_cases h1 : p = s
  · subst h1
    have ev : covB p p = true := by unfold covB; simp
    rw [ev]
    go_enter Try.func14, Try.ntmps14
    go_wp2
    all_goals go_ret
    all_goals exact ⟨rfl, rfl⟩
  have n1 : (p == s) = false := beq_eq_false_iff_ne.2 h1
  rw [covB_far p s h0 h1, pre_at]
  by_cases hl : p.length < s.length
  · obtain ⟨x, hx⟩ : ∃ x, s[p.length]? = some x := ⟨_, List.getElem?_eq_getElem hl⟩
    have f1 := run_index_str s p.length x hx p.length rfl
    have s1 : (txt s).extract 0 p.length = txt (s.take p.length) := slice_to s p.length
    have b1 : (p.length : Int) < s.length := by omega
    have b2 : (0 : Int) ≤ p.length := by omega
    have b3 : (p.length : Int) ≤ s.length := by omega
    have HX := hid hx
    obtain ⟨T, hT⟩ : ∃ T, T = s.take p.length := ⟨_, rfl⟩
    rw [← hT] at s1
    rw [← hT, hx]
    clear hx hT
    by_cases h2 : T = p
    · subst h2
      by_cases h3 : x = 47
      · subst h3
        have e47 : ib 47 = 47 := rfl
        rw [e47] at f1
        rw [decide_eq_true ⟨hl, rfl, rfl⟩]
        go_enter Try.func14, Try.ntmps14
        go_wp2
        all_goals go_ret
        all_goals exact ⟨rfl, rfl⟩
      · have hne : (ib x == 47) = false := by
          have e47 : ib 47 = 47 := rfl
          rw [beq_eq_false_iff_ne, ← e47, ne_eq, ib_inj]; exact h3
        rw [decide_eq_false (by rintro ⟨_, _, h⟩; exact h3 (Option.some.inj h))]
        go_enter Try.func14, Try.ntmps14
        go_wp2
        all_goals go_ret
        all_goals refine ⟨?_, rfl⟩
        all_goals first | rfl | simp [hne]
    · have n2 : (T == p) = false := beq_eq_false_iff_ne.2 h2
      rw [decide_eq_false (by rintro ⟨_, h, _⟩; exact h2 h)]
      go_enter Try.func14, Try.ntmps14
      go_wp2
      all_goals go_ret
      all_goals refine ⟨?_, rfl⟩
      all_goals first | rfl | simp [n2]
  · have b1 : ¬ (p.length : Int) < s.length := by omega
    rw [decide_eq_false (by rintro ⟨h, _⟩; exact hl h)]
    go_enter Try.func14, Try.ntmps14
    go_wp2
    all_goals go_ret
    all_goals exact ⟨rfl, rfl⟩

/-- Beside one another. -/
def besR (a b : List UInt8) : Bool := pathR a && (pathR b && (!covR a b && !covR b a))
/-- A contract, from a world on. -/
theorem from_base {P : Program} {f : FuncId} {args : Array Value} {v : Value} {w : World} (h : ∀ W, Calls P f args W fun e w' => e = .returned v ∧ Below W.heap.size W w') : ∀ W, Below w.heap.size w W → Calls P f args W fun e w' => e = .returned v ∧ Below w.heap.size w w' :=
  fun W hB => (h W).mono (by rintro e w' ⟨h1, h2⟩; exact ⟨h1, hB.trans (h2.mono hB.size)⟩)
set_option maxHeartbeats 1000000 in
theorem beside_gen (a b : List UInt8) (A B C D : Bool) (w : World)
    (cA : ∀ W, Below w.heap.size w W → Calls Try.prog 11 #[.string (txt a)] W fun e w' => e = .returned (.bool A) ∧ Below w.heap.size w w')
    (cB : ∀ W, Below w.heap.size w W → Calls Try.prog 11 #[.string (txt b)] W fun e w' => e = .returned (.bool B) ∧ Below w.heap.size w w')
    (cC : ∀ W, Below w.heap.size w W → Calls Try.prog 13 #[.string (txt a), .string (txt b)] W fun e w' => e = .returned (.bool C) ∧ Below w.heap.size w w')
    (cD : ∀ W, Below w.heap.size w W → Calls Try.prog 13 #[.string (txt b), .string (txt a)] W fun e w' => e = .returned (.bool D) ∧ Below w.heap.size w w') :
    Calls Try.prog 15 #[.string (txt a), .string (txt b)] w fun e w' => e = .returned (.bool (A && (B && (!C && !D)))) ∧ Below w.heap.size w w' := by
  have hB0 := Below.refl w.heap.size w
  go_enter Try.func15, Try.ntmps15
  cases A <;> cases B <;> cases C <;> cases D
  all_goals go_wp2_with (first
    | (go_at_call 11; first | (with_reducible refine (cA _ (by assumption)).mono ?_) | (with_reducible refine (cB _ (by assumption)).mono ?_)
       rintro e1 w1 ⟨rfl, hB⟩)
    | (go_at_call 13; first | (with_reducible refine (cC _ (by assumption)).mono ?_) | (with_reducible refine (cD _ (by assumption)).mono ?_)
       rintro e1 w1 ⟨rfl, hB⟩))
  all_goals go_ret
  all_goals exact ⟨rfl, by assumption⟩
theorem beside_any (a b : List UInt8) (w : World) :
    Calls Try.prog 15 #[.string (txt a), .string (txt b)] w fun e w' => e = .returned (.bool (besR a b)) ∧ Below w.heap.size w w' :=
  beside_gen a b _ _ _ _ w (from_base (right_any a)) (from_base (right_any b)) (from_base (covers_any a b)) (from_base (covers_any b a))

/-! ### joined with slashes -/
def joinS (xs : List (List UInt8)) : List UInt8 := Lib.join xs [47]
theorem joinS_snoc (xs : List (List UInt8)) (x : List UInt8) (h : xs ≠ []) : joinS (xs ++ [x]) = joinS xs ++ [47] ++ x := by
  unfold joinS
  cases xs with
  | nil => exact absurd rfl h
  | cons y ys =>
    rw [List.cons_append, Lib.join_cons, Lib.join_cons]
    unfold Lib.joinTail
    simp
theorem joinS_nil : joinS [] = [] := rfl
theorem joinS_one (x : List UInt8) : joinS [x] = x := Lib.join_one x [47]
theorem splitS_mid : ∀ (u m : List UInt8), splitS (u ++ 47 :: m) = splitS u ++ splitS m
  | [], m => by
    have e : splitS (47 :: m) = [] :: splitS m := by rw [splitS, if_pos rfl]
    rw [List.nil_append, e]; rfl
  | b :: u, m => by
    rw [List.cons_append, splitS, splitS, splitS_mid u m]
    split
    · rfl
    · cases h : splitS u with
      | nil => exact absurd h (splitS_ne u)
      | cons x xs => rfl
theorem joinS_split : ∀ (u : List UInt8), joinS (splitS u) = u
  | [] => rfl
  | b :: u => by
    have ih := joinS_split u
    rw [splitS]
    split
    · rename_i h
      subst h
      cases hs : splitS u with
      | nil => exact absurd hs (splitS_ne u)
      | cons x xs =>
        rw [hs] at ih
        unfold joinS at ih ⊢
        rw [Lib.join_cons] at ih ⊢
        rw [← ih]
        simp [Lib.joinTail]
    · cases hs : splitS u with
      | nil => exact absurd hs (splitS_ne u)
      | cons x xs =>
        rw [hs] at ih
        unfold joinS at ih ⊢
        simp only
        rw [Lib.join_cons] at ih ⊢
        rw [← ih]; rfl
theorem joinS_len (xs : List (List UInt8)) (n : Nat) (h : ∀ x ∈ xs, x.length ≤ n) : (joinS xs).length ≤ xs.length * (n + 1) := by
  induction xs with
  | nil => simp [joinS_nil]
  | cons x xs ih =>
    have ih := ih (fun y hy => h y (by simp [hy]))
    have hx := h x (by simp)
    unfold joinS at ih ⊢
    cases xs with
    | nil => rw [Lib.join_one]; simp; omega
    | cons y ys =>
      rw [Lib.join_length] at ih ⊢
      simp only [Lib.lens, List.map_cons, List.sum_cons, List.length_cons, List.length_nil] at ih ⊢
      have e : (ys.length + 1 + 1) * (n + 1) = (ys.length + 1) * (n + 1) + (n + 1) := Nat.succ_mul _ _
      omega
set_option maxHeartbeats 1000000 in
theorem rjoin_any (A : Option Addr) (n c : Nat) (ps : List (List UInt8)) (hn : ps.length = n) (bn : n ≤ 1000000) (hp : ∀ x ∈ ps, x.length ≤ 1000000) (w : World) (hr : Rd w A (ps.map strV)) :
    Calls Try.prog 21 #[.slice A n c] w fun e w' => e = .returned (.string (txt (joinS ps))) ∧ w = w' := by
  go_enter Try.func21, Try.ntmps21
  go_wp2
  go_loopw [3, 4] (fun s i wr => ∃ (k : Nat) (J : List UInt8), k ≤ n ∧ i = .int .i64 k ∧ s = .string (txt J) ∧ J = joinS (ps.take k) ∧ w = wr) (fun _ i _ => n - (intOf i).toNat)
  case atStart => exact ⟨0, [], by omega, rfl, rfl, rfl, rfl⟩
  case round =>
    obtain ⟨k, J, hk, rfl, rfl, hJ, rfl⟩ := hrel
    have hJl : J.length ≤ 1000000 * 1000001 := by
      rw [hJ]
      refine Nat.le_trans (joinS_len _ 1000000 (fun x hx => hp x (List.mem_of_mem_take hx))) ?_
      rw [List.length_take]
      exact Nat.mul_le_mul_right _ (by omega)
    have HJ := hid hJ
    clear hJ
    by_cases hlt : k < n
    · obtain ⟨p, hpk⟩ : ∃ p, ps[k]? = some p := ⟨_, List.getElem?_eq_getElem (by omega)⟩
      obtain ⟨ad, rfl, hcell⟩ := rd_in hr k (strV p) (by rw [List.getElem?_map, hpk]; rfl)
      unfold strV at hcell
      have hpl := hp p (List.mem_of_getElem? hpk)
      have HP := hid hpk
      have b1 : (k : Int) < n := by omega
      clear hpk
      by_cases hk0 : k = 0
      · have b2 : ¬ (0 : Int) < k := by omega
        have b3 : ¬ 0 < k := by omega
        have z2 : ¬ (9223372036854775807 : Int) < (J.length : Int) + (p.length : Int) := by omega
        have HK0 := hid hk0
        clear hk0
        go_wp2
        go_roundw
        case rel =>
          refine ⟨k + 1, J ++ p, by omega, by go_num, rfl, ?_, by first | rfl | trivial⟩
          rw [take_snoc HP.out, HJ.out, HK0.out, List.take_zero, List.nil_append, joinS_nil, joinS_one, List.nil_append]
        case measure => simp [intOf]; omega
      · have b2 : (0 : Int) < k := by omega
        have b3 : 0 < k := by omega
        have z1 : ¬ (9223372036854775807 : Int) < J.length + 1 := by omega
        have z2 : ¬ (9223372036854775807 : Int) < (J.length + 1) + p.length := by omega
        go_wp2
        go_roundw
        case rel =>
          refine ⟨k + 1, J ++ 47 :: p, by omega, by go_num, by rw [show (⟨#[47]⟩ : ByteArray) = txt [47] from rfl, txt_append, txt_append, List.append_assoc]; rfl, ?_, by first | rfl | trivial⟩
          rw [take_snoc HP.out, joinS_snoc _ _ (by intro h; have := congrArg List.length h; rw [List.length_take, List.length_nil] at this; omega), HJ.out]
          simp
        case measure => simp [intOf]; omega
    · obtain rfl : k = n := by omega
      have b1 : ¬ (k : Int) < k := by omega
      go_wp2
      go_ret
      refine ⟨?_, rfl⟩
      rw [HJ.out, List.take_of_length_le (by omega)]; rfl

/-! ### the last slash -/
/-- A path without its last part; that part. -/
def abvS (s : List UInt8) : List UInt8 := joinS (splitS s).dropLast
def lstS (s : List UInt8) : List UInt8 := ((splitS s).getLast?).getD []
theorem last_cases (s : List UInt8) : (Lib.lastIndexByte (txt s) 47 = -1 ∧ abvS s = [] ∧ lstS s = s) ∨
    ∃ i : Nat, i < s.length ∧ Lib.lastIndexByte (txt s) 47 = i ∧ abvS s = s.take i ∧ lstS s = s.drop (i + 1) := by
  have hd : ∀ j, j < s.length → ((txt s).data[j]!).toNat = (s.getD j 0).toNat := fun j hj => by
    have : (txt s).data[j]! = s[j] := by simp [txt, hj]
    rw [this, List.getD_eq_getElem?_getD, List.getElem?_eq_getElem hj]; rfl
  have h47 : ∀ b : UInt8, ((b.toNat : Int) = 47) = (b = 47) := fun b => by
    rw [← ib_inj b 47]; rfl
  unfold abvS lstS Lib.lastIndexByte
  rw [txt_size]
  rcases Lib.lastIdx_spec (txt s) 47 s.length with ⟨h, hno⟩ | ⟨i, hi, h, hat, hno⟩
  · refine .inl ⟨h, ?_⟩
    have hs : splitS s = [s] := splitS_no s (fun x hx e => by
      obtain ⟨j, hj, rfl⟩ := List.getElem_of_mem hx
      apply hno j hj
      rw [show (((txt s).data[j]!).toNat : Int) = ((s.getD j 0).toNat : Int) by rw [hd j hj], h47, List.getD_eq_getElem?_getD, List.getElem?_eq_getElem hj]
      exact e)
    rw [hs]
    exact ⟨rfl, rfl⟩
  · refine .inr ⟨i, hi, h, ?_⟩
    have hx : s[i] = 47 := by
      rw [show (((txt s).data[i]!).toNat : Int) = ((s.getD i 0).toNat : Int) by rw [hd i hi], h47, List.getD_eq_getElem?_getD, List.getElem?_eq_getElem hi] at hat
      exact hat
    have hsp : s = s.take i ++ 47 :: s.drop (i + 1) := by
      conv => lhs; rw [← List.take_append_drop i s, List.drop_eq_getElem_cons hi, hx]
    have hn : ∀ x ∈ s.drop (i + 1), x ≠ 47 := fun x hx e => by
      obtain ⟨j, hj, rfl⟩ := List.getElem_of_mem hx
      rw [List.length_drop] at hj
      apply hno (i + 1 + j) (by omega) (by omega)
      rw [show (((txt s).data[i + 1 + j]!).toNat : Int) = ((s.getD (i + 1 + j) 0).toNat : Int) by rw [hd _ (by omega)], h47, List.getD_eq_getElem?_getD, List.getElem?_eq_getElem (by omega)]
      rw [List.getElem_drop] at e
      exact e
    have hs : splitS s = splitS (s.take i) ++ [s.drop (i + 1)] := by
      conv => lhs; rw [hsp, splitS_mid, splitS_no _ hn]
    rw [hs, List.dropLast_concat, joinS_split, List.getLast?_append]
    exact ⟨rfl, rfl⟩
theorem lastIndex_any (s : List UInt8) (hs : s.length ≤ 1000000) (w : World) :
    Calls Try.prog 69 #[.string (txt s), .string ⟨#[47]⟩] w fun e w' => e = .returned (.int .i64 (Lib.lastIndexByte (txt s) 47)) ∧ w = w' := by
  have := Any.strings_LastIndex_one lays148 (txt s) ⟨#[47]⟩ rfl (by rw [txt_size]; omega) w
  exact this.mono (by rintro e w' ⟨h, rfl⟩; exact ⟨h, rfl⟩)
set_option maxHeartbeats 1000000 in
theorem pcut_any (s : List UInt8) (hs : s.length ≤ 1000000) (w : World) :
    Calls Try.prog 48 #[.string (txt s)] w fun e w' => e = .returned (.tuple #[.string (txt (if pathR s then abvS s else [])), .string (txt (if pathR s then lstS s else []))]) ∧ Below w.heap.size w w' := by
  have cR := right_any s
  cases hR : pathR s with
  | false =>
    rw [hR] at cR
    clear hR
    go_enter Try.func48, Try.ntmps48
    go_wp2_with (go_at_call 11; (with_reducible refine (cR _).mono ?_); rintro e1 w1 ⟨rfl, hB1⟩)
    go_ret2
    exact ⟨rfl, hB1⟩
  | true =>
    rw [hR] at cR
    clear hR
    have cL := lastIndex_any s hs
    rcases last_cases s with ⟨h, ha, hl⟩ | ⟨i, hi, h, ha, hl⟩
    · rw [h] at cL
      simp only [if_true]
      rw [ha, hl]
      have s1 : (txt s).extract 0 0 = txt [] := slice_to s 0
      have s2 : (txt s).extract 0 s.length = txt s := by have := slice_from s 0; rwa [txt_size] at this
      have m1 : max (-1 : Int) 0 = 0 := by decide
      clear ha hl h
      go_enter Try.func48, Try.ntmps48
      go_wp2_with (first
        | (go_at_call 11; (with_reducible refine (cR _).mono ?_); rintro e1 w1 ⟨rfl, hB1⟩)
        | (go_at_call 69; (with_reducible refine (cL _).mono ?_); rintro e2 w2 ⟨rfl, rfl⟩))
      go_quiet (fail)
      go_wp2
      go_ret2
      exact ⟨rfl, below_drewN hB1 _⟩
    · rw [h] at cL
      simp only [if_true]
      rw [ha, hl]
      have s1 : (txt s).extract 0 i = txt (s.take i) := slice_to s i
      have s2 : (txt s).extract (i + 1) s.length = txt (s.drop (i + 1)) := by have := slice_from s (i + 1); rwa [txt_size] at this
      have m1 : max (i : Int) 0 = i := by omega
      have b1 : (0 : Int) ≤ i := by omega
      have b2 : (i : Int) ≤ s.length := by omega
      have b3 : (i : Int) + 1 ≤ s.length := by omega
      have b4 : (0 : Int) ≤ (i : Int) + 1 := by omega
      clear ha hl h
      go_enter Try.func48, Try.ntmps48
      go_wp2_with (first
        | (go_at_call 11; (with_reducible refine (cR _).mono ?_); rintro e1 w1 ⟨rfl, hB1⟩)
        | (go_at_call 69; (with_reducible refine (cL _).mono ?_); rintro e2 w2 ⟨rfl, rfl⟩))
      go_quiet (fail)
      go_wp2
      go_ret2
      exact ⟨rfl, below_drewN hB1 _⟩
theorem above_any (s : List UInt8) (hs : s.length ≤ 1000000) (w : World) :
    Calls Try.prog 17 #[.string (txt s)] w fun e w' => e = .returned (.string (txt (if pathR s then abvS s else []))) ∧ Below w.heap.size w w' := by
  have c := pcut_any s hs
  generalize (if pathR s then abvS s else []) = U at c ⊢
  generalize (if pathR s then lstS s else []) = V at c ⊢
  go_enter Try.func17, Try.ntmps17
  go_wp2_with (go_at_call 48; (with_reducible refine (c _).mono ?_); rintro e1 w1 ⟨rfl, hB1⟩)
  go_ret
  exact ⟨rfl, hB1⟩
theorem last_any (s : List UInt8) (hs : s.length ≤ 1000000) (w : World) :
    Calls Try.prog 18 #[.string (txt s)] w fun e w' => e = .returned (.string (txt (if pathR s then lstS s else []))) ∧ Below w.heap.size w w' := by
  have c := pcut_any s hs
  generalize (if pathR s then abvS s else []) = U at c ⊢
  generalize (if pathR s then lstS s else []) = V at c ⊢
  go_enter Try.func18, Try.ntmps18
  go_wp2_with (go_at_call 48; (with_reducible refine (c _).mono ?_); rintro e1 w1 ⟨rfl, hB1⟩)
  go_ret
  exact ⟨rfl, hB1⟩
theorem awake10_any (w : World) :
    Calls Try.prog 9 #[] w fun e w' => e = .returned (.bool true) ∧ Below w.heap.size w w' := by
  have e1 : (⟨#[97, 47, 98]⟩ : ByteArray) = txt [97, 47, 98] := rfl
  have e2 : (⟨#[97, 47, 98, 47, 99]⟩ : ByteArray) = txt [97, 47, 98, 47, 99] := rfl
  have e3 : (⟨#[97, 47, 98, 99]⟩ : ByteArray) = txt [97, 47, 98, 99] := rfl
  have v1 : covR [97, 47, 98] [97, 47, 98] = true := by decide
  have v2 : covR [97, 47, 98] [97, 47, 98, 47, 99] = true := by decide
  have v3 : covR [97, 47, 98] [97, 47, 98, 99] = false := by decide
  have c1 := from_base (w := w) (covers_any [97, 47, 98] [97, 47, 98])
  have c2 := from_base (w := w) (covers_any [97, 47, 98] [97, 47, 98, 47, 99])
  have c3 := from_base (w := w) (covers_any [97, 47, 98] [97, 47, 98, 99])
  rw [v1, ← e1] at c1
  rw [v2, ← e1, ← e2] at c2
  rw [v3, ← e1, ← e3] at c3
  clear v1 v2 v3 e1 e2 e3
  have hB0 := Below.refl w.heap.size w
  go_enter Try.func9, Try.ntmps9
  go_wp2_with (go_at_call 13; (first | (with_reducible refine (c1 _ (by assumption)).mono ?_) | (with_reducible refine (c2 _ (by assumption)).mono ?_) | (with_reducible refine (c3 _ (by assumption)).mono ?_)); rintro e1 w1 ⟨rfl, hB⟩)
  go_ret
  exact ⟨rfl, by assumption⟩
end Go.Proofs.Ytlbmikjgpaeddaa

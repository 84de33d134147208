/- journal: frames that were written are scanned back (no walk). -/
import Derived.Test.YtemdmdgigmhlbaaGreatJn14
import Derived.SizedLaws
import Derived.ChangeArms
set_option linter.unusedSimpArgs false
set_option linter.unusedVariables false
namespace Go.Proofs.YtemdmdgigmhlbaaGreat
open Go.RowKit Go.Qc Go.Shelf
theorem drop_more {s r : List UInt8} {a : Nat} (l : List UInt8) (h : s.drop a = l ++ r) : s.drop (a + l.length) = r := by
  rw [← List.drop_drop, h, List.drop_left]
theorem rd_byteJ {s r : List UInt8} {a : Nat} {x : UInt8} (h : s.drop a = x :: r) : vaBJ s a 0 = x ∧ stBJ s a 0 = (a + 1, 0) := by
  unfold vaBJ stBJ
  rw [if_pos rfl, if_pos rfl, h]
  exact ⟨rfl, rfl⟩
theorem rd_textJ {s r p : List UInt8} {a : Nat} (hp : p.length ≤ 5000) (h : s.drop a = textE p ++ r) : vaTJ 4194304 s a 0 = p ∧ stTJ 4194304 s a 0 = (a + (textE p).length, 0) := by
  unfold vaTJ stTJ
  rw [if_pos rfl, if_pos rfl, h, textR_back 4194304 p (by omega) (by omega) r]
  exact ⟨rfl, rfl⟩
theorem rd_eightJ {s l r : List UInt8} {a : Nat} (h : s.drop a = l ++ r) : ∀ k, k ≤ l.length → slJ s a 0 k = (l.take k, a + k, 0)
  | 0, _ => rfl
  | k + 1, hk => by
    have ih := rd_eightJ h k (by omega)
    obtain ⟨x, hx⟩ : ∃ x, l[k]? = some x := ⟨_, List.getElem?_eq_getElem (by omega)⟩
    have hd : s.drop (a + k) = x :: (l.drop (k + 1) ++ r) := by
      rw [← List.drop_drop, h, List.drop_append_of_le_length (by omega), List.drop_eq_getElem_cons (by omega : k < l.length)]
      rw [List.getElem?_eq_getElem (by omega)] at hx
      rw [Option.some.inj hx]
      rfl
    have q := rd_byteJ hd
    rw [slJ, ih]
    simp only
    rw [q.1, q.2, List.take_add_one, hx]
    rfl
theorem kB_nat {X : FmD} (h : X.okF) : ((kB X).toNat : Int) = X.k := by
  unfold FmD.okF at h
  unfold kB
  rw [UInt8.toNat_ofNat']
  omega
theorem frR_back {s C r : List UInt8} {a : Nat} {X : FmD} (hX : X.okF) (hp : X.p.length ≤ 5000) (h : s.drop a = frB C X ++ r) : frR s C a = some (X, a + (frB C X).length) := by
  have hNl : ((nxtB C X).take 8).length = 8 := by rw [List.length_take, nxtB_length]; rfl
  have h0 : s.drop a = 74 :: (kB X :: (textE X.p ++ ((nxtB C X).take 8 ++ r))) := by rw [h]; simp [frB]
  have q0 := rd_byteJ h0
  have h1 : s.drop (a + 1) = kB X :: (textE X.p ++ ((nxtB C X).take 8 ++ r)) := drop_more [74] h0
  have q1 := rd_byteJ h1
  have h2 : s.drop (a + 1 + 1) = textE X.p ++ ((nxtB C X).take 8 ++ r) := drop_more [kB X] h1
  have q2 := rd_textJ hp h2
  have h3 := drop_more _ h2
  have q3 := rd_eightJ h3 8 (by omega)
  rw [List.take_of_length_le (by omega)] at q3
  have e1 : kJ s a = kB X := by unfold kJ; rw [q0.2]; exact q1.1
  have e2 : kS s a = (a + 1 + 1, 0) := by unfold kS; rw [q0.2]; exact q1.2
  have e3 : pJ s a = X.p := by unfold pJ; rw [e2]; exact q2.1
  have e4 : pS s a = (a + 1 + 1 + (textE X.p).length, 0) := by unfold pS; rw [e2]; exact q2.2
  have e5 : sJ s a = ((nxtB C X).take 8, a + 1 + 1 + (textE X.p).length + 8, 0) := by unfold sJ; rw [e4]; exact q3
  have e6 : fJ s a = X := by unfold fJ; rw [e1, e3, kB_nat hX]
  unfold frR
  rw [q0.1, e5, e6]
  rw [if_neg (by simp), if_neg (by simp), if_neg (by simpa using hX), if_neg (by simp)]
  congr 2
  simp only [frB, List.length_cons, List.length_append, hNl]
  omega
theorem frR_end {s C : List UInt8} {a : Nat} (h : s.drop a = []) : frR s C a = none := by
  have q : vaBJ s a 0 = 0 := by unfold vaBJ; rw [if_pos rfl, h]; rfl
  unfold frR
  rw [q, if_pos (by decide)]
/-- The bytes of frames from a chain on, and the chain behind them. -/
def rsB : List UInt8 → List FmD → List UInt8
  | _, [] => []
  | C, X :: Xs => frB C X ++ rsB (nxtB C X) Xs
def chB : List UInt8 → List FmD → List UInt8
  | C, [] => C
  | C, X :: Xs => chB (nxtB C X) Xs
theorem fold_rsB : ∀ (Xs : List FmD) (l C : List UInt8), Xs.foldl (fun s X => (s.1 ++ frB s.2 X, nxtB s.2 X)) (l, C) = (l ++ rsB C Xs, chB C Xs)
  | [], l, C => by simp [rsB, chB]
  | X :: Xs, l, C => by rw [List.foldl_cons, fold_rsB Xs, rsB, chB, List.append_assoc]
theorem stJ_rsB (Xs : List FmD) : stJ Xs = (rsB begB Xs, chB begB Xs) := by unfold stJ; rw [fold_rsB]; rfl
theorem rsB_len : ∀ (Xs : List FmD) (C : List UInt8), Xs.length ≤ (rsB C Xs).length
  | [], _ => Nat.zero_le _
  | X :: Xs, C => by
    have := rsB_len Xs (nxtB C X)
    simp only [rsB, List.length_append, List.length_cons, frB]
    omega
theorem scF_back {s : List UInt8} : ∀ (Xs : List FmD) (C : List UInt8) (a f : Nat), okJ Xs → (∀ X ∈ Xs, X.p.length ≤ 5000) → s.drop a = rsB C Xs → Xs.length < f → scF s f a C = (Xs, a + (rsB C Xs).length, chB C Xs)
  | [], C, a, 0, _, _, _, hf => by simp at hf
  | [], C, a, f + 1, _, _, h, _ => by rw [scF_none (frR_end (by rw [h]; rfl))]; rfl
  | X :: Xs, C, a, 0, _, _, _, hf => by simp at hf
  | X :: Xs, C, a, f + 1, hok, hp, h, hf => by
    have hb := frR_back (hok X (by simp)) (hp X (by simp)) (r := rsB (nxtB C X) Xs) h
    have ih := scF_back Xs (nxtB C X) (a + (frB C X).length) f (fun Y hY => hok Y (by simp [hY])) (fun Y hY => hp Y (by simp [hY])) (drop_more _ h) (by simp at hf; omega)
    rw [scF_some hb, ih, rsB, chB, List.length_append, Nat.add_assoc]
/-- What All wrote is scanned back whole. -/
theorem scJ_back (Xs : List FmD) (hok : okJ Xs) (hp : ∀ X ∈ Xs, X.p.length ≤ 5000) : scJ (stJ Xs).1 = (Xs, (stJ Xs).1.length, (stJ Xs).2) := by
  rw [stJ_rsB]
  have hl := rsB_len Xs begB
  have := scF_back (s := rsB begB Xs) Xs begB 0 ((rsB begB Xs).length + 1) hok hp rfl (by omega)
  unfold scJ
  rw [this, Nat.zero_add]
theorem scJ_nil : scJ [] = ([], 0, begB) := scJ_back [] (by intro X hX; simp at hX) (by intro X hX; simp at hX)
end Go.Proofs.YtemdmdgigmhlbaaGreat
/- journal: the law's frames as the document has them. -/
set_option linter.unusedSimpArgs false
set_option linter.unusedVariables false
namespace Go.Proofs.YtemdmdgigmhlbaaGreat
open Go.RowKit Go.Qc Go.Shelf
attribute [local go_sem] txt_size txt_append ib_fold
set_option maxRecDepth 100000 in
set_option maxHeartbeats 8000000 in
theorem plain_yes (A : Option Addr) (n c : Nat) (Xs : List FmD) (hn : Xs.length = n) (hN : n * 24 ≤ 140737488355328) (hp : ∀ X ∈ Xs, X.p.length ≤ 300) (w : World) (hA : FjRd w A Xs) :
    Calls Tryz.prog 4 #[.slice A n c] w fun e w' => ∃ v, e = .returned (.tuple #[v, .bool (decide ((n : Int) ≤ 12))]) ∧ FrOw w' w.heap.size v n Xs ∧ Below w.heap.size w w' := by
  have HN := hid hn
  clear hn
  go_enter Tryz.func4, Tryz.ntmps4
  go_wp2_with (fail)
  go_loopw [4, 9] (fun v0 i W' => ∃ (k : Nat) (v : Value), k ≤ n ∧ i = .int .i64 k ∧ v = v0 ∧ FrOw W' w.heap.size v k (Xs.take k) ∧ Below w.heap.size w W') (fun _ i _ => n - (intOf i).toNat)
  case atStart => exact ⟨0, _, by omega, rfl, rfl, by rw [List.take_zero]; exact FrOw.none_ _ _, Below.refl _ _⟩
  case round =>
    obtain ⟨k, v, hk, rfl, rfl, row, hb⟩ := hrel
    by_cases hlt : k < n
    · obtain ⟨X, hX⟩ : ∃ X, Xs[k]? = some X := ⟨_, List.getElem?_eq_getElem (by rw [HN.out]; exact hlt)⟩
      have hxp := hp X (List.mem_of_getElem? hX)
      obtain ⟨g, q, hgx, hXo, hix⟩ := (hA.below hb).pick c HN.out hX
      have hT := hid (show Xs.take (k + 1) = Xs.take k ++ [X] by rw [List.take_add_one, hX]; rfl)
      have b1 : (k : Int) < n := by omega
      have z1 : ¬ ((300 : Int) < (X.p.length : Int)) := by omega
      have z2 : ¬ (300 < X.p.length) := by omega
      have hal := (Below.refl wr.heap.size wr).alloc (Nat.le_refl _) (.cells X.cs 34)
      have bx := Blk.new wr 34 X.cs
      have c0 : (wr.alloc (.cells X.cs 34)).cell? ⟨wr.heap.size, 0, none⟩ = some (.int .i64 X.k) := bx.cell_ rfl
      have c1 : (wr.alloc (.cells X.cs 34)).cell? ⟨wr.heap.size, 1, none⟩ = some (.string (txt X.p)) := bx.cell_ rfl
      replace row := row.below hal
      replace hb := hb.trans (hal.mono hb.size)
      have hk1 : (wr.alloc (.cells X.cs 34)).heap.size = wr.heap.size + 1 := by simp
      have hRn : FrRd ((wr.alloc (.cells X.cs 34)).alloc (.cells #[.int .i64 X.k, .string (txt X.p)] 36)) (some ⟨wr.heap.size + 1, 0, none⟩) [X] := by
        have b2 := Blk.new (wr.alloc (.cells X.cs 34)) 36 #[.int .i64 X.k, .string (txt X.p)]
        rw [hk1] at b2
        refine ⟨FmD.all_ok _, .inr ⟨wr.heap.size + 1, 0, rfl, fun j v hj => blk_range b2 j v ?_⟩⟩
        simpa [fmsV, FmD.cs] using hj
      have hal2 := (Below.refl (wr.alloc (.cells X.cs 34)).heap.size (wr.alloc (.cells X.cs 34))).alloc (Nat.le_refl _) (.cells #[.int .i64 X.k, .string (txt X.p)] 36)
      replace row := row.below hal2
      replace hb := hb.trans (hal2.mono hb.size)
      clear hX bx hal hal2 hk1
      go_wp2_with (first
        | (with_reducible refine wpList_load_fjr (by with_unfolding_all rfl) _ rfl g q rfl hgx hXo ?_)
        | (with_reducible refine wpList_store_fjn rfl _ _ rfl rfl rfl hXo rfl ?_)
        | (at_builtin; go_loud (refine wpList_append_fr rfl _ _ rfl w.heap.size v k (Xs.take k) rfl row _ 1 1 [X] rfl rfl (by intro e; cases e) hRn (by omega) hb.size ?_); intro v9 w9 row9 g9))
      have hb9 := hb.grown g9 hb.size (fun j hj => (row.lt j hj).1)
      go_roundw
      case rel => exact ⟨k + 1, v9, hlt, by go_num, rfl, by rw [hT.out]; exact row9, hb9⟩
      case measure => simp [intOf]; omega
    · obtain rfl : k = n := by omega
      rw [List.take_of_length_le (by rw [HN.out]; exact Nat.le_refl _)] at row
      have b1 : ¬ (k : Int) < k := by omega
      go_wp2
      go_ret2
      exact ⟨_, rfl, row, hb⟩
end Go.Proofs.YtemdmdgigmhlbaaGreat
/- journal: the law's frames, where a payload is too long; the bound on a row that comes in. -/
set_option linter.unusedSimpArgs false
set_option linter.unusedVariables false
namespace Go.Proofs.YtemdmdgigmhlbaaGreat
open Go.RowKit Go.Qc Go.Shelf
attribute [local go_sem] txt_size txt_append ib_fold
/-- All payloads are short. -/
def SmJ (Xs : List FmD) : Prop := ∀ X ∈ Xs, X.p.length ≤ 300
set_option maxRecDepth 100000 in
set_option maxHeartbeats 8000000 in
theorem plain_no (A : Option Addr) (n c : Nat) (Xs : List FmD) (hn : Xs.length = n) (hN : n * 24 ≤ 140737488355328) (hp : ∃ X ∈ Xs, 300 < X.p.length) (w : World) (hA : FjRd w A Xs) :
    Calls Tryz.prog 4 #[.slice A n c] w fun e w' => e = .returned (.tuple #[.slice none 0 0, .bool false]) ∧ Below w.heap.size w w' := by
  have HN := hid hn
  have HP := hid hp
  clear hn hp
  go_enter Tryz.func4, Tryz.ntmps4
  go_wp2_with (fail)
  go_loopw [4, 9] (fun v0 i W' => ∃ (k : Nat) (v : Value), k ≤ n ∧ i = .int .i64 k ∧ v = v0 ∧ FrOw W' w.heap.size v k (Xs.take k) ∧ SmJ (Xs.take k) ∧ Below w.heap.size w W') (fun _ i _ => n - (intOf i).toNat)
  case atStart => exact ⟨0, _, by omega, rfl, rfl, by rw [List.take_zero]; exact FrOw.none_ _ _, by rw [List.take_zero]; intro X hX; simp at hX, Below.refl _ _⟩
  case round =>
    obtain ⟨k, v, hk, rfl, rfl, row, hsm, hb⟩ := hrel
    by_cases hlt : k < n
    · obtain ⟨X, hX⟩ : ∃ X, Xs[k]? = some X := ⟨_, List.getElem?_eq_getElem (by rw [HN.out]; exact hlt)⟩
      obtain ⟨g, q, hgx, hXo, hix⟩ := (hA.below hb).pick c HN.out hX
      have hT := hid (show Xs.take (k + 1) = Xs.take k ++ [X] by rw [List.take_add_one, hX]; rfl)
      have b1 : (k : Int) < n := by omega
      have hal := (Below.refl wr.heap.size wr).alloc (Nat.le_refl _) (.cells X.cs 34)
      have bx := Blk.new wr 34 X.cs
      have c0 : (wr.alloc (.cells X.cs 34)).cell? ⟨wr.heap.size, 0, none⟩ = some (.int .i64 X.k) := bx.cell_ rfl
      have c1 : (wr.alloc (.cells X.cs 34)).cell? ⟨wr.heap.size, 1, none⟩ = some (.string (txt X.p)) := bx.cell_ rfl
      replace row := row.below hal
      replace hb := hb.trans (hal.mono hb.size)
      have hk1 : (wr.alloc (.cells X.cs 34)).heap.size = wr.heap.size + 1 := by simp
      by_cases hxp : X.p.length ≤ 300
      · have z1 : ¬ ((300 : Int) < (X.p.length : Int)) := by omega
        have z2 : ¬ (300 < X.p.length) := by omega
        have hsn : SmJ (Xs.take (k + 1)) := by
          intro Y hY
          rw [hT.out] at hY
          rcases List.mem_append.1 hY with hY | hY
          · exact hsm Y hY
          · rw [List.mem_singleton.1 hY]; exact hxp
        have hRn : FrRd ((wr.alloc (.cells X.cs 34)).alloc (.cells #[.int .i64 X.k, .string (txt X.p)] 36)) (some ⟨wr.heap.size + 1, 0, none⟩) [X] := by
          have b2 := Blk.new (wr.alloc (.cells X.cs 34)) 36 #[.int .i64 X.k, .string (txt X.p)]
          rw [hk1] at b2
          refine ⟨FmD.all_ok _, .inr ⟨wr.heap.size + 1, 0, rfl, fun j v hj => blk_range b2 j v ?_⟩⟩
          simpa [fmsV, FmD.cs] using hj
        have hal2 := (Below.refl (wr.alloc (.cells X.cs 34)).heap.size (wr.alloc (.cells X.cs 34))).alloc (Nat.le_refl _) (.cells #[.int .i64 X.k, .string (txt X.p)] 36)
        replace row := row.below hal2
        replace hb := hb.trans (hal2.mono hb.size)
        clear hX bx hal hal2 hk1 hsm
        go_wp2_with (first
          | (with_reducible refine wpList_load_fjr (by with_unfolding_all rfl) _ rfl g q rfl hgx hXo ?_)
          | (with_reducible refine wpList_store_fjn rfl _ _ rfl rfl rfl hXo rfl ?_)
          | (at_builtin; go_loud (refine wpList_append_fr rfl _ _ rfl w.heap.size v k (Xs.take k) rfl row _ 1 1 [X] rfl rfl (by intro e; cases e) hRn (by omega) hb.size ?_); intro v9 w9 row9 g9))
        have hb9 := hb.grown g9 hb.size (fun j hj => (row.lt j hj).1)
        go_roundw
        case rel => exact ⟨k + 1, v9, hlt, by go_num, rfl, by rw [hT.out]; exact row9, hsn, hb9⟩
        case measure => simp [intOf]; omega
      · have z1 : (300 : Int) < (X.p.length : Int) := by omega
        have z2 : 300 < X.p.length := by omega
        clear hX bx hal hk1 hsm hxp row
        go_wp2_with (first
          | (with_reducible refine wpList_load_fjr (by with_unfolding_all rfl) _ rfl g q rfl hgx hXo ?_)
          | (with_reducible refine wpList_store_fjn rfl _ _ rfl rfl rfl hXo rfl ?_))
        go_ret2
        exact ⟨rfl, hb⟩
    · exfalso
      obtain rfl : k = n := by omega
      rw [List.take_of_length_le (by rw [HN.out]; exact Nat.le_refl _)] at hsm
      obtain ⟨X, hX, h3⟩ := HP.out
      have := hsm X hX
      omega
open Go.ChangeShapes Go.WideShapes Go.ChangeAt in
/-- A row of frames that comes in takes no more than the form's own reach. -/
theorem fmRow_sized {H : Type} {enc : TypeId × Value → H} {w : World} {base : Nat} {sp : Nat → Bool} {hd : Bool} {ts : List TypeId} {ds : List (DataW H)} {A : Option Addr} {len cap : Nat} {d : DataW H} {ps : List MemPlace} {j : Nat}
    (h : DataW.Trod enc Tryz.prog w base sp hd 22 (.slice A len cap) d ps) (hz : (DataW.weightsEach Tryz.prog ts ds).all (· ≤ reachBytes) = true) (ht : ts[j]? = some 22) (hd : ds[j]? = some d) : len * 24 ≤ 140737488355328 := by
  obtain ⟨fuel, hf⟩ := h
  rcases DataW.trod_slice Tryz.underlying22 hf with ⟨h1, h2⟩ | ⟨a, l, c, elems, rest, m, _, h1, h2, _, _, _, hl, _⟩
  · have e1 : (Value.slice A len cap).cells = #[.slice A len cap] := rfl
    rw [e1] at h1
    simp at h1
    rw [h1.2.1]
    decide
  · have e1 : (Value.slice A len cap).cells = #[.slice A len cap] := rfl
    rw [e1] at h1
    simp at h1
    obtain ⟨_, rfl, _⟩ := h1
    have h3 : d = .slice (elems.map (·.1)) (rest.map (·.1)) := congrArg Prod.fst h2
    rw [h3] at hd
    have h4 := sized_slice hz ht hd Tryz.underlying22
    have h5 : Tryz.prog.bytesOf 34 = 24 := by kernel_rfl
    rw [h5, List.length_map, hl] at h4
    have := reachBytes_lt
    omega
end Go.Proofs.YtemdmdgigmhlbaaGreat

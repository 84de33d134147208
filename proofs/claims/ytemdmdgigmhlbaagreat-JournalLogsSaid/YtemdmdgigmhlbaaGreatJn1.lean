
/- journal: the chain at first, and the one behind a frame; of the program and of the document. -/
import Derived.Test.YtemdmdgigmhlbaaGreatJn0
import Derived.Test.YtemdmdgigmhlbaaGreatTag6
import Derived.Test.YtemdmdgigmhlbaaGreatMkA
set_option linter.unusedSimpArgs false
set_option linter.unusedVariables false
namespace Go.Proofs.YtemdmdgigmhlbaaGreat
open Go.RowKit Go.Qc Go.Shelf
attribute [local go_sem] txt_size txt_append ib_fold
def jouN : List UInt8 := [106, 111, 117, 114, 110, 97, 108]
def frmN : List UInt8 := [102, 114, 97, 109, 101]
def kB (X : FmD) : UInt8 := UInt8.ofNat X.k.toNat
/-- The chain at first, and behind a frame. -/
def begB : List UInt8 := tagB jouN []
def nxtB (c : List UInt8) (X : FmD) : List UInt8 := tagB frmN [c, [kB X], X.p]
theorem begB_length : begB.length = 32 := tagB_length _ _
theorem nxtB_length (c : List UInt8) (X : FmD) : (nxtB c X).length = 32 := tagB_length _ _
/-- A frame's error. -/
def wrgF (X : FmD) : Int := if X.k < 1 ∨ 255 < X.k then 1 else 0
theorem rd_threeJ (w : World) (a b c : List UInt8) : Rd (w.alloc (.cells #[.string (txt a), .string (txt b), .string (txt c)] 9)) (some ⟨w.heap.size, 0, none⟩) ([a, b, c].map strV) := Rd.blk (Blk.new _ _ _) (by
  intro j u h
  rw [List.getElem?_toArray]; exact h)
theorem textB_frm (c q p : List UInt8) (hc : c.length = 32) (hq : q.length = 1) (hp : p.length ≤ 5000) : (textB frmN [c, q, p]).length ≤ 1000000000000 :=
  textB_ids frmN (by decide) _ (by simp only [List.map_cons, List.map_nil, List.sum_cons, List.sum_nil, List.length_cons, List.length_nil]; omega)
set_option maxRecDepth 100000 in
set_option maxHeartbeats 1000000 in
theorem begin_any (w : World) : Calls Tryz.prog 23 #[] w fun e w' => e = .returned (.agg (idVals begB)) ∧ Below w.heap.size w w' := by
  have hSl : begB.length = 32 := begB_length
  have c1 : ∀ W : World, Calls Tryz.prog 39 #[.string ⟨#[106, 111, 117, 114, 110, 97, 108]⟩, .slice none 0 0] W fun e w' => e = .returned (.tuple #[.agg (idVals begB), .int .i64 0]) ∧ Below W.heap.size W w' := fun W => of_any jouN (by decide) none 0 0 [] rfl (textB_ids _ (by decide) _ (by simp)) W (Rd.nil_ _ _)
  generalize begB = S at *
  have HSL := hid hSl
  have HC := hid c1
  clear hSl c1
  go_enter Tryz.func23, Tryz.ntmps23
  go_wp2_with (fail)
  generalize hZ : (Obj.cells _ 42) = Z
  obtain ⟨zc, rfl, hzc⟩ : ∃ zc : Array Value, Z = Obj.cells zc 42 ∧ zc.size = 32 := ⟨_, hZ.symm, rfl⟩
  clear hZ
  have hR0 := Blk.new w 42 zc
  have hB0 : Below w.heap.size w (w.alloc (.cells zc 42)) := (Below.refl _ _).alloc (Nat.le_refl _) _
  refine (HC.out _).mono ?_
  rintro e1 w1 ⟨rfl, hB1⟩
  replace hR0 := hR0.below hB1
  have hB := hB0.trans (hB1.mono hB0.size)
  have hlt := hR0.lt
  have HZC := hid hzc
  clear hzc hB0 hB1
  have hN : ∀ cs : Array Value, Blk (w1.alloc (.cells cs 42)) w1.heap.size 42 cs := fun cs => Blk.new _ _ _
  have hI : (Tryz.prog.info? 42).map (·.size) = some (idVals S).size := by rw [idVals_size, HSL.out]; exact sizeId
  have hL : (Tryz.prog.info? 42).map (·.size) = some (S.map u8v).length := by rw [List.length_map, HSL.out]; exact sizeId
  have hu := Tryz.underlying42
  have h1c := idVals_one S
  have hI2 : (Tryz.prog.info? 42).map (·.size) = some (List.map u8v S).toArray.size := hI
  have h1d : (List.map u8v S).toArray.all (·.oneCell') = true := h1c
  go_wp2_with (first
    | (with_reducible refine wpList_store_blk rfl 42 _ _ rfl w1.heap.size _ (idVals S) 42 (hN _) rfl rfl hI ?c3 h1c ?_))
  case c3 => rw [idVals_size, HSL.out]; rfl
  intro w7 hb7 hg7
  have hb3 : Blk w7 w.heap.size 42 zc := (hg7.block _ (by simp; omega) (by intro e; have := Option.some.inj e; omega)).trans (hR0.alloc _)
  have hr7 := range_blk hb7
  have hB7 : Below w.heap.size w w7 := (hB.alloc (Nat.le_of_lt hlt) _).grown hg7 (by simp; omega) (by intro i e; cases e; omega)
  go_wp2_with (first
    | (with_reducible refine wpList_load_if (by with_unfolding_all rfl) 42 _ rfl _ _ rfl (S.map u8v) _ hr7 hu rfl hL ?_)
    | (with_reducible refine wpList_store_blk rfl 42 _ _ rfl w.heap.size _ (List.map u8v S).toArray 42 hb3 rfl rfl hI2 ?c4 h1d ?_))
  case c4 => exact HZC.out.trans (HSL.out.symm.trans (idVals_size S).symm)
  intro w8 hb8 hg8
  go_wp2
  refine bodyPost_ret (results_cell_row rfl _ _ _ _ _ _ _ rfl hb8 Tryz.underlying42 rfl hI) rfl ⟨rfl, ?_⟩
  exact hB7.grown hg8 hB7.size (by intro i e; cases e; exact Nat.le_refl _)
set_option maxRecDepth 100000 in
set_option maxHeartbeats 1000000 in
theorem rbegin_any (w : World) : Calls Tryz.prog 24 #[] w fun e w' => e = .returned (.agg (idVals begB)) ∧ Below w.heap.size w w' := by
  have hSl : begB.length = 32 := begB_length
  have c1 : ∀ W : World, Calls Tryz.prog 40 #[.string ⟨#[106, 111, 117, 114, 110, 97, 108]⟩, .slice none 0 0] W fun e w' => e = .returned (.agg (idVals begB)) ∧ Below W.heap.size W w' := fun W => rof_any jouN (by decide) none 0 0 [] rfl (textB_ids _ (by decide) _ (by simp)) W (Rd.nil_ _ _)
  generalize begB = S at *
  have HSL := hid hSl
  have HC := hid c1
  clear hSl c1
  go_enter Tryz.func24, Tryz.ntmps24
  go_wp2_with (fail)
  generalize hZ : (Obj.cells _ 42) = Z
  obtain ⟨zc, rfl, hzc⟩ : ∃ zc : Array Value, Z = Obj.cells zc 42 ∧ zc.size = 32 := ⟨_, hZ.symm, rfl⟩
  clear hZ
  have hR0 := Blk.new w 42 zc
  have hB0 : Below w.heap.size w (w.alloc (.cells zc 42)) := (Below.refl _ _).alloc (Nat.le_refl _) _
  refine (HC.out _).mono ?_
  rintro e1 w1 ⟨rfl, hB1⟩
  replace hR0 := hR0.below hB1
  have hB := hB0.trans (hB1.mono hB0.size)
  have hI : (Tryz.prog.info? 42).map (·.size) = some (idVals S).size := by rw [idVals_size, HSL.out]; exact sizeId
  have HZC := hid hzc
  clear hzc hB0 hB1
  have h1c := idVals_one S
  go_wp2_with (first
    | (with_reducible refine wpList_store_blk rfl 42 _ _ rfl w.heap.size _ (idVals S) 42 hR0 rfl rfl hI ?c4 h1c ?_))
  case c4 => exact HZC.out.trans (HSL.out.symm.trans (idVals_size S).symm)
  intro w8 hb8 hg8
  go_wp2
  refine bodyPost_ret (results_cell_row rfl _ _ _ _ _ _ _ rfl hb8 Tryz.underlying42 rfl hI) rfl ⟨rfl, ?_⟩
  exact hB.grown hg8 hB.size (by intro i e; cases e; exact Nat.le_refl _)
end Go.Proofs.YtemdmdgigmhlbaaGreat

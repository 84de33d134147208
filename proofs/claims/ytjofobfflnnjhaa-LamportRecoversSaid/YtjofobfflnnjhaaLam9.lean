
/- The document's Recover. -/
import Derived.Test.YtjofobfflnnjhaaLam8
namespace Go.Proofs.Ytjofobfflnnjhaa
open Go.RowKit Go.Qc
attribute [local go_sem] txt_size

set_option maxRecDepth 100000 in
set_option maxHeartbeats 4000000 in
theorem rrecover_any (m : List UInt8) (hm : m.length = 32) (A B : Option Addr) (n c d : Nat) (l r : List (List UInt8)) (hn : n ≤ 256) (w : World) (hA : RowR w A n l) (hB : RowR w B n r) :
    Calls Try.prog 67 #[.agg (idVals m), .slice A n c, .slice B n d] w fun e w' => e = .returned (.agg (idVals (joinB (sideL (pubF m l r) n)))) ∧ Below w.heap.size w w' := by
  obtain ⟨S, hS⟩ : ∃ S, S = joinB (sideL (pubF m l r) n) := ⟨_, rfl⟩
  have hSl : S.length = 32 := by rw [hS]; exact joinB_length _
  rw [← hS]
  have hu := Try.underlying23
  have hzm : (Try.prog.info? 23).map (·.size) = some (m.map u8v).length := by rw [List.length_map, hm]; exact sizeId
  have hz1 : (w.alloc (.cells (idVals m) 23)).heap.size = w.heap.size + 1 := by simp
  have hI : ∀ zc, ((w.alloc (.cells (idVals m) 23)).alloc (.cells zc 23)).rangeAt w.heap.size 0 (m.map u8v) := fun zc => range_blk ((Blk.new w 23 (idVals m)).alloc _)
  have hR0 : ∀ zc, Blk ((w.alloc (.cells (idVals m) 23)).alloc (.cells zc 23)) (w.heap.size + 1) 23 zc := fun zc => by
    have := Blk.new (w.alloc (.cells (idVals m) 23)) 23 zc
    rwa [hz1] at this
  have hB0 : ∀ zc, Below w.heap.size w ((w.alloc (.cells (idVals m) 23)).alloc (.cells zc 23)) := fun zc => ((Below.refl _ _).alloc (Nat.le_refl _) _).alloc (by simp) _
  have cP : ∀ W : World, Below w.heap.size w W → Calls Try.prog 66 #[.agg (List.map u8v m).toArray, .slice A n c, .slice B n d] W fun e w' => ∃ v, e = .returned v ∧ w'.ownsRow W.heap.size 23 32 v (2 * n) (idsV (sideL (pubF m l r) n)) ∧ Below W.heap.size W w' := fun W h => rpublics_any m hm A B n c d l r hn W (hA.below h) (hB.below h)
  have h32 := sideL_32 (pubF m l r) (pubF_length m l r hB.2.2.1) n
  have hfl := flat_len (pubF m l r) (pubF_length m l r hB.2.2.1) n
  have cJ : ∀ A c W, RowR W A (2 * n) (sideL (pubF m l r) n) → Calls Try.prog 16 #[.slice A (2 * n) c] W fun e w' => e = .returned (.string (txt (sideL (pubF m l r) n).flatten)) ∧ Below W.heap.size W w' := fun A c W h => rall_any A (2 * n) c _ W h
  have hof : ∀ W A c, Rd W A ([(sideL (pubF m l r) n).flatten].map strV) → Calls Try.prog 15 #[.string ⟨#[108, 101, 97, 102]⟩, .slice A 1 c] W fun e w' => e = .returned (.agg (idVals S)) ∧ Below W.heap.size W w' := fun W A c h => by
    rw [hS]
    exact rof_any leafN (by decide) A 1 c _ rfl (textB_leaf _ (by rw [hfl]; omega)) W h
  clear hfl
  generalize sideL (pubF m l r) n = L at *
  generalize L.flatten = F at *
  have HSL := hid hSl
  have H32 := hid h32
  have HN := hid hn
  have HOF := hid hof
  clear hS hSl h32 hz1 hn hA hB hm hof
  go_enter Try.func67, Try.ntmps67
  go_wp2_with (first
    | (with_reducible refine wpList_load_if (by with_unfolding_all rfl) 23 _ rfl _ 0 rfl (m.map u8v) _ (hI _) hu (by with_unfolding_all rfl) hzm ?_)
    | (go_at_call 66; (with_reducible refine (cP _ (hB0 _)).mono ?_); rintro e2 w2 ⟨v, rfl, hown, hB2⟩; obtain ⟨A2, cc, rfl, hrow⟩ := RowAt.own hown H32.out (by have := HN.out; omega); have hR := (hR0 _).below hB2; have hB := (hB0 _).trans (hB2.mono (hB0 _).size))
    | (go_at_call 16; (with_reducible refine (cJ _ _ _ hrow.r).mono ?_); rintro e4 w4 ⟨rfl, hB4⟩; replace hR := hR.below hB4; replace hB := hB.trans (hB4.mono hB.size); have hrd := rd_strV w4 F; replace hR := hR.alloc (.cells #[.string (txt F)] 9); replace hB := hB.alloc hB.size (.cells #[.string (txt F)] 9))
    | (go_at_call 15; (with_reducible refine (HOF.out _ _ _ hrd).mono ?_); rintro e7 w7 ⟨rfl, hB7⟩; replace hR := hR.below hB7; replace hB := hB.trans (hB7.mono hB.size))
    | (with_reducible refine wpList_store_blk rfl 23 _ _ rfl (w.heap.size + 1) _ (idVals S) 23 hR rfl rfl ?c2 ?c3 (idVals_one _) ?_))
  case c2 => rw [idVals_size, HSL.out]; exact sizeId
  case c3 => rw [idVals_size, HSL.out]; rfl
  intro w9 hb9 hg9
  go_wp2
  refine bodyPost_ret (results_cell_row rfl _ _ _ _ _ _ _ rfl hb9 Try.underlying23 rfl (by rw [idVals_size, HSL.out]; exact sizeId)) rfl ⟨rfl, ?_⟩
  exact hB.grown hg9 hB.size (by intro i e; cases e; omega)
end Go.Proofs.Ytjofobfflnnjhaa

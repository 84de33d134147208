
/- The document's All of a row of ids; the program's Chain. -/
import Derived.Test.YticpdepbgcagaaaGreatIdL
import Derived.Test.YticpdepbgcagaaaGreatTag3
namespace Go.Proofs.YticpdepbgcagaaaGreat
open Go.RowKit Go.Qc
attribute [local go_sem] txt_size txt_append

theorem flatten_snoc {l : List (List UInt8)} {k : Nat} {x : List UInt8} (hx : l[k]? = some x) : (l.take (k + 1)).flatten = (l.take k).flatten ++ x := by
  rw [List.take_add_one, hx]
  simp
theorem flatten_len : ∀ (l : List (List UInt8)), (∀ a ∈ l, a.length = 32) → l.flatten.length = 32 * l.length
  | [], _ => rfl
  | a :: l, h => by
    rw [List.flatten_cons, List.length_append, h a (by simp), flatten_len l (fun x hx => h x (by simp [hx])), List.length_cons]
    omega
theorem range_add {w : World} {g : Nat} {xs : List Value} (h : w.rangeAt g 0 xs) : ∀ j u, xs[j]? = some u → w.cell? ((⟨g, 0, none⟩ : Addr).add j) = some u := fun j u hj => by
  rw [Addr.add_lit]
  exact h j u hj
theorem rd_one (w : World) (s : List UInt8) : Rd (w.alloc (.cells #[.string (txt s)] 9)) (some ⟨w.heap.size, 0, none⟩) ([s].map strV) := Rd.blk (Blk.new _ _ _) (by
  intro j u h
  cases j with
  | zero => exact h
  | succ j => simp at h)
set_option maxRecDepth 100000 in
set_option maxHeartbeats 4000000 in
theorem chain_any (nm : List UInt8) (hnm : nm.length ≤ 1000000) (A : Option Addr) (n c : Nat) (l : List (List UInt8)) (w : World) (hA : RowR w A n l) (hN : n ≤ 1000) :
    Calls Tryz.prog 62 #[.string (txt nm), .slice A n c] w fun e w' => e = .returned (.agg (idVals (tagB (nm.take 255) [l.flatten]))) ∧ Below w.heap.size w w' := by
  obtain ⟨hn, bn, hr⟩ := hA
  have hu := Tryz.underlying24
  obtain ⟨S, hS⟩ : ∃ S, S = tagB (nm.take 255) [l.flatten] := ⟨_, rfl⟩
  have hSl : S.length = 32 := by rw [hS]; exact tagB_length _ _
  have hfl : l.flatten.length = 32 * n := by rw [flatten_len l hr.1, hn]
  have hof : ∀ W A c, Rd W A ([l.flatten].map strV) → Calls Tryz.prog 60 #[.string (txt (nm.take 255)), .slice A 1 c] W fun e w' => e = .returned (.tuple #[.agg (idVals S), .int .i64 0]) ∧ Below W.heap.size W w' := fun W A c h => by
    rw [hS]
    exact of_any (nm.take 255) (take_min nm) A 1 c [l.flatten] rfl (textB_ids _ (take_min nm) _ (by simp only [List.map_cons, List.map_nil, List.sum_cons, List.sum_nil, List.length_cons, List.length_nil, hfl]; omega)) W h
  rw [← hS]
  have cC : ∀ W : World, Calls Tryz.prog 95 #[.string (txt nm)] W fun e w' => e = .returned (.string (txt (nm.take 255))) ∧ W = w' := fun W => clipped_any nm (by omega) W
  have cG : ∀ (b : Nat) (W : World), W.heap[b]? = some (.cells #[.pointer none, .slice none 0 0] 133 (0, 0)) →
      Calls Tryz.prog 93 #[.pointer (some ⟨b, 0, none⟩), .int .i64 (32 * (n : Int))] W fun e w' => e = .returned (.tuple #[]) ∧ (Lib.BuilderAt 133 5 b b (.pointer (some ⟨b, 0, none⟩)) [] w' ∧ Below b W w') := fun b W h => by
    have := bld_grow b (32 * n) W h (by omega)
    rwa [show ((32 * n : Nat) : Int) = 32 * (n : Int) by omega] at this
  have HSL := hid hSl
  have HOF := hid hof
  have HNM := hid hnm
  have HFL := hid hfl
  clear hS hSl hof hnm hfl
  go_enter Tryz.func62, Tryz.ntmps62
  go_wp2_with (fail)
  generalize hZ : (Obj.cells _ 24) = Z
  obtain ⟨zc, rfl, hzc⟩ : ∃ zc : Array Value, Z = Obj.cells zc 24 ∧ zc.size = 32 := ⟨_, hZ.symm, rfl⟩
  clear hZ
  have hR0 := (Blk.new w 24 zc).alloc (.cells #[.pointer none, .slice none 0 0] 133)
  have hk : (w.alloc (.cells zc 24)).heap.size = w.heap.size + 1 := by simp
  have hbk := heap_alloc_new (w.alloc (.cells zc 24)) (.cells #[.pointer none, .slice none 0 0] 133)
  rw [hk] at hbk
  have hB0 : Below w.heap.size w ((w.alloc (.cells zc 24)).alloc (.cells #[.pointer none, .slice none 0 0] 133)) := ((Below.refl _ _).alloc (Nat.le_refl _) _).alloc (by simp) _
  generalize (w.alloc (.cells zc 24)).alloc (.cells #[.pointer none, .slice none 0 0] 133) = w0 at *
  clear hk
  refine (cG _ _ hbk).mono ?_
  rintro e1 w1 ⟨rfl, hb1, hB1⟩
  have hgl := Nat.lt_succ_self w.heap.size
  have HZC := hid hzc
  clear hbk cG hzc
  go_wp2
  go_loopw [16] (fun i wr => ∃ k : Nat, k ≤ n ∧ i = .int .i64 k ∧ Lib.BuilderAt 133 5 (w.heap.size + 1) (w.heap.size + 1) (.pointer (some ⟨w.heap.size + 1, 0, none⟩)) ((l.take k).flatten.map u8v) wr ∧ Below (w.heap.size + 1) w0 wr) (fun i _ => n - (intOf i).toNat)
  case atStart => exact ⟨0, by omega, rfl, hb1, hB1⟩
  case round =>
    obtain ⟨k, hk, rfl, hbl, hB⟩ := hrel
    have hBw := hB0.trans (hB.mono (Nat.le_succ _))
    have hgs := Nat.le_of_lt hbl.lt
    by_cases hlt : k < n
    · obtain ⟨x, hx⟩ : ∃ x, l[k]? = some x := ⟨_, List.getElem?_eq_getElem (by omega)⟩
      obtain ⟨g, q, hg, lx, hix⟩ := hr.pick c hn hx
      have b1 : (k : Int) < n := by omega
      have r1 := hg.below hBw
      have hzx : (Tryz.prog.info? 24).map (·.size) = some (x.map u8v).length := by rw [List.length_map, lx]; exact sizeId
      have hle : (l.take k).flatten.length + x.length ≤ 1000000000000 := by
        rw [flatten_len _ (fun a ha => hr.1 a (List.mem_of_mem_take ha)), List.length_take, lx]
        omega
      have HLE := hid hle
      have HLX := hid lx
      have HS := hid (flatten_snoc hx)
      have HN := hid hn
      clear hn hx hle lx
      go_wp2_with (first
        | (with_reducible refine wpList_load_if (by with_unfolding_all rfl) 24 _ rfl _ _ rfl (x.map u8v) _ r1 hu (by with_unfolding_all rfl) hzx ?_)
        | ((with_reducible refine wpList_store_newid rfl _ _ rfl x HLX.out rfl rfl (by with_unfolding_all rfl) ?_); intro w3 hx3 hb3; have hbl3 := bld_below hbl hb3)
        | (go_at_call 94; (with_reducible refine (bld_write _ _ x _ _ _ HLX.out _ hbl3 HLE.out (range_add hx3)).mono ?_); rintro e4 w4 ⟨rfl, hbl4, hB4⟩))
      go_roundw
      case rel => exact ⟨k + 1, by omega, by go_num, by rw [HS.out]; exact hbl4, (hB.trans (hb3.mono hgs)).trans hB4⟩
      case measure => simp [intOf]; omega
    · obtain rfl : k = n := by omega
      rw [List.take_of_length_le (by omega)] at hbl
      have b1 : ¬ (k : Int) < k := by omega
      have HN := hid hn
      clear hn
      generalize hF : l.flatten = F at *
      have hRr : Blk wr w.heap.size 24 zc := (hB.block _ hgl).trans hR0
      have hzS : (Tryz.prog.info? 24).map (·.size) = some (S.map u8v).length := by rw [List.length_map, HSL.out]; exact sizeId
      go_wp2_with (first
        | (go_at_call 95; (with_reducible refine (cC _).mono ?_); rintro e5 w5 ⟨rfl, rfl⟩)
        | (go_at_call 96; (with_reducible refine (bld_text _ _ _ hbl).mono ?_); rintro e6 w6 ⟨rfl, hB6⟩; have hrd := rd_one w6 F; have hR6 := Blk.alloc (show Blk w6 w.heap.size 24 zc from (hB6.block _ hgl).trans hRr) (.cells #[.string (txt F)] 9))
        | (go_at_call 60; (with_reducible refine (HOF.out _ _ _ hrd).mono ?_); rintro e7 w7 ⟨rfl, hB7⟩; have hR7 := hR6.below hB7)
        | ((with_reducible refine wpList_store_newid rfl _ _ rfl S HSL.out rfl rfl (by with_unfolding_all rfl) ?_); intro w8 hx8 hb8; have hR8 := hR7.below hb8)
        | (with_reducible refine wpList_load_if (by with_unfolding_all rfl) 24 _ rfl _ _ rfl (S.map u8v) _ hx8 hu (by with_unfolding_all rfl) hzS ?_)
        | (with_reducible refine wpList_store_blk rfl 24 _ _ rfl w.heap.size zc (S.map u8v).toArray 24 hR8 rfl rfl ?c2 ?c3 ?c4 ?_))
      case c2 => rw [show (S.map u8v).toArray.size = 32 by rw [List.size_toArray, List.length_map, HSL.out]]; exact sizeId
      case c3 => rw [show (S.map u8v).toArray.size = 32 by rw [List.size_toArray, List.length_map, HSL.out]]; exact HZC.out
      case c4 => exact idVals_one S
      intro w9 hb9 hg9
      go_wp2
      have hBw6 := hBw.trans (hB6.mono (Nat.le_succ _))
      have hBw7 := (hBw6.alloc hBw6.size (.cells #[.string (txt F)] 9)).trans (hB7.mono (hBw6.alloc hBw6.size (.cells #[.string (txt F)] 9)).size)
      have hBw8 := hBw7.trans (hb8.mono hBw7.size)
      refine bodyPost_ret (results_cell_row rfl _ _ _ _ _ _ _ rfl hb9 Tryz.underlying24 rfl (by rw [show (S.map u8v).toArray.size = 32 by rw [List.size_toArray, List.length_map, HSL.out]]; exact sizeId)) rfl ⟨rfl, ?_⟩
      exact hBw8.grown hg9 hBw8.size (by intro i e; cases e; exact Nat.le_refl _)
end Go.Proofs.YticpdepbgcagaaaGreat

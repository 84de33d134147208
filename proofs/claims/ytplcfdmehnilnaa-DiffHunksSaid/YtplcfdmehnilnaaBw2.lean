
/- texts: the iterator of texts from the last one on. -/
import Derived.Test.YtplcfdmehnilnaaRows
import Derived.Test.YtplcfdmehnilnaaBw0
set_option linter.unusedSimpArgs false
set_option linter.unusedVariables false
namespace Go.Proofs.Ytplcfdmehnilnaa
open Go.RowKit Go.Qc
attribute [local go_sem] Oper.semAt_some

theorem rd_old {w w' : World} {A : Option Addr} {xs : List Value} {M : Nat} (h : Rd w A xs) (hM : w.heap.size ≤ M) (hb : OldK M w w') : Rd w' A xs := by
  rcases h with rfl | ⟨ad, rfl, hc⟩
  · exact .inl rfl
  · exact .inr ⟨ad, rfl, fun j u hu => hb _ _ (Nat.lt_of_lt_of_le (cell_lt (hc j u hu)) hM) (hc j u hu)⟩
/-- What the iterator hands on: a place, and what stands there. -/
def sbEnc (hs : List (List UInt8)) (x : Nat) : Array Value := #[.int .i64 (x : Int), strV (hs.getD x [])]
set_option maxRecDepth 100000 in
set_option maxHeartbeats 4000000 in
theorem sb1_in (n : Nat) (hn : 1 ≤ n) (l Bn : Nat) (A : Option Addr) (N c : Nat) (hs : List (List UInt8)) (hN : hs.length = N) (bN : N ≤ 1000000) (M : Nat) (w0 : World) (hM : w0.heap.size ≤ M) (hA : Rd w0 A (hs.map strV)) (J Jx : List (Fin N) → World → Prop) (W : World) (hW0 : OldK M w0 W)
    (hBn : W.cell? ⟨Bn, 0, none⟩ = some (.slice A N c))
    (hY : ∀ pre (x : Fin N) W, J pre W → pre.length < N → YieldAt Fence.wide (n - 1) Try.prog l (sbEnc hs x.val) W fun e W' =>
      (e = .returned (.bool true) ∧ J (pre ++ [x]) W' ∧ KpB M Bn W W') ∨ (e = .returned (.bool false) ∧ Jx (pre ++ [x]) W'))
    (h0 : J [] W) :
    CallsIn Fence.wide n Try.prog 65 #[.func (.yield l) #[] #[], .pointer (some ⟨Bn, 0, none⟩)] W fun e W' => (∃ v, e = .returned v) ∧
      ((∃ ys : List (Fin N), ys.map (·.val) = (List.range N).reverse ∧ J ys W') ∨ (∃ pre : List (Fin N), pre.length ≤ N ∧ Jx pre W')) := by
  unfold sbEnc strV at hY
  have HA := hid hA
  have HN := hid hN
  clear hA hN
  refine callsIn_of_wp Try.func65 rfl trivial ?_ rfl
  simp only [Try.ntmps65, List.size_toArray, List.length_cons, List.length_nil, Nat.reduceAdd, Nat.reduceSub, Array.replicate_succ, Array.replicate_zero, List.push_toArray, List.append_toArray, List.nil_append, List.cons_append]
  gi_wp2
  gi_loopw [3] (fun i wr => ∃ (k : Nat) (pre : List (Fin N)), k ≤ N ∧ i = .int .i64 ((k : Int) - 1) ∧ pre.map (·.val) ++ (List.range k).reverse = (List.range N).reverse ∧ Hid (OldK M w0 wr) ∧ wr.cell? ⟨Bn, 0, none⟩ = some (.slice A N c) ∧ J pre wr)
    (fun i _ => (intOf i + 1).toNat)
  case atStart =>
    exact ⟨N, [], Nat.le_refl _, (by first | rfl | (congr 1; go_num) | simp), by simp, hid hW0, hBn, h0⟩
  case round =>
    obtain ⟨k, pre, hk, rfl, hpre, hO, hB, hJ⟩ := hrel
    cases k with
    | zero =>
      simp only [List.range_zero, List.reverse_nil, List.append_nil] at hpre
      have hz : ((0 : Nat) : Int) - 1 = -1 := rfl
      rw [hz]
      have hP := hid hpre
      clear hpre
      gi_wp2
      go_end0
      exact ⟨⟨_, rfl⟩, .inl ⟨pre, hP.out, hJ⟩⟩
    | succ j =>
      have hz : ((j + 1 : Nat) : Int) - 1 = (j : Int) := by omega
      rw [hz]
      obtain ⟨h, hx⟩ : ∃ h, hs[j]? = some h := ⟨_, List.getElem?_eq_getElem (by rw [HN.out]; omega)⟩
      obtain ⟨ad, rfl, p0⟩ := rd_in (rd_old HA.out hM hO.out) j (strV h) (by rw [List.getElem?_map, hx]; rfl)
      have hlen : pre.length < N := by
        have := congrArg List.length hpre
        simp only [List.length_append, List.length_map, List.length_reverse, List.length_range] at this
        omega
      have hnext : (pre ++ [(⟨j, by omega⟩ : Fin N)]).map (·.val) ++ (List.range j).reverse = (List.range N).reverse := by
        rw [← hpre, List.range_succ, List.reverse_append, List.map_append]
        simp
      have HNX := hid hnext
      have hjN : (j : Int) < N := by omega
      have hj0 : (0 : Int) ≤ j := by omega
      obtain ⟨fn, tmps, assign, body, hy, hR⟩ := hY pre ⟨j, by omega⟩ wr hJ hlen
      have hget : hs.getD j [] = h := by rw [List.getD_eq_getElem?_getD, hx]; rfl
      simp only [hget] at hy
      unfold strV at p0
      clear hx hget hnext hpre hlen
      gi_wp2
      refine hR.mono ?_
      rintro e W3 (⟨rfl, hJ3, hK3⟩ | ⟨rfl, hJx3⟩)
      · have hB3 := hK3.2 _ hB
        gi_wp2
        go_roundw
        case rel => exact ⟨j, _, by omega, rfl, HNX.out, hid (hO.out.trans hK3.1), hB3, hJ3⟩
        case measure => simp [intOf] <;> omega
      · gi_wp2
        refine bodyPost_ret (v := .tuple #[]) (by simp [results, Try.f65, go_sem]) rfl ?_
        refine ⟨⟨_, rfl⟩, .inr ⟨_, ?_, hJx3⟩⟩
        have := congrArg List.length HNX.out
        simp only [List.length_append, List.length_map, List.length_reverse, List.length_range] at this
        simp only [List.length_append]
        omega
theorem sbackward_any (A : Option Addr) (N c : Nat) (w : World) :
    Calls Try.prog 49 #[.slice A N c] w fun e w' => e = .returned (.func (.func 65) #[] #[.pointer (some ⟨w.heap.size, 0, none⟩)]) ∧ w' = w.alloc (.cells #[.slice A N c] 22) := by
  go_enter Try.func49, Try.ntmps49
  go_wp2
  go_ret
  exact ⟨rfl, rfl⟩
theorem sb_stops (n : Nat) (hn : 1 ≤ n) (Bn M : Nat) (A : Option Addr) (N c : Nat) (hs : List (List UInt8)) (hN : hs.length = N) (bN : N ≤ 1000000) (w0 w : World) (hM : w0.heap.size = M) (hMw : M ≤ w.heap.size) (hw : OldK M w0 w) (hBn : Bn < w.heap.size) (hc : w.cell? ⟨Bn, 0, none⟩ = some (.slice A N c)) (hA : Rd w0 A (hs.map strV)) :
    SeqStopsK Fence.wide n Try.prog 65 #[.pointer (some ⟨Bn, 0, none⟩)] (fun x : Fin N => sbEnc hs x.val) (KpB M Bn) (fun ys => ys.map (·.val) = (List.range N).reverse) (fun pre => pre.length ≤ N) N w :=
  fun l J Jx W hW _ _ hY h0 => sb1_in n hn l Bn A N c hs hN bN M w0 (Nat.le_of_eq hM) hA J Jx W (hw.trans (OldK.below (hW.mono hMw))) ((hW.cell (p := ⟨Bn, 0, none⟩) hBn).trans hc) hY h0
end Go.Proofs.Ytplcfdmehnilnaa


/- Two rows of bytes, compared. -/
import Derived.Test.YtodfaakodgedbaaSha9
import Derived.ChangeKeysEq
import Derived.Laws.StructEq
namespace Go.Proofs.Ytodfaakodgedbaa
open Go.RowKit Go.Qc

theorem run_items_bytes {P : Program} (w : World) (d : Nat) (e : TypeId) (hu : P.underlying e = some (.int .u8)) (A B : List UInt8) (hl : A.length = B.length) :
    ∀ is : List Nat, (∀ i ∈ is, i < A.length) → (Op.eqItems (d + 1) e 1 (idVals A) (idVals B) is).run P w = .ok (is.all fun i => A[i]? == B[i]?) w
  | [], _ => by simp [Op.eqItems]
  | i :: is, h => by
    have hiA : i < A.length := h i (by simp)
    have hiB : i < B.length := by omega
    have ih := run_items_bytes w d e hu A B hl is (fun j hj => h j (by simp [hj]))
    have hp : P.plainKey e = true := by simp [Program.plainKey, hu]
    have ga : (idVals A)[i * 1]? = some (.int .u8 (ib A[i])) := by
      unfold idVals; rw [Nat.mul_one, List.getElem?_toArray, List.getElem?_map, List.getElem?_eq_getElem hiA]; rfl
    have gb : (idVals B)[i * 1]? = some (.int .u8 (ib B[i])) := by
      unfold idVals; rw [Nat.mul_one, List.getElem?_toArray, List.getElem?_map, List.getElem?_eq_getElem hiB]; rfl
    simp only [Op.eqItems, Sem.run_bind, run_part_plain w hp ga, run_part_plain w hp gb, run_equalIn_int w d e .u8 .u8 _ _ hu, Result.andThen_ok, List.all_cons]
    rw [List.getElem?_eq_getElem hiA, List.getElem?_eq_getElem hiB]
    have hc : (ib A[i] == ib B[i]) = (some A[i] == some B[i]) := by
      rw [Bool.eq_iff_iff]
      simp [ib_inj]
    rw [hc]
    cases hq : (some A[i] == some B[i]) with
    | true => simpa using ih
    | false => simp

theorem run_ids {P : Program} (w : World) (t e : TypeId) (n : Nat) (i : TypeInfo) (hu : P.underlying t = some (.array n e)) (hi : P.info? e = some i) (h1 : P.cellsOf e = 1) (he : P.underlying e = some (.int .u8)) (A B : List UInt8) (hA : A.length = n) (hB : B.length = n) :
    (Op.equalIn 10000 t (.agg (idVals A)) (.agg (idVals B))).run P w = .ok (decide (A = B)) w := by
  rw [show (10000 : Nat) = 9999 + 1 from rfl, run_equalIn_array w 9999 _ _ hu hi, h1, show (9999 : Nat) = 9998 + 1 from rfl, run_items_bytes w 9998 e he A B (by omega) _ (fun j hj => by rw [hA]; exact List.mem_range.1 hj)]
  congr 1
  rw [Bool.eq_iff_iff]
  simp only [List.all_eq_true, List.mem_range, beq_iff_eq, decide_eq_true_eq]
  constructor
  · intro h
    apply List.ext_getElem?
    intro j
    by_cases hj : j < n
    · exact h j hj
    · rw [List.getElem?_eq_none (by omega), List.getElem?_eq_none (by omega)]
  · intro h j _
    rw [h]
theorem ids_eq (w : World) (A B : List UInt8) (hA : A.length = 32) (hB : B.length = 32) :
    (Op.equalIn 10000 38 (.agg (idVals A)) (.agg (idVals B))).run Try.prog w = .ok (decide (A = B)) w := by
  obtain ⟨i0, hi, hz0, hz1, hz2⟩ := info_parts infoByte
  exact run_ids w _ 5 32 i0 Try.underlying38 hi (by kernel_rfl) Try.underlying5 A B hA hB
end Go.Proofs.Ytodfaakodgedbaa


/- JournalLogs: whatever frames are appended to a log, they are there when it is opened anew, what isn't a frame is cut, and a disk without power takes nothing, all as the document says. No condition. -/
import Derived.Test.YtemdmdgigmhlbaaGreatJg1
set_option linter.unusedSimpArgs false
set_option linter.unusedVariables false
namespace Go.Proofs.YtemdmdgigmhlbaaGreat
open Go.RowKit Go.Qc Go.Shelf
attribute [local go_sem] txt_size txt_append ib_fold

theorem txt_dataL (s : ByteArray) : txt s.data.toList = s := by
  apply ByteArray.ext
  simp [txt]
set_option linter.unusedVariables false in
theorem law_JournalLogs (w : World) (a0 : Option Addr) (l0 c0 : Nat) (z0 : List FmD) (w0 : FmRow w a0 l0 z0) (s0 : l0 * 24 ≤ 140737488355328) (a1 : Option Addr) (l1 c1 : Nat) (z1 : List FmD) (w1 : FmRow w a1 l1 z1) (s1 : l1 * 24 ≤ 140737488355328) (a2 : ByteArray) (w2 : a2.size ≤ maxLen) :
    Calls Tryz.prog 3 #[.slice a0 l0 c0, .slice a1 l1 c1, .string a2] w fun e w' => e = .returned (.bool true) ∧ Below w.heap.size w w' := by
  rw [← txt_dataL a2]
  by_cases h : l0 ≤ 12 ∧ ∀ X ∈ z0, X.p.length ≤ 300
  · by_cases k : l1 ≤ 12 ∧ ∀ X ∈ z1, X.p.length ≤ 300
    · by_cases hJ : a2.data.toList.length ≤ 100
      · exact jg_near a0 l0 c0 z0 w0.1 a1 l1 c1 z1 w1.1 _ h.1 h.2 k.1 k.2 hJ w w0.2.2.1 w1.2.2.1
      · exact jg_far3 a0 l0 c0 z0 w0.1 a1 l1 c1 z1 w1.1 _ h.1 h.2 k.1 k.2 (by omega) w w0.2.2.1 w1.2.2.1
    · exact jg_far2 a0 l0 c0 z0 w0.1 a1 l1 c1 z1 w1.1 _ h.1 h.2 s1 k w w0.2.2.1 w1.2.2.1
  · exact jg_far1 a0 l0 c0 z0 w0.1 a1 l1 c1 z1 w1.1 _ s0 s1 h w w0.2.2.1 w1.2.2.1
open Go.ChangeShapes Go.WideShapes Go.ChangeAt
open Go.ChangeMaps (open_string shut_string)
theorem own_JournalLogs : ownKnob Tryz.prog.godebug = none := by kernel_rfl
theorem laidOut_JournalLogs : laidOutB Tryz.prog = true := by kernel_rfl
set_option linter.unusedVariables false in
set_option maxRecDepth 100000 in
theorem lifted_JournalLogs (os : Os) (started : os.Started) (H : Type) (enc : TypeId × Value → H) :
    ReturnsInHanded {} Tryz.checked os 3 .any (Rows.journalLogsSpec.pre6 enc Tryz.prog Tryz.f3 Rows.journalLogsRow.domain false) (Rows.journalLogsSpec.post enc Tryz.prog Tryz.f3 false true false false) := by
  refine returnsInHanded_of_change_sized (C := Tryz.checked) own_JournalLogs started (by kernel_rfl) Tryz.func3
    (ChangeSpec.witness6 (enc := enc) (C := Tryz.checked) false ⟨#[], #[.slice none 0 0, .slice none 0 0, .string ByteArray.empty], []⟩ 8 (by kernel_rfl) (by kernel_rfl) (by kernel_rfl) (by kernel_rfl)) ?_
  intro W base args ds gs before hval0 hW hcnd hsz0 _
  have hval : ∀ (j : Nat) t v, Tryz.f3.params[j]? = some t → args[j]? = some v → Value.okWide Tryz.prog W .any base t v := hval0
  have hW' := hW
  obtain ⟨p, q, hA0, hV, rfl, hfz, hnd⟩ := hW
  have hA1 : DataW.TrodAll enc Tryz.prog W 0 (fun _ => true) true Tryz.f3.params.toList args.toList ds p := hA0
  have hA : DataW.TrodAll enc Tryz.prog W 0 (fun _ => true) true Tryz.f3.params.toList args.toList ds p := hA0
  rw [Tryz.params3] at hA hval
  obtain ⟨v0, vs0, d0, ds0, p0, q0, hargs, rfl, rfl, h0, r0⟩ := trodAll_cons hA
  obtain ⟨v1, vs1, d1, ds1, p1, q1, rfl, rfl, rfl, h1, r1⟩ := trodAll_cons r0
  obtain ⟨v2, vs2, d2, ds2, p2, q2, rfl, rfl, rfl, h2, r2⟩ := trodAll_cons r1
  obtain ⟨rfl, rfl, rfl⟩ := trodAll_nil r2
  obtain rfl : args = #[v0, v1, v2] := by cases args; simp_all
  obtain ⟨rfl, rfl⟩ := trodVars_none hV
  obtain ⟨a0, l0, c0, z0, rfl, w0⟩ := open_fmRow (hval 0 22 v0 rfl rfl) h0
  have s0 : l0 * 24 ≤ 140737488355328 := fmRow_sized (j := 0) h0 hsz0 (by kernel_rfl) rfl
  obtain ⟨a1, l1, c1, z1, rfl, w1⟩ := open_fmRow (hval 1 22 v1 rfl rfl) h1
  have s1 : l1 * 24 ≤ 140737488355328 := fmRow_sized (j := 1) h1 hsz0 (by kernel_rfl) rfl
  obtain ⟨a2, rfl, rfl, rfl, w2⟩ := open_string Tryz.underlying9 (hval 2 9 v2 rfl rfl) h2
  clear hA0 hval0
  refine (law_JournalLogs W a0 l0 c0 z0 w0 s0 a1 l1 c1 z1 w1 s1 a2 w2).mono fun e W' ⟨he, bel⟩ => ?_
  subst he
  exact ⟨_, rfl, _, _, _, [], _, [], hW', trodAll_mk1 (shut_bool Tryz.underlying4 _), trodAll_stays laidOut_JournalLogs bel (by kernel_rfl) hA1, rfl, bel.frame _, fun h => by cases h⟩

/-- The statement. -/
theorem JournalLogs_holds : Rows.JournalLogsSaid :=
  OpenClaim.holds_of_wide 3 Tryz.f3 rfl rfl rfl rfl rfl rfl rfl ⟨rfl, rfl, rfl, rfl, rfl⟩ rfl rfl rfl rfl rfl (by kernel_rfl) Tryz.func3 (by kernel_rfl)
    (of_decide_eq_true (by kernel_rfl)) (by unfold Func.isWrapper; first | (rw [if_pos (by decide +kernel)]; kernel_rfl) | (rw [if_neg (by decide +kernel)]; exact ⟨rfl, rfl⟩))
    (fun os started H enc _ => lifted_JournalLogs os started H enc)
#print axioms JournalLogs_holds
end Go.Proofs.YtemdmdgigmhlbaaGreat

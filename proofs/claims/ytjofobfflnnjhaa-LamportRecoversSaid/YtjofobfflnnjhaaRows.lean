/-
  No cell of these rows narrows 'for every input' (looked for: loops, veiled, ifaces, maps, wideKeys, modest, calm, conditions, laid).
  DERIVED. THE GIVEN ROWS OF THIS SEAT. 8 by the template 'for every input the law returns true; each argument reads behind the call as it read before'; 0 by the template 'total and deterministic' (their statements: YtjofobfflnnjhaaTotals.lean).
  GIVEN WITH THE SEED: the statements are not yours to turn. If you find one false, say at which input.
  Laid BY PROGRAM, IN A SANDBOX (cutbox-rows.mjs): the forced cells as the released guide's own fill.sh prints them over the translation 6c79271e270b9d5b… (all of the seat's roots in one cut). By AI agents, Wed Nov 11 2026. No macro, syntax, notation, axiom, sorry.
-/
import Derived.Test.YtjofobfflnnjhaaChecked
import GoSem.Claim
import GoSem.ClaimJoined
import GoSem.ClaimMapViews
import Derived.JoinedTies
import Derived.KernelRfl
namespace Go.Proofs.Ytjofobfflnnjhaa
/- THE CELL 'sum', in the pinned program and in every row, IS THE sha256 OF THE DUMP (.gsa) THAT YtjofobfflnnjhaaProg.lean LOADS. Nothing in Lean hashes anything: it is a label: what it is worth is what the hold of that sum in a sandbox is worth. -/
noncomputable def Try.pinned : Pinned := { name := "ytjofobfflnnjhaa", sum := "6c79271e270b9d5b00cccca00f21640f9fb00bfdf029a6b99a5c337561636021", checked := Try.checked }
namespace Rows
def none {H : Type} : Left H := { results := [], args := [] }

/-- 'quitclaimlaw03.TagRows': WHATEVER THE INPUT: true; the input reads as it did. -/
def tagRowsSpec : ChangeSpec := { name := "tagRows", fn := fun _ => fun
  | [d1, d2, d3, d4] => { results := [.lit (.bool true)], args := [d1, d2, d3, d4] }
  | _ => none }
def tagRowsRow : OpenClaim := { program := "ytjofobfflnnjhaa", sum := "6c79271e270b9d5b00cccca00f21640f9fb00bfdf029a6b99a5c337561636021", func := "quitclaim/quitclaimlaw03.TagRows", spec := "tagRows", inPlace := ["internal/abi.NoEscape", "internal/bytealg.MakeNoZero"], apart := false }
def TagRowsSaid : Prop := tagRowsRow.holds Try.pinned (OpenSpec.ofChange tagRowsSpec)

/-- ITS FALSE NEIGHBOUR: 'it returns false'. Refute it at one input. -/
def tagRowsWrong : ChangeSpec := { name := "tagRows", fn := fun _ => fun
  | [d1, d2, d3, d4] => { results := [.lit (.bool false)], args := [d1, d2, d3, d4] }
  | _ => none }
def TagRowsWrongFalsely : Prop := tagRowsRow.holds Try.pinned (OpenSpec.ofChange tagRowsWrong)

/-- 'quitclaimlaw04.IdRows': WHATEVER THE INPUT: true; the input reads as it did. -/
def idRowsSpec : ChangeSpec := { name := "idRows", fn := fun _ => fun
  | [d1, d2] => { results := [.lit (.bool true)], args := [d1, d2] }
  | _ => none }
def idRowsRow : OpenClaim := { program := "ytjofobfflnnjhaa", sum := "6c79271e270b9d5b00cccca00f21640f9fb00bfdf029a6b99a5c337561636021", func := "quitclaim/quitclaimlaw04.IdRows", spec := "idRows", inPlace := ["internal/bytealg.Compare"], unfollowed := true, recurses := true, apart := false }
def IdRowsSaid : Prop := idRowsRow.holds Try.pinned (OpenSpec.ofChange idRowsSpec)

/-- ITS FALSE NEIGHBOUR: 'it returns false'. Refute it at one input. -/
def idRowsWrong : ChangeSpec := { name := "idRows", fn := fun _ => fun
  | [d1, d2] => { results := [.lit (.bool false)], args := [d1, d2] }
  | _ => none }
def IdRowsWrongFalsely : Prop := idRowsRow.holds Try.pinned (OpenSpec.ofChange idRowsWrong)

/-- 'quitclaimlaw05.PackWrites': WHATEVER THE INPUT: true; the input reads as it did. -/
def packWritesSpec : ChangeSpec := { name := "packWrites", fn := fun _ => fun
  | [d1, d2, d3, d4, d5, d6, d7] => { results := [.lit (.bool true)], args := [d1, d2, d3, d4, d5, d6, d7] }
  | _ => none }
def packWritesRow : OpenClaim := { program := "ytjofobfflnnjhaa", sum := "6c79271e270b9d5b00cccca00f21640f9fb00bfdf029a6b99a5c337561636021", func := "quitclaim/quitclaimlaw05.PackWrites", spec := "packWrites", unfollowed := true, recurses := true, apart := false }
def PackWritesSaid : Prop := packWritesRow.holds Try.pinned (OpenSpec.ofChange packWritesSpec)

/-- ITS FALSE NEIGHBOUR: 'it returns false'. Refute it at one input. -/
def packWritesWrong : ChangeSpec := { name := "packWrites", fn := fun _ => fun
  | [d1, d2, d3, d4, d5, d6, d7] => { results := [.lit (.bool false)], args := [d1, d2, d3, d4, d5, d6, d7] }
  | _ => none }
def PackWritesWrongFalsely : Prop := packWritesRow.holds Try.pinned (OpenSpec.ofChange packWritesWrong)

/-- 'quitclaimlaw05.PackOnce': WHATEVER THE INPUT: true; the input reads as it did. -/
def packOnceSpec : ChangeSpec := { name := "packOnce", fn := fun _ => fun
  | [d] => { results := [.lit (.bool true)], args := [d] }
  | _ => none }
def packOnceRow : OpenClaim := { program := "ytjofobfflnnjhaa", sum := "6c79271e270b9d5b00cccca00f21640f9fb00bfdf029a6b99a5c337561636021", func := "quitclaim/quitclaimlaw05.PackOnce", spec := "packOnce", unfollowed := true, recurses := true, apart := false }
def PackOnceSaid : Prop := packOnceRow.holds Try.pinned (OpenSpec.ofChange packOnceSpec)

/-- ITS FALSE NEIGHBOUR: 'it returns false'. Refute it at one input. -/
def packOnceWrong : ChangeSpec := { name := "packOnce", fn := fun _ => fun
  | [d] => { results := [.lit (.bool false)], args := [d] }
  | _ => none }
def PackOnceWrongFalsely : Prop := packOnceRow.holds Try.pinned (OpenSpec.ofChange packOnceWrong)

/-- 'quitclaimlaw06.LamportSecrets': WHATEVER THE INPUT: true; the input reads as it did. -/
def lamportSecretsSpec : ChangeSpec := { name := "lamportSecrets", fn := fun _ => fun
  | [d1, d2, d3, d4, d5] => { results := [.lit (.bool true)], args := [d1, d2, d3, d4, d5] }
  | _ => none }
def lamportSecretsRow : OpenClaim := { program := "ytjofobfflnnjhaa", sum := "6c79271e270b9d5b00cccca00f21640f9fb00bfdf029a6b99a5c337561636021", func := "quitclaim/quitclaimlaw06.LamportSecrets", spec := "lamportSecrets", inPlace := ["internal/abi.NoEscape", "internal/bytealg.MakeNoZero"], apart := false }
def LamportSecretsSaid : Prop := lamportSecretsRow.holds Try.pinned (OpenSpec.ofChange lamportSecretsSpec)

/-- ITS FALSE NEIGHBOUR: 'it returns false'. Refute it at one input. -/
def lamportSecretsWrong : ChangeSpec := { name := "lamportSecrets", fn := fun _ => fun
  | [d1, d2, d3, d4, d5] => { results := [.lit (.bool false)], args := [d1, d2, d3, d4, d5] }
  | _ => none }
def LamportSecretsWrongFalsely : Prop := lamportSecretsRow.holds Try.pinned (OpenSpec.ofChange lamportSecretsWrong)

/-- 'quitclaimlaw06.LamportLeaves': WHATEVER THE INPUT: true; the input reads as it did. -/
def lamportLeavesSpec : ChangeSpec := { name := "lamportLeaves", fn := fun _ => fun
  | [d1, d2, d3] => { results := [.lit (.bool true)], args := [d1, d2, d3] }
  | _ => none }
def lamportLeavesRow : OpenClaim := { program := "ytjofobfflnnjhaa", sum := "6c79271e270b9d5b00cccca00f21640f9fb00bfdf029a6b99a5c337561636021", func := "quitclaim/quitclaimlaw06.LamportLeaves", spec := "lamportLeaves", inPlace := ["internal/abi.NoEscape", "internal/bytealg.MakeNoZero"], unfollowed := true, recurses := true, apart := false }
def LamportLeavesSaid : Prop := lamportLeavesRow.holds Try.pinned (OpenSpec.ofChange lamportLeavesSpec)

/-- ITS FALSE NEIGHBOUR: 'it returns false'. Refute it at one input. -/
def lamportLeavesWrong : ChangeSpec := { name := "lamportLeaves", fn := fun _ => fun
  | [d1, d2, d3] => { results := [.lit (.bool false)], args := [d1, d2, d3] }
  | _ => none }
def LamportLeavesWrongFalsely : Prop := lamportLeavesRow.holds Try.pinned (OpenSpec.ofChange lamportLeavesWrong)

/-- 'quitclaimlaw06.LamportSigns': WHATEVER THE INPUT: true; the input reads as it did. -/
def lamportSignsSpec : ChangeSpec := { name := "lamportSigns", fn := fun _ => fun
  | [d1, d2, d3, d4] => { results := [.lit (.bool true)], args := [d1, d2, d3, d4] }
  | _ => none }
def lamportSignsRow : OpenClaim := { program := "ytjofobfflnnjhaa", sum := "6c79271e270b9d5b00cccca00f21640f9fb00bfdf029a6b99a5c337561636021", func := "quitclaim/quitclaimlaw06.LamportSigns", spec := "lamportSigns", inPlace := ["internal/abi.NoEscape", "internal/bytealg.MakeNoZero"], unfollowed := true, recurses := true, apart := false }
def LamportSignsSaid : Prop := lamportSignsRow.holds Try.pinned (OpenSpec.ofChange lamportSignsSpec)

/-- ITS FALSE NEIGHBOUR: 'it returns false'. Refute it at one input. -/
def lamportSignsWrong : ChangeSpec := { name := "lamportSigns", fn := fun _ => fun
  | [d1, d2, d3, d4] => { results := [.lit (.bool false)], args := [d1, d2, d3, d4] }
  | _ => none }
def LamportSignsWrongFalsely : Prop := lamportSignsRow.holds Try.pinned (OpenSpec.ofChange lamportSignsWrong)

/-- 'quitclaimlaw06.LamportRecovers': WHATEVER THE INPUT: true; the input reads as it did. -/
def lamportRecoversSpec : ChangeSpec := { name := "lamportRecovers", fn := fun _ => fun
  | [d1, d2, d3] => { results := [.lit (.bool true)], args := [d1, d2, d3] }
  | _ => none }
def lamportRecoversRow : OpenClaim := { program := "ytjofobfflnnjhaa", sum := "6c79271e270b9d5b00cccca00f21640f9fb00bfdf029a6b99a5c337561636021", func := "quitclaim/quitclaimlaw06.LamportRecovers", spec := "lamportRecovers", inPlace := ["internal/abi.NoEscape", "internal/bytealg.MakeNoZero"], unfollowed := true, recurses := true, apart := false }
def LamportRecoversSaid : Prop := lamportRecoversRow.holds Try.pinned (OpenSpec.ofChange lamportRecoversSpec)

/-- ITS FALSE NEIGHBOUR: 'it returns false'. Refute it at one input. -/
def lamportRecoversWrong : ChangeSpec := { name := "lamportRecovers", fn := fun _ => fun
  | [d1, d2, d3] => { results := [.lit (.bool false)], args := [d1, d2, d3] }
  | _ => none }
def LamportRecoversWrongFalsely : Prop := lamportRecoversRow.holds Try.pinned (OpenSpec.ofChange lamportRecoversWrong)

/- THE SECOND FORM. 'bulk': how many values and letters a reading holds, each counted each time it is reached (what is shared counts as often as it is met; a slice's spare places count too). A statement '..UptoSaid' is the law's where the arguments, and the package variables that the reading takes, are together of bulk at most 1048576: NARROWER than '..Said'. Prove '..Said' where nothing that the law and all that it calls make is longer than what came in: it says more and counts as full. Else prove '..UptoSaid'. A law counts once. -/
mutual
def uptoBulk {H : Type} : DataW H → Nat
  | .lit (.string bytes) => bytes.length + 1
  | .lit _ => 1
  | .nil => 1
  | .ptr d => uptoBulk d + 1
  | .slice elems spare => uptoBulkAll elems + uptoBulkAll spare + 1
  | .agg parts => uptoBulkAll parts + 1
  | .iface _ d => uptoBulk d + 1
  | .map entries => uptoBulkEntries entries + 1
  | .held _ => 1
def uptoBulkAll {H : Type} : List (DataW H) → Nat
  | [] => 0
  | d :: r => uptoBulk d + uptoBulkAll r
def uptoBulkEntries {H : Type} : List (Lit × DataW H) → Nat
  | [] => 0
  | x :: r => uptoBulkEntry x + uptoBulkEntries r
def uptoBulkEntry {H : Type} : Lit × DataW H → Nat
  | (.string bytes, d) => bytes.length + uptoBulk d + 1
  | (_, d) => uptoBulk d + 1
 end
def uptoSmall : (H : Type) → List (DataW H) → Bool := fun _ ds => decide (uptoBulkAll ds ≤ 1048576)
def OpenSpec.upto (s : _root_.Go.ChangeSpec) : _root_.Go.OpenSpec := { _root_.Go.OpenSpec.ofChange s with cond := some uptoSmall }

/-- 'quitclaimlaw03.TagRows', WHERE WHAT IT READS IS OF BULK AT MOST 1048576: true; the input reads as it did. -/
def tagRowsUptoRow : OpenClaim := { program := "ytjofobfflnnjhaa", sum := "6c79271e270b9d5b00cccca00f21640f9fb00bfdf029a6b99a5c337561636021", func := "quitclaim/quitclaimlaw03.TagRows", spec := "tagRows", inPlace := ["internal/abi.NoEscape", "internal/bytealg.MakeNoZero"], apart := false, narrowed := true }
def TagRowsUptoSaid : Prop := tagRowsUptoRow.holds Try.pinned (OpenSpec.upto tagRowsSpec)

/-- 'quitclaimlaw04.IdRows', WHERE WHAT IT READS IS OF BULK AT MOST 1048576: true; the input reads as it did. -/
def idRowsUptoRow : OpenClaim := { program := "ytjofobfflnnjhaa", sum := "6c79271e270b9d5b00cccca00f21640f9fb00bfdf029a6b99a5c337561636021", func := "quitclaim/quitclaimlaw04.IdRows", spec := "idRows", inPlace := ["internal/bytealg.Compare"], unfollowed := true, recurses := true, apart := false, narrowed := true }
def IdRowsUptoSaid : Prop := idRowsUptoRow.holds Try.pinned (OpenSpec.upto idRowsSpec)

/-- 'quitclaimlaw05.PackWrites', WHERE WHAT IT READS IS OF BULK AT MOST 1048576: true; the input reads as it did. -/
def packWritesUptoRow : OpenClaim := { program := "ytjofobfflnnjhaa", sum := "6c79271e270b9d5b00cccca00f21640f9fb00bfdf029a6b99a5c337561636021", func := "quitclaim/quitclaimlaw05.PackWrites", spec := "packWrites", unfollowed := true, recurses := true, apart := false, narrowed := true }
def PackWritesUptoSaid : Prop := packWritesUptoRow.holds Try.pinned (OpenSpec.upto packWritesSpec)

/-- 'quitclaimlaw05.PackOnce', WHERE WHAT IT READS IS OF BULK AT MOST 1048576: true; the input reads as it did. -/
def packOnceUptoRow : OpenClaim := { program := "ytjofobfflnnjhaa", sum := "6c79271e270b9d5b00cccca00f21640f9fb00bfdf029a6b99a5c337561636021", func := "quitclaim/quitclaimlaw05.PackOnce", spec := "packOnce", unfollowed := true, recurses := true, apart := false, narrowed := true }
def PackOnceUptoSaid : Prop := packOnceUptoRow.holds Try.pinned (OpenSpec.upto packOnceSpec)

/-- 'quitclaimlaw06.LamportSecrets', WHERE WHAT IT READS IS OF BULK AT MOST 1048576: true; the input reads as it did. -/
def lamportSecretsUptoRow : OpenClaim := { program := "ytjofobfflnnjhaa", sum := "6c79271e270b9d5b00cccca00f21640f9fb00bfdf029a6b99a5c337561636021", func := "quitclaim/quitclaimlaw06.LamportSecrets", spec := "lamportSecrets", inPlace := ["internal/abi.NoEscape", "internal/bytealg.MakeNoZero"], apart := false, narrowed := true }
def LamportSecretsUptoSaid : Prop := lamportSecretsUptoRow.holds Try.pinned (OpenSpec.upto lamportSecretsSpec)

/-- 'quitclaimlaw06.LamportLeaves', WHERE WHAT IT READS IS OF BULK AT MOST 1048576: true; the input reads as it did. -/
def lamportLeavesUptoRow : OpenClaim := { program := "ytjofobfflnnjhaa", sum := "6c79271e270b9d5b00cccca00f21640f9fb00bfdf029a6b99a5c337561636021", func := "quitclaim/quitclaimlaw06.LamportLeaves", spec := "lamportLeaves", inPlace := ["internal/abi.NoEscape", "internal/bytealg.MakeNoZero"], unfollowed := true, recurses := true, apart := false, narrowed := true }
def LamportLeavesUptoSaid : Prop := lamportLeavesUptoRow.holds Try.pinned (OpenSpec.upto lamportLeavesSpec)

/-- 'quitclaimlaw06.LamportSigns', WHERE WHAT IT READS IS OF BULK AT MOST 1048576: true; the input reads as it did. -/
def lamportSignsUptoRow : OpenClaim := { program := "ytjofobfflnnjhaa", sum := "6c79271e270b9d5b00cccca00f21640f9fb00bfdf029a6b99a5c337561636021", func := "quitclaim/quitclaimlaw06.LamportSigns", spec := "lamportSigns", inPlace := ["internal/abi.NoEscape", "internal/bytealg.MakeNoZero"], unfollowed := true, recurses := true, apart := false, narrowed := true }
def LamportSignsUptoSaid : Prop := lamportSignsUptoRow.holds Try.pinned (OpenSpec.upto lamportSignsSpec)

/-- 'quitclaimlaw06.LamportRecovers', WHERE WHAT IT READS IS OF BULK AT MOST 1048576: true; the input reads as it did. -/
def lamportRecoversUptoRow : OpenClaim := { program := "ytjofobfflnnjhaa", sum := "6c79271e270b9d5b00cccca00f21640f9fb00bfdf029a6b99a5c337561636021", func := "quitclaim/quitclaimlaw06.LamportRecovers", spec := "lamportRecovers", inPlace := ["internal/abi.NoEscape", "internal/bytealg.MakeNoZero"], unfollowed := true, recurses := true, apart := false, narrowed := true }
def LamportRecoversUptoSaid : Prop := lamportRecoversUptoRow.holds Try.pinned (OpenSpec.upto lamportRecoversSpec)

end Rows
end Go.Proofs.Ytjofobfflnnjhaa

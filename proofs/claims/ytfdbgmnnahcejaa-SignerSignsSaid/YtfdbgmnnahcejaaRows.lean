/-
  No cell of these rows narrows 'for every input' (looked for: loops, veiled, ifaces, maps, wideKeys, modest, calm, conditions, laid).
  DERIVED. THE GIVEN ROWS OF THIS SEAT. 9 by the template 'for every input the law returns true; each argument reads behind the call as it read before'; 0 by the template 'total and deterministic' (their statements: YtfdbgmnnahcejaaTotals.lean).
  GIVEN WITH THE SEED: the statements are not yours to turn. If you find one false, say at which input.
  Laid BY PROGRAM, IN A SANDBOX (cutbox-rows.mjs): the forced cells as the released guide's own fill.sh prints them over the translation 46650a48b55035ef… (all of the seat's roots in one cut). By AI agents, Wed Nov 11 2026. No macro, syntax, notation, axiom, sorry.
-/
import Derived.Test.YtfdbgmnnahcejaaChecked
import GoSem.Claim
import GoSem.ClaimJoined
import GoSem.ClaimMapViews
import Derived.JoinedTies
import Derived.KernelRfl
namespace Go.Proofs.Ytfdbgmnnahcejaa
/- THE CELL 'sum', in the pinned program and in every row, IS THE sha256 OF THE DUMP (.gsa) THAT YtfdbgmnnahcejaaProg.lean LOADS. Nothing in Lean hashes anything: it is a label: what it is worth is what the hold of that sum in a sandbox is worth. -/
noncomputable def Try.pinned : Pinned := { name := "ytfdbgmnnahcejaa", sum := "46650a48b55035ef79b004608859680086b095ff67d63292965e771f56717e16", checked := Try.checked }
namespace Rows
def none {H : Type} : Left H := { results := [], args := [] }

/-- 'quitclaimlaw04.IdRows': WHATEVER THE INPUT: true; the input reads as it did. -/
def idRowsSpec : ChangeSpec := { name := "idRows", fn := fun _ => fun
  | [d1, d2] => { results := [.lit (.bool true)], args := [d1, d2] }
  | _ => none }
def idRowsRow : OpenClaim := { program := "ytfdbgmnnahcejaa", sum := "46650a48b55035ef79b004608859680086b095ff67d63292965e771f56717e16", func := "quitclaim/quitclaimlaw04.IdRows", spec := "idRows", inPlace := ["internal/bytealg.Compare"], unfollowed := true, recurses := true, apart := false }
def IdRowsSaid : Prop := idRowsRow.holds Try.pinned (OpenSpec.ofChange idRowsSpec)

/-- ITS FALSE NEIGHBOUR: 'it returns false'. Refute it at one input. -/
def idRowsWrong : ChangeSpec := { name := "idRows", fn := fun _ => fun
  | [d1, d2] => { results := [.lit (.bool false)], args := [d1, d2] }
  | _ => none }
def IdRowsWrongFalsely : Prop := idRowsRow.holds Try.pinned (OpenSpec.ofChange idRowsWrong)

/-- 'quitclaimlaw05.PackWrites': WHATEVER THE INPUT: true; the input reads as it did. -/
def packWritesSpec : ChangeSpec := { name := "packWrites", fn := fun _ => fun
  | [d1, d2, d3, d4, d5, d6, d7] => { results := [.lit (.bool true)], args := [d1, d2, d3, d4, d5, d6, d7] }
  | _ => none }
def packWritesRow : OpenClaim := { program := "ytfdbgmnnahcejaa", sum := "46650a48b55035ef79b004608859680086b095ff67d63292965e771f56717e16", func := "quitclaim/quitclaimlaw05.PackWrites", spec := "packWrites", unfollowed := true, recurses := true, apart := false }
def PackWritesSaid : Prop := packWritesRow.holds Try.pinned (OpenSpec.ofChange packWritesSpec)

/-- ITS FALSE NEIGHBOUR: 'it returns false'. Refute it at one input. -/
def packWritesWrong : ChangeSpec := { name := "packWrites", fn := fun _ => fun
  | [d1, d2, d3, d4, d5, d6, d7] => { results := [.lit (.bool false)], args := [d1, d2, d3, d4, d5, d6, d7] }
  | _ => none }
def PackWritesWrongFalsely : Prop := packWritesRow.holds Try.pinned (OpenSpec.ofChange packWritesWrong)

/-- 'quitclaimlaw07.KeytreeKeys': WHATEVER THE INPUT: true; the input reads as it did. -/
def keytreeKeysSpec : ChangeSpec := { name := "keytreeKeys", fn := fun _ => fun
  | [d1, d2, d3] => { results := [.lit (.bool true)], args := [d1, d2, d3] }
  | _ => none }
def keytreeKeysRow : OpenClaim := { program := "ytfdbgmnnahcejaa", sum := "46650a48b55035ef79b004608859680086b095ff67d63292965e771f56717e16", func := "quitclaim/quitclaimlaw07.KeytreeKeys", spec := "keytreeKeys", inPlace := ["internal/abi.NoEscape", "internal/bytealg.MakeNoZero"], unfollowed := true, recurses := true, apart := false }
def KeytreeKeysSaid : Prop := keytreeKeysRow.holds Try.pinned (OpenSpec.ofChange keytreeKeysSpec)

/-- ITS FALSE NEIGHBOUR: 'it returns false'. Refute it at one input. -/
def keytreeKeysWrong : ChangeSpec := { name := "keytreeKeys", fn := fun _ => fun
  | [d1, d2, d3] => { results := [.lit (.bool false)], args := [d1, d2, d3] }
  | _ => none }
def KeytreeKeysWrongFalsely : Prop := keytreeKeysRow.holds Try.pinned (OpenSpec.ofChange keytreeKeysWrong)

/-- 'quitclaimlaw07.KeytreeWays': WHATEVER THE INPUT: true; the input reads as it did. -/
def keytreeWaysSpec : ChangeSpec := { name := "keytreeWays", fn := fun _ => fun
  | [d1, d2, d3] => { results := [.lit (.bool true)], args := [d1, d2, d3] }
  | _ => none }
def keytreeWaysRow : OpenClaim := { program := "ytfdbgmnnahcejaa", sum := "46650a48b55035ef79b004608859680086b095ff67d63292965e771f56717e16", func := "quitclaim/quitclaimlaw07.KeytreeWays", spec := "keytreeWays", inPlace := ["internal/abi.NoEscape", "internal/bytealg.MakeNoZero"], unfollowed := true, recurses := true, apart := false }
def KeytreeWaysSaid : Prop := keytreeWaysRow.holds Try.pinned (OpenSpec.ofChange keytreeWaysSpec)

/-- ITS FALSE NEIGHBOUR: 'it returns false'. Refute it at one input. -/
def keytreeWaysWrong : ChangeSpec := { name := "keytreeWays", fn := fun _ => fun
  | [d1, d2, d3] => { results := [.lit (.bool false)], args := [d1, d2, d3] }
  | _ => none }
def KeytreeWaysWrongFalsely : Prop := keytreeWaysRow.holds Try.pinned (OpenSpec.ofChange keytreeWaysWrong)

/-- 'quitclaimlaw07.KeytreeFolds': WHATEVER THE INPUT: true; the input reads as it did. -/
def keytreeFoldsSpec : ChangeSpec := { name := "keytreeFolds", fn := fun _ => fun
  | [d1, d2, d3, d4] => { results := [.lit (.bool true)], args := [d1, d2, d3, d4] }
  | _ => none }
def keytreeFoldsRow : OpenClaim := { program := "ytfdbgmnnahcejaa", sum := "46650a48b55035ef79b004608859680086b095ff67d63292965e771f56717e16", func := "quitclaim/quitclaimlaw07.KeytreeFolds", spec := "keytreeFolds", inPlace := ["internal/abi.NoEscape", "internal/bytealg.MakeNoZero"], recurses := true, apart := false }
def KeytreeFoldsSaid : Prop := keytreeFoldsRow.holds Try.pinned (OpenSpec.ofChange keytreeFoldsSpec)

/-- ITS FALSE NEIGHBOUR: 'it returns false'. Refute it at one input. -/
def keytreeFoldsWrong : ChangeSpec := { name := "keytreeFolds", fn := fun _ => fun
  | [d1, d2, d3, d4] => { results := [.lit (.bool false)], args := [d1, d2, d3, d4] }
  | _ => none }
def KeytreeFoldsWrongFalsely : Prop := keytreeFoldsRow.holds Try.pinned (OpenSpec.ofChange keytreeFoldsWrong)

/-- 'quitclaimlaw08.SignerSigns': WHATEVER THE INPUT: true; the input reads as it did. -/
def signerSignsSpec : ChangeSpec := { name := "signerSigns", fn := fun _ => fun
  | [d1, d2, d3, d4, d5] => { results := [.lit (.bool true)], args := [d1, d2, d3, d4, d5] }
  | _ => none }
def signerSignsRow : OpenClaim := { program := "ytfdbgmnnahcejaa", sum := "46650a48b55035ef79b004608859680086b095ff67d63292965e771f56717e16", func := "quitclaim/quitclaimlaw08.SignerSigns", spec := "signerSigns", inPlace := ["internal/abi.NoEscape", "internal/bytealg.MakeNoZero"], unfollowed := true, recurses := true, apart := false }
def SignerSignsSaid : Prop := signerSignsRow.holds Try.pinned (OpenSpec.ofChange signerSignsSpec)

/-- ITS FALSE NEIGHBOUR: 'it returns false'. Refute it at one input. -/
def signerSignsWrong : ChangeSpec := { name := "signerSigns", fn := fun _ => fun
  | [d1, d2, d3, d4, d5] => { results := [.lit (.bool false)], args := [d1, d2, d3, d4, d5] }
  | _ => none }
def SignerSignsWrongFalsely : Prop := signerSignsRow.holds Try.pinned (OpenSpec.ofChange signerSignsWrong)

/-- 'quitclaimlaw08.SignerVerifies': WHATEVER THE INPUT: true; the input reads as it did. -/
def signerVerifiesSpec : ChangeSpec := { name := "signerVerifies", fn := fun _ => fun
  | [d1, d2, d3, d4] => { results := [.lit (.bool true)], args := [d1, d2, d3, d4] }
  | _ => none }
def signerVerifiesRow : OpenClaim := { program := "ytfdbgmnnahcejaa", sum := "46650a48b55035ef79b004608859680086b095ff67d63292965e771f56717e16", func := "quitclaim/quitclaimlaw08.SignerVerifies", spec := "signerVerifies", inPlace := ["internal/abi.NoEscape", "internal/bytealg.MakeNoZero"], unfollowed := true, recurses := true, apart := false }
def SignerVerifiesSaid : Prop := signerVerifiesRow.holds Try.pinned (OpenSpec.ofChange signerVerifiesSpec)

/-- ITS FALSE NEIGHBOUR: 'it returns false'. Refute it at one input. -/
def signerVerifiesWrong : ChangeSpec := { name := "signerVerifies", fn := fun _ => fun
  | [d1, d2, d3, d4] => { results := [.lit (.bool false)], args := [d1, d2, d3, d4] }
  | _ => none }
def SignerVerifiesWrongFalsely : Prop := signerVerifiesRow.holds Try.pinned (OpenSpec.ofChange signerVerifiesWrong)

/-- 'quitclaimlaw08.SignerNew': WHATEVER THE INPUT: true; the input reads as it did. -/
def signerNewSpec : ChangeSpec := { name := "signerNew", fn := fun _ => fun
  | [d1, d2, d3] => { results := [.lit (.bool true)], args := [d1, d2, d3] }
  | _ => none }
def signerNewRow : OpenClaim := { program := "ytfdbgmnnahcejaa", sum := "46650a48b55035ef79b004608859680086b095ff67d63292965e771f56717e16", func := "quitclaim/quitclaimlaw08.SignerNew", spec := "signerNew", inPlace := ["internal/abi.NoEscape", "internal/bytealg.MakeNoZero"], unfollowed := true, recurses := true, apart := false }
def SignerNewSaid : Prop := signerNewRow.holds Try.pinned (OpenSpec.ofChange signerNewSpec)

/-- ITS FALSE NEIGHBOUR: 'it returns false'. Refute it at one input. -/
def signerNewWrong : ChangeSpec := { name := "signerNew", fn := fun _ => fun
  | [d1, d2, d3] => { results := [.lit (.bool false)], args := [d1, d2, d3] }
  | _ => none }
def SignerNewWrongFalsely : Prop := signerNewRow.holds Try.pinned (OpenSpec.ofChange signerNewWrong)

/-- 'quitclaimlaw08.SignerBytes': WHATEVER THE INPUT: true; the input reads as it did. -/
def signerBytesSpec : ChangeSpec := { name := "signerBytes", fn := fun _ => fun
  | [d1, d2] => { results := [.lit (.bool true)], args := [d1, d2] }
  | _ => none }
def signerBytesRow : OpenClaim := { program := "ytfdbgmnnahcejaa", sum := "46650a48b55035ef79b004608859680086b095ff67d63292965e771f56717e16", func := "quitclaim/quitclaimlaw08.SignerBytes", spec := "signerBytes", inPlace := ["internal/abi.NoEscape", "internal/bytealg.MakeNoZero"], unfollowed := true, recurses := true, apart := false }
def SignerBytesSaid : Prop := signerBytesRow.holds Try.pinned (OpenSpec.ofChange signerBytesSpec)

/-- ITS FALSE NEIGHBOUR: 'it returns false'. Refute it at one input. -/
def signerBytesWrong : ChangeSpec := { name := "signerBytes", fn := fun _ => fun
  | [d1, d2] => { results := [.lit (.bool false)], args := [d1, d2] }
  | _ => none }
def SignerBytesWrongFalsely : Prop := signerBytesRow.holds Try.pinned (OpenSpec.ofChange signerBytesWrong)

/- THE SECOND FORM. 'bulk': how many values and letters a reading holds, each counted each time it is reached (what is shared counts as often as it is met; a slice's spare places count too). A statement '..UptoSaid' is the law's where the arguments, and the package variables that the reading takes, are together of bulk at most 1048576: NARROWER than '..Said'. Prove '..Said' where nothing that the law and all that it calls make is longer than what came in: it says more and counts as full. Else prove '..UptoSaid'. A law counts once. -/
mutual
def uptoBulk {H : Type} : DataW H → Nat
  | .lit (.string bytes) => bytes.length + 1
  | .lit _ => 1
  | .nil => 1
  | .ptr d => uptoBulk d + 1
  | .slice elems spare => uptoBulkAll elems + uptoBulkAll spare + 1
  | .agg parts => uptoBulkAll parts + 1
  | .iface _ d => uptoBulk d + 1
  | .map entries => uptoBulkEntries entries + 1
  | .held _ => 1
def uptoBulkAll {H : Type} : List (DataW H) → Nat
  | [] => 0
  | d :: r => uptoBulk d + uptoBulkAll r
def uptoBulkEntries {H : Type} : List (Lit × DataW H) → Nat
  | [] => 0
  | x :: r => uptoBulkEntry x + uptoBulkEntries r
def uptoBulkEntry {H : Type} : Lit × DataW H → Nat
  | (.string bytes, d) => bytes.length + uptoBulk d + 1
  | (_, d) => uptoBulk d + 1
 end
def uptoSmall : (H : Type) → List (DataW H) → Bool := fun _ ds => decide (uptoBulkAll ds ≤ 1048576)
def OpenSpec.upto (s : _root_.Go.ChangeSpec) : _root_.Go.OpenSpec := { _root_.Go.OpenSpec.ofChange s with cond := some uptoSmall }

/-- 'quitclaimlaw04.IdRows', WHERE WHAT IT READS IS OF BULK AT MOST 1048576: true; the input reads as it did. -/
def idRowsUptoRow : OpenClaim := { program := "ytfdbgmnnahcejaa", sum := "46650a48b55035ef79b004608859680086b095ff67d63292965e771f56717e16", func := "quitclaim/quitclaimlaw04.IdRows", spec := "idRows", inPlace := ["internal/bytealg.Compare"], unfollowed := true, recurses := true, apart := false, narrowed := true }
def IdRowsUptoSaid : Prop := idRowsUptoRow.holds Try.pinned (OpenSpec.upto idRowsSpec)

/-- 'quitclaimlaw05.PackWrites', WHERE WHAT IT READS IS OF BULK AT MOST 1048576: true; the input reads as it did. -/
def packWritesUptoRow : OpenClaim := { program := "ytfdbgmnnahcejaa", sum := "46650a48b55035ef79b004608859680086b095ff67d63292965e771f56717e16", func := "quitclaim/quitclaimlaw05.PackWrites", spec := "packWrites", unfollowed := true, recurses := true, apart := false, narrowed := true }
def PackWritesUptoSaid : Prop := packWritesUptoRow.holds Try.pinned (OpenSpec.upto packWritesSpec)

/-- 'quitclaimlaw07.KeytreeKeys', WHERE WHAT IT READS IS OF BULK AT MOST 1048576: true; the input reads as it did. -/
def keytreeKeysUptoRow : OpenClaim := { program := "ytfdbgmnnahcejaa", sum := "46650a48b55035ef79b004608859680086b095ff67d63292965e771f56717e16", func := "quitclaim/quitclaimlaw07.KeytreeKeys", spec := "keytreeKeys", inPlace := ["internal/abi.NoEscape", "internal/bytealg.MakeNoZero"], unfollowed := true, recurses := true, apart := false, narrowed := true }
def KeytreeKeysUptoSaid : Prop := keytreeKeysUptoRow.holds Try.pinned (OpenSpec.upto keytreeKeysSpec)

/-- 'quitclaimlaw07.KeytreeWays', WHERE WHAT IT READS IS OF BULK AT MOST 1048576: true; the input reads as it did. -/
def keytreeWaysUptoRow : OpenClaim := { program := "ytfdbgmnnahcejaa", sum := "46650a48b55035ef79b004608859680086b095ff67d63292965e771f56717e16", func := "quitclaim/quitclaimlaw07.KeytreeWays", spec := "keytreeWays", inPlace := ["internal/abi.NoEscape", "internal/bytealg.MakeNoZero"], unfollowed := true, recurses := true, apart := false, narrowed := true }
def KeytreeWaysUptoSaid : Prop := keytreeWaysUptoRow.holds Try.pinned (OpenSpec.upto keytreeWaysSpec)

/-- 'quitclaimlaw07.KeytreeFolds', WHERE WHAT IT READS IS OF BULK AT MOST 1048576: true; the input reads as it did. -/
def keytreeFoldsUptoRow : OpenClaim := { program := "ytfdbgmnnahcejaa", sum := "46650a48b55035ef79b004608859680086b095ff67d63292965e771f56717e16", func := "quitclaim/quitclaimlaw07.KeytreeFolds", spec := "keytreeFolds", inPlace := ["internal/abi.NoEscape", "internal/bytealg.MakeNoZero"], recurses := true, apart := false, narrowed := true }
def KeytreeFoldsUptoSaid : Prop := keytreeFoldsUptoRow.holds Try.pinned (OpenSpec.upto keytreeFoldsSpec)

/-- 'quitclaimlaw08.SignerSigns', WHERE WHAT IT READS IS OF BULK AT MOST 1048576: true; the input reads as it did. -/
def signerSignsUptoRow : OpenClaim := { program := "ytfdbgmnnahcejaa", sum := "46650a48b55035ef79b004608859680086b095ff67d63292965e771f56717e16", func := "quitclaim/quitclaimlaw08.SignerSigns", spec := "signerSigns", inPlace := ["internal/abi.NoEscape", "internal/bytealg.MakeNoZero"], unfollowed := true, recurses := true, apart := false, narrowed := true }
def SignerSignsUptoSaid : Prop := signerSignsUptoRow.holds Try.pinned (OpenSpec.upto signerSignsSpec)

/-- 'quitclaimlaw08.SignerVerifies', WHERE WHAT IT READS IS OF BULK AT MOST 1048576: true; the input reads as it did. -/
def signerVerifiesUptoRow : OpenClaim := { program := "ytfdbgmnnahcejaa", sum := "46650a48b55035ef79b004608859680086b095ff67d63292965e771f56717e16", func := "quitclaim/quitclaimlaw08.SignerVerifies", spec := "signerVerifies", inPlace := ["internal/abi.NoEscape", "internal/bytealg.MakeNoZero"], unfollowed := true, recurses := true, apart := false, narrowed := true }
def SignerVerifiesUptoSaid : Prop := signerVerifiesUptoRow.holds Try.pinned (OpenSpec.upto signerVerifiesSpec)

/-- 'quitclaimlaw08.SignerNew', WHERE WHAT IT READS IS OF BULK AT MOST 1048576: true; the input reads as it did. -/
def signerNewUptoRow : OpenClaim := { program := "ytfdbgmnnahcejaa", sum := "46650a48b55035ef79b004608859680086b095ff67d63292965e771f56717e16", func := "quitclaim/quitclaimlaw08.SignerNew", spec := "signerNew", inPlace := ["internal/abi.NoEscape", "internal/bytealg.MakeNoZero"], unfollowed := true, recurses := true, apart := false, narrowed := true }
def SignerNewUptoSaid : Prop := signerNewUptoRow.holds Try.pinned (OpenSpec.upto signerNewSpec)

/-- 'quitclaimlaw08.SignerBytes', WHERE WHAT IT READS IS OF BULK AT MOST 1048576: true; the input reads as it did. -/
def signerBytesUptoRow : OpenClaim := { program := "ytfdbgmnnahcejaa", sum := "46650a48b55035ef79b004608859680086b095ff67d63292965e771f56717e16", func := "quitclaim/quitclaimlaw08.SignerBytes", spec := "signerBytes", inPlace := ["internal/abi.NoEscape", "internal/bytealg.MakeNoZero"], unfollowed := true, recurses := true, apart := false, narrowed := true }
def SignerBytesUptoSaid : Prop := signerBytesUptoRow.holds Try.pinned (OpenSpec.upto signerBytesSpec)

end Rows
end Go.Proofs.Ytfdbgmnnahcejaa

/-
  No cell of these rows narrows 'for every input' (looked for: loops, veiled, ifaces, maps, wideKeys, modest, calm, conditions, laid).
  DERIVED. THE GIVEN ROWS OF THIS SEAT. 6 by the template 'for every input the law returns true; each argument reads behind the call as it read before'; 0 by the template 'total and deterministic' (their statements: YtlobagjeiocolaaTotals.lean).
  GIVEN WITH THE SEED: the statements are not yours to turn. If you find one false, say at which input.
  Laid BY PROGRAM, IN A SANDBOX (cutbox-rows.mjs): the forced cells as the released guide's own fill.sh prints them over the translation ad14a16eed1fd0c5… (all of the seat's roots in one cut). By AI agents, Wed Nov 11 2026. No macro, syntax, notation, axiom, sorry.
-/
import Derived.Test.YtlobagjeiocolaaChecked
import GoSem.Claim
import GoSem.ClaimJoined
import GoSem.ClaimMapViews
import Derived.JoinedTies
import Derived.KernelRfl
namespace Go.Proofs.Ytlobagjeiocolaa
/- THE CELL 'sum', in the pinned program and in every row, IS THE sha256 OF THE DUMP (.gsa) THAT YtlobagjeiocolaaProg.lean LOADS. Nothing in Lean hashes anything: it is a label: what it is worth is what the hold of that sum in a sandbox is worth. -/
noncomputable def Try.pinned : Pinned := { name := "ytlobagjeiocolaa", sum := "ad14a16eed1fd0c572156a658a5b4d40b80b1b37523916db383c7228fb8fd777", checked := Try.checked }
namespace Rows
def none {H : Type} : Left H := { results := [], args := [] }

/-- 'quitclaimlaw03.TagSums': WHATEVER THE INPUT: true; the input reads as it did. -/
def tagSumsSpec : ChangeSpec := { name := "tagSums", fn := fun _ => fun
  | [d1, d2] => { results := [.lit (.bool true)], args := [d1, d2] }
  | _ => none }
def tagSumsRow : OpenClaim := { program := "ytlobagjeiocolaa", sum := "ad14a16eed1fd0c572156a658a5b4d40b80b1b37523916db383c7228fb8fd777", func := "quitclaim/quitclaimlaw03.TagSums", spec := "tagSums", inPlace := ["internal/abi.NoEscape", "internal/bytealg.MakeNoZero"], apart := false }
def TagSumsSaid : Prop := tagSumsRow.holds Try.pinned (OpenSpec.ofChange tagSumsSpec)

/-- ITS FALSE NEIGHBOUR: 'it returns false'. Refute it at one input. -/
def tagSumsWrong : ChangeSpec := { name := "tagSums", fn := fun _ => fun
  | [d1, d2] => { results := [.lit (.bool false)], args := [d1, d2] }
  | _ => none }
def TagSumsWrongFalsely : Prop := tagSumsRow.holds Try.pinned (OpenSpec.ofChange tagSumsWrong)

/-- 'quitclaimlaw03.TagRows': WHATEVER THE INPUT: true; the input reads as it did. -/
def tagRowsSpec : ChangeSpec := { name := "tagRows", fn := fun _ => fun
  | [d1, d2, d3, d4] => { results := [.lit (.bool true)], args := [d1, d2, d3, d4] }
  | _ => none }
def tagRowsRow : OpenClaim := { program := "ytlobagjeiocolaa", sum := "ad14a16eed1fd0c572156a658a5b4d40b80b1b37523916db383c7228fb8fd777", func := "quitclaim/quitclaimlaw03.TagRows", spec := "tagRows", inPlace := ["internal/abi.NoEscape", "internal/bytealg.MakeNoZero"], apart := false }
def TagRowsSaid : Prop := tagRowsRow.holds Try.pinned (OpenSpec.ofChange tagRowsSpec)

/-- ITS FALSE NEIGHBOUR: 'it returns false'. Refute it at one input. -/
def tagRowsWrong : ChangeSpec := { name := "tagRows", fn := fun _ => fun
  | [d1, d2, d3, d4] => { results := [.lit (.bool false)], args := [d1, d2, d3, d4] }
  | _ => none }
def TagRowsWrongFalsely : Prop := tagRowsRow.holds Try.pinned (OpenSpec.ofChange tagRowsWrong)

/-- 'quitclaimlaw03.TagApart': WHATEVER THE INPUT: true; the input reads as it did. -/
def tagApartSpec : ChangeSpec := { name := "tagApart", fn := fun _ => fun
  | [d1, d2, d3, d4] => { results := [.lit (.bool true)], args := [d1, d2, d3, d4] }
  | _ => none }
def tagApartRow : OpenClaim := { program := "ytlobagjeiocolaa", sum := "ad14a16eed1fd0c572156a658a5b4d40b80b1b37523916db383c7228fb8fd777", func := "quitclaim/quitclaimlaw03.TagApart", spec := "tagApart", inPlace := ["internal/abi.NoEscape", "internal/bytealg.MakeNoZero"], apart := false }
def TagApartSaid : Prop := tagApartRow.holds Try.pinned (OpenSpec.ofChange tagApartSpec)

/-- ITS FALSE NEIGHBOUR: 'it returns false'. Refute it at one input. -/
def tagApartWrong : ChangeSpec := { name := "tagApart", fn := fun _ => fun
  | [d1, d2, d3, d4] => { results := [.lit (.bool false)], args := [d1, d2, d3, d4] }
  | _ => none }
def TagApartWrongFalsely : Prop := tagApartRow.holds Try.pinned (OpenSpec.ofChange tagApartWrong)

/-- 'quitclaimlaw04.IdTexts': WHATEVER THE INPUT: true; the input reads as it did. -/
def idTextsSpec : ChangeSpec := { name := "idTexts", fn := fun _ => fun
  | [d1, d2, d3, d4] => { results := [.lit (.bool true)], args := [d1, d2, d3, d4] }
  | _ => none }
def idTextsRow : OpenClaim := { program := "ytlobagjeiocolaa", sum := "ad14a16eed1fd0c572156a658a5b4d40b80b1b37523916db383c7228fb8fd777", func := "quitclaim/quitclaimlaw04.IdTexts", spec := "idTexts", inPlace := ["internal/bytealg.Compare"], unfollowed := true, recurses := true, apart := false }
def IdTextsSaid : Prop := idTextsRow.holds Try.pinned (OpenSpec.ofChange idTextsSpec)

/-- ITS FALSE NEIGHBOUR: 'it returns false'. Refute it at one input. -/
def idTextsWrong : ChangeSpec := { name := "idTexts", fn := fun _ => fun
  | [d1, d2, d3, d4] => { results := [.lit (.bool false)], args := [d1, d2, d3, d4] }
  | _ => none }
def IdTextsWrongFalsely : Prop := idTextsRow.holds Try.pinned (OpenSpec.ofChange idTextsWrong)

/-- 'quitclaimlaw04.IdRows': WHATEVER THE INPUT: true; the input reads as it did. -/
def idRowsSpec : ChangeSpec := { name := "idRows", fn := fun _ => fun
  | [d1, d2] => { results := [.lit (.bool true)], args := [d1, d2] }
  | _ => none }
def idRowsRow : OpenClaim := { program := "ytlobagjeiocolaa", sum := "ad14a16eed1fd0c572156a658a5b4d40b80b1b37523916db383c7228fb8fd777", func := "quitclaim/quitclaimlaw04.IdRows", spec := "idRows", inPlace := ["internal/bytealg.Compare"], unfollowed := true, recurses := true, apart := false }
def IdRowsSaid : Prop := idRowsRow.holds Try.pinned (OpenSpec.ofChange idRowsSpec)

/-- ITS FALSE NEIGHBOUR: 'it returns false'. Refute it at one input. -/
def idRowsWrong : ChangeSpec := { name := "idRows", fn := fun _ => fun
  | [d1, d2] => { results := [.lit (.bool false)], args := [d1, d2] }
  | _ => none }
def IdRowsWrongFalsely : Prop := idRowsRow.holds Try.pinned (OpenSpec.ofChange idRowsWrong)

/-- 'quitclaimlaw04.IdSets': WHATEVER THE INPUT: true; the input reads as it did. -/
def idSetsSpec : ChangeSpec := { name := "idSets", fn := fun _ => fun
  | [d1, d2] => { results := [.lit (.bool true)], args := [d1, d2] }
  | _ => none }
def idSetsRow : OpenClaim := { program := "ytlobagjeiocolaa", sum := "ad14a16eed1fd0c572156a658a5b4d40b80b1b37523916db383c7228fb8fd777", func := "quitclaim/quitclaimlaw04.IdSets", spec := "idSets", inPlace := ["internal/bytealg.Compare"], unfollowed := true, recurses := true, apart := false }
def IdSetsSaid : Prop := idSetsRow.holds Try.pinned (OpenSpec.ofChange idSetsSpec)

/-- ITS FALSE NEIGHBOUR: 'it returns false'. Refute it at one input. -/
def idSetsWrong : ChangeSpec := { name := "idSets", fn := fun _ => fun
  | [d1, d2] => { results := [.lit (.bool false)], args := [d1, d2] }
  | _ => none }
def IdSetsWrongFalsely : Prop := idSetsRow.holds Try.pinned (OpenSpec.ofChange idSetsWrong)

/- THE SECOND FORM. 'bulk': how many values and letters a reading holds, each counted each time it is reached (what is shared counts as often as it is met; a slice's spare places count too). A statement '..UptoSaid' is the law's where the arguments, and the package variables that the reading takes, are together of bulk at most 1048576: NARROWER than '..Said'. Prove '..Said' where nothing that the law and all that it calls make is longer than what came in: it says more and counts as full. Else prove '..UptoSaid'. A law counts once. -/
mutual
def uptoBulk {H : Type} : DataW H → Nat
  | .lit (.string bytes) => bytes.length + 1
  | .lit _ => 1
  | .nil => 1
  | .ptr d => uptoBulk d + 1
  | .slice elems spare => uptoBulkAll elems + uptoBulkAll spare + 1
  | .agg parts => uptoBulkAll parts + 1
  | .iface _ d => uptoBulk d + 1
  | .map entries => uptoBulkEntries entries + 1
  | .held _ => 1
def uptoBulkAll {H : Type} : List (DataW H) → Nat
  | [] => 0
  | d :: r => uptoBulk d + uptoBulkAll r
def uptoBulkEntries {H : Type} : List (Lit × DataW H) → Nat
  | [] => 0
  | x :: r => uptoBulkEntry x + uptoBulkEntries r
def uptoBulkEntry {H : Type} : Lit × DataW H → Nat
  | (.string bytes, d) => bytes.length + uptoBulk d + 1
  | (_, d) => uptoBulk d + 1
 end
def uptoSmall : (H : Type) → List (DataW H) → Bool := fun _ ds => decide (uptoBulkAll ds ≤ 1048576)
def OpenSpec.upto (s : _root_.Go.ChangeSpec) : _root_.Go.OpenSpec := { _root_.Go.OpenSpec.ofChange s with cond := some uptoSmall }

/-- 'quitclaimlaw03.TagSums', WHERE WHAT IT READS IS OF BULK AT MOST 1048576: true; the input reads as it did. -/
def tagSumsUptoRow : OpenClaim := { program := "ytlobagjeiocolaa", sum := "ad14a16eed1fd0c572156a658a5b4d40b80b1b37523916db383c7228fb8fd777", func := "quitclaim/quitclaimlaw03.TagSums", spec := "tagSums", inPlace := ["internal/abi.NoEscape", "internal/bytealg.MakeNoZero"], apart := false, narrowed := true }
def TagSumsUptoSaid : Prop := tagSumsUptoRow.holds Try.pinned (OpenSpec.upto tagSumsSpec)

/-- 'quitclaimlaw03.TagRows', WHERE WHAT IT READS IS OF BULK AT MOST 1048576: true; the input reads as it did. -/
def tagRowsUptoRow : OpenClaim := { program := "ytlobagjeiocolaa", sum := "ad14a16eed1fd0c572156a658a5b4d40b80b1b37523916db383c7228fb8fd777", func := "quitclaim/quitclaimlaw03.TagRows", spec := "tagRows", inPlace := ["internal/abi.NoEscape", "internal/bytealg.MakeNoZero"], apart := false, narrowed := true }
def TagRowsUptoSaid : Prop := tagRowsUptoRow.holds Try.pinned (OpenSpec.upto tagRowsSpec)

/-- 'quitclaimlaw03.TagApart', WHERE WHAT IT READS IS OF BULK AT MOST 1048576: true; the input reads as it did. -/
def tagApartUptoRow : OpenClaim := { program := "ytlobagjeiocolaa", sum := "ad14a16eed1fd0c572156a658a5b4d40b80b1b37523916db383c7228fb8fd777", func := "quitclaim/quitclaimlaw03.TagApart", spec := "tagApart", inPlace := ["internal/abi.NoEscape", "internal/bytealg.MakeNoZero"], apart := false, narrowed := true }
def TagApartUptoSaid : Prop := tagApartUptoRow.holds Try.pinned (OpenSpec.upto tagApartSpec)

/-- 'quitclaimlaw04.IdTexts', WHERE WHAT IT READS IS OF BULK AT MOST 1048576: true; the input reads as it did. -/
def idTextsUptoRow : OpenClaim := { program := "ytlobagjeiocolaa", sum := "ad14a16eed1fd0c572156a658a5b4d40b80b1b37523916db383c7228fb8fd777", func := "quitclaim/quitclaimlaw04.IdTexts", spec := "idTexts", inPlace := ["internal/bytealg.Compare"], unfollowed := true, recurses := true, apart := false, narrowed := true }
def IdTextsUptoSaid : Prop := idTextsUptoRow.holds Try.pinned (OpenSpec.upto idTextsSpec)

/-- 'quitclaimlaw04.IdRows', WHERE WHAT IT READS IS OF BULK AT MOST 1048576: true; the input reads as it did. -/
def idRowsUptoRow : OpenClaim := { program := "ytlobagjeiocolaa", sum := "ad14a16eed1fd0c572156a658a5b4d40b80b1b37523916db383c7228fb8fd777", func := "quitclaim/quitclaimlaw04.IdRows", spec := "idRows", inPlace := ["internal/bytealg.Compare"], unfollowed := true, recurses := true, apart := false, narrowed := true }
def IdRowsUptoSaid : Prop := idRowsUptoRow.holds Try.pinned (OpenSpec.upto idRowsSpec)

/-- 'quitclaimlaw04.IdSets', WHERE WHAT IT READS IS OF BULK AT MOST 1048576: true; the input reads as it did. -/
def idSetsUptoRow : OpenClaim := { program := "ytlobagjeiocolaa", sum := "ad14a16eed1fd0c572156a658a5b4d40b80b1b37523916db383c7228fb8fd777", func := "quitclaim/quitclaimlaw04.IdSets", spec := "idSets", inPlace := ["internal/bytealg.Compare"], unfollowed := true, recurses := true, apart := false, narrowed := true }
def IdSetsUptoSaid : Prop := idSetsUptoRow.holds Try.pinned (OpenSpec.upto idSetsSpec)

end Rows
end Go.Proofs.Ytlobagjeiocolaa

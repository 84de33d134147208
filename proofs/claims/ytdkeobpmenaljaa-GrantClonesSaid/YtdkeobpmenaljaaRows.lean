/-
  No cell of these rows narrows 'for every input' (looked for: loops, veiled, ifaces, maps, wideKeys, modest, calm, conditions, laid).
  DERIVED. THE GIVEN ROWS OF THIS SEAT. 9 by the template 'for every input the law returns true; each argument reads behind the call as it read before'; 0 by the template 'total and deterministic' (their statements: YtdkeobpmenaljaaTotals.lean).
  GIVEN WITH THE SEED: the statements are not yours to turn. If you find one false, say at which input.
  Laid BY PROGRAM, IN A SANDBOX (cutbox-rows.mjs): the forced cells as the released guide's own fill.sh prints them over the translation 3ce55d619b11f077… (all of the seat's roots in one cut). By AI agents, Wed Nov 11 2026. No macro, syntax, notation, axiom, sorry.
-/
import Derived.Test.YtdkeobpmenaljaaChecked
import GoSem.Claim
import GoSem.ClaimJoined
import GoSem.ClaimMapViews
import Derived.JoinedTies
import Derived.KernelRfl
namespace Go.Proofs.Ytdkeobpmenaljaa
/- THE CELL 'sum', in the pinned program and in every row, IS THE sha256 OF THE DUMP (.gsa) THAT YtdkeobpmenaljaaProg.lean LOADS. Nothing in Lean hashes anything: it is a label: what it is worth is what the hold of that sum in a sandbox is worth. -/
noncomputable def Try.pinned : Pinned := { name := "ytdkeobpmenaljaa", sum := "3ce55d619b11f077318909c8a777cd3d35459ca5b9c00984dbe820c6e4000f4f", checked := Try.checked }
namespace Rows
def none {H : Type} : Left H := { results := [], args := [] }

/-- 'quitclaimlaw19.GrantClones': WHATEVER THE INPUT: true; the input reads as it did. -/
def grantClonesSpec : ChangeSpec := { name := "grantClones", fn := fun _ => fun
  | [d1, d2, d3] => { results := [.lit (.bool true)], args := [d1, d2, d3] }
  | _ => none }
def grantClonesRow : OpenClaim := { program := "ytdkeobpmenaljaa", sum := "3ce55d619b11f077318909c8a777cd3d35459ca5b9c00984dbe820c6e4000f4f", func := "quitclaim/quitclaimlaw19.GrantClones", spec := "grantClones", inPlace := ["internal/bytealg.IndexByteString", "internal/bytealg.IndexString", "internal/bytealg.abigen_runtime_cmpstring", "internal/bytealg.Compare"], unfollowed := true, recurses := true, named := ["internal/bytealg.MaxLen"], apart := false }
def GrantClonesSaid : Prop := grantClonesRow.holds Try.pinned (OpenSpec.ofChange grantClonesSpec)

/-- ITS FALSE NEIGHBOUR: 'it returns false'. Refute it at one input. -/
def grantClonesWrong : ChangeSpec := { name := "grantClones", fn := fun _ => fun
  | [d1, d2, d3] => { results := [.lit (.bool false)], args := [d1, d2, d3] }
  | _ => none }
def GrantClonesWrongFalsely : Prop := grantClonesRow.holds Try.pinned (OpenSpec.ofChange grantClonesWrong)

/-- 'quitclaimlaw21.MerkleSums': WHATEVER THE INPUT: true; the input reads as it did. -/
def merkleSumsSpec : ChangeSpec := { name := "merkleSums", fn := fun _ => fun
  | [d1, d2, d3] => { results := [.lit (.bool true)], args := [d1, d2, d3] }
  | _ => none }
def merkleSumsRow : OpenClaim := { program := "ytdkeobpmenaljaa", sum := "3ce55d619b11f077318909c8a777cd3d35459ca5b9c00984dbe820c6e4000f4f", func := "quitclaim/quitclaimlaw21.MerkleSums", spec := "merkleSums", inPlace := ["internal/bytealg.Compare", "internal/abi.NoEscape", "internal/bytealg.MakeNoZero"], unfollowed := true, recurses := true, apart := false }
def MerkleSumsSaid : Prop := merkleSumsRow.holds Try.pinned (OpenSpec.ofChange merkleSumsSpec)

/-- ITS FALSE NEIGHBOUR: 'it returns false'. Refute it at one input. -/
def merkleSumsWrong : ChangeSpec := { name := "merkleSums", fn := fun _ => fun
  | [d1, d2, d3] => { results := [.lit (.bool false)], args := [d1, d2, d3] }
  | _ => none }
def MerkleSumsWrongFalsely : Prop := merkleSumsRow.holds Try.pinned (OpenSpec.ofChange merkleSumsWrong)

/-- 'quitclaimlaw21.MerkleProves': WHATEVER THE INPUT: true; the input reads as it did. -/
def merkleProvesSpec : ChangeSpec := { name := "merkleProves", fn := fun _ => fun
  | [d1, d2] => { results := [.lit (.bool true)], args := [d1, d2] }
  | _ => none }
def merkleProvesRow : OpenClaim := { program := "ytdkeobpmenaljaa", sum := "3ce55d619b11f077318909c8a777cd3d35459ca5b9c00984dbe820c6e4000f4f", func := "quitclaim/quitclaimlaw21.MerkleProves", spec := "merkleProves", inPlace := ["internal/bytealg.Compare", "internal/abi.NoEscape", "internal/bytealg.MakeNoZero"], unfollowed := true, recurses := true, apart := false }
def MerkleProvesSaid : Prop := merkleProvesRow.holds Try.pinned (OpenSpec.ofChange merkleProvesSpec)

/-- ITS FALSE NEIGHBOUR: 'it returns false'. Refute it at one input. -/
def merkleProvesWrong : ChangeSpec := { name := "merkleProves", fn := fun _ => fun
  | [d1, d2] => { results := [.lit (.bool false)], args := [d1, d2] }
  | _ => none }
def MerkleProvesWrongFalsely : Prop := merkleProvesRow.holds Try.pinned (OpenSpec.ofChange merkleProvesWrong)

/-- 'quitclaimlaw21.MerkleChecks': WHATEVER THE INPUT: true; the input reads as it did. -/
def merkleChecksSpec : ChangeSpec := { name := "merkleChecks", fn := fun _ => fun
  | [d1, d2, d3] => { results := [.lit (.bool true)], args := [d1, d2, d3] }
  | _ => none }
def merkleChecksRow : OpenClaim := { program := "ytdkeobpmenaljaa", sum := "3ce55d619b11f077318909c8a777cd3d35459ca5b9c00984dbe820c6e4000f4f", func := "quitclaim/quitclaimlaw21.MerkleChecks", spec := "merkleChecks", inPlace := ["internal/bytealg.Compare", "internal/abi.NoEscape", "internal/bytealg.MakeNoZero"], unfollowed := true, recurses := true, apart := false }
def MerkleChecksSaid : Prop := merkleChecksRow.holds Try.pinned (OpenSpec.ofChange merkleChecksSpec)

/-- ITS FALSE NEIGHBOUR: 'it returns false'. Refute it at one input. -/
def merkleChecksWrong : ChangeSpec := { name := "merkleChecks", fn := fun _ => fun
  | [d1, d2, d3] => { results := [.lit (.bool false)], args := [d1, d2, d3] }
  | _ => none }
def MerkleChecksWrongFalsely : Prop := merkleChecksRow.holds Try.pinned (OpenSpec.ofChange merkleChecksWrong)

/-- 'quitclaimlaw21.MerkleApart': WHATEVER THE INPUT: true; the input reads as it did. -/
def merkleApartSpec : ChangeSpec := { name := "merkleApart", fn := fun _ => fun
  | [d1, d2] => { results := [.lit (.bool true)], args := [d1, d2] }
  | _ => none }
def merkleApartRow : OpenClaim := { program := "ytdkeobpmenaljaa", sum := "3ce55d619b11f077318909c8a777cd3d35459ca5b9c00984dbe820c6e4000f4f", func := "quitclaim/quitclaimlaw21.MerkleApart", spec := "merkleApart", inPlace := ["internal/bytealg.Compare", "internal/abi.NoEscape", "internal/bytealg.MakeNoZero"], unfollowed := true, recurses := true, apart := false }
def MerkleApartSaid : Prop := merkleApartRow.holds Try.pinned (OpenSpec.ofChange merkleApartSpec)

/-- ITS FALSE NEIGHBOUR: 'it returns false'. Refute it at one input. -/
def merkleApartWrong : ChangeSpec := { name := "merkleApart", fn := fun _ => fun
  | [d1, d2] => { results := [.lit (.bool false)], args := [d1, d2] }
  | _ => none }
def MerkleApartWrongFalsely : Prop := merkleApartRow.holds Try.pinned (OpenSpec.ofChange merkleApartWrong)

/-- 'quitclaimlaw22.GaussSums': WHATEVER THE INPUT: true; the input reads as it did. -/
def gaussSumsSpec : ChangeSpec := { name := "gaussSums", fn := fun _ => fun
  | [d1, d2, d3, d4, d5, d6] => { results := [.lit (.bool true)], args := [d1, d2, d3, d4, d5, d6] }
  | _ => none }
def gaussSumsRow : OpenClaim := { program := "ytdkeobpmenaljaa", sum := "3ce55d619b11f077318909c8a777cd3d35459ca5b9c00984dbe820c6e4000f4f", func := "quitclaim/quitclaimlaw22.GaussSums", spec := "gaussSums", inPlace := ["math.Float64bits", "math.archTrunc", "math.Float64frombits"], apart := false }
def GaussSumsSaid : Prop := gaussSumsRow.holds Try.pinned (OpenSpec.ofChange gaussSumsSpec)

/-- ITS FALSE NEIGHBOUR: 'it returns false'. Refute it at one input. -/
def gaussSumsWrong : ChangeSpec := { name := "gaussSums", fn := fun _ => fun
  | [d1, d2, d3, d4, d5, d6] => { results := [.lit (.bool false)], args := [d1, d2, d3, d4, d5, d6] }
  | _ => none }
def GaussSumsWrongFalsely : Prop := gaussSumsRow.holds Try.pinned (OpenSpec.ofChange gaussSumsWrong)

/-- 'quitclaimlaw22.GaussInverses': WHATEVER THE INPUT: true; the input reads as it did. -/
def gaussInversesSpec : ChangeSpec := { name := "gaussInverses", fn := fun _ => fun
  | [d1, d2, d3, d4] => { results := [.lit (.bool true)], args := [d1, d2, d3, d4] }
  | _ => none }
def gaussInversesRow : OpenClaim := { program := "ytdkeobpmenaljaa", sum := "3ce55d619b11f077318909c8a777cd3d35459ca5b9c00984dbe820c6e4000f4f", func := "quitclaim/quitclaimlaw22.GaussInverses", spec := "gaussInverses", inPlace := ["math.Float64bits", "math.archTrunc", "math.Float64frombits"], apart := false }
def GaussInversesSaid : Prop := gaussInversesRow.holds Try.pinned (OpenSpec.ofChange gaussInversesSpec)

/-- ITS FALSE NEIGHBOUR: 'it returns false'. Refute it at one input. -/
def gaussInversesWrong : ChangeSpec := { name := "gaussInverses", fn := fun _ => fun
  | [d1, d2, d3, d4] => { results := [.lit (.bool false)], args := [d1, d2, d3, d4] }
  | _ => none }
def GaussInversesWrongFalsely : Prop := gaussInversesRow.holds Try.pinned (OpenSpec.ofChange gaussInversesWrong)

/-- 'quitclaimlaw22.GaussTallies': WHATEVER THE INPUT: true; the input reads as it did. -/
def gaussTalliesSpec : ChangeSpec := { name := "gaussTallies", fn := fun _ => fun
  | [d1, d2, d3] => { results := [.lit (.bool true)], args := [d1, d2, d3] }
  | _ => none }
def gaussTalliesRow : OpenClaim := { program := "ytdkeobpmenaljaa", sum := "3ce55d619b11f077318909c8a777cd3d35459ca5b9c00984dbe820c6e4000f4f", func := "quitclaim/quitclaimlaw22.GaussTallies", spec := "gaussTallies", inPlace := ["math.Float64bits", "math.archTrunc", "math.Float64frombits"], apart := false }
def GaussTalliesSaid : Prop := gaussTalliesRow.holds Try.pinned (OpenSpec.ofChange gaussTalliesSpec)

/-- ITS FALSE NEIGHBOUR: 'it returns false'. Refute it at one input. -/
def gaussTalliesWrong : ChangeSpec := { name := "gaussTallies", fn := fun _ => fun
  | [d1, d2, d3] => { results := [.lit (.bool false)], args := [d1, d2, d3] }
  | _ => none }
def GaussTalliesWrongFalsely : Prop := gaussTalliesRow.holds Try.pinned (OpenSpec.ofChange gaussTalliesWrong)

/-- 'quitclaimlaw22.GaussOdd': WHATEVER THE INPUT: true; the input reads as it did. -/
def gaussOddSpec : ChangeSpec := { name := "gaussOdd", fn := fun _ => fun
  | [d1, d2, d3] => { results := [.lit (.bool true)], args := [d1, d2, d3] }
  | _ => none }
def gaussOddRow : OpenClaim := { program := "ytdkeobpmenaljaa", sum := "3ce55d619b11f077318909c8a777cd3d35459ca5b9c00984dbe820c6e4000f4f", func := "quitclaim/quitclaimlaw22.GaussOdd", spec := "gaussOdd", inPlace := ["math.Float64bits", "math.archTrunc", "math.Float64frombits"], unfollowed := true, recurses := true, apart := false }
def GaussOddSaid : Prop := gaussOddRow.holds Try.pinned (OpenSpec.ofChange gaussOddSpec)

/-- ITS FALSE NEIGHBOUR: 'it returns false'. Refute it at one input. -/
def gaussOddWrong : ChangeSpec := { name := "gaussOdd", fn := fun _ => fun
  | [d1, d2, d3] => { results := [.lit (.bool false)], args := [d1, d2, d3] }
  | _ => none }
def GaussOddWrongFalsely : Prop := gaussOddRow.holds Try.pinned (OpenSpec.ofChange gaussOddWrong)

/- THE SECOND FORM. 'bulk': how many values and letters a reading holds, each counted each time it is reached (what is shared counts as often as it is met; a slice's spare places count too). A statement '..UptoSaid' is the law's where the arguments, and the package variables that the reading takes, are together of bulk at most 1048576: NARROWER than '..Said'. Prove '..Said' where nothing that the law and all that it calls make is longer than what came in: it says more and counts as full. Else prove '..UptoSaid'. A law counts once. -/
mutual
def uptoBulk {H : Type} : DataW H → Nat
  | .lit (.string bytes) => bytes.length + 1
  | .lit _ => 1
  | .nil => 1
  | .ptr d => uptoBulk d + 1
  | .slice elems spare => uptoBulkAll elems + uptoBulkAll spare + 1
  | .agg parts => uptoBulkAll parts + 1
  | .iface _ d => uptoBulk d + 1
  | .map entries => uptoBulkEntries entries + 1
  | .held _ => 1
def uptoBulkAll {H : Type} : List (DataW H) → Nat
  | [] => 0
  | d :: r => uptoBulk d + uptoBulkAll r
def uptoBulkEntries {H : Type} : List (Lit × DataW H) → Nat
  | [] => 0
  | x :: r => uptoBulkEntry x + uptoBulkEntries r
def uptoBulkEntry {H : Type} : Lit × DataW H → Nat
  | (.string bytes, d) => bytes.length + uptoBulk d + 1
  | (_, d) => uptoBulk d + 1
 end
def uptoSmall : (H : Type) → List (DataW H) → Bool := fun _ ds => decide (uptoBulkAll ds ≤ 1048576)
def OpenSpec.upto (s : _root_.Go.ChangeSpec) : _root_.Go.OpenSpec := { _root_.Go.OpenSpec.ofChange s with cond := some uptoSmall }

/-- 'quitclaimlaw19.GrantClones', WHERE WHAT IT READS IS OF BULK AT MOST 1048576: true; the input reads as it did. -/
def grantClonesUptoRow : OpenClaim := { program := "ytdkeobpmenaljaa", sum := "3ce55d619b11f077318909c8a777cd3d35459ca5b9c00984dbe820c6e4000f4f", func := "quitclaim/quitclaimlaw19.GrantClones", spec := "grantClones", inPlace := ["internal/bytealg.IndexByteString", "internal/bytealg.IndexString", "internal/bytealg.abigen_runtime_cmpstring", "internal/bytealg.Compare"], unfollowed := true, recurses := true, named := ["internal/bytealg.MaxLen"], apart := false, narrowed := true }
def GrantClonesUptoSaid : Prop := grantClonesUptoRow.holds Try.pinned (OpenSpec.upto grantClonesSpec)

/-- 'quitclaimlaw21.MerkleSums', WHERE WHAT IT READS IS OF BULK AT MOST 1048576: true; the input reads as it did. -/
def merkleSumsUptoRow : OpenClaim := { program := "ytdkeobpmenaljaa", sum := "3ce55d619b11f077318909c8a777cd3d35459ca5b9c00984dbe820c6e4000f4f", func := "quitclaim/quitclaimlaw21.MerkleSums", spec := "merkleSums", inPlace := ["internal/bytealg.Compare", "internal/abi.NoEscape", "internal/bytealg.MakeNoZero"], unfollowed := true, recurses := true, apart := false, narrowed := true }
def MerkleSumsUptoSaid : Prop := merkleSumsUptoRow.holds Try.pinned (OpenSpec.upto merkleSumsSpec)

/-- 'quitclaimlaw21.MerkleProves', WHERE WHAT IT READS IS OF BULK AT MOST 1048576: true; the input reads as it did. -/
def merkleProvesUptoRow : OpenClaim := { program := "ytdkeobpmenaljaa", sum := "3ce55d619b11f077318909c8a777cd3d35459ca5b9c00984dbe820c6e4000f4f", func := "quitclaim/quitclaimlaw21.MerkleProves", spec := "merkleProves", inPlace := ["internal/bytealg.Compare", "internal/abi.NoEscape", "internal/bytealg.MakeNoZero"], unfollowed := true, recurses := true, apart := false, narrowed := true }
def MerkleProvesUptoSaid : Prop := merkleProvesUptoRow.holds Try.pinned (OpenSpec.upto merkleProvesSpec)

/-- 'quitclaimlaw21.MerkleChecks', WHERE WHAT IT READS IS OF BULK AT MOST 1048576: true; the input reads as it did. -/
def merkleChecksUptoRow : OpenClaim := { program := "ytdkeobpmenaljaa", sum := "3ce55d619b11f077318909c8a777cd3d35459ca5b9c00984dbe820c6e4000f4f", func := "quitclaim/quitclaimlaw21.MerkleChecks", spec := "merkleChecks", inPlace := ["internal/bytealg.Compare", "internal/abi.NoEscape", "internal/bytealg.MakeNoZero"], unfollowed := true, recurses := true, apart := false, narrowed := true }
def MerkleChecksUptoSaid : Prop := merkleChecksUptoRow.holds Try.pinned (OpenSpec.upto merkleChecksSpec)

/-- 'quitclaimlaw21.MerkleApart', WHERE WHAT IT READS IS OF BULK AT MOST 1048576: true; the input reads as it did. -/
def merkleApartUptoRow : OpenClaim := { program := "ytdkeobpmenaljaa", sum := "3ce55d619b11f077318909c8a777cd3d35459ca5b9c00984dbe820c6e4000f4f", func := "quitclaim/quitclaimlaw21.MerkleApart", spec := "merkleApart", inPlace := ["internal/bytealg.Compare", "internal/abi.NoEscape", "internal/bytealg.MakeNoZero"], unfollowed := true, recurses := true, apart := false, narrowed := true }
def MerkleApartUptoSaid : Prop := merkleApartUptoRow.holds Try.pinned (OpenSpec.upto merkleApartSpec)

/-- 'quitclaimlaw22.GaussSums', WHERE WHAT IT READS IS OF BULK AT MOST 1048576: true; the input reads as it did. -/
def gaussSumsUptoRow : OpenClaim := { program := "ytdkeobpmenaljaa", sum := "3ce55d619b11f077318909c8a777cd3d35459ca5b9c00984dbe820c6e4000f4f", func := "quitclaim/quitclaimlaw22.GaussSums", spec := "gaussSums", inPlace := ["math.Float64bits", "math.archTrunc", "math.Float64frombits"], apart := false, narrowed := true }
def GaussSumsUptoSaid : Prop := gaussSumsUptoRow.holds Try.pinned (OpenSpec.upto gaussSumsSpec)

/-- 'quitclaimlaw22.GaussInverses', WHERE WHAT IT READS IS OF BULK AT MOST 1048576: true; the input reads as it did. -/
def gaussInversesUptoRow : OpenClaim := { program := "ytdkeobpmenaljaa", sum := "3ce55d619b11f077318909c8a777cd3d35459ca5b9c00984dbe820c6e4000f4f", func := "quitclaim/quitclaimlaw22.GaussInverses", spec := "gaussInverses", inPlace := ["math.Float64bits", "math.archTrunc", "math.Float64frombits"], apart := false, narrowed := true }
def GaussInversesUptoSaid : Prop := gaussInversesUptoRow.holds Try.pinned (OpenSpec.upto gaussInversesSpec)

/-- 'quitclaimlaw22.GaussTallies', WHERE WHAT IT READS IS OF BULK AT MOST 1048576: true; the input reads as it did. -/
def gaussTalliesUptoRow : OpenClaim := { program := "ytdkeobpmenaljaa", sum := "3ce55d619b11f077318909c8a777cd3d35459ca5b9c00984dbe820c6e4000f4f", func := "quitclaim/quitclaimlaw22.GaussTallies", spec := "gaussTallies", inPlace := ["math.Float64bits", "math.archTrunc", "math.Float64frombits"], apart := false, narrowed := true }
def GaussTalliesUptoSaid : Prop := gaussTalliesUptoRow.holds Try.pinned (OpenSpec.upto gaussTalliesSpec)

/-- 'quitclaimlaw22.GaussOdd', WHERE WHAT IT READS IS OF BULK AT MOST 1048576: true; the input reads as it did. -/
def gaussOddUptoRow : OpenClaim := { program := "ytdkeobpmenaljaa", sum := "3ce55d619b11f077318909c8a777cd3d35459ca5b9c00984dbe820c6e4000f4f", func := "quitclaim/quitclaimlaw22.GaussOdd", spec := "gaussOdd", inPlace := ["math.Float64bits", "math.archTrunc", "math.Float64frombits"], unfollowed := true, recurses := true, apart := false, narrowed := true }
def GaussOddUptoSaid : Prop := gaussOddUptoRow.holds Try.pinned (OpenSpec.upto gaussOddSpec)

end Rows
end Go.Proofs.Ytdkeobpmenaljaa

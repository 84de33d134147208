
/- The contracts of a Hash's Sum, and of package sha's Sum. -/
import Derived.Test.YtapgiagpjplpdaaGreatSha5
import Derived.Test.YtapgiagpjplpdaaGreatBytes
namespace Go.Proofs.YtapgiagpjplpdaaGreat
open Go.RowKit Go.Qc
attribute [local go_sem] txt_size txt_extract

theorem sizeId : (Tryz.prog.info? 23).map (·.size) = some 32 := by kernel_rfl
/-- Thirty-two bytes as the machine has them. -/
def idVals (b : List UInt8) : Array Value := (b.map u8v).toArray
theorem idVals_size (b : List UInt8) : (idVals b).size = b.length := by simp [idVals]
theorem idVals_one (b : List UInt8) : (idVals b).all (·.oneCell') = true := by
  unfold idVals
  rw [← Array.all_toList]
  simp only [List.all_eq_true]
  exact u8v_one b
end Go.Proofs.YtapgiagpjplpdaaGreat

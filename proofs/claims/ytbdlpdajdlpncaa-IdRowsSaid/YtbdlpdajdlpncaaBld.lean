
/- strings.Builder: the contracts of the library, at this program; and a builder of bytes as the calls here use it. -/
import Derived.Test.YtbdlpdajdlpncaaWords
import Derived.Shelf.Strings.Builder1
import Derived.Shelf.Strings.Builder2
import Derived.Lib.Builder
namespace Go.Proofs.Ytbdlpdajdlpncaa
open Go.RowKit Go.Qc Go.Shelf
end Go.Proofs.Ytbdlpdajdlpncaa

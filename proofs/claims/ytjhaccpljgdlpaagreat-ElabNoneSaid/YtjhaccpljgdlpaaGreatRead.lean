/- Arguments that are slices of bytes, texts, numbers. -/
import Derived.Test.YtjhaccpljgdlpaaGreatM0
import Derived.Test.YtjhaccpljgdlpaaGreatKit
import Derived.Deep.Matrix
import Derived.Lib.ItoaMem
namespace Go.Proofs.YtjhaccpljgdlpaaGreat
open Go Go.RowKit Go.WideShapes Go.ChangeShapes Go.WideElems Go.Deep

set_option maxRecDepth 100000 in
theorem cells5r : Tryz.prog.cellsOf 5 = 1 := by kernel_rfl
end Go.Proofs.YtjhaccpljgdlpaaGreat


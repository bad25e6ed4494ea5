/- The document's answers for layer 5 (package sundialref05), held to the same plain arithmetic. -/
import Derived.Test.YtelnkbikgboblaaDoorDrawWalks
namespace Go.Proofs.YtelnkbikgboblaaDoor.DrawRef
set_option maxRecDepth 20000
open Go.ChangeShapes Go.WideShapes Go.RowKit DM Lay Ints Draw


theorem infoInt : (Tryd.prog.info? 3).map (fun i => (i.zero, i.size, i.bytes)) = some (some (.int .i64 0), 1, 8) := by kernel_rfl




end Go.Proofs.YtelnkbikgboblaaDoor.DrawRef

/- Proved: GridFinds returns true for any stops and any question (a grid's errors, its cells, the stops near a place and the nearest one are as the document says); no condition. -/
import Derived.Test.YtddlenbahidkaaaRows
import Derived.Test.YtddlenbahidkaaaGdQ
import Derived.Test.YtddlenbahidkaaaGdU
namespace Go.Proofs.Ytddlenbahidkaaa.GridFinds

theorem holds : Rows.GridFindsSaid := GdQ.finds_row Gd.oks
end Go.Proofs.Ytddlenbahidkaaa.GridFinds

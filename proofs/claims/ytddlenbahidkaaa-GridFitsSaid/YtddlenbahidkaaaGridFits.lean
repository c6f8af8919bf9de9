/- Proved: GridFits returns true for any stops and any question (the results do not depend on the size of the cells; a greater reach finds at least as many stops); no condition. -/
import Derived.Test.YtddlenbahidkaaaRows
import Derived.Test.YtddlenbahidkaaaGdQ
import Derived.Test.YtddlenbahidkaaaGdU
namespace Go.Proofs.Ytddlenbahidkaaa.GridFits

theorem holds : Rows.GridFitsSaid := GdQ.fits_row Gd.oks
end Go.Proofs.Ytddlenbahidkaaa.GridFits

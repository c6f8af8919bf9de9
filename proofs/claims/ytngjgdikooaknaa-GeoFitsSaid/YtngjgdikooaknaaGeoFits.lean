/- Proved: GeoFits returns true for any small number, three stops and a number (rings are all cells once, a root is one, squares and sides fit); no condition. -/
import Derived.Test.YtngjgdikooaknaaRows
import Derived.Test.YtngjgdikooaknaaGeQ
import Derived.Test.YtngjgdikooaknaaGeB
namespace Go.Proofs.Ytngjgdikooaknaa.GeoFits

theorem holds : Rows.GeoFitsSaid := GeQ.fits_row Ge.oks
end Go.Proofs.Ytngjgdikooaknaa.GeoFits

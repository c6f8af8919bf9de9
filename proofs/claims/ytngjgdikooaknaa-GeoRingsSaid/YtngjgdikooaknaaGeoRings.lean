/- Proved: GeoRings returns true for any number (a ring has the cells that the document says, in its order, or its error); no condition. -/
import Derived.Test.YtngjgdikooaknaaRows
import Derived.Test.YtngjgdikooaknaaGeQ
import Derived.Test.YtngjgdikooaknaaGeB
namespace Go.Proofs.Ytngjgdikooaknaa.GeoRings

theorem holds : Rows.GeoRingsSaid := GeQ.rings_row Ge.oks
end Go.Proofs.Ytngjgdikooaknaa.GeoRings

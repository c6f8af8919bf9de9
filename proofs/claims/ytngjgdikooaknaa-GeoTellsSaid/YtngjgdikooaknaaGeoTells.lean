/- Proved: GeoTells returns true for any three stops (whether there is such a place, the squares, the sides and the roots are as the document says); no condition. -/
import Derived.Test.YtngjgdikooaknaaRows
import Derived.Test.YtngjgdikooaknaaGeQ
import Derived.Test.YtngjgdikooaknaaGeB
namespace Go.Proofs.Ytngjgdikooaknaa.GeoTells

theorem holds : Rows.GeoTellsSaid := GeQ.tells_row Ge.oks
end Go.Proofs.Ytngjgdikooaknaa.GeoTells

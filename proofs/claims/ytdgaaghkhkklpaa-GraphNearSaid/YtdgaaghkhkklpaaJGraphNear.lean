/- Proved: GraphNear returns true for any network whatever (the links to the neighbours of each stop, the least stop of each part); no condition. -/
import Derived.Test.YtdgaaghkhkklpaaRows
import Derived.Test.YtdgaaghkhkklpaaJ2523a6f2
import Derived.Test.YtdgaaghkhkklpaaJ42297052
namespace Go.Proofs.Ytdgaaghkhkklpaa.GraphNear

theorem holds : Rows.GraphNearSaid := GfQ.near_row Gf.oks
end Go.Proofs.Ytdgaaghkhkklpaa.GraphNear

/- Proved: PathLeast returns true for any network, any stop and any way from it (no way is shorter than the distance); no condition. -/
import Derived.Test.YtdhlbcbgbmgcjaaRows
import Derived.Test.YtdhlbcbgbmgcjaaJ21904d0a
import Derived.Test.YtdhlbcbgbmgcjaaJ425121f1
namespace Go.Proofs.Ytdhlbcbgbmgcjaa.PathLeast

theorem holds : Rows.PathLeastSaid := PtQ.pathLeast_row Pt.oks
end Go.Proofs.Ytdhlbcbgbmgcjaa.PathLeast

/- Proved: PathTells returns true for any network and any two stops and any way (distances, best ways and weights are as the chapter has them); no condition. -/
import Derived.Test.YtdhlbcbgbmgcjaaRows
import Derived.Test.YtdhlbcbgbmgcjaaJ21904d0a
import Derived.Test.YtdhlbcbgbmgcjaaJ425121f1
namespace Go.Proofs.Ytdhlbcbgbmgcjaa.PathTells

theorem holds : Rows.PathTellsSaid := PtQ.pathTells_row Pt.oks
end Go.Proofs.Ytdhlbcbgbmgcjaa.PathTells

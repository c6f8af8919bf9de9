/- Proved: RevokeFits returns true for any two lists and two numbers (what is added, pruned and merged is right; a trip is revoked in what is merged just if it is in one of both), and leaves what it was handed as it was; no condition. -/
import Derived.Test.YtfmmpmpafgbidaaRows
import Derived.Test.YtfmmpmpafgbidaaRvQ
import Derived.Test.YtfmmpmpafgbidaaRvT
namespace Go.Proofs.Ytfmmpmpafgbidaa.RevokeFits

theorem holds : Rows.RevokeFitsSaid := RvQ.fits_row Rv.oks
end Go.Proofs.Ytfmmpmpafgbidaa.RevokeFits

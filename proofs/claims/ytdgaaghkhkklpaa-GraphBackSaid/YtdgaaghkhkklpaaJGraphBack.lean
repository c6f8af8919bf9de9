/- Proved: GraphBack returns true for any network whatever (what Put writes, Take reads; neighbours are neighbours both ways, and of one part); no condition. -/
import Derived.Test.YtdgaaghkhkklpaaRows
import Derived.Test.YtdgaaghkhkklpaaJ2523a6f2
import Derived.Test.YtdgaaghkhkklpaaJ42297052
namespace Go.Proofs.Ytdgaaghkhkklpaa.GraphBack

theorem holds : Rows.GraphBackSaid := GfQ.back_row Gf.oks
end Go.Proofs.Ytdgaaghkhkklpaa.GraphBack

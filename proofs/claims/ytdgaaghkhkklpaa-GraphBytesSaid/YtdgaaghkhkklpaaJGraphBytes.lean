/- Proved: GraphBytes returns true for any network whatever (its bytes as the document says, read back; a link that is not valid is refused); no condition. -/
import Derived.Test.YtdgaaghkhkklpaaRows
import Derived.Test.YtdgaaghkhkklpaaJ2523a6f2
import Derived.Test.YtdgaaghkhkklpaaJ42297052
namespace Go.Proofs.Ytdgaaghkhkklpaa.GraphBytes

theorem holds : Rows.GraphBytesSaid := GfQ.bytes_row Gf.oks
end Go.Proofs.Ytdgaaghkhkklpaa.GraphBytes

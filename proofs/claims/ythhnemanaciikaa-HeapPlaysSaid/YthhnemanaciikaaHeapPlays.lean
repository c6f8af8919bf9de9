/- HeapPlays: the card. -/
import Derived.Test.YthhnemanaciikaaRows
import Derived.Test.YthhnemanaciikaaHqQ
import Derived.Test.YthhnemanaciikaaHqK
namespace Go.Proofs.Ythhnemanaciikaa.HeapPlays
theorem holds : Rows.HeapPlaysSaid := HqQ.heapPlays_row Hq.oks
end Go.Proofs.Ythhnemanaciikaa.HeapPlays

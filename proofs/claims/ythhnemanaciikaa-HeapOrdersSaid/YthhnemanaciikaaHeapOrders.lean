/- HeapOrders: the card. -/
import Derived.Test.YthhnemanaciikaaRows
import Derived.Test.YthhnemanaciikaaHqQ
import Derived.Test.YthhnemanaciikaaHqK
namespace Go.Proofs.Ythhnemanaciikaa.HeapOrders
theorem holds : Rows.HeapOrdersSaid := HqQ.heapOrders_row Hq.oks
end Go.Proofs.Ythhnemanaciikaa.HeapOrders

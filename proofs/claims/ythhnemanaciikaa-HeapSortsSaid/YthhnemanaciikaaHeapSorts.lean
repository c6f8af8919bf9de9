/- HeapSorts: the card. -/
import Derived.Test.YthhnemanaciikaaRows
import Derived.Test.YthhnemanaciikaaHqQ
import Derived.Test.YthhnemanaciikaaHqK
namespace Go.Proofs.Ythhnemanaciikaa.HeapSorts
theorem holds : Rows.HeapSortsSaid := HqQ.heapSorts_row Hq.oks
end Go.Proofs.Ythhnemanaciikaa.HeapSorts

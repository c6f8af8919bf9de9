/- The cells of a row of one's own, over any program. -/
import Derived.Test.YtclidocmfdimiaaDoorOwn
namespace Go.Proofs.YtclidocmfdimiaaDoor
open Go.RowKit

theorem own_cell {w : World} {base n : Nat} {v : Value} {xs : List Int} {e : TypeId} (h : w.ownsRow base e 1 v n (xs.map (Value.int .u8))) (hn : 0 < n) : ∃ g c, v = .slice (some ⟨g, 0, none⟩) n c ∧ ∀ j, j < n → w.cell? ⟨g, j, none⟩ = some (.int .u8 (xs.getD j 0)) := by
  obtain ⟨A, c, rfl, -, -⟩ := own_slice h
  obtain ⟨g, rfl, -⟩ := own_at h hn
  have hr : Row .u8 w w.heap.size (some ⟨g, 0, none⟩) n xs := Row.of_own h
  refine ⟨g, c, rfl, fun j hj => ?_⟩
  obtain ⟨b, o, e, -, hc⟩ := hr.cell_at hj
  injection e with e
  injection e with e1 e2
  subst e1 e2
  rwa [Nat.zero_add] at hc
end Go.Proofs.YtclidocmfdimiaaDoor

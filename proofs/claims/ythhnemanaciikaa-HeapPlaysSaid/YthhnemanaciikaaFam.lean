/- A region that draws its order and whose calls make new memory, over any program: one walk in the text's order, in a family of worlds that keep all that lay. -/
import Derived.WalkKit
import Derived.Deep.QuietTactic
import Derived.BigQuiet
import Derived.Test.YthhnemanaciikaaOwn
namespace Go.Proofs.Ythhnemanaciikaa
open Go.RowKit

theorem wp_region_fam {P : Program} {ι : Type} (W : ι → World) (i0 : ι) {id : Nat} {Q : Exit → Act → World → Prop} {a : Act} {w : World} {l : List Oper} (hm : P.follows .mixedOrders = true) (hB : Region.lexB .any l.toArray = true) (h0 : w.drew = W i0)
    (h : wpQuiet P l.toArray (fun w' => ∃ i, w' = W i) (fun a' => ∀ w', (∃ i, w' = W i) → Q .normal a' w') l a) : (Code.region id l.toArray true).wp P Q a w :=
  wp_region_quiet (C := fun w' => ∃ i, w' = W i) hm hB ⟨i0, h0⟩ (by simpa using h)

/-- All worlds in which what lay in w lies as it lay. -/
theorem fam_of (w : World) : ∃ (ι : Type) (_ : Nonempty ι) (W : ι → World) (i0 : ι), w.drew = W i0 ∧ (∀ i, Below w.heap.size w (W i)) ∧ (∀ i w', Below (W i).heap.size (W i) w' → ∃ j, w' = W j) :=
  ⟨{ x : World // Below w.heap.size w x }, ⟨⟨w, Below.refl _ _⟩⟩, fun i => i.1, ⟨w.drew, (Below.refl _ _).drew⟩, rfl, fun i => i.2, fun i w' h => ⟨⟨w', i.2.trans (h.mono i.2.size)⟩, rfl⟩⟩

/-- A callee in such a family: it hands back one value, and leaves what lay. -/
theorem fam_call {P : Program} {ι : Type} {W : ι → World} {f : FuncId} {args : Array Value} {v : Value} {i : ι} (hW : ∀ i w', Below (W i).heap.size (W i) w' → ∃ j, w' = W j)
    (h : Calls P f args (W i) fun e w' => e = .returned v ∧ Below (W i).heap.size (W i) w') : Calls P f args (W i) fun e w' => e = .returned v ∧ ∃ j, w' = W j :=
  h.mono fun _ _ ⟨a, b⟩ => ⟨a, hW _ _ b⟩
end Go.Proofs.Ythhnemanaciikaa

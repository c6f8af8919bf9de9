/- Over any program: a call that only draws and lays blocks behind; a family of such worlds. -/
import Derived.Sort.Grow
import Derived.Deep.Draws
import Derived.WalkKit
namespace Go.Proofs.Ytddlenbahidkaaa
open Go Go.Proofs Go.RowKit Go.Sort

/-- Draws, and blocks behind. -/
def Gw (w w' : World) : Prop := ∃ q os, w' = grow (w.drewN q) os
theorem Gw.refl (w : World) : Gw w w := ⟨0, #[], by rw [grow_empty]; rfl⟩
theorem Gw.trans {a b c : World} (h : Gw a b) (k : Gw b c) : Gw a c := by
  obtain ⟨q, os, rfl⟩ := h
  obtain ⟨r, ps, rfl⟩ := k
  refine ⟨q + r, os ++ ps, ?_⟩
  have e : (grow (a.drewN q) os).drewN r = grow ((a.drewN q).drewN r) os := rfl
  rw [e, grow_grow, World.drewN_drewN]
theorem Gw.drewN (w : World) (q : Nat) : Gw w (w.drewN q) := ⟨q, #[], by rw [grow_empty]⟩
theorem Gw.alloc (w : World) (o : Obj) : Gw w (w.alloc o) := ⟨0, #[o], by rw [alloc_eq_grow]; rfl⟩
theorem Gw.below {w w' : World} (h : Gw w w') : Below w.heap.size w w' := by
  obtain ⟨q, os, rfl⟩ := h
  exact ⟨rfl, rfl, rfl, by rw [size_grow]; exact Nat.le_add_right _ _, fun k hk => heap_grow_old _ _ hk⟩
theorem fam_gw (w : World) : ∃ (ι : Type) (_ : Nonempty ι) (W : ι → World) (i0 : ι), w.drew = W i0 ∧ (∀ i, Gw w (W i)) ∧ (∀ i w', Gw (W i) w' → ∃ j, w' = W j) :=
  ⟨{ x : World // Gw w x }, ⟨⟨w, Gw.refl w⟩⟩, fun i => i.1, ⟨w.drew, Gw.drewN w 1⟩, rfl, fun i => i.2, fun i w' h => ⟨⟨w', i.2.trans h⟩, rfl⟩⟩
end Go.Proofs.Ytddlenbahidkaaa

/- A slice of samples that came in, opened. -/
import Derived.Test.YtefnpibikebmdaaRows
import Derived.Test.YtefnpibikebmdaaOpenS
import Derived.Test.YtefnpibikebmdaaSmpR
namespace Go.Proofs.Ytefnpibikebmdaa.Smp
open Go.ChangeShapes Go.WideShapes Go.ChangeAt Go.RowKit Go.Deep

theorem open_samples {H : Type} {enc : TypeId × Value → H} {W : World} {base : Nat} {v : Value} {d : DataW H} {ps : List MemPlace} (hv : Value.okWide Try.prog W .any base 22 v) (h : DataW.Trod enc Try.prog W 0 (fun _ => true) true 22 v d ps) :
    ∃ A n c ss, v = .slice A n c ∧ SRow W W.heap.size A n ss ∧ (A = none → c = 0) ∧ n ≤ c ∧ c ≤ maxLen := by
  obtain ⟨A, n, c, V, rfl, hnil, hnc, hmax, hx⟩ := open_structs2 Try.underlying22 Try.underlying32 (hone_of (by kernel_rfl)) (by kernel_rfl) (by decide) hv h
  have each : ∀ j, j < n → ∃ s : S, s.ok ∧ ∀ i, i < 3 → some (V j i) = s.cells[i]? := by
    intro j hj
    obtain ⟨b, o, _, _, hc⟩ := hx (by omega)
    obtain ⟨_, _, _, t0⟩ := hc j hj 0 _ rfl
    obtain ⟨_, _, _, t1⟩ := hc j hj 1 _ rfl
    obtain ⟨_, _, _, t2⟩ := hc j hj 2 _ rfl
    obtain ⟨x0, e0, w0⟩ := cell_int Try.underlying3 t0
    obtain ⟨x1, e1, w1⟩ := cell_int Try.underlying3 t1
    obtain ⟨x2, e2, w2⟩ := cell_int Try.underlying3 t2
    have b0 := bounds_i64 w0
    have b1 := bounds_i64 w1
    have b2 := bounds_i64 w2
    refine ⟨⟨x0, x1, x2⟩, ⟨b0.1, b0.2, b1.1, b1.2, b2.1, b2.2⟩, fun i hi => ?_⟩
    match i, hi with
    | 0, _ => rw [e0]; rfl
    | 1, _ => rw [e1]; rfl
    | 2, _ => rw [e2]; rfl
  obtain ⟨ss, hl, hp⟩ := list_of each
  refine ⟨A, n, c, ss, rfl, ⟨hl, fun s hs => ?_, fun hn => ?_⟩, hnil, hnc, hmax⟩
  · obtain ⟨j, hj⟩ := List.getElem?_of_mem hs
    exact (hp j s hj).1
  · obtain ⟨b, o, e, hb, hc⟩ := hx hn
    refine ⟨b, o, e, hb, fun j s hj i hi => ?_⟩
    have hjn : j < n := by
      have := (List.getElem?_eq_some_iff.1 hj).1
      omega
    rw [← (hp j s hj).2 i hi]
    match i, hi with
    | 0, _ => exact (hc j hjn 0 _ rfl).1
    | 1, _ => exact (hc j hjn 1 _ rfl).1
    | 2, _ => exact (hc j hjn 2 _ rfl).1
end Go.Proofs.Ytefnpibikebmdaa.Smp

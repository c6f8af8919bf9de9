/- A slice of fields that came in, opened. -/
import Derived.Test.YtbmbibjkjnjbpaaRows
import Derived.Test.YtbmbibjkjnjbpaaOpenS
import Derived.Test.YtbmbibjkjnjbpaaFldS
namespace Go.Proofs.Ytbmbibjkjnjbpaa.Fld
open Go.ChangeShapes Go.WideShapes Go.ChangeAt Go.RowKit Go.Deep

instance : Inhabited F := ⟨⟨0, 0, 0, none, 0, 0, []⟩⟩

theorem open_fields {H : Type} {enc : TypeId × Value → H} {W : World} {base : Nat} {v : Value} {d : DataW H} {ps : List MemPlace} (hv : Value.okWide Try.prog W .any base 22 v) (h : DataW.Trod enc Try.prog W 0 (fun _ => true) true 22 v d ps) :
    ∃ A n c fs, v = .slice A n c ∧ FRow W W.heap.size A n fs ∧ (A = none → c = 0) ∧ n ≤ maxLen := by
  obtain ⟨A, n, c, V, rfl, hnil, hmax, hx⟩ := open_structs Try.underlying22 Try.underlying38 (hone_of (by kernel_rfl)) (by kernel_rfl) (by decide) hv h
  have each : ∀ j, j < n → ∃ f : F, f.ok W W.heap.size ∧ ∀ i, i < 4 → some (V j i) = f.cells[i]? := by
    intro j hj
    obtain ⟨b, o, _, _, hc⟩ := hx (by omega)
    obtain ⟨_, _, _, t0⟩ := hc j hj 0 _ rfl
    obtain ⟨_, _, _, t1⟩ := hc j hj 1 _ rfl
    obtain ⟨_, _, _, t2⟩ := hc j hj 2 _ rfl
    obtain ⟨_, _, _, t3⟩ := hc j hj 3 _ rfl
    obtain ⟨x0, e0, w0⟩ := cell_int Try.underlying3 t0
    obtain ⟨x1, e1, w1⟩ := cell_int Try.underlying3 t1
    obtain ⟨x2, e2, w2⟩ := cell_int Try.underlying3 t2
    obtain ⟨A3, n3, c3, xs3, e3, r3, nl3, w3⟩ := cell_row Try.underlying25 Try.underlying5 (by kernel_rfl) t3
    have b0 := bounds_i64 w0
    have b1 := bounds_i64 w1
    have b2 := bounds_i64 w2
    refine ⟨⟨x0, x1, x2, A3, n3, c3, xs3⟩, ⟨b0.1, b0.2, b1.1, b1.2, b2.1, b2.2, r3, nl3, fun x hx => by have := bounds_u8 (w3 x hx); omega⟩, fun i hi => ?_⟩
    match i, hi with
    | 0, _ => rw [e0]; rfl
    | 1, _ => rw [e1]; rfl
    | 2, _ => rw [e2]; rfl
    | 3, _ => rw [e3]; rfl
  obtain ⟨fs, hl, hp⟩ := list_of each
  refine ⟨A, n, c, fs, rfl, ⟨hl, fun f hf => ?_, fun hn => ?_⟩, hnil, hmax⟩
  · obtain ⟨j, hj⟩ := List.getElem?_of_mem hf
    exact (hp j f hj).1
  · obtain ⟨b, o, e, hb, hc⟩ := hx hn
    refine ⟨b, o, e, hb, fun j f hj i hi => ?_⟩
    have hjn : j < n := by
      have := (List.getElem?_eq_some_iff.1 hj).1
      omega
    rw [← (hp j f hj).2 i hi]
    match i, hi with
    | 0, _ => exact (hc j hjn 0 _ rfl).1
    | 1, _ => exact (hc j hjn 1 _ rfl).1
    | 2, _ => exact (hc j hjn 2 _ rfl).1
    | 3, _ => exact (hc j hjn 3 _ rfl).1
end Go.Proofs.Ytbmbibjkjnjbpaa.Fld

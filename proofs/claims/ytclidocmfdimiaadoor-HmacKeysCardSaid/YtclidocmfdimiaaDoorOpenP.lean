/- A slice of slices of bytes that came in, over any program. -/
import Derived.Test.YtclidocmfdimiaaDoorOpenS
import Derived.Test.YtclidocmfdimiaaDoorPart
namespace Go.Proofs.YtclidocmfdimiaaDoor
open Go.ChangeShapes Go.WideShapes Go.ChangeAt Go.RowKit Go.Deep Slc

section
variable {H : Type} {enc : TypeId × Value → H} {P : Program} {W : World} {base : Nat}

/-- A cell that reads as a slice of integers, with its capacity. -/
theorem cell_row2 {t e : TypeId} {k : IntKind} {v : Value} {fuel : Nat} {y : DataW H × List MemPlace} (ht : P.underlying t = some (.slice e)) (he : P.underlying e = some (.int k)) (hc : P.cellsOf e = 1) (h : DataW.trod enc P W 0 (fun _ => true) true fuel t [v] = some y) :
    ∃ A n c xs, v = .slice A n c ∧ Row k W W.heap.size A n xs ∧ (A = none → c = 0) ∧ n ≤ c ∧ ∀ x ∈ xs, (Lit.int k x).wf = true := by
  rcases open_ints ht he hc h with ⟨hcs, hx⟩ | ⟨a, len', cap', zs, hcs, _, hl, hm, hz, hx, hcell, hwz⟩
  · simp at hcs
    exact ⟨none, 0, 0, [], hcs, Row.none_, fun _ => rfl, Nat.le_refl _, by simp⟩
  · simp at hcs
    exact ⟨some a, len', cap', zs.take len', hcs, row_of_open (by simp at hz; omega) hcell, (fun h => by cases h), hl, fun x hx => hwz x (List.mem_of_mem_take hx)⟩

instance : Inhabited Part := ⟨⟨none, 0, 0, []⟩⟩

theorem open_parts {t e f : TypeId} {v : Value} {d : DataW H} {ps : List MemPlace} (ht : P.underlying t = some (.slice e)) (he : P.underlying e = some (.slice f)) (hff : P.underlying f = some (.int .u8)) (hC : P.cellsOf e = 1) (hc1 : P.cellsOf f = 1)
    (hv : Value.okWide P W .any base t v) (h : DataW.Trod enc P W 0 (fun _ => true) true t v d ps) :
    ∃ A n c L, v = .slice A n c ∧ Prs W W.heap.size A n L ∧ (A = none → c = 0) ∧ n ≤ c ∧ c ≤ maxLen := by
  obtain ⟨a0, len, cap, rfl⟩ := okWide_slice ht hv
  obtain ⟨fuel, hf⟩ := h
  rcases open_slice ht hf with ⟨hcs, _⟩ | ⟨a, len', cap', m, n, D, Pl, hcs, hb, hl, hm, hmm, _, hx⟩
  · simp [Value.cells] at hcs
    obtain ⟨rfl, rfl, rfl⟩ := hcs
    exact ⟨none, 0, 0, [], rfl, ⟨rfl, fun h => absurd h (Nat.lt_irrefl 0), by simp, by simp⟩, fun _ => rfl, Nat.le_refl _, Nat.zero_le _⟩
  · simp [Value.cells] at hcs
    obtain ⟨rfl, rfl, rfl⟩ := hcs
    simp only [if_true] at hmm
    subst hmm
    have each : ∀ j, j < len → ∃ p : Part, W.cell? (a.add j) = some p.v ∧ p.Right W W.heap.size ∧ p.n ≤ p.c ∧ ∀ x ∈ p.xs, 0 ≤ x ∧ x ≤ 255 := by
      intro j hj
      obtain ⟨cs', h1, h2⟩ := hx j (by omega)
      rw [hC, Nat.mul_one] at h1
      obtain ⟨hlen, hc⟩ := (World.cells?_some h1).2
      match cs', hlen with
      | [u], _ =>
        have hcu := hc 0 (by omega)
        simp only [List.getElem?_cons_zero] at hcu
        obtain ⟨A, n1, c1, xs, rfl, hr, hnil, hnc, hw⟩ := cell_row2 he hff hc1 h2
        refine ⟨⟨A, n1, c1, xs⟩, ?_, ⟨hr, hnil⟩, hnc, fun x hx => ?_⟩
        · have e : (a.add j).add 0 = a.add j := by rw [add_add]; simp
          rwa [e] at hcu
        · have := bounds_u8 (hw x hx)
          omega
    obtain ⟨L, hL, hP⟩ := list_of each
    refine ⟨some a, len, m, L, rfl, ⟨hL, fun hn => ?_, fun p hp => ?_, fun p hp => ?_⟩, (fun h => by cases h), hl, hm⟩
    · obtain ⟨b, o, spot⟩ := a
      have h0 := (hP 0 (L[0]'(by omega)) (List.getElem?_eq_getElem (by omega))).1
      have hspot : spot = none := by simpa [Addr.add] using World.cell?_spot h0
      subst hspot
      have hlt := World.block_lt_of_cell? W _ h0
      refine ⟨b, o, rfl, by simpa [Addr.add] using hlt, fun j hj => ?_⟩
      have := (hP j L[j] (List.getElem?_eq_getElem hj)).1
      rwa [add_plain] at this
    · obtain ⟨j, hj, rfl⟩ := List.getElem_of_mem hp
      exact (hP j _ (List.getElem?_eq_getElem hj)).2.1
    · obtain ⟨j, hj, rfl⟩ := List.getElem_of_mem hp
      exact (hP j _ (List.getElem?_eq_getElem hj)).2.2
end
end Go.Proofs.YtclidocmfdimiaaDoor

/- A slice of structs that came in, over any program: each field of one cell; every element with a reading of each of its fields. -/
import Derived.WalkKit
import Derived.ProofKit
import Derived.OpenShut
import Derived.Deep.Slices
import Derived.Deep.Fields
import Derived.Test.YthhnemanaciikaaOpen
namespace Go.Proofs.Ythhnemanaciikaa
open Go.ChangeShapes Go.WideShapes Go.ChangeAt Go.RowKit Go.Deep

section
variable {H : Type} {enc : TypeId × Value → H} {P : Program} {W : World} {base : Nat}

/-- A slice of structs, opened: what each cell of each element holds, and that it reads. -/
theorem open_structs {t e : TypeId} {fs : Array Field} {v : Value} {d : DataW H} {ps : List MemPlace} (ht : P.underlying t = some (.slice e)) (he : P.underlying e = some (.struct fs))
    (hone : ∀ (i : Nat) (f : Field), fs[i]? = some f → f.offset = i ∧ P.cellsOf f.type = 1) (hC : P.cellsOf e = fs.size) (hpos : 0 < fs.size)
    (hv : Value.okWide P W .any base t v) (h : DataW.Trod enc P W 0 (fun _ => true) true t v d ps) :
    ∃ (A : Option Addr) (n c : Nat) (V : Nat → Nat → Value), v = .slice A n c ∧ (A = none → c = 0) ∧ n ≤ maxLen ∧ (0 < n → ∃ b o, A = some ⟨b, o, none⟩ ∧ b < W.heap.size ∧
      ∀ j, j < n → ∀ i f, fs[i]? = some f → W.cell? ⟨b, o + j * fs.size + i, none⟩ = some (V j i) ∧ ∃ fuel y, DataW.trod enc P W 0 (fun _ => true) true fuel f.type [V j i] = some y) := by
  obtain ⟨a0, len, cap, rfl⟩ := okWide_slice ht hv
  obtain ⟨fuel, hf⟩ := h
  rcases open_slice ht hf with ⟨hcs, _⟩ | ⟨a, len', cap', m, n, D, Pl, hcs, hb, hl, hm, hmm, _, hx⟩
  · simp [Value.cells] at hcs
    obtain ⟨rfl, rfl, rfl⟩ := hcs
    exact ⟨none, 0, 0, fun _ _ => undef, rfl, fun _ => rfl, Nat.zero_le _, fun h => absurd h (by omega)⟩
  · simp [Value.cells] at hcs
    obtain ⟨rfl, rfl, rfl⟩ := hcs
    simp only [if_true] at hmm
    subst hmm
    have each : ∀ j, j < m → ∃ cs' : List Value, W.cells? 0 (a.add (j * fs.size)) fs.size = some cs' ∧ DataW.trod enc P W 0 (fun _ => true) true n e cs' = some (D j, Pl j) := by
      intro j hj
      obtain ⟨cs', h1, h2⟩ := hx j hj
      rw [hC] at h1
      exact ⟨cs', h1, h2⟩
    obtain ⟨q, hq⟩ := choose_lt each
    refine ⟨some a, len, m, fun j i => (q j).getD i undef, rfl, (fun h => by cases h), Nat.le_trans hl hm, fun hn => ?_⟩
    obtain ⟨b, o, spot⟩ := a
    have hcell := fun j (hj : j < m) => (World.cells?_some (hq j hj).1).2
    have h0 := (hcell 0 (by omega)).2 0 hpos
    rw [List.getElem?_eq_getElem (by rw [(hcell 0 (by omega)).1]; exact hpos)] at h0
    have hspot : spot = none := by simpa [Addr.add] using World.cell?_spot h0
    subst hspot
    have h0' := World.block_lt_of_cell? W _ h0
    refine ⟨b, o, rfl, by simpa [Addr.add] using h0', fun j hj i f hi => ?_⟩
    have hjm : j < m := by omega
    obtain ⟨hlen, hc⟩ := hcell j hjm
    have hlt : i < fs.size := (Array.getElem?_eq_some_iff.1 hi).1
    obtain ⟨xs, k, _, _, _, hxl, hf'⟩ := DataW.trod_struct he (hq j hjm).2
    obtain ⟨ho, hc1⟩ := hone i f hi
    have g := hf' i f hi
    rw [ho, hc1, take1_drop (q j) i undef (by omega)] at g
    refine ⟨?_, k, ?_⟩
    · have := hc i hlt
      rw [add_add, add_plain, List.getElem?_eq_getElem (by omega)] at this
      rw [Nat.add_assoc, this]
      simp [List.getD, List.getElem?_eq_getElem (show i < (q j).length by omega)]
    · rw [List.getElem?_eq_getElem (show i < xs.length by omega)] at g
      exact ⟨_, g⟩

/-- The same, with its capacity. -/
theorem open_structs2 {t e : TypeId} {fs : Array Field} {v : Value} {d : DataW H} {ps : List MemPlace} (ht : P.underlying t = some (.slice e)) (he : P.underlying e = some (.struct fs))
    (hone : ∀ (i : Nat) (f : Field), fs[i]? = some f → f.offset = i ∧ P.cellsOf f.type = 1) (hC : P.cellsOf e = fs.size) (hpos : 0 < fs.size)
    (hv : Value.okWide P W .any base t v) (h : DataW.Trod enc P W 0 (fun _ => true) true t v d ps) :
    ∃ (A : Option Addr) (n c : Nat) (V : Nat → Nat → Value), v = .slice A n c ∧ (A = none → c = 0) ∧ n ≤ c ∧ c ≤ maxLen ∧ (0 < n → ∃ b o, A = some ⟨b, o, none⟩ ∧ b < W.heap.size ∧
      ∀ j, j < n → ∀ i f, fs[i]? = some f → W.cell? ⟨b, o + j * fs.size + i, none⟩ = some (V j i) ∧ ∃ fuel y, DataW.trod enc P W 0 (fun _ => true) true fuel f.type [V j i] = some y) := by
  obtain ⟨a0, len, cap, rfl⟩ := okWide_slice ht hv
  obtain ⟨fuel, hf⟩ := h
  rcases open_slice ht hf with ⟨hcs, _⟩ | ⟨a, len', cap', m, n, D, Pl, hcs, hb, hl, hm, hmm, _, hx⟩
  · simp [Value.cells] at hcs
    obtain ⟨rfl, rfl, rfl⟩ := hcs
    exact ⟨none, 0, 0, fun _ _ => undef, rfl, fun _ => rfl, Nat.le_refl _, Nat.zero_le _, fun h => absurd h (by omega)⟩
  · simp [Value.cells] at hcs
    obtain ⟨rfl, rfl, rfl⟩ := hcs
    simp only [if_true] at hmm
    subst hmm
    have each : ∀ j, j < m → ∃ cs' : List Value, W.cells? 0 (a.add (j * fs.size)) fs.size = some cs' ∧ DataW.trod enc P W 0 (fun _ => true) true n e cs' = some (D j, Pl j) := by
      intro j hj
      obtain ⟨cs', h1, h2⟩ := hx j hj
      rw [hC] at h1
      exact ⟨cs', h1, h2⟩
    obtain ⟨q, hq⟩ := choose_lt each
    refine ⟨some a, len, m, fun j i => (q j).getD i undef, rfl, (fun h => by cases h), hl, hm, fun hn => ?_⟩
    obtain ⟨b, o, spot⟩ := a
    have hcell := fun j (hj : j < m) => (World.cells?_some (hq j hj).1).2
    have h0 := (hcell 0 (by omega)).2 0 hpos
    rw [List.getElem?_eq_getElem (by rw [(hcell 0 (by omega)).1]; exact hpos)] at h0
    have hspot : spot = none := by simpa [Addr.add] using World.cell?_spot h0
    subst hspot
    have h0' := World.block_lt_of_cell? W _ h0
    refine ⟨b, o, rfl, by simpa [Addr.add] using h0', fun j hj i f hi => ?_⟩
    have hjm : j < m := by omega
    obtain ⟨hlen, hc⟩ := hcell j hjm
    have hlt : i < fs.size := (Array.getElem?_eq_some_iff.1 hi).1
    obtain ⟨xs, k, _, _, _, hxl, hf'⟩ := DataW.trod_struct he (hq j hjm).2
    obtain ⟨ho, hc1⟩ := hone i f hi
    have g := hf' i f hi
    rw [ho, hc1, take1_drop (q j) i undef (by omega)] at g
    refine ⟨?_, k, ?_⟩
    · have := hc i hlt
      rw [add_add, add_plain, List.getElem?_eq_getElem (by omega)] at this
      rw [Nat.add_assoc, this]
      simp [List.getD, List.getElem?_eq_getElem (show i < (q j).length by omega)]
    · rw [List.getElem?_eq_getElem (show i < xs.length by omega)] at g
      exact ⟨_, g⟩

/-- A cell that reads as an integer. -/
theorem cell_int {t : TypeId} {k : IntKind} {v : Value} {fuel : Nat} {y : DataW H × List MemPlace} (ht : P.underlying t = some (.int k)) (h : DataW.trod enc P W 0 (fun _ => true) true fuel t [v] = some y) : ∃ x, v = .int k x ∧ (Lit.int k x).wf = true := by
  obtain ⟨a, h1, _, h2⟩ := DataW.trod_int ht h
  simp at h1
  exact ⟨a, h1, h2⟩

/-- A cell that reads as a slice of integers. -/
theorem cell_row {t e : TypeId} {k : IntKind} {v : Value} {fuel : Nat} {y : DataW H × List MemPlace} (ht : P.underlying t = some (.slice e)) (he : P.underlying e = some (.int k)) (hc : P.cellsOf e = 1) (h : DataW.trod enc P W 0 (fun _ => true) true fuel t [v] = some y) :
    ∃ A n c xs, v = .slice A n c ∧ Row k W W.heap.size A n xs ∧ (A = none → c = 0) ∧ ∀ x ∈ xs, (Lit.int k x).wf = true := by
  rcases open_ints ht he hc h with ⟨hcs, hx⟩ | ⟨a, len', cap', zs, hcs, _, hl, hm, hz, hx, hcell, hwz⟩
  · simp at hcs
    exact ⟨none, 0, 0, [], hcs, Row.none_, fun _ => rfl, by simp⟩
  · simp at hcs
    exact ⟨some a, len', cap', zs.take len', hcs, row_of_open (by simp at hz; omega) hcell, (fun h => by cases h), fun x hx => hwz x (List.mem_of_mem_take hx)⟩
end

/-- A list of what is chosen at each index. -/
theorem list_of {α : Type} [Inhabited α] {n : Nat} {p : Nat → α → Prop} (h : ∀ i, i < n → ∃ x, p i x) : ∃ l : List α, l.length = n ∧ ∀ i x, l[i]? = some x → p i x := by
  obtain ⟨f, hf⟩ := choose_lt h
  refine ⟨(List.range n).map f, by simp, fun i x hx => ?_⟩
  have hi : i < n := by
    have := (List.getElem?_eq_some_iff.1 hx).1
    simpa using this
  simp [hi] at hx
  subst hx
  exact hf i hi
end Go.Proofs.Ythhnemanaciikaa

/- Lemmas that the proof stands on, in build order: Open OpenS. -/
import Derived.WalkKit
import Derived.ProofKit
import Derived.OpenShut
import Derived.Deep.Slices
import Derived.Deep.Fields
import Derived.Test.YtdhlbcbgbmgcjaaJ18dcf544
import Derived.Test.YtdhlbcbgbmgcjaaJ1a85310
/- A law's arguments opened, over any program: a slice of integers as 'Row', an array of integers by value. -/
namespace Go.Proofs.Ytdhlbcbgbmgcjaa
open Go.ChangeShapes Go.WideShapes Go.ChangeAt Go.RowKit

section
variable {H : Type} {enc : TypeId × Value → H} {P : Program} {W : World} {base : Nat}

/-- A slice of integers that came in. -/
theorem open_row {t e : TypeId} {k : IntKind} {v : Value} {d : DataW H} {ps : List MemPlace} (ht : P.underlying t = some (.slice e)) (he : P.underlying e = some (.int k)) (hc : P.cellsOf e = 1)
    (hv : Value.okWide P W .any base t v) (h : DataW.Trod enc P W 0 (fun _ => true) true t v d ps) :
    ∃ A n c xs, v = .slice A n c ∧ Row k W W.heap.size A n xs ∧ (A = none → c = 0) ∧ ∀ x ∈ xs, (Lit.int k x).wf = true := by
  obtain ⟨a0, len, cap, rfl⟩ := okWide_slice ht hv
  obtain ⟨fuel, hf⟩ := h
  rcases open_ints ht he hc hf with ⟨hcs, hx⟩ | ⟨a, len', cap', zs, hcs, _, hl, hm, hz, hx, hcell, hwz⟩
  · simp [Value.cells] at hcs
    obtain ⟨rfl, rfl, rfl⟩ := hcs
    exact ⟨none, 0, 0, [], rfl, Row.none_, fun _ => rfl, by simp⟩
  · simp [Value.cells] at hcs
    obtain ⟨rfl, rfl, rfl⟩ := hcs
    exact ⟨some a, len, cap, zs.take len, rfl, row_of_open (by simp at hz; omega) hcell, (fun h => by cases h), fun x hx => hwz x (List.mem_of_mem_take hx)⟩

/-- The same, with its capacity. -/
theorem open_row2 {t e : TypeId} {k : IntKind} {v : Value} {d : DataW H} {ps : List MemPlace} (ht : P.underlying t = some (.slice e)) (he : P.underlying e = some (.int k)) (hc : P.cellsOf e = 1)
    (hv : Value.okWide P W .any base t v) (h : DataW.Trod enc P W 0 (fun _ => true) true t v d ps) :
    ∃ A n c xs, v = .slice A n c ∧ Row k W W.heap.size A n xs ∧ (A = none → c = 0) ∧ n ≤ c ∧ c ≤ maxLen ∧ ∀ x ∈ xs, (Lit.int k x).wf = true := by
  obtain ⟨a0, len, cap, rfl⟩ := okWide_slice ht hv
  obtain ⟨fuel, hf⟩ := h
  rcases open_ints ht he hc hf with ⟨hcs, hx⟩ | ⟨a, len', cap', zs, hcs, _, hl, hm, hz, hx, hcell, hwz⟩
  · simp [Value.cells] at hcs
    obtain ⟨rfl, rfl, rfl⟩ := hcs
    exact ⟨none, 0, 0, [], rfl, Row.none_, fun _ => rfl, Nat.le_refl _, Nat.zero_le _, by simp⟩
  · simp [Value.cells] at hcs
    obtain ⟨rfl, rfl, rfl⟩ := hcs
    exact ⟨some a, len, cap, zs.take len, rfl, row_of_open (by simp at hz; omega) hcell, (fun h => by cases h), hl, hm, fun x hx => hwz x (List.mem_of_mem_take hx)⟩

/-- The same, with the address's form. -/
theorem open_row3 {t e : TypeId} {k : IntKind} {v : Value} {d : DataW H} {ps : List MemPlace} (ht : P.underlying t = some (.slice e)) (he : P.underlying e = some (.int k)) (hc : P.cellsOf e = 1)
    (hv : Value.okWide P W .any base t v) (h : DataW.Trod enc P W 0 (fun _ => true) true t v d ps) :
    ∃ A n c xs, v = .slice A n c ∧ Row k W W.heap.size A n xs ∧ (A = none → c = 0) ∧ n ≤ c ∧ c ≤ maxLen ∧ (0 < c → ∃ b o, A = some ⟨b, o, none⟩) ∧ ∀ x ∈ xs, (Lit.int k x).wf = true := by
  obtain ⟨a0, len, cap, rfl⟩ := okWide_slice ht hv
  obtain ⟨fuel, hf⟩ := h
  rcases open_ints ht he hc hf with ⟨hcs, hx⟩ | ⟨a, len', cap', zs, hcs, _, hl, hm, hz, hx, hcell, hwz⟩
  · simp [Value.cells] at hcs
    obtain ⟨rfl, rfl, rfl⟩ := hcs
    exact ⟨none, 0, 0, [], rfl, Row.none_, fun _ => rfl, Nat.le_refl _, Nat.zero_le _, fun h => absurd h (by omega), by simp⟩
  · simp [Value.cells] at hcs
    obtain ⟨rfl, rfl, rfl⟩ := hcs
    refine ⟨some a, len, cap, zs.take len, rfl, row_of_open (by simp at hz; omega) hcell, (fun h => by cases h), hl, hm, fun h0 => ?_, fun x hx => hwz x (List.mem_of_mem_take hx)⟩
    obtain ⟨b, o, e, -⟩ := ints_at hcell (by simp at hz; omega)
    exact ⟨b, o, by rw [e]⟩

theorem mapM_mem {α β : Type} {f : α → Option β} : ∀ {L : List α} {ys : List β}, L.mapM f = some ys → ∀ i ∈ L, ∃ y, f i = some y
  | [], _, _, i, hi => by simp at hi
  | a :: L, ys, h, i, hi => by
    rw [List.mapM_cons] at h
    simp only [bind, Option.bind_eq_some_iff, pure, Option.some.injEq] at h
    obtain ⟨y, hy, ys', hys, _⟩ := h
    rcases List.mem_cons.1 hi with rfl | hi
    · exact ⟨y, hy⟩
    · exact mapM_mem hys i hi

/-- An array of integers that came in, by value. -/
theorem open_arr {t e : TypeId} {k : IntKind} {m : Nat} {v : Value} {d : DataW H} {ps : List MemPlace} (ht : P.underlying t = some (.array m e)) (he : P.underlying e = some (.int k)) (hc : P.cellsOf e = 1) (hct : P.cellsOf t = m)
    (hv : Value.okWide P W .any base t v) (h : DataW.Trod enc P W 0 (fun _ => true) true t v d ps) :
    ∃ xs : List Int, v = .agg (xs.map (Value.int k)).toArray ∧ xs.length = m ∧ ∀ x ∈ xs, (Lit.int k x).wf = true := by
  simp only [Value.okWide, ht] at hv
  obtain ⟨cs, rfl, hsz, _⟩ := hv
  rw [hct] at hsz
  obtain ⟨fuel, hf⟩ := h
  cases fuel with
  | zero => simp [DataW.trod] at hf
  | succ q =>
    rw [DataW.trod_step] at hf
    unfold DataW.trodStep at hf
    simp only [ht, Value.cells] at hf
    rw [if_pos (by rw [hct]; simpa using hsz)] at hf
    simp only [Option.map_eq_some_iff] at hf
    obtain ⟨ys, hy, _⟩ := hf
    have hall : ∀ i, i < m → ∃ a, cs.toList[i]? = some (.int k a) ∧ (Lit.int k a).wf = true := fun i hi => by
      obtain ⟨y, h1⟩ := mapM_mem hy i (by simpa using hi)
      obtain ⟨a, h2, _, h3⟩ := DataW.trod_int he h1
      refine ⟨a, ?_, h3⟩
      rw [hc, Nat.mul_one] at h2
      have h4 : i < cs.toList.length := by simpa [hsz] using hi
      rw [List.drop_eq_getElem_cons h4] at h2
      simp only [List.take_succ_cons, List.take_zero, List.cons.injEq, and_true] at h2
      rw [List.getElem?_eq_getElem h4, h2]
    have hl : cs.toList.length = m := by simpa using hsz
    have hxs : ∀ (L : List Value) (m : Nat), L.length = m → (∀ i, i < m → ∃ a, L[i]? = some (.int k a) ∧ (Lit.int k a).wf = true) → ∃ xs : List Int, L = xs.map (Value.int k) ∧ ∀ x ∈ xs, (Lit.int k x).wf = true := by
      intro L
      induction L with
      | nil => intro _ _ _; exact ⟨[], rfl, by simp⟩
      | cons u L ih =>
        intro m hm hA
        obtain ⟨a, h1, h2⟩ := hA 0 (by simp at hm; omega)
        obtain ⟨xs, h3, h4⟩ := ih (m - 1) (by simp at hm; omega) (fun i hi => by simpa using hA (i + 1) (by omega))
        simp at h1
        refine ⟨a :: xs, by simp [h1, h3], fun x hx => ?_⟩
        rcases List.mem_cons.1 hx with rfl | hx
        · exact h2
        · exact h4 x hx
    obtain ⟨xs, h1, h2⟩ := hxs _ _ hl hall
    refine ⟨xs, ?_, by rw [h1] at hl; simpa using hl, h2⟩
    rw [← h1]
theorem two_of {xs : List Int} (h : xs.length = 2) : ∃ x y, xs = [x, y] := by
  match xs, h with
  | [x, y], _ => exact ⟨x, y, rfl⟩
end
end Go.Proofs.Ytdhlbcbgbmgcjaa

/- A slice of structs that came in, over any program: each field of one cell; every element with a reading of each of its fields. -/
namespace Go.Proofs.Ytdhlbcbgbmgcjaa
open Go.ChangeShapes Go.WideShapes Go.ChangeAt Go.RowKit Go.Deep

section
variable {H : Type} {enc : TypeId × Value → H} {P : Program} {W : World} {base : Nat}

/-- A slice of structs, opened: what each cell of each element holds, and that it reads. -/
theorem open_structs {t e : TypeId} {fs : Array Field} {v : Value} {d : DataW H} {ps : List MemPlace} (ht : P.underlying t = some (.slice e)) (he : P.underlying e = some (.struct fs))
    (hone : ∀ (i : Nat) (f : Field), fs[i]? = some f → f.offset = i ∧ P.cellsOf f.type = 1) (hC : P.cellsOf e = fs.size) (hpos : 0 < fs.size)
    (hv : Value.okWide P W .any base t v) (h : DataW.Trod enc P W 0 (fun _ => true) true t v d ps) :
    ∃ (A : Option Addr) (n c : Nat) (V : Nat → Nat → Value), v = .slice A n c ∧ (A = none → c = 0) ∧ n ≤ maxLen ∧ (0 < n → ∃ b o, A = some ⟨b, o, none⟩ ∧ b < W.heap.size ∧
      ∀ j, j < n → ∀ i f, fs[i]? = some f → W.cell? ⟨b, o + j * fs.size + i, none⟩ = some (V j i) ∧ ∃ fuel y, DataW.trod enc P W 0 (fun _ => true) true fuel f.type [V j i] = some y) := by
  obtain ⟨a0, len, cap, rfl⟩ := okWide_slice ht hv
  obtain ⟨fuel, hf⟩ := h
  rcases open_slice ht hf with ⟨hcs, _⟩ | ⟨a, len', cap', m, n, D, Pl, hcs, hb, hl, hm, hmm, _, hx⟩
  · simp [Value.cells] at hcs
    obtain ⟨rfl, rfl, rfl⟩ := hcs
    exact ⟨none, 0, 0, fun _ _ => undef, rfl, fun _ => rfl, Nat.zero_le _, fun h => absurd h (by omega)⟩
  · simp [Value.cells] at hcs
    obtain ⟨rfl, rfl, rfl⟩ := hcs
    simp only [if_true] at hmm
    subst hmm
    have each : ∀ j, j < m → ∃ cs' : List Value, W.cells? 0 (a.add (j * fs.size)) fs.size = some cs' ∧ DataW.trod enc P W 0 (fun _ => true) true n e cs' = some (D j, Pl j) := by
      intro j hj
      obtain ⟨cs', h1, h2⟩ := hx j hj
      rw [hC] at h1
      exact ⟨cs', h1, h2⟩
    obtain ⟨q, hq⟩ := choose_lt each
    refine ⟨some a, len, m, fun j i => (q j).getD i undef, rfl, (fun h => by cases h), Nat.le_trans hl hm, fun hn => ?_⟩
    obtain ⟨b, o, spot⟩ := a
    have hcell := fun j (hj : j < m) => (World.cells?_some (hq j hj).1).2
    have h0 := (hcell 0 (by omega)).2 0 hpos
    rw [List.getElem?_eq_getElem (by rw [(hcell 0 (by omega)).1]; exact hpos)] at h0
    have hspot : spot = none := by simpa [Addr.add] using World.cell?_spot h0
    subst hspot
    have h0' := World.block_lt_of_cell? W _ h0
    refine ⟨b, o, rfl, by simpa [Addr.add] using h0', fun j hj i f hi => ?_⟩
    have hjm : j < m := by omega
    obtain ⟨hlen, hc⟩ := hcell j hjm
    have hlt : i < fs.size := (Array.getElem?_eq_some_iff.1 hi).1
    obtain ⟨xs, k, _, _, _, hxl, hf'⟩ := DataW.trod_struct he (hq j hjm).2
    obtain ⟨ho, hc1⟩ := hone i f hi
    have g := hf' i f hi
    rw [ho, hc1, take1_drop (q j) i undef (by omega)] at g
    refine ⟨?_, k, ?_⟩
    · have := hc i hlt
      rw [add_add, add_plain, List.getElem?_eq_getElem (by omega)] at this
      rw [Nat.add_assoc, this]
      simp [List.getD, List.getElem?_eq_getElem (show i < (q j).length by omega)]
    · rw [List.getElem?_eq_getElem (show i < xs.length by omega)] at g
      exact ⟨_, g⟩

/-- The same, with its capacity. -/
theorem open_structs2 {t e : TypeId} {fs : Array Field} {v : Value} {d : DataW H} {ps : List MemPlace} (ht : P.underlying t = some (.slice e)) (he : P.underlying e = some (.struct fs))
    (hone : ∀ (i : Nat) (f : Field), fs[i]? = some f → f.offset = i ∧ P.cellsOf f.type = 1) (hC : P.cellsOf e = fs.size) (hpos : 0 < fs.size)
    (hv : Value.okWide P W .any base t v) (h : DataW.Trod enc P W 0 (fun _ => true) true t v d ps) :
    ∃ (A : Option Addr) (n c : Nat) (V : Nat → Nat → Value), v = .slice A n c ∧ (A = none → c = 0) ∧ n ≤ c ∧ c ≤ maxLen ∧ (0 < n → ∃ b o, A = some ⟨b, o, none⟩ ∧ b < W.heap.size ∧
      ∀ j, j < n → ∀ i f, fs[i]? = some f → W.cell? ⟨b, o + j * fs.size + i, none⟩ = some (V j i) ∧ ∃ fuel y, DataW.trod enc P W 0 (fun _ => true) true fuel f.type [V j i] = some y) := by
  obtain ⟨a0, len, cap, rfl⟩ := okWide_slice ht hv
  obtain ⟨fuel, hf⟩ := h
  rcases open_slice ht hf with ⟨hcs, _⟩ | ⟨a, len', cap', m, n, D, Pl, hcs, hb, hl, hm, hmm, _, hx⟩
  · simp [Value.cells] at hcs
    obtain ⟨rfl, rfl, rfl⟩ := hcs
    exact ⟨none, 0, 0, fun _ _ => undef, rfl, fun _ => rfl, Nat.le_refl _, Nat.zero_le _, fun h => absurd h (by omega)⟩
  · simp [Value.cells] at hcs
    obtain ⟨rfl, rfl, rfl⟩ := hcs
    simp only [if_true] at hmm
    subst hmm
    have each : ∀ j, j < m → ∃ cs' : List Value, W.cells? 0 (a.add (j * fs.size)) fs.size = some cs' ∧ DataW.trod enc P W 0 (fun _ => true) true n e cs' = some (D j, Pl j) := by
      intro j hj
      obtain ⟨cs', h1, h2⟩ := hx j hj
      rw [hC] at h1
      exact ⟨cs', h1, h2⟩
    obtain ⟨q, hq⟩ := choose_lt each
    refine ⟨some a, len, m, fun j i => (q j).getD i undef, rfl, (fun h => by cases h), hl, hm, fun hn => ?_⟩
    obtain ⟨b, o, spot⟩ := a
    have hcell := fun j (hj : j < m) => (World.cells?_some (hq j hj).1).2
    have h0 := (hcell 0 (by omega)).2 0 hpos
    rw [List.getElem?_eq_getElem (by rw [(hcell 0 (by omega)).1]; exact hpos)] at h0
    have hspot : spot = none := by simpa [Addr.add] using World.cell?_spot h0
    subst hspot
    have h0' := World.block_lt_of_cell? W _ h0
    refine ⟨b, o, rfl, by simpa [Addr.add] using h0', fun j hj i f hi => ?_⟩
    have hjm : j < m := by omega
    obtain ⟨hlen, hc⟩ := hcell j hjm
    have hlt : i < fs.size := (Array.getElem?_eq_some_iff.1 hi).1
    obtain ⟨xs, k, _, _, _, hxl, hf'⟩ := DataW.trod_struct he (hq j hjm).2
    obtain ⟨ho, hc1⟩ := hone i f hi
    have g := hf' i f hi
    rw [ho, hc1, take1_drop (q j) i undef (by omega)] at g
    refine ⟨?_, k, ?_⟩
    · have := hc i hlt
      rw [add_add, add_plain, List.getElem?_eq_getElem (by omega)] at this
      rw [Nat.add_assoc, this]
      simp [List.getD, List.getElem?_eq_getElem (show i < (q j).length by omega)]
    · rw [List.getElem?_eq_getElem (show i < xs.length by omega)] at g
      exact ⟨_, g⟩

/-- A cell that reads as an integer. -/
theorem cell_int {t : TypeId} {k : IntKind} {v : Value} {fuel : Nat} {y : DataW H × List MemPlace} (ht : P.underlying t = some (.int k)) (h : DataW.trod enc P W 0 (fun _ => true) true fuel t [v] = some y) : ∃ x, v = .int k x ∧ (Lit.int k x).wf = true := by
  obtain ⟨a, h1, _, h2⟩ := DataW.trod_int ht h
  simp at h1
  exact ⟨a, h1, h2⟩

/-- A cell that reads as a slice of integers. -/
theorem cell_row {t e : TypeId} {k : IntKind} {v : Value} {fuel : Nat} {y : DataW H × List MemPlace} (ht : P.underlying t = some (.slice e)) (he : P.underlying e = some (.int k)) (hc : P.cellsOf e = 1) (h : DataW.trod enc P W 0 (fun _ => true) true fuel t [v] = some y) :
    ∃ A n c xs, v = .slice A n c ∧ Row k W W.heap.size A n xs ∧ (A = none → c = 0) ∧ ∀ x ∈ xs, (Lit.int k x).wf = true := by
  rcases open_ints ht he hc h with ⟨hcs, hx⟩ | ⟨a, len', cap', zs, hcs, _, hl, hm, hz, hx, hcell, hwz⟩
  · simp at hcs
    exact ⟨none, 0, 0, [], hcs, Row.none_, fun _ => rfl, by simp⟩
  · simp at hcs
    exact ⟨some a, len', cap', zs.take len', hcs, row_of_open (by simp at hz; omega) hcell, (fun h => by cases h), fun x hx => hwz x (List.mem_of_mem_take hx)⟩
end

/-- A list of what is chosen at each index. -/
theorem list_of {α : Type} [Inhabited α] {n : Nat} {p : Nat → α → Prop} (h : ∀ i, i < n → ∃ x, p i x) : ∃ l : List α, l.length = n ∧ ∀ i x, l[i]? = some x → p i x := by
  obtain ⟨f, hf⟩ := choose_lt h
  refine ⟨(List.range n).map f, by simp, fun i x hx => ?_⟩
  have hi : i < n := by
    have := (List.getElem?_eq_some_iff.1 hx).1
    simpa using this
  simp [hi] at hx
  subst hx
  exact hf i hi
end Go.Proofs.Ytdhlbcbgbmgcjaa

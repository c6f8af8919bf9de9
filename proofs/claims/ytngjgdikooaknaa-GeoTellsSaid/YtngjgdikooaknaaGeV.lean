/- Layer 13 (geo), mathematics of the law on rings; no program's text is named here. -/
import Derived.Test.YtngjgdikooaknaaGeM
namespace Go.Proofs.Ytngjgdikooaknaa.Ge

/-- Is a cell visited, behind all rings below i and the first j cells of ring i? -/
def vs (i j : Nat) (c : C) : Bool := decide (far c < i) || (decide (far c = i) && decide (c ∈ (ring i).take j))
theorem far_nn (c : C) : 0 ≤ far c := by unfold far am; repeat (split <;> try omega)
theorem vs_start (c : C) : vs 0 0 c = false := by
  have := far_nn c
  unfold vs
  rw [decide_eq_false (by omega)]
  simp
theorem vs_zero (i : Nat) (c : C) : vs i 0 c = decide (far c < i) := by unfold vs; simp
theorem vs_new {i j : Nat} {c : C} (h : (ring i)[j]? = some c) : vs i j c = false := by
  have hf := ring_far (List.mem_of_getElem? h)
  have hn := ring_nodup i
  obtain ⟨hj, rfl⟩ := List.getElem?_eq_some_iff.1 h
  unfold vs
  rw [decide_eq_false (by omega), Bool.false_or]
  have : (ring i)[j] ∉ (ring i).take j := fun hm => by
    obtain ⟨m, hm1, hm2⟩ := List.getElem_of_mem hm
    rw [List.length_take] at hm1
    rw [List.getElem_take] at hm2
    have := (List.getElem_inj hn).1 hm2
    omega
  rw [decide_eq_false this, Bool.and_false]
theorem vs_next {i j : Nat} {c d : C} (h : (ring i)[j]? = some c) : vs i (j + 1) d = (vs i j d || decide (d = c)) := by
  have hf := ring_far (List.mem_of_getElem? h)
  unfold vs
  have e : (decide (d ∈ (ring i).take (j + 1)) : Bool) = (decide (d ∈ (ring i).take j) || decide (d = c)) := by
    rw [List.take_add_one, h]
    simp
  rw [e]
  by_cases hd : d = c
  · subst hd
    simp [hf]
  · simp [hd]
theorem vs_ring {i : Nat} (c : C) : vs i (ring i).length c = vs (i + 1) 0 c := by
  rw [vs_zero]
  unfold vs
  rw [List.take_length]
  by_cases h : far c = i
  · have hm : c ∈ ring i := mem_ring (x := c.1) (y := c.2) h
    simp [h, hm]
    omega
  · by_cases h2 : far c < i
    · simp [h2]; omega
    · simp [h, h2]; omega
/-- Cells marked in a row: M places, told of by a Bool for each cell. -/
def Marks (k : Nat) (xs : List Bool) (v : C → Bool) : Prop := xs.length = (2 * k + 1) * (2 * k + 1) ∧ ∀ c, far c ≤ k → xs[(mark k c).toNat]? = some (v c)
theorem marks_start (k : Nat) : Marks k (List.replicate ((2 * k + 1) * (2 * k + 1)) false) (vs 0 0) := by
  refine ⟨by simp, fun c hc => ?_⟩
  have h := mark_lo hc
  have e : ((2 * (k : Int) + 1) * (2 * k + 1)) = (((2 * k + 1) * (2 * k + 1) : Nat) : Int) := by push_cast; rfl
  rw [e] at h
  rw [vs_start, List.getElem?_replicate, if_pos (by omega)]
theorem marks_same {k : Nat} {xs : List Bool} {v v' : C → Bool} (h : Marks k xs v) (hv : ∀ c, v c = v' c) : Marks k xs v' := ⟨h.1, fun c hc => (h.2 c hc).trans (congrArg some (hv c))⟩
theorem marks_set {k : Nat} {xs : List Bool} {v : C → Bool} {c : C} (h : Marks k xs v) (hc : far c ≤ k) : Marks k (xs.set (mark k c).toNat true) (fun d => v d || decide (d = c)) := by
  refine ⟨by rw [List.length_set]; exact h.1, fun d hd => ?_⟩
  by_cases e : d = c
  · subst e
    have h1 := (List.getElem?_eq_some_iff.1 (h.2 d hd)).1
    rw [List.getElem?_set_self h1]
    simp
  · have h0 := mark_lo hc
    have h1 := mark_lo hd
    rw [List.getElem?_set_ne (fun he => e (mark_inj hd hc (by omega))), h.2 d hd]
    simp [e]
theorem marks_all {k : Nat} {xs : List Bool} (h : Marks k xs (vs (k + 1) 0)) {j : Nat} (hj : j < (2 * k + 1) * (2 * k + 1)) : xs[j]? = some true := by
  have e : ((2 * (k : Int) + 1) * (2 * k + 1)) = (((2 * k + 1) * (2 * k + 1) : Nat) : Int) := by push_cast; rfl
  obtain ⟨c, h1, h2, h3⟩ := mark_all (k := k) (i := (j : Int)) (by omega) (by rw [e]; omega)
  have h4 := h.2 c h1
  rw [h3, Int.toNat_natCast, vs_zero, decide_eq_true (by push_cast; omega)] at h4
  exact h4
theorem side_small (a b c : Int × Int) : -1 ≤ side a.1 a.2 b.1 b.2 c.1 c.2 ∧ side a.1 a.2 b.1 b.2 c.1 c.2 ≤ 1 := by
  unfold side
  split
  · unfold sgn; repeat (split <;> try omega)
  · omega
/-- What the law asks of a root. -/
theorem root_pos {n x : Int} (h : IsRoot n x) (hn : 0 < n) : 1 ≤ x ∧ x ≤ n / x ∧ n / (x + 1) < x + 1 := by
  rcases h with ⟨h1, _⟩ | ⟨h1, h2, h3, h4⟩
  · omega
  · have hx : 1 ≤ x := by
      rcases Int.lt_or_le 0 x with h5 | h5
      · omega
      · have : x = 0 := by omega
        subst this
        omega
    refine ⟨hx, (Int.le_ediv_iff_mul_le (by omega)).2 h3, ?_⟩
    exact Int.ediv_lt_of_lt_mul (by omega) h4
theorem root_neg {n x : Int} (h : IsRoot n x) (hn : n ≤ 0) : x = 0 := by
  rcases h with ⟨h1, h2⟩ | ⟨h1, h2, h3, h4⟩
  · exact h2
  · have : n = 0 := by omega
    subst this
    rcases Int.lt_or_le 0 x with h5 | h5
    · have : 1 ≤ x * x := by have := Int.mul_le_mul (show 1 ≤ x by omega) (show 1 ≤ x by omega) (by omega) (by omega); omega
      omega
    · omega
theorem root_b64 {n x : Int} (h : IsRoot n x) (hn : n ≤ 9223372036854775807) : 0 ≤ x ∧ x ≤ 3037000499 := by
  rcases h with ⟨_, h2⟩ | ⟨h1, h2, h3, h4⟩
  · omega
  · refine ⟨h2, ?_⟩
    rcases Int.lt_or_le 3037000499 x with h5 | h5
    · have := Int.mul_le_mul (show 3037000500 ≤ x by omega) (show 3037000500 ≤ x by omega) (by omega) (by omega)
      omega
    · exact h5
end Go.Proofs.Ytngjgdikooaknaa.Ge

/- Layer 12 (revoke), mathematics of the reference's Add and of loops over lists; no program's text is named here. -/
import Derived.Test.YtfmmpmpafgbidaaRvM
namespace Go.Proofs.Ytfmmpmpafgbidaa.Rv

/-- What is still to come of a list with x added, element by element. -/
def rest (x : P) : Bool → List P → List P
  | d, [] => if d then [] else [x]
  | d, y :: l => if y.1 = x.1 then (y.1, mx y.2 x.2) :: rest x true l else if x.1 < y.1 ∧ d = false then x :: y :: rest x true l else y :: rest x d l
theorem rest_nil (x : P) (d : Bool) : rest x d [] = if d then [] else [x] := rfl
theorem rest_cons (x : P) (d : Bool) (y : P) (l : List P) : rest x d (y :: l) = if y.1 = x.1 then (y.1, mx y.2 x.2) :: rest x true l else if x.1 < y.1 ∧ d = false then x :: y :: rest x true l else y :: rest x d l := rfl
theorem rest_true {x : P} : ∀ {l : List P}, (∀ q ∈ l, x.1 < q.1) → rest x true l = l
  | [], _ => rfl
  | y :: l, h => by
    have := h y (by simp)
    rw [rest_cons, if_neg (by omega), if_neg (by simp), rest_true (fun q hq => h q (by simp [hq]))]
theorem rest_false {x : P} : ∀ {l : List P}, Asc l → rest x false l = add l x
  | [], _ => rfl
  | y :: l, h => by
    unfold add
    rw [rest_cons]
    by_cases c1 : y.1 = x.1
    · rw [if_pos c1, if_pos c1, rest_true (fun q hq => by have := h.head q hq; omega)]
    · rw [if_neg c1, if_neg c1]
      by_cases c2 : x.1 < y.1
      · rw [if_pos ⟨c2, rfl⟩, if_pos c2, rest_true (fun q hq => by have := h.head q hq; omega)]
      · rw [if_neg (fun h => c2 h.1), if_neg c2, rest_false h.tail]
theorem drop_at {l : List P} {k : Nat} {y : P} (h : l[k]? = some y) : l.drop k = y :: l.drop (k + 1) := by
  obtain ⟨hk, rfl⟩ := List.getElem?_eq_some_iff.1 h
  exact List.drop_eq_getElem_cons hk
theorem rest_len (x : P) : ∀ (d : Bool) (l : List P), (rest x d l).length ≤ l.length * 2 + 1
  | d, [] => by rw [rest_nil]; split <;> simp
  | d, y :: l => by
    rw [rest_cons]
    have h1 := rest_len x true l
    have h2 := rest_len x d l
    split
    · simp only [List.length_cons]; omega
    · split
      · simp only [List.length_cons]; omega
      · simp only [List.length_cons]; omega
/-- The elements so far are right, seen from the next one. -/
theorem Rt.nil_ : Rt ([] : List P) := ⟨by simp, List.Pairwise.nil, by simp⟩
/-- What is checked element by element: right so far. -/
def okf (l : List P) : Prop := (∀ p ∈ l, okp p) ∧ Asc l
instance (l : List P) : Decidable (okf l) := by unfold okf; infer_instance
theorem rt_okf (l : List P) : Rt l ↔ (okf l ∧ l.length ≤ 4096) := ⟨fun h => ⟨⟨h.ok, h.asc⟩, h.len⟩, fun h => ⟨h.1.1, h.1.2, h.2⟩⟩
theorem okf_nil : okf [] := ⟨by simp, List.Pairwise.nil⟩
theorem okf_take {l : List P} (h : okf l) (k : Nat) : okf (l.take k) := ⟨fun p hp => h.1 p (List.mem_of_mem_take hp), List.Pairwise.sublist (List.take_sublist k l) h.2⟩
theorem okf_next {l : List P} {k : Nat} {y : P} (hy : l[k]? = some y) (h : okf (l.take k)) (h1 : okp y) (h2 : 0 < k → ∀ z, l[k - 1]? = some z → z.1 < y.1) : okf (l.take (k + 1)) := by
  rw [List.take_add_one, hy]
  refine ⟨fun p hp => ?_, ?_⟩
  · rcases List.mem_append.1 hp with hp | hp
    · exact h.1 p hp
    · simp at hp; subst hp; exact h1
  · refine List.pairwise_append.2 ⟨h.2, by simp, fun p hp q hq => ?_⟩
    simp only [Option.toList_some, List.mem_singleton] at hq
    subst hq
    rcases Nat.eq_zero_or_pos k with h0 | h0
    · subst h0; simp at hp
    · have hk := (List.getElem?_eq_some_iff.1 hy).1
      have hz : l[k - 1]? = some (l[k - 1]'(by omega)) := List.getElem?_eq_getElem (by omega)
      have h3 := h2 h0 _ hz
      obtain ⟨j, hj⟩ := List.getElem?_of_mem hp
      have hjk : j < k := by
        have := (List.getElem?_eq_some_iff.1 hj).1
        simp at this
        omega
      rw [List.getElem?_take_of_lt hjk] at hj
      rcases Nat.lt_or_ge j (k - 1) with h4 | h4
      · have h5 := List.pairwise_iff_getElem.1 h.2 j (k - 1) (by simp; omega) (by simp; omega) h4
        obtain ⟨_, rfl⟩ := List.getElem?_eq_some_iff.1 hj
        simp only [List.getElem_take] at h5
        omega
      · have : j = k - 1 := by omega
        subst this
        rw [hz] at hj
        injection hj with hj
        subst hj
        exact h3
theorem okf_bad {l : List P} {k : Nat} {y : P} (hy : l[k]? = some y) (h : ¬ okp y ∨ (0 < k ∧ ∃ z, l[k - 1]? = some z ∧ y.1 ≤ z.1)) : ¬ okf l := by
  intro ho
  rcases h with h | ⟨h0, z, hz, hle⟩
  · exact h (ho.1 y (List.mem_of_getElem? hy))
  · obtain ⟨h1, rfl⟩ := List.getElem?_eq_some_iff.1 hy
    obtain ⟨h2, rfl⟩ := List.getElem?_eq_some_iff.1 hz
    have := List.pairwise_iff_getElem.1 ho.2 (k - 1) k h2 h1 (by omega)
    omega
/-- Has, element by element. -/
theorem has_cons (y : P) (l : List P) (t nw : Int) : has (y :: l) t nw = if y.1 = t then decide (nw ≤ y.2) else has l t nw := by
  unfold has
  rw [lk_cons]
  by_cases h : y.1 = t
  · rw [if_pos h, if_pos h]
  · rw [if_neg h, if_neg h]
theorem has_nil (t nw : Int) : has [] t nw = false := rfl
theorem prune_next {l : List P} {k : Nat} {y : P} (nw : Int) (h : l[k]? = some y) : prune (l.take (k + 1)) nw = prune (l.take k) nw ++ (if nw ≤ y.2 then [y] else []) := by
  unfold prune
  rw [List.take_add_one, h, List.filter_append]
  congr 1
  by_cases hf : nw ≤ y.2 <;> simp [hf]
theorem adds_next {a b : List P} {k : Nat} {y : P} (h : b[k]? = some y) : adds a (b.take (k + 1)) = add (adds a (b.take k)) y := by
  unfold adds
  rw [List.take_add_one, h, List.foldl_append]
  rfl
theorem prune_len (l : List P) (nw : Int) : (prune l nw).length ≤ l.length := List.length_filter_le _ _
end Go.Proofs.Ytfmmpmpafgbidaa.Rv

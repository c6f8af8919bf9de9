/- Layer 16 (heap) as plain mathematics: a list in which no element comes before the one above it; no program's text is named here. -/
import Derived.WalkKit
namespace Go.Proofs.Ythhnemanaciikaa.Hp

/-- A strict weak order. -/
structure Swo {α : Type} (lt : α → α → Bool) : Prop where
  asymm : ∀ a b, lt a b = true → lt b a = false
  trans : ∀ a b c, lt b a = false → lt c b = false → lt c a = false
section
variable {α : Type} [Inhabited α] {lt : α → α → Bool} {l : List α} {n k c : Nat}
def G (l : List α) (k : Nat) : α := l.getD k default
def sw (l : List α) (i j : Nat) : List α := (l.set i (G l j)).set j (G l i)
theorem sw_len (l : List α) (i j : Nat) : (sw l i j).length = l.length := by simp [sw]
theorem G_at {l : List α} {i : Nat} (h : i < l.length) : G l i = l[i] := by simp [G, h]
theorem sw_at {l : List α} {i j : Nat} (hi : i < l.length) (hj : j < l.length) (m : Nat) : G (sw l i j) m = if m = j then G l i else if m = i then G l j else G l m := by
  unfold sw G
  simp only [List.getD_eq_getElem?_getD, List.getElem?_set, List.length_set]
  by_cases c1 : m = j
  · subst c1
    simp [hj]
  · rw [if_neg (fun e => c1 e.symm), if_neg c1]
    by_cases c2 : m = i
    · subst c2
      simp [hi]
    · rw [if_neg (fun e => c2 e.symm), if_neg c2]
theorem sw_perm {l : List α} {i j : Nat} (hi : i < l.length) (hj : j < l.length) : (sw l i j).Perm l := by
  unfold sw
  rw [G_at hi, G_at hj]
  exact List.set_set_perm hi hj
/-- No element comes before the one above it. -/
def Hp (lt : α → α → Bool) (l : List α) (n : Nat) : Prop := ∀ j, 0 < j → j < n → lt (G l j) (G l ((j - 1) / 2)) = false
/-- The same but for one that may come before the one above it. -/
structure Up (lt : α → α → Bool) (l : List α) (n k : Nat) : Prop where
  ok : ∀ j, 0 < j → j < n → j ≠ k → lt (G l j) (G l ((j - 1) / 2)) = false
  two : ∀ j, 0 < j → j < n → (j - 1) / 2 = k → 0 < k → lt (G l j) (G l ((k - 1) / 2)) = false
/-- The same but for those below one. -/
structure Dn (lt : α → α → Bool) (l : List α) (n k : Nat) : Prop where
  ok : ∀ j, 0 < j → j < n → (j - 1) / 2 ≠ k → lt (G l j) (G l ((j - 1) / 2)) = false
  two : ∀ j, 0 < j → j < n → (j - 1) / 2 = k → 0 < k → lt (G l j) (G l ((k - 1) / 2)) = false
theorem Up.done (h : Up lt l n k) (hk : k = 0 ∨ lt (G l k) (G l ((k - 1) / 2)) = false) : Hp lt l n := fun j h0 hn => by
  by_cases c : j = k
  · subst c
    rcases hk with rfl | hk
    · omega
    · exact hk
  · exact h.ok j h0 hn c
theorem Up.step (hs : Swo lt) (h : Up lt l n k) (hk0 : 0 < k) (hkn : k < n) (hl : n ≤ l.length) (hlt : lt (G l k) (G l ((k - 1) / 2)) = true) : Up lt (sw l k ((k - 1) / 2)) n ((k - 1) / 2) := by
  obtain ⟨p, hp⟩ : ∃ p, p = (k - 1) / 2 := ⟨_, rfl⟩
  rw [← hp] at hlt ⊢
  have hpk : p < k := by omega
  have hkl : k < l.length := by omega
  have hpl : p < l.length := by omega
  have hpk' := hs.asymm _ _ hlt
  constructor
  · intro j h0 hn hne
    rw [sw_at hkl hpl, sw_at hkl hpl]
    by_cases c1 : j = k
    · subst c1
      rw [if_neg (by omega), if_pos rfl, if_pos hp.symm]
      exact hpk'
    · rw [if_neg hne, if_neg c1]
      by_cases c2 : (j - 1) / 2 = p
      · rw [if_pos c2]
        have h1 := h.ok j h0 hn c1
        rw [c2] at h1
        exact hs.trans _ _ _ hpk' h1
      · rw [if_neg c2]
        by_cases c3 : (j - 1) / 2 = k
        · rw [if_pos c3]
          have h1 := h.two j h0 hn c3 hk0
          rw [← hp] at h1
          exact h1
        · rw [if_neg c3]
          exact h.ok j h0 hn c1
  · intro j h0 hn hj hp0
    have hq : (p - 1) / 2 < p := by omega
    rw [sw_at hkl hpl, sw_at hkl hpl, if_neg (show ¬ (p - 1) / 2 = p by omega), if_neg (show ¬ (p - 1) / 2 = k by omega)]
    have h2 := h.ok p hp0 (by omega) (by omega)
    by_cases c1 : j = k
    · subst c1
      rw [if_neg (by omega), if_pos rfl]
      exact h2
    · rw [if_neg (by omega), if_neg c1]
      have h1 := h.ok j h0 hn c1
      rw [hj] at h1
      exact hs.trans _ _ _ h2 h1
theorem Dn.done (h : Dn lt l n k) (hk : ∀ j, 0 < j → j < n → (j - 1) / 2 = k → lt (G l j) (G l k) = false) : Hp lt l n := fun j h0 hn => by
  by_cases c : (j - 1) / 2 = k
  · rw [c]; exact hk j h0 hn c
  · exact h.ok j h0 hn c
theorem Dn.step (hs : Swo lt) (h : Dn lt l n k) (hc0 : 0 < c) (hcn : c < n) (hck : (c - 1) / 2 = k) (hl : n ≤ l.length) (hlt : lt (G l c) (G l k) = true) (hoth : ∀ j, 0 < j → j < n → (j - 1) / 2 = k → lt (G l j) (G l c) = false) : Dn lt (sw l k c) n c := by
  have hkc : k < c := by omega
  have hcl : c < l.length := by omega
  have hkl : k < l.length := by omega
  constructor
  · intro j h0 hn hne
    rw [sw_at hkl hcl, sw_at hkl hcl, if_neg hne]
    by_cases c1 : j = c
    · subst c1
      rw [if_pos rfl, if_pos hck]
      exact hs.asymm _ _ hlt
    · rw [if_neg c1]
      by_cases c2 : (j - 1) / 2 = k
      · rw [if_neg (by omega), if_pos c2]
        exact hoth j h0 hn c2
      · rw [if_neg c2]
        by_cases c3 : j = k
        · rw [if_pos c3]
          subst c3
          exact h.two c hc0 hcn hck h0
        · rw [if_neg c3]
          exact h.ok j h0 hn c2
  · intro j h0 hn hj _
    rw [sw_at hkl hcl, sw_at hkl hcl, if_neg (by omega), if_neg (by omega), if_neg (by omega), if_pos hck]
    have h1 := h.ok j h0 hn (by omega)
    rw [hj] at h1
    exact h1
/-- The top comes first. -/
theorem Hp.top (hs : Swo lt) (hi : ∀ a, lt a a = false) (h : Hp lt l n) : ∀ i, i < n → lt (G l i) (G l 0) = false := by
  intro i
  induction i using Nat.strongRecOn with
  | _ i ih =>
    intro hn
    by_cases c0 : i = 0
    · subst c0; exact hi _
    · exact hs.trans _ _ _ (ih ((i - 1) / 2) (by omega) (by omega)) (h i (by omega) hn)
theorem Hp.push (h : Hp lt l l.length) (x : α) : Up lt (l ++ [x]) (l.length + 1) l.length := by
  have e : ∀ j, j < l.length → G (l ++ [x]) j = G l j := fun j hj => by unfold G; simp [List.getD_eq_getElem?_getD, List.getElem?_append_left hj]
  constructor
  · intro j h0 hn hne
    rw [e j (by omega), e ((j - 1) / 2) (by omega)]
    exact h j h0 (by omega)
  · intro j h0 hn hj hk
    omega
/-- The top goes, the last one comes in its place. -/
def cut (l : List α) : List α := (l.set 0 (G l (l.length - 1))).take (l.length - 1)
theorem cut_at {j : Nat} (h0 : 0 < j) (hj : j < l.length - 1) : G (cut l) j = G l j := by
  unfold G cut
  simp only [List.getD_eq_getElem?_getD]
  rw [List.getElem?_take, if_pos hj, List.getElem?_set, if_neg (by omega)]
theorem Hp.cut (h : Hp lt l l.length) : Dn lt (cut l) (l.length - 1) 0 := by
  constructor
  · intro j h0 hn hne
    rw [cut_at h0 hn, cut_at (by omega) (by omega)]
    exact h j h0 (by omega)
  · intro j h0 hn hj hk
    omega
theorem cut_perm (h : 0 < l.length) : (G l 0 :: cut l).Perm l := by
  match l, h with
  | [x], _ => simp [G, cut]
  | x :: y :: r, _ =>
    have e : (y :: r).getD ((y :: r).length - 1) default = (y :: r).getLast (by simp) := by
      rw [List.getLast_eq_getElem]
      simp [List.getD_eq_getElem?_getD]
    have e2 : cut (x :: y :: r) = (y :: r).getLast (by simp) :: (y :: r).dropLast := by
      unfold cut G
      rw [← e]
      simp [List.dropLast_eq_take]
    rw [e2]
    have e3 : G (x :: y :: r) 0 = x := rfl
    rw [e3]
    refine List.Perm.cons x ?_
    have h1 := List.dropLast_concat_getLast (l := y :: r) (by simp)
    exact (List.perm_append_singleton _ _).symm.trans (by rw [h1])
end
/-- Numbers in order: a list that says the same in another order, whose top is its first. -/
theorem top_of {l w : List Int} (hp : l.Perm w) (hl : ∀ i, i < l.length → decide (G l i < G l 0) = false) {x : Int} {r : List Int} (hw : w = x :: r) (hs : ∀ y ∈ r, x ≤ y) (h0 : 0 < l.length) : G l 0 = x := by
  have h1 : G l 0 ∈ w := hp.mem_iff.1 (by rw [G_at h0]; exact List.getElem_mem h0)
  have h2 : x ∈ l := hp.mem_iff.2 (by rw [hw]; simp)
  obtain ⟨i, hi, he⟩ := List.getElem_of_mem h2
  have h3 := hl i hi
  rw [G_at hi, he] at h3
  have h4 := of_decide_eq_false h3
  rw [hw] at h1
  rcases List.mem_cons.1 h1 with h5 | h5
  · exact h5
  · have := hs _ h5; omega
end Go.Proofs.Ythhnemanaciikaa.Hp

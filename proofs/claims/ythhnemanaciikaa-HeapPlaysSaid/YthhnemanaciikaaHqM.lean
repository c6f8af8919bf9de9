/- Layer 16 (heap), mathematics of rising lists; no program's text is named here. -/
import Derived.Test.YthhnemanaciikaaInts
namespace Go.Proofs.Ythhnemanaciikaa.Hq
/-- A number, put among rising ones. -/
def insI (n : Int) : List Int → List Int
  | [] => [n]
  | x :: t => if n < x then n :: x :: t else x :: insI n t
def srtI (l : List Int) : List Int := l.foldl (fun a x => insI x a) []
theorem ins_len (n : Int) : ∀ l : List Int, (insI n l).length = l.length + 1
  | [] => rfl
  | x :: t => by
    unfold insI
    split
    · rfl
    · simp [ins_len n t]
theorem srt_len (l : List Int) : (srtI l).length = l.length := by
  have h : ∀ (l a : List Int), (l.foldl (fun a x => insI x a) a).length = a.length + l.length := by
    intro l
    induction l with
    | nil => intro a; rfl
    | cons x t ih => intro a; rw [List.foldl_cons, ih, ins_len, List.length_cons]; omega
  have := h l []
  simpa [srtI] using this
theorem ins_perm (n : Int) : ∀ l : List Int, (insI n l).Perm (n :: l)
  | [] => List.Perm.refl _
  | x :: t => by
    unfold insI
    split
    · exact List.Perm.refl _
    · exact ((ins_perm n t).cons x).trans (List.Perm.swap n x t)
def Up (l : List Int) : Prop := l.Pairwise (fun a b => a ≤ b)
theorem ins_up {n : Int} : ∀ {l : List Int}, Up l → Up (insI n l)
  | [], _ => List.pairwise_singleton _ _
  | x :: t, h => by
    unfold insI
    split
    · next hn =>
      refine List.pairwise_cons.2 ⟨fun k hk => ?_, h⟩
      rcases List.mem_cons.1 hk with rfl | hk
      · omega
      · have := (List.pairwise_cons.1 h).1 k hk; omega
    · next hn =>
      refine List.pairwise_cons.2 ⟨fun k hk => ?_, ins_up (List.pairwise_cons.1 h).2⟩
      rcases List.mem_cons.1 ((ins_perm n t).mem_iff.1 hk) with rfl | hk
      · omega
      · exact (List.pairwise_cons.1 h).1 k hk
theorem srt_perm (l : List Int) : (srtI l).Perm l := by
  have h : ∀ (l a : List Int), (l.foldl (fun a x => insI x a) a).Perm (a ++ l) := by
    intro l
    induction l with
    | nil => intro a; simp
    | cons x t ih =>
      intro a
      rw [List.foldl_cons]
      refine (ih _).trans ?_
      refine ((ins_perm x a).append_right t).trans ?_
      exact (List.perm_middle (l₁ := a)).symm
  have := h l []
  simpa [srtI] using this
theorem srt_up (l : List Int) : Up (srtI l) := by
  have h : ∀ (l a : List Int), Up a → Up (l.foldl (fun a x => insI x a) a) := by
    intro l
    induction l with
    | nil => intro a h; exact h
    | cons x t ih => intro a h; exact ih _ (ins_up h)
  exact h l [] List.Pairwise.nil
/-- There is one rising list of the same numbers. -/
theorem up_one : ∀ {l m : List Int}, l.Perm m → Up l → Up m → l = m
  | [], m, h, _, _ => List.Perm.nil_eq h
  | a :: t, [], h, _, _ => by cases h.length_eq
  | a :: t, b :: u, h, h1, h2 => by
    have e : a = b := by
      have ha := h.mem_iff.1 (List.mem_cons_self : a ∈ a :: t)
      have hb := h.mem_iff.2 (List.mem_cons_self : b ∈ b :: u)
      have l1 : b ≤ a := by
        rcases List.mem_cons.1 ha with e | e
        · omega
        · exact (List.pairwise_cons.1 h2).1 a e
      have l2 : a ≤ b := by
        rcases List.mem_cons.1 hb with e | e
        · omega
        · exact (List.pairwise_cons.1 h1).1 b e
      omega
    subst e
    rw [up_one (List.Perm.cons_inv h) (List.pairwise_cons.1 h1).2 (List.pairwise_cons.1 h2).2]
theorem srt_one {l m : List Int} (h : m.Perm l) (hu : Up m) : m = srtI l := up_one (h.trans (srt_perm l).symm) hu (srt_up l)
/-- How the reference goes through a list. -/
theorem ins_none {n : Int} : ∀ {l : List Int}, (∀ x ∈ l, ¬ n < x) → insI n l = l ++ [n]
  | [], _ => rfl
  | x :: t, h => by
    unfold insI
    rw [if_neg (h x List.mem_cons_self), ins_none (fun y hy => h y (List.mem_cons_of_mem _ hy))]
    rfl
theorem ins_first {n x : Int} {t : List Int} : ∀ {l : List Int}, (∀ y ∈ l, ¬ n < y) → n < x → insI n (l ++ x :: t) = l ++ n :: x :: t
  | [], _, hx => by rw [List.nil_append, List.nil_append, insI, if_pos hx]
  | y :: l, h, hx => by
    rw [List.cons_append, insI, if_neg (h y List.mem_cons_self), ins_first (fun z hz => h z (List.mem_cons_of_mem _ hz)) hx]
    rfl
/-- While the list is gone through: what is out, and whether the number is. -/
def Goes (n : Int) (l : List Int) (k : Nat) (done : Bool) (out : List Int) : Prop :=
  (done = false ∧ out = l.take k ∧ ∀ x ∈ l.take k, ¬ n < x) ∨ (done = true ∧ out ++ l.drop k = insI n l)
theorem goes_start (n : Int) (l : List Int) : Goes n l 0 false [] := .inl ⟨rfl, rfl, fun x hx => by cases hx⟩
theorem goes_done {n x : Int} {l out : List Int} {k : Nat} (h : Goes n l k true out) (hx : l[k]? = some x) : Goes n l (k + 1) true (out ++ [x]) := by
  rcases h with ⟨e, _⟩ | ⟨_, h⟩
  · cases e
  · obtain ⟨hk, e⟩ := List.getElem?_eq_some_iff.1 hx
    refine .inr ⟨rfl, ?_⟩
    rw [← h, List.drop_eq_getElem_cons hk, e, List.append_assoc]
    rfl
theorem goes_no {n x : Int} {l out : List Int} {k : Nat} (h : Goes n l k false out) (hx : l[k]? = some x) (hn : ¬ n < x) : Goes n l (k + 1) false (out ++ [x]) := by
  rcases h with ⟨_, e, h⟩ | ⟨e, _⟩
  · refine .inl ⟨rfl, by rw [List.take_add_one, hx, e]; rfl, fun y hy => ?_⟩
    rw [List.take_add_one, hx] at hy
    rcases List.mem_append.1 hy with hy | hy
    · exact h y hy
    · simp at hy; subst hy; exact hn
  · cases e
theorem goes_yes {n x : Int} {l out : List Int} {k : Nat} (h : Goes n l k false out) (hx : l[k]? = some x) (hn : n < x) : Goes n l (k + 1) true ((out ++ [n]) ++ [x]) := by
  rcases h with ⟨_, e, h⟩ | ⟨e, _⟩
  · obtain ⟨hk, ex⟩ := List.getElem?_eq_some_iff.1 hx
    refine .inr ⟨rfl, ?_⟩
    have h1 := ins_first (t := l.drop (k + 1)) h hn
    have hd : l.take k ++ x :: l.drop (k + 1) = l := by rw [← ex, ← List.drop_eq_getElem_cons hk, List.take_append_drop]
    rw [hd] at h1
    rw [h1, e, List.append_assoc, List.append_assoc]
    rfl
  · cases e
theorem goes_end {n : Int} {l out : List Int} {k : Nat} (hk : k = l.length) : (Goes n l k true out → out = insI n l) ∧ (Goes n l k false out → out ++ [n] = insI n l) := by
  subst hk
  constructor
  · rintro (⟨e, _⟩ | ⟨_, h⟩)
    · cases e
    · rw [List.drop_length, List.append_nil] at h; exact h
  · rintro (⟨_, e, h⟩ | ⟨e, _⟩)
    · rw [List.take_length] at e h
      rw [e, ins_none h]
    · cases e
theorem srt_next {l : List Int} {k : Nat} {x : Int} (h : l[k]? = some x) : srtI (l.take (k + 1)) = insI x (srtI (l.take k)) := by
  unfold srtI
  rw [List.take_add_one, h, List.foldl_append]
  rfl
end Go.Proofs.Ythhnemanaciikaa.Hq

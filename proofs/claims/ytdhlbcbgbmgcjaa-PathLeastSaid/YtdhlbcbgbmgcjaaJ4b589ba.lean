/- Lemmas that the proof stands on, in build order: PaM. -/
import Derived.WalkKit
/- Layer 17 (path) as plain mathematics: distances as least weights of ways; what a rule that only shortens comes to; no program's text is named here. -/
namespace Go.Proofs.Ytdhlbcbgbmgcjaa.Pa

/-- A link: two stops, a weight. -/
abbrev Lk := Nat × Nat × Nat
def E (L : List Lk) (u v w : Nat) : Prop := (u, v, w) ∈ L ∨ (v, u, w) ∈ L
theorem E.symm {L : List Lk} {u v w : Nat} (h : E L u v w) : E L v u w := h.elim .inr .inl
/-- A way from s, and its weight. -/
inductive Wk (L : List Lk) (s : Nat) : Nat → Nat → Prop
  | nil : Wk L s s 0
  | step {u k v w : Nat} : Wk L s u k → E L u v w → Wk L s v (k + w)
abbrev D := Nat → Option Nat
/-- Distances. -/
structure Is (L : List Lk) (s : Nat) (d : D) : Prop where
  low : ∀ v k, Wk L s v k → ∃ m, d v = some m ∧ m ≤ k
  way : ∀ v m, d v = some m → Wk L s v m
section
variable {L : List Lk} {s : Nat} {d d' : D}
theorem Is.one (h : Is L s d) (h' : Is L s d') (v : Nat) : d v = d' v := by
  cases hd : d v with
  | none =>
    cases hd' : d' v with
    | none => rfl
    | some m =>
      obtain ⟨m', e, _⟩ := h.low v m (h'.way v m hd')
      rw [hd] at e
      cases e
  | some m =>
    obtain ⟨m', e, h1⟩ := h'.low v m (h.way v m hd)
    obtain ⟨m2, e2, h2⟩ := h.low v m' (h'.way v m' e)
    rw [hd] at e2
    injection e2 with e2
    rw [e]
    congr 1
    omega
/-- What fits at each link is the distances. -/
theorem Is.of_fit (h0 : d s = some 0) (hs : ∀ u v w m, E L u v w → d u = some m → ∃ m', d v = some m' ∧ m' ≤ m + w) (hw : ∀ v m, d v = some m → Wk L s v m) : Is L s d := by
  refine ⟨fun v k h => ?_, hw⟩
  induction h with
  | nil => exact ⟨0, h0, Nat.le_refl _⟩
  | step _ he ih =>
    obtain ⟨m, e, h1⟩ := ih
    obtain ⟨m', e', h2⟩ := hs _ _ _ _ he e
    exact ⟨m', e', by omega⟩
theorem Is.zero (h : Is L s d) : d s = some 0 := by
  obtain ⟨m, e, h1⟩ := h.low s 0 .nil
  rw [e]
  congr 1
  omega
theorem Is.step (h : Is L s d) {u v w m : Nat} (he : E L u v w) (hu : d u = some m) : ∃ m', d v = some m' ∧ m' ≤ m + w := h.low v _ (.step (h.way u m hu) he)
/-- A stop that is not the first one has one before it. -/
theorem Is.pred (h : Is L s d) {v m : Nat} (hv : d v = some m) (hne : v ≠ s) : ∃ u k w, E L u v w ∧ d u = some k ∧ m = k + w := by
  have hw := h.way v m hv
  cases hw with
  | nil => exact absurd rfl hne
  | @step u k _ w hu he =>
    obtain ⟨k', e, h1⟩ := h.low u k hu
    obtain ⟨m', e', h2⟩ := h.step he e
    rw [hv] at e'
    injection e' with e'
    exact ⟨u, k', w, he, e, by omega⟩
theorem wk_join {a b c k m : Nat} (h1 : Wk L a b k) (h2 : Wk L b c m) : Wk L a c (k + m) := by
  induction h2 with
  | nil => exact h1
  | step _ he ih => rw [← Nat.add_assoc]; exact .step ih he
theorem wk_turn {a b k : Nat} (h : Wk L a b k) : Wk L b a k := by
  induction h with
  | nil => exact .nil
  | @step u k v w _ he ih =>
    have h1 : Wk L v u (0 + w) := .step .nil he.symm
    rw [Nat.zero_add] at h1
    rw [Nat.add_comm]
    exact wk_join h1 ih
theorem Is.sym {a b : Nat} {x y : D} (hx : Is L a x) (hy : Is L b y) : x b = y a := by
  cases hd : x b with
  | none =>
    cases hd' : y a with
    | none => rfl
    | some m =>
      obtain ⟨m', e, _⟩ := hx.low b m (wk_turn (hy.way a m hd'))
      rw [hd] at e
      cases e
  | some m =>
    obtain ⟨m', e, h1⟩ := hy.low a m (wk_turn (hx.way b m hd))
    obtain ⟨m2, e2, h2⟩ := hx.low b m' (wk_turn (hy.way a m' e))
    rw [hd] at e2
    injection e2 with e2
    rw [e]
    congr 1
    omega
theorem Is.over {a b : Nat} {x y : D} (hx : Is L a x) (hy : Is L b y) {c k m : Nat} (h1 : x b = some k) (h2 : y c = some m) : ∃ n, x c = some n ∧ n ≤ k + m := hx.low c _ (wk_join (hx.way b k h1) (hy.way c m h2))
end

/-- What only shortens. -/
def Le (d d' : D) : Prop := ∀ v m, d v = some m → ∃ m', d' v = some m' ∧ m' ≤ m
theorem Le.refl (d : D) : Le d d := fun _ m h => ⟨m, h, Nat.le_refl _⟩
theorem Le.trans {a b c : D} (h : Le a b) (k : Le b c) : Le a c := fun v m hm => by
  obtain ⟨m1, e1, h1⟩ := h v m hm
  obtain ⟨m2, e2, h2⟩ := k v m1 e1
  exact ⟨m2, e2, by omega⟩
def put (d : D) (v m : Nat) : D := fun x => if x = v then some m else d x
def rl (d : D) (u v w : Nat) : D := match d u with
  | none => d
  | some m => match d v with
    | none => put d v (m + w)
    | some k => if m + w < k then put d v (m + w) else d
def lk (d : D) (l : Lk) : D := rl (rl d l.1 l.2.1 l.2.2) l.2.1 l.1 l.2.2
def turn (L : List Lk) (d : D) : D := L.foldl lk d
def turns (L : List Lk) : Nat → D → D
  | 0, d => d
  | n + 1, d => turn L (turns L n d)
theorem put_le {d : D} {v m : Nat} (h : ∀ k, d v = some k → m ≤ k) : Le d (put d v m) := fun x k hk => by
  unfold put
  by_cases c : x = v
  · subst c
    rw [if_pos rfl]
    exact ⟨m, rfl, h k hk⟩
  · rw [if_neg c]
    exact ⟨k, hk, Nat.le_refl _⟩
theorem rl_le (d : D) (u v w : Nat) : Le d (rl d u v w) := by
  unfold rl
  split
  · exact Le.refl _
  · split
    · rename_i h
      exact put_le (fun k hk => by rw [h] at hk; cases hk)
    · rename_i k h
      split
      · exact put_le (fun j hj => by rw [h] at hj; injection hj with hj; omega)
      · exact Le.refl _
theorem rl_at {d : D} {u v w m : Nat} (h : d u = some m) : ∃ m', rl d u v w v = some m' ∧ m' ≤ m + w := by
  unfold rl
  rw [h]
  cases hd : d v with
  | none => exact ⟨m + w, by simp [put], Nat.le_refl _⟩
  | some k =>
    simp only
    by_cases c : m + w < k
    · rw [if_pos c]
      exact ⟨m + w, by simp [put], Nat.le_refl _⟩
    · rw [if_neg c]
      exact ⟨k, hd, by omega⟩
/-- Each number is a way's weight. -/
def Sd (L : List Lk) (s : Nat) (d : D) : Prop := ∀ v m, d v = some m → Wk L s v m
theorem put_sd {L : List Lk} {s v m : Nat} {d : D} (h : Sd L s d) (hw : Wk L s v m) : Sd L s (put d v m) := fun x k hk => by
  unfold put at hk
  by_cases c : x = v
  · rw [if_pos c] at hk
    injection hk with hk
    rw [c, ← hk]
    exact hw
  · rw [if_neg c] at hk
    exact h x k hk
theorem rl_sd {L : List Lk} {s u v w : Nat} {d : D} (h : Sd L s d) (he : E L u v w) : Sd L s (rl d u v w) := by
  unfold rl
  split
  · exact h
  · rename_i m hm
    have hw := Wk.step (h u m hm) he
    split
    · exact put_sd h hw
    · split
      · exact put_sd h hw
      · exact h
theorem lk_le (d : D) (l : Lk) : Le d (lk d l) := (rl_le _ _ _ _).trans (rl_le _ _ _ _)
theorem lk_sd {L : List Lk} {s : Nat} {d : D} {l : Lk} (h : Sd L s d) (hl : l ∈ L) : Sd L s (lk d l) := rl_sd (rl_sd h (.inl hl)) (.inr hl)
theorem fold_le (l : List Lk) (d : D) : Le d (l.foldl lk d) := by
  induction l generalizing d with
  | nil => exact Le.refl _
  | cons x l ih => exact (lk_le d x).trans (ih _)
theorem fold_sd {L : List Lk} {s : Nat} (l : List Lk) (d : D) (h : Sd L s d) (hl : ∀ x ∈ l, x ∈ L) : Sd L s (l.foldl lk d) := by
  induction l generalizing d with
  | nil => exact h
  | cons x l ih => exact ih _ (lk_sd h (hl x (by simp))) (fun y hy => hl y (by simp [hy]))
theorem lk_at {d : D} {u v w m : Nat} {l : Lk} (hl : l = (u, v, w) ∨ l = (v, u, w)) (h : d u = some m) : ∃ m', lk d l v = some m' ∧ m' ≤ m + w := by
  rcases hl with rfl | rfl
  · obtain ⟨m1, e1, h1⟩ := rl_at (v := v) (w := w) h
    obtain ⟨m2, e2, h2⟩ := rl_le (rl d u v w) v u w v m1 e1
    exact ⟨m2, e2, by omega⟩
  · obtain ⟨m1, e1, h1⟩ := rl_le d v u w u m h
    obtain ⟨m2, e2, h2⟩ := rl_at (v := v) (w := w) e1
    exact ⟨m2, e2, by omega⟩
theorem turn_at {L : List Lk} {d : D} {u v w m : Nat} (he : E L u v w) (h : d u = some m) : ∃ m', turn L d v = some m' ∧ m' ≤ m + w := by
  obtain ⟨l, hl, hm⟩ : ∃ l, (l = (u, v, w) ∨ l = (v, u, w)) ∧ l ∈ L := he.elim (fun h => ⟨_, .inl rfl, h⟩) (fun h => ⟨_, .inr rfl, h⟩)
  obtain ⟨L1, L2, rfl⟩ := List.append_of_mem hm
  unfold turn
  rw [List.foldl_append, List.foldl_cons]
  obtain ⟨m1, e1, h1⟩ := fold_le L1 d u m h
  obtain ⟨m2, e2, h2⟩ := lk_at hl e1
  obtain ⟨m3, e3, h3⟩ := fold_le L2 _ v m2 e2
  exact ⟨m3, e3, by omega⟩
theorem turn_le (L : List Lk) (d : D) : Le d (turn L d) := fold_le L d
theorem turn_sd {L : List Lk} {s : Nat} {d : D} (h : Sd L s d) : Sd L s (turn L d) := fold_sd L d h (fun _ h => h)

/-- The least way. -/
def Best (L : List Lk) (s v m : Nat) : Prop := Wk L s v m ∧ ∀ k, Wk L s v k → m ≤ k
def Set_ (L : List Lk) (s : Nat) (d : D) (v : Nat) : Prop := ∀ m, Best L s v m → d v = some m
theorem least {p : Nat → Prop} : ∀ n, p n → ∃ k, p k ∧ ∀ j, p j → k ≤ j := by
  intro n
  induction n using Nat.strongRecOn with
  | _ n ih =>
    intro hp
    by_cases h : ∃ j, j < n ∧ p j
    · obtain ⟨j, hj, hpj⟩ := h
      exact ih j hj hpj
    · exact ⟨n, hp, fun j hj => by
        rcases Nat.lt_or_ge j n with h1 | h1
        · exact absurd ⟨j, h1, hj⟩ h
        · exact h1⟩
theorem best_of {L : List Lk} {s v k : Nat} (h : Wk L s v k) : ∃ m, Best L s v m ∧ m ≤ k := by
  obtain ⟨m, h1, h2⟩ := least (p := fun k => Wk L s v k) k h
  exact ⟨m, ⟨h1, h2⟩, h2 k h⟩
theorem Best.one {L : List Lk} {s v m k : Nat} (h : Best L s v m) (h' : Best L s v k) : m = k := by
  have h1 := h.2 k h'.1
  have h2 := h'.2 m h.1
  omega
theorem Set_.le {L : List Lk} {s v : Nat} {d d' : D} (h : Set_ L s d v) (hl : Le d d') (hs : Sd L s d') : Set_ L s d' v := fun m hm => by
  obtain ⟨m', e, h1⟩ := hl v m (h m hm)
  have h2 := hm.2 m' (hs v m' e)
  rw [e]
  congr 1
  omega
/-- As long as one is left, a turn settles one more. -/
theorem turn_one {L : List Lk} {s : Nat} {d : D} (hw : ∀ l ∈ L, 0 < l.2.2) (h0 : d s = some 0) (hs : Sd L s d) {v : Nat} (hv : ¬ Set_ L s d v) : ∃ v, ¬ Set_ L s d v ∧ Set_ L s (turn L d) v ∧ ∃ u w, E L u v w := by
  have hex : ∃ n, ∃ v, Best L s v n ∧ d v ≠ some n := by
    apply Classical.byContradiction
    intro hn
    exact hv (fun m hm => Classical.byContradiction fun hne => hn ⟨m, v, hm, hne⟩)
  obtain ⟨n0, hn0⟩ := hex
  obtain ⟨n, ⟨v, hb, hne⟩, hmin⟩ := least (p := fun n => ∃ v, Best L s v n ∧ d v ≠ some n) n0 hn0
  obtain ⟨hwk, hall⟩ := hb
  refine ⟨v, fun h => hne (h n ⟨hwk, hall⟩), fun m hm => ?_, ?_⟩
  · obtain rfl : m = n := hm.one ⟨hwk, hall⟩
    cases hwk with
    | nil => exact absurd h0 hne
    | @step u k _ w hu he =>
      have hbu : Best L s u k := ⟨hu, fun j hj => by have := hall _ (Wk.step hj he); omega⟩
      have hpos : 0 < w := he.elim (fun h => hw _ h) (fun h => hw _ h)
      have hdu : d u = some k := Classical.byContradiction fun hne' => by
        have := hmin k ⟨u, hbu, hne'⟩
        omega
      obtain ⟨m', e, h1⟩ := turn_at he hdu
      have h2 := hall m' (turn_sd hs v m' e)
      rw [e]
      congr 1
      omega
  · cases hwk with
    | nil => exact absurd h0 hne
    | @step u k _ w hu he => exact ⟨u, w, he⟩
theorem cnt_le {p q : Nat → Bool} : ∀ l : List Nat, (∀ x ∈ l, p x = true → q x = true) → l.countP p ≤ l.countP q
  | [], _ => Nat.le_refl _
  | x :: l, h => by
    have h1 := cnt_le l (fun y hy => h y (by simp [hy]))
    have h2 := h x (by simp)
    rw [List.countP_cons, List.countP_cons]
    cases hp : p x with
    | false => simp only [Bool.false_eq_true, if_false]; omega
    | true => simp only [h2 hp, if_true]; omega
theorem cnt_lt {p q : Nat → Bool} : ∀ l : List Nat, (∀ x ∈ l, p x = true → q x = true) → (∃ x ∈ l, q x = true ∧ p x = false) → l.countP p < l.countP q
  | [], _, h => by obtain ⟨x, hx, _⟩ := h; cases hx
  | x :: l, h, hex => by
    have h1 := cnt_le l (fun y hy => h y (by simp [hy]))
    have h2 := h x (by simp)
    rw [List.countP_cons, List.countP_cons]
    obtain ⟨y, hy, hq, hp⟩ := hex
    rcases List.mem_cons.1 hy with rfl | hy
    · simp only [hp, hq, if_true, Bool.false_eq_true, if_false]; omega
    · have h3 := cnt_lt l (fun y hy => h y (by simp [hy])) ⟨y, hy, hq, hp⟩
      cases hpx : p x with
      | false => simp only [Bool.false_eq_true, if_false]; omega
      | true => simp only [h2 hpx, if_true]; omega
open Classical in
/-- N turns settle all. -/
theorem turns_set {L : List Lk} {s N : Nat} {d : D} (hw : ∀ l ∈ L, 0 < l.2.2) (hN : ∀ l ∈ L, l.1 < N ∧ l.2.1 < N) (h0 : d s = some 0) (hs : Sd L s d) : ∀ n, turns L n d s = some 0 ∧ Sd L s (turns L n d) ∧ Le d (turns L n d) ∧ ((∀ v, Set_ L s (turns L n d) v) ∨ n ≤ (List.range N).countP (fun v => decide (Set_ L s (turns L n d) v)))
  | 0 => ⟨h0, hs, Le.refl _, .inr (Nat.zero_le _)⟩
  | n + 1 => by
    obtain ⟨g0, gs, gl, gc⟩ := turns_set hw hN h0 hs n
    have ts : Sd L s (turn L (turns L n d)) := turn_sd gs
    have tl := turn_le L (turns L n d)
    have t0 : turn L (turns L n d) s = some 0 := by
      obtain ⟨m, e, h1⟩ := tl s 0 g0
      rw [e]
      congr 1
      omega
    refine ⟨t0, ts, gl.trans tl, ?_⟩
    rcases gc with gc | gc
    · exact .inl (fun v => (gc v).le tl ts)
    · by_cases hall : ∀ v, Set_ L s (turns L n d) v
      · exact .inl (fun v => (hall v).le tl ts)
      · obtain ⟨v0, hv0⟩ := Classical.not_forall.1 hall
        obtain ⟨v, hv, hv', u, w, he⟩ := turn_one hw g0 gs hv0
        have hvN : v < N := he.elim (fun h => (hN _ h).2) (fun h => (hN _ h).1)
        refine .inr (Nat.le_trans (Nat.succ_le_succ gc) (cnt_lt _ (fun x _ hx => ?_) ⟨v, List.mem_range.2 hvN, ?_, ?_⟩))
        · exact decide_eq_true ((of_decide_eq_true hx).le tl ts)
        · exact decide_eq_true hv'
        · exact decide_eq_false hv
theorem is_of_set {L : List Lk} {s : Nat} {d : D} (hs : Sd L s d) (h : ∀ v, Set_ L s d v) : Is L s d :=
  ⟨fun v k hk => by
    obtain ⟨m, hm, h1⟩ := best_of hk
    exact ⟨m, h v m hm, h1⟩, hs⟩
open Classical in
theorem turns_is {L : List Lk} {s N : Nat} {d : D} (hw : ∀ l ∈ L, 0 < l.2.2) (hN : ∀ l ∈ L, l.1 < N ∧ l.2.1 < N) (h0 : d s = some 0) (hs : Sd L s d) : Is L s (turns L N d) := by
  obtain ⟨g0, gs, gl, gc⟩ := turns_set hw hN h0 hs N
  refine is_of_set gs ?_
  rcases gc with gc | gc
  · exact gc
  · intro v
    by_cases hv : v < N
    · have h1 : ∀ x ∈ List.range N, decide (Set_ L s (turns L N d) x) = true := by
        apply List.countP_eq_length.1
        have h2 := List.countP_le_length (p := fun v => decide (Set_ L s (turns L N d) v)) (l := List.range N)
        rw [List.length_range] at h2 ⊢
        omega
      exact of_decide_eq_true (h1 v (List.mem_range.2 hv))
    · intro m hm
      obtain ⟨hwk, _⟩ := hm
      cases hwk with
      | nil => omega
      | @step u k _ w hu he => exact absurd (he.elim (fun h => (hN _ h).2) (fun h => (hN _ h).1)) hv
/-- Where one begins. -/
def start (s : Nat) : D := fun v => if v = s then some 0 else none
theorem start_sd (L : List Lk) (s : Nat) : Sd L s (start s) := fun v m h => by
  unfold start at h
  by_cases c : v = s
  · rw [if_pos c] at h
    injection h with h
    rw [c, ← h]
    exact .nil
  · rw [if_neg c] at h
    cases h
end Go.Proofs.Ytdhlbcbgbmgcjaa.Pa

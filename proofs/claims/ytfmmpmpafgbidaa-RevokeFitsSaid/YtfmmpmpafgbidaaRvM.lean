/- Layer 12 (revoke) as plain mathematics; no program's text is named here. -/
import Derived.WalkKit
namespace Go.Proofs.Ytfmmpmpafgbidaa.Rv

/-- A revoked trip, and until when. -/
abbrev P := Int × Int
def okp (p : P) : Prop := (1 ≤ p.1 ∧ p.1 ≤ 2147483648) ∧ 0 ≤ p.2 ∧ p.2 ≤ 1099511627776
instance (p : P) : Decidable (okp p) := by unfold okp; infer_instance
def Asc (l : List P) : Prop := l.Pairwise (fun a b => a.1 < b.1)
instance (l : List P) : Decidable (Asc l) := by unfold Asc; infer_instance
structure Rt (l : List P) : Prop where
  ok : ∀ p ∈ l, okp p
  asc : Asc l
  len : l.length ≤ 4096
theorem rt_iff (l : List P) : Rt l ↔ ((∀ p ∈ l, okp p) ∧ Asc l ∧ l.length ≤ 4096) := ⟨fun h => ⟨h.ok, h.asc, h.len⟩, fun h => ⟨h.1, h.2.1, h.2.2⟩⟩
instance (l : List P) : Decidable (Rt l) := decidable_of_iff _ (rt_iff l).symm
/-- Until when a trip is revoked. -/
def lk (l : List P) (t : Int) : Option Int := (l.find? (fun p => p.1 == t)).map (·.2)
def has (l : List P) (t nw : Int) : Bool := match lk l t with
  | none => false
  | some u => decide (nw ≤ u)
def prune (l : List P) (nw : Int) : List P := l.filter (fun p => decide (nw ≤ p.2))
/-- The greater one of both times. -/
def mx (u v : Int) : Int := if u < v then v else u
/-- A list with one more. -/
def add : List P → P → List P
  | [], x => [x]
  | y :: l, x => if y.1 = x.1 then (y.1, mx y.2 x.2) :: l else if x.1 < y.1 then x :: y :: l else y :: add l x
def adds (a b : List P) : List P := b.foldl add a

theorem lk_nil (t : Int) : lk [] t = none := rfl
theorem lk_cons (p : P) (l : List P) (t : Int) : lk (p :: l) t = if p.1 = t then some p.2 else lk l t := by
  unfold lk
  rw [List.find?_cons]
  by_cases h : p.1 = t
  · simp [h]
  · have e : (p.1 == t) = false := beq_eq_false_iff_ne.2 h
    rw [e, if_neg h]
theorem Asc.tail {p : P} {l : List P} (h : Asc (p :: l)) : Asc l := (List.pairwise_cons.1 h).2
theorem Asc.head {p : P} {l : List P} (h : Asc (p :: l)) : ∀ q ∈ l, p.1 < q.1 := (List.pairwise_cons.1 h).1
theorem lk_some {l : List P} {t u : Int} (h : lk l t = some u) : (t, u) ∈ l := by
  unfold lk at h
  cases hf : l.find? (fun p => p.1 == t) with
  | none => rw [hf] at h; cases h
  | some q =>
    rw [hf] at h
    have h1 := List.mem_of_find?_eq_some hf
    have h2 : q.1 = t := by simpa using List.find?_some hf
    simp only [Option.map_some, Option.some.injEq] at h
    rw [← h2, ← h]
    exact h1
theorem lk_low {l : List P} {t : Int} (h : ∀ q ∈ l, t < q.1) : lk l t = none := by
  cases hl : lk l t with
  | none => rfl
  | some u => exact absurd (h _ (lk_some hl)) (by simp)
theorem lk_mem {l : List P} (h : Asc l) {p : P} (hp : p ∈ l) : lk l p.1 = some p.2 := by
  induction l with
  | nil => cases hp
  | cons q l ih =>
    rw [lk_cons]
    rcases List.mem_cons.1 hp with rfl | hp
    · rw [if_pos rfl]
    · have := h.head p hp
      rw [if_neg (by omega)]
      exact ih h.tail hp
/-- Two lists in order that say the same are one. -/
theorem ext {l m : List P} (hl : Asc l) (hm : Asc m) (h : ∀ t, lk l t = lk m t) : l = m := by
  induction l generalizing m with
  | nil =>
    cases m with
    | nil => rfl
    | cons q m =>
      have h1 := h q.1
      rw [lk_cons, if_pos rfl] at h1
      cases h1
  | cons p l ih =>
    cases m with
    | nil =>
      have h1 := h p.1
      rw [lk_cons, if_pos rfl] at h1
      cases h1
    | cons q m =>
      have hpq : p.1 = q.1 := by
        rcases Int.lt_trichotomy p.1 q.1 with h1 | h1 | h1
        · have h2 := h p.1
          rw [lk_cons, if_pos rfl, lk_low (fun r hr => by
            rcases List.mem_cons.1 hr with rfl | hr
            · exact h1
            · have := hm.head r hr; omega)] at h2
          cases h2
        · exact h1
        · have h2 := h q.1
          rw [lk_cons (p := q), if_pos rfl, lk_low (fun r hr => by
            rcases List.mem_cons.1 hr with rfl | hr
            · exact h1
            · have := hl.head r hr; omega)] at h2
          cases h2
      have h2 := h p.1
      rw [lk_cons, if_pos rfl, lk_cons, if_pos hpq.symm] at h2
      injection h2 with h2
      have e : p = q := Prod.ext hpq h2
      subst e
      rw [ih hl.tail hm.tail (fun t => by
        have h3 := h t
        rw [lk_cons, lk_cons] at h3
        by_cases h4 : p.1 = t
        · subst h4
          rw [lk_low hl.head, lk_low hm.head]
        · rwa [if_neg h4, if_neg h4] at h3)]
/-- What is said of a list with one more. -/
theorem lk_add (l : List P) (x : P) (h : Asc l) (t : Int) : lk (add l x) t = if t = x.1 then some (match lk l t with | none => x.2 | some u => mx u x.2) else lk l t := by
  induction l with
  | nil =>
    simp only [add, lk_cons, lk_nil]
    by_cases c : t = x.1
    · rw [if_pos c.symm, if_pos c]
    · rw [if_neg (fun e => c e.symm), if_neg c]
  | cons y l ih =>
    unfold add
    by_cases c1 : y.1 = x.1
    · rw [if_pos c1, lk_cons, lk_cons]
      by_cases c : t = x.1
      · simp only [c, c1, if_true]
      · rw [if_neg (by simp only; omega), if_neg c, if_neg (by omega)]
    · rw [if_neg c1]
      by_cases c2 : x.1 < y.1
      · rw [if_pos c2, lk_cons]
        by_cases c : t = x.1
        · rw [if_pos c.symm, if_pos c, lk_low (fun q hq => by
            rcases List.mem_cons.1 hq with rfl | hq
            · omega
            · have := h.head q hq; omega)]
        · rw [if_neg (fun e => c e.symm), if_neg c]
      · rw [if_neg c2, lk_cons, lk_cons, ih h.tail]
        by_cases c : t = x.1
        · rw [if_neg (by omega), if_pos c, if_pos c, if_neg (by omega)]
        · rw [if_neg c, if_neg c]
theorem mem_add {l : List P} {x p : P} (hp : p ∈ add l x) : p ∈ l ∨ p = x ∨ (p.1 = x.1 ∧ ∃ q ∈ l, q.1 = x.1 ∧ p.2 = mx q.2 x.2) := by
  induction l with
  | nil => simp only [add, List.mem_singleton] at hp; exact .inr (.inl hp)
  | cons y l ih =>
    unfold add at hp
    by_cases c1 : y.1 = x.1
    · rw [if_pos c1] at hp
      rcases List.mem_cons.1 hp with rfl | hp
      · exact .inr (.inr ⟨c1, y, by simp, c1, rfl⟩)
      · exact .inl (by simp [hp])
    · rw [if_neg c1] at hp
      by_cases c2 : x.1 < y.1
      · rw [if_pos c2] at hp
        rcases List.mem_cons.1 hp with rfl | hp
        · exact .inr (.inl rfl)
        · exact .inl hp
      · rw [if_neg c2] at hp
        rcases List.mem_cons.1 hp with rfl | hp
        · exact .inl (by simp)
        · rcases ih hp with h | h | ⟨h, q, hq, h2⟩
          · exact .inl (by simp [h])
          · exact .inr (.inl h)
          · exact .inr (.inr ⟨h, q, by simp [hq], h2⟩)
theorem asc_add {l : List P} (h : Asc l) (x : P) : Asc (add l x) := by
  induction l with
  | nil => simp [add, Asc]
  | cons y l ih =>
    unfold add
    by_cases c1 : y.1 = x.1
    · rw [if_pos c1]
      exact List.pairwise_cons.2 ⟨fun q hq => h.head q hq, h.tail⟩
    · rw [if_neg c1]
      by_cases c2 : x.1 < y.1
      · rw [if_pos c2]
        refine List.pairwise_cons.2 ⟨fun q hq => ?_, h⟩
        rcases List.mem_cons.1 hq with rfl | hq
        · exact c2
        · have := h.head q hq; omega
      · rw [if_neg c2]
        refine List.pairwise_cons.2 ⟨fun q hq => ?_, ih h.tail⟩
        rcases mem_add hq with h1 | rfl | ⟨h1, -⟩
        · exact h.head q h1
        · omega
        · omega
theorem len_add {l : List P} (h : Asc l) (x : P) : (add l x).length = if (lk l x.1).isSome then l.length else l.length + 1 := by
  induction l with
  | nil => simp [add, lk_nil]
  | cons y l ih =>
    unfold add
    rw [lk_cons]
    by_cases c1 : y.1 = x.1
    · rw [if_pos c1, if_pos c1]; simp
    · rw [if_neg c1, if_neg c1]
      by_cases c2 : x.1 < y.1
      · rw [if_pos c2, lk_low (fun q hq => by have := h.head q hq; omega)]; simp
      · rw [if_neg c2, List.length_cons, ih h.tail]
        split <;> simp
theorem mx_ok {u v : Int} (hu : 0 ≤ u ∧ u ≤ 1099511627776) (hv : 0 ≤ v ∧ v ≤ 1099511627776) : 0 ≤ mx u v ∧ mx u v ≤ 1099511627776 := by unfold mx; split <;> omega
theorem okp_add {l : List P} {x : P} (h : ∀ p ∈ l, okp p) (hx : okp x) : ∀ p ∈ add l x, okp p := by
  intro p hp
  rcases mem_add hp with h1 | rfl | ⟨h1, q, hq, -, h3⟩
  · exact h p h1
  · exact hx
  · refine ⟨by rw [h1]; exact hx.1, ?_⟩
    rw [h3]
    exact mx_ok (h q hq).2 hx.2
theorem asc_prune {l : List P} (h : Asc l) (nw : Int) : Asc (prune l nw) := List.Pairwise.filter _ h
theorem rt_prune {l : List P} (h : Rt l) (nw : Int) : Rt (prune l nw) :=
  ⟨fun p hp => h.ok p (List.mem_filter.1 hp).1, asc_prune h.asc nw, Nat.le_trans (List.length_filter_le _ _) h.len⟩
theorem lk_prune {l : List P} (h : Asc l) (nw t : Int) : lk (prune l nw) t = match lk l t with | none => none | some u => if nw ≤ u then some u else none := by
  induction l with
  | nil => rfl
  | cons y l ih =>
    unfold prune at ih ⊢
    rw [List.filter_cons, lk_cons]
    by_cases c : y.1 = t
    · rw [if_pos c]
      by_cases d : nw ≤ y.2
      · rw [if_pos (by simp [d]), lk_cons, if_pos c]; simp only; rw [if_pos d]
      · rw [if_neg (by simp [d]), ih h.tail, lk_low (fun q hq => by have := h.head q hq; omega)]
        simp only
        rw [if_neg d]
    · rw [if_neg c]
      by_cases d : nw ≤ y.2
      · rw [if_pos (by simp [d]), lk_cons, if_neg c, ih h.tail]
      · rw [if_neg (by simp [d]), ih h.tail]
theorem has_prune {l : List P} (h : Asc l) (nw t : Int) : has (prune l nw) t nw = has l t nw := by
  unfold has
  rw [lk_prune h]
  cases lk l t with
  | none => rfl
  | some u =>
    simp only
    by_cases d : nw ≤ u
    · simp [d]
    · simp [d]
/-- What is said of two lists as one. -/
def both (a b : Option Int) : Option Int := match a, b with
  | none, b => b
  | some u, none => some u
  | some u, some v => some (mx u v)
theorem mx_assoc (u v w : Int) : mx (mx u v) w = mx u (mx v w) := by unfold mx; repeat (split <;> try omega)
theorem asc_adds {a b : List P} (ha : Asc a) : Asc (adds a b) := by
  unfold adds
  induction b generalizing a with
  | nil => exact ha
  | cons x b ih => exact ih (asc_add ha x)
theorem lk_adds {a b : List P} (ha : Asc a) (hb : Asc b) (t : Int) : lk (adds a b) t = both (lk a t) (lk b t) := by
  unfold adds
  induction b generalizing a with
  | nil => simp only [List.foldl_nil, lk_nil]; cases lk a t <;> rfl
  | cons x b ih =>
    rw [List.foldl_cons, ih (asc_add ha x) hb.tail, lk_add a x ha, lk_cons]
    by_cases c : t = x.1
    · subst c
      rw [if_pos rfl, if_pos rfl, lk_low (fun q hq => hb.head q hq)]
      cases lk a x.1 <;> rfl
    · rw [if_neg c, if_neg (fun e => c e.symm)]
theorem okp_adds {a b : List P} (ha : ∀ p ∈ a, okp p) (hb : ∀ p ∈ b, okp p) : ∀ p ∈ adds a b, okp p := by
  unfold adds
  induction b generalizing a with
  | nil => exact ha
  | cons x b ih => exact ih (okp_add ha (hb x (by simp))) (fun p hp => hb p (by simp [hp]))
theorem len_adds {a b : List P} (ha : Asc a) : (adds a b).length ≤ a.length + b.length := by
  unfold adds
  induction b generalizing a with
  | nil => simp
  | cons x b ih =>
    rw [List.foldl_cons]
    have h1 := ih (asc_add ha x)
    have h2 := len_add ha x
    rw [List.length_cons]
    split at h2 <;> omega
theorem rt_adds {a b : List P} (ha : Rt a) (hb : Rt b) (hl : a.length + b.length ≤ 4096) : Rt (adds a b) :=
  ⟨okp_adds ha.ok hb.ok, asc_adds ha.asc, Nat.le_trans (len_adds ha.asc) hl⟩
theorem has_adds {a b : List P} (ha : Asc a) (hb : Asc b) (t nw : Int) : has (adds a b) t nw = (has a t nw || has b t nw) := by
  unfold has
  rw [lk_adds ha hb]
  cases lk a t with
  | none => cases lk b t <;> rfl
  | some u =>
    cases lk b t with
    | none => simp [both]
    | some v =>
      simp only [both]
      unfold mx
      by_cases c : u < v
      · rw [if_pos c]
        by_cases d : nw ≤ v
        · simp [d]
        · have : ¬ nw ≤ u := by omega
          simp [d, this]
      · rw [if_neg c]
        by_cases d : nw ≤ u
        · simp [d]
        · have : ¬ nw ≤ v := by omega
          simp [d, this]
theorem has_add {l : List P} {x : P} (h : Asc l) : has (add l x) x.1 x.2 = true := by
  unfold has
  rw [lk_add l x h, if_pos rfl]
  cases lk l x.1 with
  | none => simp
  | some u => simp only; unfold mx; split <;> simp <;> omega
/-- Two lists as one, step by step. -/
def mg : List P → List P → List P
  | [], b => b
  | x :: a, [] => x :: a
  | x :: a, y :: b => if x.1 < y.1 then x :: mg a (y :: b) else if y.1 < x.1 then y :: mg (x :: a) b else (x.1, mx x.2 y.2) :: mg a b
termination_by a b => a.length + b.length
theorem mem_mg : ∀ (a b : List P) {p : P}, p ∈ mg a b → ∃ q, (q ∈ a ∨ q ∈ b) ∧ q.1 = p.1
  | [], b, p, hp => by unfold mg at hp; exact ⟨p, .inr hp, rfl⟩
  | x :: a, [], p, hp => by unfold mg at hp; exact ⟨p, .inl hp, rfl⟩
  | x :: a, y :: b, p, hp => by
    unfold mg at hp
    by_cases c : x.1 < y.1
    · rw [if_pos c] at hp
      rcases List.mem_cons.1 hp with rfl | hp
      · exact ⟨p, .inl (by simp), rfl⟩
      · obtain ⟨q, h1 | h1, h2⟩ := mem_mg a (y :: b) hp
        · exact ⟨q, .inl (by simp [h1]), h2⟩
        · exact ⟨q, .inr h1, h2⟩
    · rw [if_neg c] at hp
      by_cases d : y.1 < x.1
      · rw [if_pos d] at hp
        rcases List.mem_cons.1 hp with rfl | hp
        · exact ⟨p, .inr (by simp), rfl⟩
        · obtain ⟨q, h1 | h1, h2⟩ := mem_mg (x :: a) b hp
          · exact ⟨q, .inl h1, h2⟩
          · exact ⟨q, .inr (by simp [h1]), h2⟩
      · rw [if_neg d] at hp
        rcases List.mem_cons.1 hp with rfl | hp
        · exact ⟨x, .inl (by simp), rfl⟩
        · obtain ⟨q, h1 | h1, h2⟩ := mem_mg a b hp
          · exact ⟨q, .inl (by simp [h1]), h2⟩
          · exact ⟨q, .inr (by simp [h1]), h2⟩
termination_by a b => a.length + b.length
theorem asc_mg : ∀ (a b : List P), Asc a → Asc b → Asc (mg a b)
  | [], b, _, hb => by unfold mg; exact hb
  | x :: a, [], ha, _ => by unfold mg; exact ha
  | x :: a, y :: b, ha, hb => by
    unfold mg
    by_cases c : x.1 < y.1
    · rw [if_pos c]
      refine List.pairwise_cons.2 ⟨fun p hp => ?_, asc_mg a (y :: b) ha.tail hb⟩
      obtain ⟨q, h1 | h1, h2⟩ := mem_mg _ _ hp
      · have := ha.head q h1; omega
      · rcases List.mem_cons.1 h1 with rfl | h1
        · omega
        · have := hb.head q h1; omega
    · rw [if_neg c]
      by_cases d : y.1 < x.1
      · rw [if_pos d]
        refine List.pairwise_cons.2 ⟨fun p hp => ?_, asc_mg (x :: a) b ha hb.tail⟩
        obtain ⟨q, h1 | h1, h2⟩ := mem_mg _ _ hp
        · rcases List.mem_cons.1 h1 with rfl | h1
          · omega
          · have := ha.head q h1; omega
        · have := hb.head q h1; omega
      · rw [if_neg d]
        refine List.pairwise_cons.2 ⟨fun p hp => ?_, asc_mg a b ha.tail hb.tail⟩
        obtain ⟨q, h1 | h1, h2⟩ := mem_mg _ _ hp
        · have := ha.head q h1; simp only; omega
        · have := hb.head q h1; simp only; omega
termination_by a b => a.length + b.length
theorem lk_mg : ∀ (a b : List P), Asc a → Asc b → ∀ t, lk (mg a b) t = both (lk a t) (lk b t)
  | [], b, _, _, t => by unfold mg; rfl
  | x :: a, [], _, _, t => by unfold mg; rw [lk_nil]; cases lk (x :: a) t <;> rfl
  | x :: a, y :: b, ha, hb, t => by
    unfold mg
    by_cases c : x.1 < y.1
    · rw [if_pos c, lk_cons, lk_mg a (y :: b) ha.tail hb, lk_cons (p := x)]
      by_cases e : x.1 = t
      · rw [if_pos e, if_pos e, lk_low (l := y :: b) (fun q hq => by
          rcases List.mem_cons.1 hq with rfl | hq
          · omega
          · have := hb.head q hq; omega)]
        rfl
      · rw [if_neg e, if_neg e]
    · rw [if_neg c]
      by_cases d : y.1 < x.1
      · rw [if_pos d, lk_cons, lk_mg (x :: a) b ha hb.tail, lk_cons (p := y)]
        by_cases e : y.1 = t
        · rw [if_pos e, if_pos e, lk_low (l := x :: a) (fun q hq => by
            rcases List.mem_cons.1 hq with rfl | hq
            · omega
            · have := ha.head q hq; omega)]
          rfl
        · rw [if_neg e, if_neg e]
      · rw [if_neg d, lk_cons, lk_mg a b ha.tail hb.tail, lk_cons (p := x), lk_cons (p := y)]
        by_cases e : x.1 = t
        · rw [if_pos e, if_pos e, if_pos (by omega)]
          rfl
        · rw [if_neg (by simpa using e), if_neg e, if_neg (by omega)]
termination_by a b => a.length + b.length
theorem mg_adds {a b : List P} (ha : Asc a) (hb : Asc b) : mg a b = adds a b :=
  ext (asc_mg a b ha hb) (asc_adds ha) (fun t => by rw [lk_mg a b ha hb, lk_adds ha hb])
end Go.Proofs.Ytfmmpmpafgbidaa.Rv

/- Layer 16 (heap): HeapOrders: pairs, their two orders, what is not yet met. -/
import Derived.Test.YthhnemanaciikaaHqO
import Derived.Laws.StructEq
namespace Go.Proofs.Ythhnemanaciikaa.Hq
open Go.RowKit Rec Ints Ge

/-- By the first number, or the other way round. -/
def ltP (t : Bool) (x y : C) : Bool := if t then decide (y.1 < x.1) else decide (x.1 < y.1)
theorem pair_swo (t : Bool) : Swo (ltP t) where
  irrefl x := by unfold ltP; cases t <;> simp
  trans x y z h1 h2 := by
    unfold ltP at *
    cases t <;> simp only [Bool.false_eq_true, if_false, if_true, decide_eq_true_eq] at * <;> omega
  ntrans x y z h1 h2 := by
    unfold ltP at *
    cases t <;> simp only [Bool.false_eq_true, if_false, if_true, decide_eq_false_iff_not] at * <;> omega
/-- What the law looks at, and finds right. -/
theorem right_order {t : Bool} {p q : C} (h : ltP t p q = false) (hne : p.1 ≠ q.1) : (decide (q.1 < p.1) == t) = false := by
  unfold ltP at h
  cases t
  · simp only [Bool.false_eq_true, if_false, decide_eq_false_iff_not] at h
    rw [decide_eq_true (by omega)]
    rfl
  · simp only [if_true, decide_eq_false_iff_not] at h
    rw [decide_eq_false (by omega)]
    rfl
/-- What is not met yet. -/
def unm : List C → List Bool → List C
  | p :: l, b :: m => if b then unm l m else p :: unm l m
  | _, _ => []
theorem unm_none : ∀ l : List C, unm l (List.replicate l.length false) = l
  | [] => rfl
  | p :: l => by
    rw [List.length_cons, List.replicate_succ]
    unfold unm
    rw [if_neg (by simp), unm_none l]
theorem unm_set : ∀ {l : List C} {m : List Bool} {k : Nat} {x : C}, l[k]? = some x → m[k]? = some false → (unm l m).Perm (x :: unm l (m.set k true))
  | p :: l, b :: m, 0, x, h1, h2 => by
    simp at h1 h2
    subst h1
    subst h2
    simp only [List.set_cons_zero]
    conv => lhs; unfold unm
    conv => rhs; rw [unm]
    simp
  | p :: l, b :: m, k + 1, x, h1, h2 => by
    simp at h1 h2
    have ih := unm_set h1 h2
    simp only [List.set_cons_succ]
    unfold unm
    cases b
    · simp only [Bool.false_eq_true, if_false]
      exact (ih.cons p).trans (List.Perm.swap x p _)
    · simp only [if_true]
      exact ih
theorem unm_mem : ∀ {l : List C} {m : List Bool} {x : C}, x ∈ unm l m → ∃ k : Nat, l[k]? = some x ∧ m[k]? = some false
  | [], m, x, h => by cases m <;> simp [unm] at h
  | p :: l, [], x, h => by simp [unm] at h
  | p :: l, b :: m, x, h => by
    unfold unm at h
    cases b
    · simp only [Bool.false_eq_true, if_false] at h
      rcases List.mem_cons.1 h with rfl | h
      · exact ⟨0, rfl, rfl⟩
      · obtain ⟨k, h1, h2⟩ := unm_mem h
        exact ⟨k + 1, h1, h2⟩
    · simp only [if_true] at h
      obtain ⟨k, h1, h2⟩ := unm_mem h
      exact ⟨k + 1, h1, h2⟩
/-- How the law looks for it: m0 was met before; f: is it found? -/
def Fnd (l : List C) (m0 : List Bool) (x : C) (k : Nat) (f : Bool) (m : List Bool) : Prop :=
  (f = false ∧ m = m0 ∧ ∀ j, j < k → ¬ (l[j]? = some x ∧ m0[j]? = some false)) ∨ (f = true ∧ ∃ j, l[j]? = some x ∧ m0[j]? = some false ∧ m = m0.set j true)
theorem fnd_start (l : List C) (m0 : List Bool) (x : C) : Fnd l m0 x 0 false m0 := .inl ⟨rfl, rfl, fun j hj => absurd hj (by omega)⟩
theorem fnd_on {l : List C} {m0 m : List Bool} {x : C} {k : Nat} (h : Fnd l m0 x k true m) : Fnd l m0 x (k + 1) true m := by
  rcases h with ⟨h, _⟩ | h
  · cases h
  · exact .inr h
theorem fnd_no {l : List C} {m0 m : List Bool} {x : C} {k : Nat} (h : Fnd l m0 x k false m) (hn : ¬ (l[k]? = some x ∧ m0[k]? = some false)) : Fnd l m0 x (k + 1) false m := by
  rcases h with ⟨_, h2, h3⟩ | ⟨h, _⟩
  · refine .inl ⟨rfl, h2, fun j hj => ?_⟩
    rcases Nat.lt_or_ge j k with h4 | h4
    · exact h3 j h4
    · have : j = k := by omega
      subst this
      exact hn
  · cases h
theorem fnd_yes {l : List C} {m0 m : List Bool} {x : C} {k : Nat} (h : Fnd l m0 x k false m) (h1 : l[k]? = some x) (h2 : m0[k]? = some false) : Fnd l m0 x (k + 1) true (m.set k true) := by
  rcases h with ⟨_, rfl, _⟩ | ⟨h, _⟩
  · exact .inr ⟨rfl, k, h1, h2, rfl⟩
  · cases h
theorem fnd_same {l : List C} {m0 m : List Bool} {x : C} {k : Nat} (h : Fnd l m0 x k false m) : m = m0 := by
  rcases h with ⟨_, h, _⟩ | ⟨h, _⟩
  · exact h
  · cases h
theorem fnd_end {l : List C} {m0 m : List Bool} {x : C} {f : Bool} {L : List C} (h : Fnd l m0 x l.length f m) (hx : (x :: L).Perm (unm l m0)) : f = true ∧ L.Perm (unm l m) := by
  rcases h with ⟨_, _, h3⟩ | ⟨h1, j, h2, h3, rfl⟩
  · obtain ⟨k, h4, h5⟩ := unm_mem (hx.mem_iff.1 List.mem_cons_self)
    exact absurd ⟨h4, h5⟩ (h3 k (List.getElem?_eq_some_iff.1 h4).1)
  · exact ⟨h1, List.Perm.cons_inv (hx.trans (unm_set h2 h3))⟩

theorem eq_pair (p q : C) (w : World) : (binOp .eql 39 (.agg #[.int .i64 p.1, .int .i64 p.2]) (.agg #[.int .i64 q.1, .int .i64 q.2])).run Try.prog w = .ok (.bool (decide (p = q))) w := by
  have u3 := Try.underlying3
  have a3 := Try.isAgg3
  have z3 := Try.sizeOf3
  have hS : Try.prog.underlying 39 = some (.struct (Try.prog.fieldsOf 39)) := by kernel_rfl
  have hp : Try.prog.stoodInHeld 39 = false := by kernel_rfl
  obtain ⟨a, b⟩ := p
  obtain ⟨c, d⟩ := q
  simp only
  rw [run_eql_struct, show (10000 : Nat) = 9999 + 1 from rfl, run_equalIn_agg w 9999 39 _ _ hS hp]
  simp only [Program.fieldsOf, Try.underlying39]
  go_simp
  by_cases h1 : a = c <;> by_cases h2 : b = d <;> simp [h1, h2]

set_option maxHeartbeats 800000 in
set_option maxRecDepth 100000 in
theorem orders_less (t : Bool) (g : Nat) (x y : C) (w : World) (hg : w.cell? ⟨g, 0, none⟩ = some (.bool t)) (hlt : g < w.heap.size) :
    Calls Try.prog 21 (#[pl x, pl y] ++ #[.pointer (some ⟨g, 0, none⟩)]) w fun e w' => e = .returned (.bool (ltP t x y)) ∧ Below w.heap.size w w' := by
  obtain ⟨x1, x2⟩ := x
  obtain ⟨y1, y2⟩ := y
  show Calls Try.prog 21 #[.agg #[.int .i64 x1, .int .i64 x2], .agg #[.int .i64 y1, .int .i64 y2], .pointer (some ⟨g, 0, none⟩)] w _
  have HB := Lib.hid (((Below.refl w.heap.size w).alloc (Nat.le_refl _) (.cells #[.int .i64 x1, .int .i64 x2] 39)).alloc (by simp) (.cells #[.int .i64 y1, .int .i64 y2] 39))
  have hc : ((w.alloc (.cells #[.int .i64 x1, .int .i64 x2] 39)).alloc (.cells #[.int .i64 y1, .int .i64 y2] 39)).cell? ⟨g, 0, none⟩ = some (.bool t) := (HB.out.cell hlt).trans hg
  cases t with
  | true =>
    go_enter Try.func21, Try.ntmps21
    go_wp2
    go_ret
    exact ⟨rfl, HB.out⟩
  | false =>
    go_enter Try.func21, Try.ntmps21
    go_wp2
    go_ret
    exact ⟨rfl, HB.out⟩
end Go.Proofs.Ythhnemanaciikaa.Hq

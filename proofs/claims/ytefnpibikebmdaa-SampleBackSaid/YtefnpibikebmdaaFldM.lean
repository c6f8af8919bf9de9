/- Plain mathematics of layer 3's Reader: what a field reads as; no program is named here. -/
import Derived.Test.YtefnpibikebmdaaVarM
namespace Go.Proofs.Ytefnpibikebmdaa.Fld
open Var

/-- Is an absolute value above what may be? -/
def abv (n : Nat) (most : Int) : Bool := decide (most < 0) || decide (most < (n : Int)) || decide (4611686018427387904 < n)

theorem abv_no {n : Nat} {most : Int} (h : abv n most = false) : 0 ≤ most ∧ (n : Int) ≤ most ∧ n ≤ 4611686018427387904 := by
  unfold abv at h
  simp only [Bool.or_eq_false_iff, decide_eq_false_iff_not] at h
  omega

/-- The next number: its value, its size, the error. -/
def nxt (xs : List Int) (most : Int) : Int × Nat × Nat :=
  if (take 0 0 xs).2.2 ≠ 0 then (0, 0, (take 0 0 xs).2.2)
  else if abv (take 0 0 xs).1 most then (0, 0, 3)
  else ((take 0 0 xs).1, (take 0 0 xs).2.1, 0)

/-- The next signed number. -/
def nxs (xs : List Int) (most : Int) : Int × Nat × Nat :=
  if (take 0 0 xs).2.2 ≠ 0 then (0, 0, (take 0 0 xs).2.2)
  else if abv (back (take 0 0 xs).1).natAbs most then (0, 0, 3)
  else (back (take 0 0 xs).1, (take 0 0 xs).2.1, 0)

/-- The next byte. -/
def nxb : List Int → Int × Nat × Nat
  | [] => (0, 0, 10)
  | x :: _ => (x, 1, 0)

/-- The next bytes. -/
def nxl (xs : List Int) (most : Int) : List Int × Nat × Nat :=
  if (nxt xs most).2.2 ≠ 0 then ([], 0, (nxt xs most).2.2)
  else if (xs.length : Int) - (nxt xs most).2.1 < (nxt xs most).1 then ([], 0, 10)
  else ((xs.drop (nxt xs most).2.1).take (nxt xs most).1.toNat, (nxt xs most).2.1 + (nxt xs most).1.toNat, 0)

theorem take_lim : ∀ (xs : List Int) (i X : Nat), (∀ x ∈ xs, 0 ≤ x ∧ x ≤ 255) → X < 128 ^ i → i ≤ 9 → (take X i xs).1 < 18446744073709551616
  | [], i, X, _, _, _ => by simp [take]
  | c :: cs, i, X, hb, hX, hi => by
    have hc := hb c (by simp)
    have hcs : ∀ x ∈ cs, 0 ≤ x ∧ x ≤ 255 := fun x hx => hb x (by simp [hx])
    by_cases e1 : i = 9 ∧ 1 < c
    · simp [take, if_pos e1]
    have hm : c.toNat % 128 ≤ 127 := by omega
    have h1 : X + c.toNat % 128 * 128 ^ i < 128 ^ (i + 1) := by
      have := Nat.mul_le_mul_right (128 ^ i) hm
      rw [Nat.pow_succ]
      omega
    have h2 : X + c.toNat % 128 * 128 ^ i < 18446744073709551616 := by
      by_cases e : i = 9
      · subst e
        have hd : c.toNat % 128 ≤ 1 := by omega
        have := Nat.mul_le_mul_right (128 ^ 9) hd
        omega
      · have : 128 ^ (i + 1) ≤ 128 ^ 9 := Nat.pow_le_pow_right (by omega) (by omega)
        omega
    by_cases e2 : c < 128
    · by_cases e3 : c = 0 ∧ 0 < i
      · simp [take, if_pos e2, if_pos e3]
      · simp only [take, if_neg e1, if_pos e2, if_neg e3]
        exact h2
    · have hv : take X i (c :: cs) = take (X + c.toNat % 128 * 128 ^ i) (i + 1) cs := by simp [take, if_neg e1, if_neg e2]
      rw [hv]
      exact take_lim cs (i + 1) _ hcs h1 (by omega)

theorem take64 {xs : List Int} (hb : ∀ x ∈ xs, 0 ≤ x ∧ x ≤ 255) : (take 0 0 xs).1 < 18446744073709551616 := take_lim xs 0 0 hb (by simp) (by omega)
theorem take_size {xs : List Int} (hb : ∀ x ∈ xs, 0 ≤ x ∧ x ≤ 255) (h : (take 0 0 xs).2.2 = 0) : 0 < (take 0 0 xs).2.1 ∧ (take 0 0 xs).2.1 ≤ xs.length := by
  obtain ⟨m, _, _, h3, h4, _⟩ := put_take xs 0 0 hb h
  omega
theorem take_err (xs : List Int) (i X : Nat) : (take X i xs).2.2 = 0 ∨ (take X i xs).2.2 = 10 ∨ (take X i xs).2.2 = 11 := by
  induction xs generalizing i X with
  | nil => simp [take]
  | cons c cs ih =>
    simp only [take]
    split
    · simp
    · split
      · split <;> simp
      · exact ih _ _
theorem nxt_ok {xs : List Int} {most : Int} (hb : ∀ x ∈ xs, 0 ≤ x ∧ x ≤ 255) (h : (nxt xs most).2.2 = 0) : 0 < (nxt xs most).2.1 ∧ (nxt xs most).2.1 ≤ xs.length ∧ 0 ≤ (nxt xs most).1 ∧ (nxt xs most).1 ≤ 4611686018427387904 := by
  unfold nxt at h ⊢
  by_cases he : (take 0 0 xs).2.2 ≠ 0
  · rw [if_pos he] at h
    exact absurd h he
  · rw [if_neg he] at h ⊢
    cases ha : abv (take 0 0 xs).1 most with
    | true => rw [ha] at h; simp at h
    | false =>
      have h1 := abv_no ha
      have h2 := take_size hb (by omega)
      simp only [Bool.false_eq_true, if_false]
      omega
theorem nxs_ok {xs : List Int} {most : Int} (hb : ∀ x ∈ xs, 0 ≤ x ∧ x ≤ 255) (h : (nxs xs most).2.2 = 0) : 0 < (nxs xs most).2.1 ∧ (nxs xs most).2.1 ≤ xs.length := by
  unfold nxs at h ⊢
  by_cases he : (take 0 0 xs).2.2 ≠ 0
  · rw [if_pos he] at h
    exact absurd h he
  · rw [if_neg he] at h ⊢
    cases ha : abv (back (take 0 0 xs).1).natAbs most with
    | true => rw [ha] at h; simp at h
    | false =>
      have h2 := take_size hb (by omega)
      simp only [Bool.false_eq_true, if_false]
      omega
theorem nxb_ok {xs : List Int} (h : (nxb xs).2.2 = 0) : 0 < (nxb xs).2.1 ∧ (nxb xs).2.1 ≤ xs.length := by
  cases xs with
  | nil => simp [nxb] at h
  | cons x xs => simp [nxb]
theorem nxl_ok {xs : List Int} {most : Int} (hb : ∀ x ∈ xs, 0 ≤ x ∧ x ≤ 255) (h : (nxl xs most).2.2 = 0) : 0 < (nxl xs most).2.1 ∧ (nxl xs most).2.1 ≤ xs.length := by
  unfold nxl at h ⊢
  by_cases he : (nxt xs most).2.2 ≠ 0
  · rw [if_pos he] at h
    exact absurd h he
  · rw [if_neg he] at h ⊢
    obtain ⟨h1, h2, h3, _⟩ := nxt_ok (most := most) hb (by omega)
    by_cases hx : (xs.length : Int) - (nxt xs most).2.1 < (nxt xs most).1
    · rw [if_pos hx] at h
      simp at h
    · rw [if_neg hx]
      simp only
      omega
end Go.Proofs.Ytefnpibikebmdaa.Fld

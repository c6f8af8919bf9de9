/- Plain mathematics of layer 1 (varint): a number's bytes, what bytes begin with, and that the two are inverse; no program is named here. -/
import Derived.WalkKit
namespace Go.Proofs.Ytefnpibikebmdaa.Var

/-- A number's bytes, least significant seven bits first. -/
def put (n : Nat) : List Int := if n < 128 then [(n : Int)] else (((n % 128 : Nat) : Int) + 128) :: put (n / 128)
  termination_by n
  decreasing_by omega

theorem put_last {n : Nat} (h : n < 128) : put n = [(n : Int)] := by rw [put, if_pos h]
theorem put_more {n : Nat} (h : ¬ n < 128) : put n = (((n % 128 : Nat) : Int) + 128) :: put (n / 128) := by rw [put, if_neg h]

theorem put_pos (n : Nat) : 1 ≤ (put n).length := by
  rw [put]; split <;> simp

theorem put_len : ∀ (k n : Nat), n < 128 ^ (k + 1) → (put n).length ≤ k + 1
  | 0, n, h => by rw [put_last (by simpa using h)]; simp
  | k + 1, n, h => by
    by_cases hn : n < 128
    · rw [put_last hn]; simp
    · rw [put_more hn]
      have : n / 128 < 128 ^ (k + 1) := by
        rw [Nat.pow_succ] at h
        exact Nat.div_lt_of_lt_mul (by rw [Nat.mul_comm]; exact h)
      have := put_len k (n / 128) this
      simp; omega

theorem put_len10 {n : Nat} (h : n < 18446744073709551616) : (put n).length ≤ 10 := put_len 9 n (by omega)

theorem put_byte : ∀ (n : Nat) (x : Int), x ∈ put n → 0 ≤ x ∧ x ≤ 255 := by
  intro n
  induction n using Nat.strongRecOn with
  | ind n ih =>
    intro x hx
    by_cases hn : n < 128
    · rw [put_last hn] at hx
      simp at hx
      omega
    · rw [put_more hn] at hx
      rcases List.mem_cons.1 hx with rfl | hx
      · omega
      · exact ih (n / 128) (by omega) x hx

/-- What bytes begin with, from the i-th byte on, X being what was read: the number, how many bytes, the error. -/
def take (X i : Nat) : List Int → Nat × Nat × Nat
  | [] => (0, 0, 10)
  | c :: cs =>
    if i = 9 ∧ 1 < c then (0, 0, 11)
    else if c < 128 then (if c = 0 ∧ 0 < i then (0, 0, 11) else (X + c.toNat % 128 * 128 ^ i, i + 1, 0))
    else take (X + c.toNat % 128 * 128 ^ i) (i + 1) cs

theorem take_put : ∀ (m i X : Nat) (b : List Int), m * 128 ^ i < 18446744073709551616 → i ≤ 9 → (m ≠ 0 ∨ i = 0) →
    take X i (put m ++ b) = (X + m * 128 ^ i, i + (put m).length, 0) := by
  intro m
  induction m using Nat.strongRecOn with
  | ind m ih =>
    intro i X b h hi h0
    have h9 : i = 9 → m < 2 := by
      rintro rfl
      have : m * 128 ^ 9 < 2 * 128 ^ 9 := by omega
      exact Nat.lt_of_mul_lt_mul_right this
    by_cases hm : m < 128
    · rw [put_last hm]
      have e1 : ¬ (i = 9 ∧ (1 : Int) < (m : Int)) := by
        rintro ⟨a, b⟩
        have := h9 a
        omega
      have e2 : (m : Int) < 128 := by omega
      have e3 : ¬ ((m : Int) = 0 ∧ 0 < i) := by omega
      have e4 : (m : Int).toNat % 128 = m := by omega
      simp only [List.cons_append, List.nil_append, take, if_neg e1, if_pos e2, if_neg e3, e4, List.length_singleton]
    · have hi9 : i ≠ 9 := fun h => by have := h9 h; omega
      rw [put_more hm]
      have e1 : ¬ (i = 9 ∧ (1 : Int) < ((m % 128 : Nat) : Int) + 128) := fun h => hi9 h.1
      have e2 : ¬ (((m % 128 : Nat) : Int) + 128 < 128) := by omega
      have e4 : (((m % 128 : Nat) : Int) + 128).toNat % 128 = m % 128 := by omega
      have hd : m / 128 * 128 ^ (i + 1) ≤ m * 128 ^ i := by
        rw [Nat.pow_succ, Nat.mul_comm (128 ^ i), ← Nat.mul_assoc]
        exact Nat.mul_le_mul_right _ (Nat.div_mul_le_self m 128)
      have hr := ih (m / 128) (by omega) (i + 1) (X + m % 128 * 128 ^ i) b (by omega) (by omega) (Or.inl (by omega))
      simp only [List.cons_append, take, if_neg e1, if_neg e2, e4, hr, List.length_cons, Prod.mk.injEq, and_true]
      refine ⟨?_, by omega⟩
      have hs : m % 128 * 128 ^ i + m / 128 * 128 ^ (i + 1) = m * 128 ^ i := by
        rw [Nat.pow_succ, Nat.mul_comm (128 ^ i), ← Nat.mul_assoc, ← Nat.add_mul]
        congr 1
        omega
      omega

/-- What is taken is put so again. -/
theorem put_take : ∀ (b : List Int) (i X : Nat), (∀ x ∈ b, 0 ≤ x ∧ x ≤ 255) → (take X i b).2.2 = 0 →
    ∃ m, (take X i b).1 = X + m * 128 ^ i ∧ (m ≠ 0 ∨ i = 0) ∧ i < (take X i b).2.1 ∧ (take X i b).2.1 ≤ i + b.length ∧ put m = b.take ((take X i b).2.1 - i)
  | [], i, X, _, h => by simp [take] at h
  | c :: cs, i, X, hb, h => by
    have hc := hb c (by simp)
    have hcs : ∀ x ∈ cs, 0 ≤ x ∧ x ≤ 255 := fun x hx => hb x (by simp [hx])
    by_cases e1 : i = 9 ∧ 1 < c
    · simp [take, if_pos e1] at h
    by_cases e2 : c < 128
    · by_cases e3 : c = 0 ∧ 0 < i
      · simp [take, if_pos e2, if_pos e3] at h
      · have hv : take X i (c :: cs) = (X + c.toNat % 128 * 128 ^ i, i + 1, 0) := by simp [take, if_neg e1, if_pos e2, if_neg e3]
        rw [hv]
        refine ⟨c.toNat, ?_, by omega, by simp, by simp, ?_⟩
        · simp [Nat.mod_eq_of_lt (show c.toNat < 128 by omega)]
        · rw [put_last (by omega)]
          simp
          omega
    · have hv : take X i (c :: cs) = take (X + c.toNat % 128 * 128 ^ i) (i + 1) cs := by simp [take, if_neg e1, if_neg e2]
      rw [hv] at h ⊢
      obtain ⟨m, h1, h2, h3, h4, h5⟩ := put_take cs (i + 1) (X + c.toNat % 128 * 128 ^ i) hcs h
      have hm : m ≠ 0 := by omega
      refine ⟨c.toNat % 128 + 128 * m, ?_, by omega, by omega, by simp; omega, ?_⟩
      · rw [h1, Nat.add_mul, Nat.pow_succ, Nat.mul_comm (128 ^ i), ← Nat.mul_assoc, Nat.mul_comm m 128]
        omega
      · rw [put_more (by omega)]
        have a1 : (c.toNat % 128 + 128 * m) / 128 = m := by omega
        have a2 : (((c.toNat % 128 + 128 * m) % 128 : Nat) : Int) + 128 = c := by omega
        rw [a1, a2, h5]
        obtain ⟨d, hd⟩ : ∃ d, (take (X + c.toNat % 128 * 128 ^ i) (i + 1) cs).2.1 - i = d + 1 := ⟨(take (X + c.toNat % 128 * 128 ^ i) (i + 1) cs).2.1 - i - 1, by omega⟩
        rw [hd, List.take_succ_cons]
        congr 2
        omega

theorem take_fails : ∀ (b : List Int) (i X : Nat), (take X i b).2.2 ≠ 0 → (take X i b).1 = 0 ∧ (take X i b).2.1 = 0
  | [], _, _, _ => by simp [take]
  | c :: cs, i, X, h => by
    by_cases e1 : i = 9 ∧ 1 < c
    · simp [take, if_pos e1]
    by_cases e2 : c < 128
    · by_cases e3 : c = 0 ∧ 0 < i
      · simp [take, if_pos e2, if_pos e3]
      · simp [take, if_neg e1, if_pos e2, if_neg e3] at h
    · have hv : take X i (c :: cs) = take (X + c.toNat % 128 * 128 ^ i) (i + 1) cs := by simp [take, if_neg e1, if_neg e2]
      rw [hv] at h ⊢
      exact take_fails cs _ _ h

/-- The code of a signed number, and back. -/
def turn (n : Int) : Int := if n < 0 then -(n + 1) * 2 + 1 else n * 2
def back (m : Int) : Int := if m % 2 = 1 then -(m / 2) - 1 else m / 2
theorem back_turn (n : Int) : back (turn n) = n := by unfold back turn; split <;> split <;> omega
theorem turn_back {m : Int} (h : 0 ≤ m) : turn (back m) = m := by unfold back turn; split <;> split <;> omega
theorem turn_bd {n : Int} (h1 : -9223372036854775808 ≤ n) (h2 : n ≤ 9223372036854775807) : 0 ≤ turn n ∧ turn n ≤ 18446744073709551615 := by unfold turn; split <;> omega
theorem back_bd {m : Int} (h1 : 0 ≤ m) (h2 : m ≤ 18446744073709551615) : -9223372036854775808 ≤ back m ∧ back m ≤ 9223372036854775807 := by unfold back; split <;> omega

/-- A number below 128^i and a seven-bit group at place i, joined bit by bit, are their sum. -/
theorem or_group (X c i : Nat) (hX : X < 2 ^ (7 * i)) : X ||| c * 2 ^ (7 * i) = X + c * 2 ^ (7 * i) := by
  rw [Nat.or_comm, nat_join (7 * i) (c * 2 ^ (7 * i)) X (Nat.mul_mod_left _ _) hX, Nat.add_comm]
theorem pow7 (i : Nat) : 2 ^ (7 * i) = 128 ^ i := by rw [Nat.pow_mul]
end Go.Proofs.Ytefnpibikebmdaa.Var

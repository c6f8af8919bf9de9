/- Mathematics of layer 2 (crc): the register's step, steps at once by a table, the checksum of a list of bytes, its pieces, one byte turned; a checksum's bytes. -/
import Derived.Laws.BitsAllLaws
namespace Go.Proofs.Ytjdhedjlilmolaa.Crc

def step (r : Nat) : Nat := if r % 2 = 1 then r / 2 ^^^ 3988292384 else r / 2
def steps : Nat → Nat → Nat
  | 0, r => r
  | k + 1, r => step (steps k r)

theorem step_lt {r : Nat} (h : r < 4294967296) : step r < 4294967296 := by
  unfold step
  split
  · exact Nat.xor_lt_two_pow (n := 32) (by omega) (by omega)
  · omega
theorem steps_lt {r : Nat} (h : r < 4294967296) : ∀ k, steps k r < 4294967296
  | 0 => h
  | k + 1 => step_lt (steps_lt h k)
theorem xor_xor_self (a b c : Nat) : (a ^^^ c) ^^^ (b ^^^ c) = a ^^^ b := by
  rw [Nat.xor_comm b c, Nat.xor_assoc, ← Nat.xor_assoc c c b, Nat.xor_self, Nat.zero_xor]
theorem step_xor (a b : Nat) : step (a ^^^ b) = step a ^^^ step b := by
  have h1 : (a ^^^ b) / 2 = a / 2 ^^^ b / 2 := Nat.xor_div_two
  have h2 := Nat.xor_mod_two_eq_one (a := a) (b := b)
  unfold step
  rw [h1]
  by_cases ha : a % 2 = 1 <;> by_cases hb : b % 2 = 1 <;> simp only [ha, hb, h2, iff_true, iff_false, not_true, not_false_iff, if_true, if_false]
  · exact (xor_xor_self _ _ _).symm
  · rw [Nat.xor_assoc, Nat.xor_comm (b / 2), ← Nat.xor_assoc]
  · rw [Nat.xor_assoc]
theorem steps_xor (a b : Nat) : ∀ k, steps k (a ^^^ b) = steps k a ^^^ steps k b
  | 0 => rfl
  | k + 1 => by rw [steps, steps_xor a b k, step_xor]; rfl
theorem step_split (r : Nat) : step r = r / 2 ^^^ step (r % 2) := by
  unfold step
  rcases Nat.mod_two_eq_zero_or_one r with h | h <;> simp [h]
theorem steps_split (k : Nat) : ∀ r, steps k r = r / 2 ^ k ^^^ steps k (r % 2 ^ k) := by
  induction k with
  | zero => intro r; simp [steps, Nat.mod_one]
  | succ k ih =>
    have key : ∀ r, steps (k + 1) r = r / 2 ^ (k + 1) ^^^ (step (r / 2 ^ k % 2) ^^^ steps (k + 1) (r % 2 ^ k)) := fun r => by
      show step (steps k r) = _
      rw [ih r, step_xor, step_split (r / 2 ^ k), Nat.div_div_eq_div_mul, ← Nat.pow_succ, Nat.xor_assoc]
      rfl
    intro r
    rw [key r]
    have h := key (r % 2 ^ (k + 1))
    have h1 : r % 2 ^ (k + 1) / 2 ^ (k + 1) = 0 := Nat.div_eq_of_lt (Nat.mod_lt _ (Nat.two_pow_pos _))
    have h2 : r % 2 ^ (k + 1) / 2 ^ k % 2 = r / 2 ^ k % 2 := by
      rw [Nat.pow_succ, Nat.mod_mul_right_div_self, Nat.mod_mod]
    have h3 : r % 2 ^ (k + 1) % 2 ^ k = r % 2 ^ k := Nat.mod_mod_of_dvd _ ⟨2, Nat.pow_succ _ _⟩
    rw [h1, h2, h3, Nat.zero_xor] at h
    rw [h]
theorem steps4 (r : Nat) : r / 16 ^^^ steps 4 (r % 16) = steps 4 r := (steps_split 4 r).symm
theorem steps8 (r : Nat) : steps 4 (steps 4 r) = steps 8 r := rfl

/-- The document's step: the register's lowest bit against the byte's. -/
def rstep (r x : Nat) : Nat := if r % 2 = x % 2 then r / 2 else r / 2 ^^^ 3988292384
theorem rstep_lt {r x : Nat} (h : r < 4294967296) : rstep r x < 4294967296 := by
  unfold rstep
  split
  · omega
  · exact Nat.xor_lt_two_pow (n := 32) (by omega) (by omega)
theorem step_rstep (r x : Nat) : rstep r x ^^^ (x / 2) = step (r ^^^ x) := by
  have h1 : (r ^^^ x) / 2 = r / 2 ^^^ x / 2 := Nat.xor_div_two
  have h2 := Nat.xor_mod_two_eq_one (a := r) (b := x)
  unfold step rstep
  rw [h1]
  rcases Nat.mod_two_eq_zero_or_one r with ha | ha <;> rcases Nat.mod_two_eq_zero_or_one x with hb | hb <;> simp [ha, hb, h2] <;> rw [Nat.xor_assoc, Nat.xor_comm 3988292384, ← Nat.xor_assoc]

/-- All are bytes. -/
def Bytes (xs : List Int) : Prop := ∀ x ∈ xs, 0 ≤ x ∧ x < 256
theorem Bytes.getD {xs : List Int} (h : Bytes xs) {i : Nat} (hi : i < xs.length) : 0 ≤ xs.getD i 0 ∧ xs.getD i 0 < 256 := by
  rw [List.getD_eq_getElem?_getD, List.getElem?_eq_getElem hi]
  exact h _ (List.getElem_mem hi)

def upd (r : Nat) (x : Int) : Nat := steps 8 (r ^^^ x.toNat)
theorem upd_eq (r : Nat) (x : Int) : upd r x = steps 8 (r ^^^ x.toNat) := by unfold upd; exact Eq.refl _
attribute [irreducible] upd
def crc (r : Nat) (xs : List Int) : Nat := xs.foldl upd r
theorem crc_cons (r : Nat) (x : Int) (xs : List Int) : crc r (x :: xs) = crc (upd r x) xs := by unfold crc; exact List.foldl_cons ..
theorem crc_append (xs ys : List Int) (r : Nat) : crc r (xs ++ ys) = crc (crc r xs) ys := List.foldl_append
theorem upd_lt {r : Nat} {x : Int} (hr : r < 4294967296) (h1 : 0 ≤ x) (h2 : x < 256) : upd r x < 4294967296 := by
  rw [upd_eq]
  exact steps_lt (Nat.xor_lt_two_pow (n := 32) hr (by omega)) 8
theorem crc_lt : ∀ {xs : List Int} {r : Nat}, r < 4294967296 → Bytes xs → crc r xs < 4294967296
  | [], _, hr, _ => hr
  | x :: xs, _, hr, hb => crc_lt (xs := xs) (upd_lt hr (hb x (by simp)).1 (hb x (by simp)).2) (fun y hy => hb y (by simp [hy]))
theorem crc_drop {xs : List Int} {i : Nat} (hi : i < xs.length) (r : Nat) : crc r (xs.drop i) = crc (upd r (xs.getD i 0)) (xs.drop (i + 1)) := by
  have h : xs.getD i 0 = xs[i] := by simp [List.getD, hi]
  have h2 : xs.drop i = xs.getD i 0 :: xs.drop (i + 1) := by rw [h]; exact List.drop_eq_getElem_cons hi
  generalize xs.getD i 0 = x at *
  generalize xs.drop (i + 1) = ys at *
  rw [h2]
  exact crc_cons _ _ _

theorem step_inj {a b : Nat} (ha : a < 4294967296) (hb : b < 4294967296) (h : step a = step b) : a = b := by
  have no : ∀ x y : Nat, x < 2147483648 → y < 2147483648 → x ^^^ 3988292384 = y → False := fun x y hx hy e => by
    have h1 : x ^^^ y = 3988292384 := by rw [← e, ← Nat.xor_assoc, Nat.xor_self, Nat.zero_xor]
    have h2 : x ^^^ y < 2 ^ 31 := Nat.xor_lt_two_pow (by omega) (by omega)
    omega
  unfold step at h
  split at h <;> split at h
  · have h2 := congrArg (· ^^^ 3988292384) h
    simp only [Nat.xor_assoc, Nat.xor_self, Nat.xor_zero] at h2
    omega
  · exact (no _ _ (by omega) (by omega) h).elim
  · exact (no _ _ (by omega) (by omega) h.symm).elim
  · omega
theorem steps_inj {a b : Nat} (ha : a < 4294967296) (hb : b < 4294967296) : ∀ k, steps k a = steps k b → a = b
  | 0, h => h
  | k + 1, h => steps_inj ha hb k (step_inj (steps_lt ha k) (steps_lt hb k) h)
theorem xor_right_inj {a b c : Nat} (h : a ^^^ c = b ^^^ c) : a = b := by
  have h2 := congrArg (· ^^^ c) h
  simpa only [Nat.xor_assoc, Nat.xor_self, Nat.xor_zero] using h2
theorem xor_left_inj {a b c : Nat} (h : c ^^^ a = c ^^^ b) : a = b := xor_right_inj (c := c) (by rw [Nat.xor_comm a, Nat.xor_comm b, h])
theorem upd_inj {a b : Nat} {x y : Int} (ha : a < 4294967296) (hb : b < 4294967296) (hx : 0 ≤ x ∧ x < 256) (hy : 0 ≤ y ∧ y < 256) (h : upd a x = upd b y) : a ^^^ x.toNat = b ^^^ y.toNat := by
  rw [upd_eq, upd_eq] at h
  exact steps_inj (Nat.xor_lt_two_pow (n := 32) ha (by omega)) (Nat.xor_lt_two_pow (n := 32) hb (by omega)) 8 h
theorem crc_inj : ∀ {xs : List Int} {a b : Nat}, a < 4294967296 → b < 4294967296 → Bytes xs → crc a xs = crc b xs → a = b
  | [], _, _, _, _, _, h => h
  | x :: xs, a, b, ha, hb, hx, h => by
    have h0 := hx x (by simp)
    exact xor_right_inj (upd_inj ha hb h0 h0 (crc_inj (xs := xs) (upd_lt ha h0.1 h0.2) (upd_lt hb h0.1 h0.2) (fun y hy => hx y (by simp [hy])) h))
/-- One byte turned: another checksum. -/
theorem crc_turn : ∀ {xs : List Int} {i r : Nat} {y : Int}, r < 4294967296 → Bytes xs → i < xs.length → 0 ≤ y ∧ y < 256 → y ≠ xs.getD i 0 → crc r (xs.set i y) ≠ crc r xs
  | [], _, _, _, _, _, hi, _, _, _ => absurd hi (by simp)
  | x :: xs, 0, r, y, hr, hx, _, hy, hne, h => by
    have h0 := hx x (by simp)
    have e := crc_inj (xs := xs) (upd_lt hr hy.1 hy.2) (upd_lt hr h0.1 h0.2) (fun y hy => hx y (by simp [hy])) h
    have e2 := xor_left_inj (upd_inj hr hr hy h0 e)
    exact hne (by simp; omega)
  | x :: xs, i + 1, r, y, hr, hx, hi, hy, hne, h => by
    have h0 := hx x (by simp)
    exact crc_turn (xs := xs) (i := i) (upd_lt hr h0.1 h0.2) (fun y hy => hx y (by simp [hy])) (by simpa using hi) hy (by simpa using hne) h

def inv (r : Nat) : Nat := 4294967295 - r
theorem inv_lt (r : Nat) : inv r < 4294967296 := by unfold inv; omega
theorem inv_inv {r : Nat} (h : r < 4294967296) : inv (inv r) = r := by unfold inv; omega
theorem inv_xor {r : Nat} (h : r < 4294967296) : 4294967295 ^^^ r = inv r := by
  have h1 : (BitVec.allOnes 32 ^^^ BitVec.ofNat 32 r).toNat = (~~~ BitVec.ofNat 32 r).toNat := by rw [BitVec.allOnes_xor]
  rw [BitVec.toNat_xor, BitVec.toNat_not, BitVec.toNat_allOnes, BitVec.toNat_ofNat, Nat.mod_eq_of_lt h] at h1
  unfold inv
  omega
theorem not_u32 {r : Nat} (h : r < 4294967296) : bits .xor .u32 IntKind.u32.max (r : Int) = ((inv r : Nat) : Int) := by
  rw [← inv_xor h]
  show bits .xor .u32 4294967295 (r : Int) = _
  exact u32_xor_nat 4294967295 r (by omega) h

/-- The checksum. -/
def sum (xs : List Int) : Nat := inv (crc 4294967295 xs)
def more (s : Nat) (xs : List Int) : Nat := inv (crc (inv s) xs)
theorem sum_more (xs : List Int) : more 0 xs = sum xs := rfl
theorem sum_lt (xs : List Int) : sum xs < 4294967296 := inv_lt _
theorem more_sum {xs ys : List Int} (hx : Bytes xs) : more (sum xs) ys = sum (xs ++ ys) := by
  unfold more sum
  rw [inv_inv (crc_lt (by omega) hx), crc_append]
theorem Bytes.append {xs ys : List Int} (h : Bytes xs) (h' : Bytes ys) : Bytes (xs ++ ys) := fun x hx => by
  rcases List.mem_append.1 hx with h1 | h1
  · exact h x h1
  · exact h' x h1
theorem Bytes.set {xs : List Int} (h : Bytes xs) (i : Nat) {y : Int} (hy : 0 ≤ y ∧ y < 256) : Bytes (xs.set i y) := fun x hx => by
  rcases List.mem_or_eq_of_mem_set hx with h1 | h1
  · exact h x h1
  · subst h1; exact hy
theorem sum_turn {xs : List Int} {i : Nat} {y : Int} (hx : Bytes xs) (hi : i < xs.length) (hy : 0 ≤ y ∧ y < 256) (hne : y ≠ xs.getD i 0) : sum (xs.set i y) ≠ sum xs := fun h => by
  have h1 := crc_lt (r := 4294967295) (by omega) hx
  have h2 := crc_lt (r := 4294967295) (by omega) (hx.set i hy)
  refine crc_turn (r := 4294967295) (by omega) hx hi hy hne ?_
  unfold sum inv at h
  omega
theorem sum_known : sum [49, 50, 51, 52, 53, 54, 55, 56, 57] = 3421780262 := by decide +kernel

/-- A number's lowest bytes. -/
def byts : Nat → Nat → List Int
  | 0, _ => []
  | k + 1, n => ((n % 256 : Nat) : Int) :: byts k (n / 256)
theorem byts_len : ∀ k n, (byts k n).length = k
  | 0, _ => rfl
  | k + 1, n => by simp [byts, byts_len k]
theorem byts_bytes : ∀ k n, Bytes (byts k n)
  | 0, _ => fun x hx => by simp [byts] at hx
  | k + 1, n => fun x hx => by
    rcases List.mem_cons.1 hx with rfl | h
    · omega
    · exact byts_bytes k _ x h

/-- The table: what four steps make of each value of the lowest four bits. -/
def tab (i : Nat) : List Int := (List.range 16).map fun j => if j < i then ((steps 4 j : Nat) : Int) else 0
end Go.Proofs.Ytjdhedjlilmolaa.Crc

/- Lemmas that the proof stands on, in build order: CrcM FrmM. -/
import Derived.Laws.BitsAllLaws
import Derived.Test.YtdgaaghkhkklpaaJ63e688c
/- Mathematics of layer 2 (crc): the register's step, steps at once by a table, the checksum of a list of bytes, its pieces, one byte turned; a checksum's bytes. -/
namespace Go.Proofs.Ytdgaaghkhkklpaa.Crc

def step (r : Nat) : Nat := if r % 2 = 1 then r / 2 ^^^ 3988292384 else r / 2
def steps : Nat → Nat → Nat
  | 0, r => r
  | k + 1, r => step (steps k r)

theorem step_lt {r : Nat} (h : r < 4294967296) : step r < 4294967296 := by
  unfold step
  split
  · exact Nat.xor_lt_two_pow (n := 32) (by omega) (by omega)
  · omega
theorem steps_lt {r : Nat} (h : r < 4294967296) : ∀ k, steps k r < 4294967296
  | 0 => h
  | k + 1 => step_lt (steps_lt h k)
theorem xor_xor_self (a b c : Nat) : (a ^^^ c) ^^^ (b ^^^ c) = a ^^^ b := by
  rw [Nat.xor_comm b c, Nat.xor_assoc, ← Nat.xor_assoc c c b, Nat.xor_self, Nat.zero_xor]
theorem step_xor (a b : Nat) : step (a ^^^ b) = step a ^^^ step b := by
  have h1 : (a ^^^ b) / 2 = a / 2 ^^^ b / 2 := Nat.xor_div_two
  have h2 := Nat.xor_mod_two_eq_one (a := a) (b := b)
  unfold step
  rw [h1]
  by_cases ha : a % 2 = 1 <;> by_cases hb : b % 2 = 1 <;> simp only [ha, hb, h2, iff_true, iff_false, not_true, not_false_iff, if_true, if_false]
  · exact (xor_xor_self _ _ _).symm
  · rw [Nat.xor_assoc, Nat.xor_comm (b / 2), ← Nat.xor_assoc]
  · rw [Nat.xor_assoc]
theorem steps_xor (a b : Nat) : ∀ k, steps k (a ^^^ b) = steps k a ^^^ steps k b
  | 0 => rfl
  | k + 1 => by rw [steps, steps_xor a b k, step_xor]; rfl
theorem step_split (r : Nat) : step r = r / 2 ^^^ step (r % 2) := by
  unfold step
  rcases Nat.mod_two_eq_zero_or_one r with h | h <;> simp [h]
theorem steps_split (k : Nat) : ∀ r, steps k r = r / 2 ^ k ^^^ steps k (r % 2 ^ k) := by
  induction k with
  | zero => intro r; simp [steps, Nat.mod_one]
  | succ k ih =>
    have key : ∀ r, steps (k + 1) r = r / 2 ^ (k + 1) ^^^ (step (r / 2 ^ k % 2) ^^^ steps (k + 1) (r % 2 ^ k)) := fun r => by
      show step (steps k r) = _
      rw [ih r, step_xor, step_split (r / 2 ^ k), Nat.div_div_eq_div_mul, ← Nat.pow_succ, Nat.xor_assoc]
      rfl
    intro r
    rw [key r]
    have h := key (r % 2 ^ (k + 1))
    have h1 : r % 2 ^ (k + 1) / 2 ^ (k + 1) = 0 := Nat.div_eq_of_lt (Nat.mod_lt _ (Nat.two_pow_pos _))
    have h2 : r % 2 ^ (k + 1) / 2 ^ k % 2 = r / 2 ^ k % 2 := by
      rw [Nat.pow_succ, Nat.mod_mul_right_div_self, Nat.mod_mod]
    have h3 : r % 2 ^ (k + 1) % 2 ^ k = r % 2 ^ k := Nat.mod_mod_of_dvd _ ⟨2, Nat.pow_succ _ _⟩
    rw [h1, h2, h3, Nat.zero_xor] at h
    rw [h]
theorem steps4 (r : Nat) : r / 16 ^^^ steps 4 (r % 16) = steps 4 r := (steps_split 4 r).symm
theorem steps8 (r : Nat) : steps 4 (steps 4 r) = steps 8 r := rfl

/-- The document's step: the register's lowest bit against the byte's. -/
def rstep (r x : Nat) : Nat := if r % 2 = x % 2 then r / 2 else r / 2 ^^^ 3988292384
theorem rstep_lt {r x : Nat} (h : r < 4294967296) : rstep r x < 4294967296 := by
  unfold rstep
  split
  · omega
  · exact Nat.xor_lt_two_pow (n := 32) (by omega) (by omega)
theorem step_rstep (r x : Nat) : rstep r x ^^^ (x / 2) = step (r ^^^ x) := by
  have h1 : (r ^^^ x) / 2 = r / 2 ^^^ x / 2 := Nat.xor_div_two
  have h2 := Nat.xor_mod_two_eq_one (a := r) (b := x)
  unfold step rstep
  rw [h1]
  rcases Nat.mod_two_eq_zero_or_one r with ha | ha <;> rcases Nat.mod_two_eq_zero_or_one x with hb | hb <;> simp [ha, hb, h2] <;> rw [Nat.xor_assoc, Nat.xor_comm 3988292384, ← Nat.xor_assoc]

/-- All are bytes. -/
def Bytes (xs : List Int) : Prop := ∀ x ∈ xs, 0 ≤ x ∧ x < 256
theorem Bytes.getD {xs : List Int} (h : Bytes xs) {i : Nat} (hi : i < xs.length) : 0 ≤ xs.getD i 0 ∧ xs.getD i 0 < 256 := by
  rw [List.getD_eq_getElem?_getD, List.getElem?_eq_getElem hi]
  exact h _ (List.getElem_mem hi)

def upd (r : Nat) (x : Int) : Nat := steps 8 (r ^^^ x.toNat)
theorem upd_eq (r : Nat) (x : Int) : upd r x = steps 8 (r ^^^ x.toNat) := by unfold upd; exact Eq.refl _
attribute [irreducible] upd
def crc (r : Nat) (xs : List Int) : Nat := xs.foldl upd r
theorem crc_cons (r : Nat) (x : Int) (xs : List Int) : crc r (x :: xs) = crc (upd r x) xs := by unfold crc; exact List.foldl_cons ..
theorem crc_append (xs ys : List Int) (r : Nat) : crc r (xs ++ ys) = crc (crc r xs) ys := List.foldl_append
theorem upd_lt {r : Nat} {x : Int} (hr : r < 4294967296) (h1 : 0 ≤ x) (h2 : x < 256) : upd r x < 4294967296 := by
  rw [upd_eq]
  exact steps_lt (Nat.xor_lt_two_pow (n := 32) hr (by omega)) 8
theorem crc_lt : ∀ {xs : List Int} {r : Nat}, r < 4294967296 → Bytes xs → crc r xs < 4294967296
  | [], _, hr, _ => hr
  | x :: xs, _, hr, hb => crc_lt (xs := xs) (upd_lt hr (hb x (by simp)).1 (hb x (by simp)).2) (fun y hy => hb y (by simp [hy]))
theorem crc_drop {xs : List Int} {i : Nat} (hi : i < xs.length) (r : Nat) : crc r (xs.drop i) = crc (upd r (xs.getD i 0)) (xs.drop (i + 1)) := by
  have h : xs.getD i 0 = xs[i] := by simp [List.getD, hi]
  have h2 : xs.drop i = xs.getD i 0 :: xs.drop (i + 1) := by rw [h]; exact List.drop_eq_getElem_cons hi
  generalize xs.getD i 0 = x at *
  generalize xs.drop (i + 1) = ys at *
  rw [h2]
  exact crc_cons _ _ _

theorem step_inj {a b : Nat} (ha : a < 4294967296) (hb : b < 4294967296) (h : step a = step b) : a = b := by
  have no : ∀ x y : Nat, x < 2147483648 → y < 2147483648 → x ^^^ 3988292384 = y → False := fun x y hx hy e => by
    have h1 : x ^^^ y = 3988292384 := by rw [← e, ← Nat.xor_assoc, Nat.xor_self, Nat.zero_xor]
    have h2 : x ^^^ y < 2 ^ 31 := Nat.xor_lt_two_pow (by omega) (by omega)
    omega
  unfold step at h
  split at h <;> split at h
  · have h2 := congrArg (· ^^^ 3988292384) h
    simp only [Nat.xor_assoc, Nat.xor_self, Nat.xor_zero] at h2
    omega
  · exact (no _ _ (by omega) (by omega) h).elim
  · exact (no _ _ (by omega) (by omega) h.symm).elim
  · omega
theorem steps_inj {a b : Nat} (ha : a < 4294967296) (hb : b < 4294967296) : ∀ k, steps k a = steps k b → a = b
  | 0, h => h
  | k + 1, h => steps_inj ha hb k (step_inj (steps_lt ha k) (steps_lt hb k) h)
theorem xor_right_inj {a b c : Nat} (h : a ^^^ c = b ^^^ c) : a = b := by
  have h2 := congrArg (· ^^^ c) h
  simpa only [Nat.xor_assoc, Nat.xor_self, Nat.xor_zero] using h2
theorem xor_left_inj {a b c : Nat} (h : c ^^^ a = c ^^^ b) : a = b := xor_right_inj (c := c) (by rw [Nat.xor_comm a, Nat.xor_comm b, h])
theorem upd_inj {a b : Nat} {x y : Int} (ha : a < 4294967296) (hb : b < 4294967296) (hx : 0 ≤ x ∧ x < 256) (hy : 0 ≤ y ∧ y < 256) (h : upd a x = upd b y) : a ^^^ x.toNat = b ^^^ y.toNat := by
  rw [upd_eq, upd_eq] at h
  exact steps_inj (Nat.xor_lt_two_pow (n := 32) ha (by omega)) (Nat.xor_lt_two_pow (n := 32) hb (by omega)) 8 h
theorem crc_inj : ∀ {xs : List Int} {a b : Nat}, a < 4294967296 → b < 4294967296 → Bytes xs → crc a xs = crc b xs → a = b
  | [], _, _, _, _, _, h => h
  | x :: xs, a, b, ha, hb, hx, h => by
    have h0 := hx x (by simp)
    exact xor_right_inj (upd_inj ha hb h0 h0 (crc_inj (xs := xs) (upd_lt ha h0.1 h0.2) (upd_lt hb h0.1 h0.2) (fun y hy => hx y (by simp [hy])) h))
/-- One byte turned: another checksum. -/
theorem crc_turn : ∀ {xs : List Int} {i r : Nat} {y : Int}, r < 4294967296 → Bytes xs → i < xs.length → 0 ≤ y ∧ y < 256 → y ≠ xs.getD i 0 → crc r (xs.set i y) ≠ crc r xs
  | [], _, _, _, _, _, hi, _, _, _ => absurd hi (by simp)
  | x :: xs, 0, r, y, hr, hx, _, hy, hne, h => by
    have h0 := hx x (by simp)
    have e := crc_inj (xs := xs) (upd_lt hr hy.1 hy.2) (upd_lt hr h0.1 h0.2) (fun y hy => hx y (by simp [hy])) h
    have e2 := xor_left_inj (upd_inj hr hr hy h0 e)
    exact hne (by simp; omega)
  | x :: xs, i + 1, r, y, hr, hx, hi, hy, hne, h => by
    have h0 := hx x (by simp)
    exact crc_turn (xs := xs) (i := i) (upd_lt hr h0.1 h0.2) (fun y hy => hx y (by simp [hy])) (by simpa using hi) hy (by simpa using hne) h

def inv (r : Nat) : Nat := 4294967295 - r
theorem inv_lt (r : Nat) : inv r < 4294967296 := by unfold inv; omega
theorem inv_inv {r : Nat} (h : r < 4294967296) : inv (inv r) = r := by unfold inv; omega
theorem inv_xor {r : Nat} (h : r < 4294967296) : 4294967295 ^^^ r = inv r := by
  have h1 : (BitVec.allOnes 32 ^^^ BitVec.ofNat 32 r).toNat = (~~~ BitVec.ofNat 32 r).toNat := by rw [BitVec.allOnes_xor]
  rw [BitVec.toNat_xor, BitVec.toNat_not, BitVec.toNat_allOnes, BitVec.toNat_ofNat, Nat.mod_eq_of_lt h] at h1
  unfold inv
  omega
theorem not_u32 {r : Nat} (h : r < 4294967296) : bits .xor .u32 IntKind.u32.max (r : Int) = ((inv r : Nat) : Int) := by
  rw [← inv_xor h]
  show bits .xor .u32 4294967295 (r : Int) = _
  exact u32_xor_nat 4294967295 r (by omega) h

/-- The checksum. -/
def sum (xs : List Int) : Nat := inv (crc 4294967295 xs)
def more (s : Nat) (xs : List Int) : Nat := inv (crc (inv s) xs)
theorem sum_more (xs : List Int) : more 0 xs = sum xs := rfl
theorem sum_lt (xs : List Int) : sum xs < 4294967296 := inv_lt _
theorem more_sum {xs ys : List Int} (hx : Bytes xs) : more (sum xs) ys = sum (xs ++ ys) := by
  unfold more sum
  rw [inv_inv (crc_lt (by omega) hx), crc_append]
theorem Bytes.append {xs ys : List Int} (h : Bytes xs) (h' : Bytes ys) : Bytes (xs ++ ys) := fun x hx => by
  rcases List.mem_append.1 hx with h1 | h1
  · exact h x h1
  · exact h' x h1
theorem Bytes.set {xs : List Int} (h : Bytes xs) (i : Nat) {y : Int} (hy : 0 ≤ y ∧ y < 256) : Bytes (xs.set i y) := fun x hx => by
  rcases List.mem_or_eq_of_mem_set hx with h1 | h1
  · exact h x h1
  · subst h1; exact hy
theorem sum_turn {xs : List Int} {i : Nat} {y : Int} (hx : Bytes xs) (hi : i < xs.length) (hy : 0 ≤ y ∧ y < 256) (hne : y ≠ xs.getD i 0) : sum (xs.set i y) ≠ sum xs := fun h => by
  have h1 := crc_lt (r := 4294967295) (by omega) hx
  have h2 := crc_lt (r := 4294967295) (by omega) (hx.set i hy)
  refine crc_turn (r := 4294967295) (by omega) hx hi hy hne ?_
  unfold sum inv at h
  omega
theorem sum_known : sum [49, 50, 51, 52, 53, 54, 55, 56, 57] = 3421780262 := by decide +kernel

/-- A number's lowest bytes. -/
def byts : Nat → Nat → List Int
  | 0, _ => []
  | k + 1, n => ((n % 256 : Nat) : Int) :: byts k (n / 256)
theorem byts_len : ∀ k n, (byts k n).length = k
  | 0, _ => rfl
  | k + 1, n => by simp [byts, byts_len k]
theorem byts_bytes : ∀ k n, Bytes (byts k n)
  | 0, _ => fun x hx => by simp [byts] at hx
  | k + 1, n => fun x hx => by
    rcases List.mem_cons.1 hx with rfl | h
    · omega
    · exact byts_bytes k _ x h

/-- The table: what four steps make of each value of the lowest four bits. -/
def tab (i : Nat) : List Int := (List.range 16).map fun j => if j < i then ((steps 4 j : Nat) : Int) else 0
end Go.Proofs.Ytdgaaghkhkklpaa.Crc

/- Plain mathematics of layer 4 (frame): a content's frame, the frame that bytes begin with, and that the two are inverse; a frame cut off is none; no program is named here. -/
namespace Go.Proofs.Ytdgaaghkhkklpaa.Frm
open Var Crc

/-- All ahead of the checksum, and the frame. -/
def head (k : Int) (xs : List Int) : List Int := 199 :: k :: (put xs.length ++ xs)
def frame (k : Int) (xs : List Int) : List Int := head k xs ++ byts 4 (sum (head k xs))

theorem head_len (k : Int) (xs : List Int) : (head k xs).length = 2 + (put xs.length).length + xs.length := by
  simp [head]; omega
theorem frame_len (k : Int) (xs : List Int) : (frame k xs).length = 2 + (put xs.length).length + xs.length + 4 := by
  simp [frame, head_len, byts_len]

/-- All are bytes. -/
def Byt (xs : List Int) : Prop := ∀ x ∈ xs, 0 ≤ x ∧ x ≤ 255
theorem Byt.crc {xs : List Int} (h : Byt xs) : Bytes xs := fun x hx => by have := h x hx; omega
theorem Bytes.byt {xs : List Int} (h : Bytes xs) : Byt xs := fun x hx => by have := h x hx; omega
theorem Byt.append {xs ys : List Int} (h : Byt xs) (h' : Byt ys) : Byt (xs ++ ys) := fun x hx => by
  rcases List.mem_append.1 hx with h1 | h1
  · exact h x h1
  · exact h' x h1
theorem Byt.cons {x : Int} {ys : List Int} (h : 0 ≤ x ∧ x ≤ 255) (h' : Byt ys) : Byt (x :: ys) := fun y hy => by
  rcases List.mem_cons.1 hy with rfl | h1
  · exact h
  · exact h' y h1
theorem Byt.take {xs : List Int} (h : Byt xs) (n : Nat) : Byt (xs.take n) := fun x hx => h x (List.mem_of_mem_take hx)
theorem Byt.drop {xs : List Int} (h : Byt xs) (n : Nat) : Byt (xs.drop n) := fun x hx => h x (List.mem_of_mem_drop hx)
theorem Byt.getD {xs : List Int} (h : Byt xs) (i : Nat) : 0 ≤ xs.getD i 0 ∧ xs.getD i 0 ≤ 255 := by
  by_cases hi : i < xs.length
  · have : xs.getD i 0 = xs[i] := by simp [List.getD, hi]
    rw [this]
    exact h _ (List.getElem_mem hi)
  · have : xs.getD i 0 = 0 := by simp [List.getD, List.getElem?_eq_none (Nat.le_of_not_lt hi)]
    rw [this]; omega
theorem byts_byt (k n : Nat) : Byt (byts k n) := Bytes.byt (byts_bytes k n)
theorem put_byt (n : Nat) : Byt (put n) := put_byte n
theorem head_byt {k : Int} {xs : List Int} (hk : 0 ≤ k ∧ k ≤ 255) (hx : Byt xs) : Byt (head k xs) :=
  Byt.cons (by omega) (Byt.cons hk ((put_byt _).append hx))
theorem frame_byt {k : Int} {xs : List Int} (hk : 0 ≤ k ∧ k ≤ 255) (hx : Byt xs) : Byt (frame k xs) := (head_byt hk hx).append (byts_byt _ _)

/-- Where the content begins and ends. -/
def from_ (b : List Int) : Nat := 2 + (take 0 0 (b.drop 2)).2.1
def to_ (b : List Int) : Nat := from_ b + (take 0 0 (b.drop 2)).1
/-- The frame that bytes begin with: its kind, its content, how many bytes; the error. -/
def took (b : List Int) : Int × List Int × Nat × Nat :=
  if b.length = 0 then (0, [], 0, 10)
  else if b.getD 0 0 ≠ 199 then (0, [], 0, 11)
  else if b.length < 2 then (0, [], 0, 10)
  else if (take 0 0 (b.drop 2)).2.2 ≠ 0 then (0, [], 0, (take 0 0 (b.drop 2)).2.2)
  else if 1048576 < (take 0 0 (b.drop 2)).1 then (0, [], 0, 3)
  else if b.length < to_ b + 4 then (0, [], 0, 10)
  else if (b.drop (to_ b)).take 4 ≠ byts 4 (sum (b.take (to_ b))) then (0, [], 0, 12)
  else (b.getD 1 0, (b.drop (from_ b)).take (take 0 0 (b.drop 2)).1, to_ b + 4, 0)
/-- A frame that is all. -/
def wholly (k : Int) (b : List Int) : List Int × Nat :=
  if (took b).2.2.2 ≠ 0 then ([], (took b).2.2.2)
  else if (took b).1 ≠ k then ([], 11)
  else if (took b).2.2.1 < b.length then ([], 13)
  else ((took b).2.1, 0)

/-- What bytes hold ahead of the checksum is a head. -/
theorem head_of {b : List Int} (hb : Byt b) (h0 : b.getD 0 0 = 199) (h2 : ¬ b.length < 2) (he : (take 0 0 (b.drop 2)).2.2 = 0) (hl : ¬ b.length < to_ b + 4) :
    ((b.drop (from_ b)).take (take 0 0 (b.drop 2)).1).length = (take 0 0 (b.drop 2)).1 ∧ head (b.getD 1 0) ((b.drop (from_ b)).take (take 0 0 (b.drop 2)).1) = b.take (to_ b) := by
  match b, h2 with
  | x :: y :: r, _ =>
    have hx : x = 199 := by simpa using h0
    subst hx
    obtain ⟨m, h1, _, h3, h4, h5⟩ := put_take r 0 0 (hb.drop 2) he
    simp only [List.drop_succ_cons, List.drop_zero, Nat.zero_add, Nat.pow_zero, Nat.mul_one, Nat.sub_zero] at h1 h3 h4 h5 ⊢
    unfold to_ from_ at *
    simp only [List.drop_succ_cons, List.drop_zero] at hl ⊢
    generalize (take 0 0 r).2.1 = s at *
    generalize (take 0 0 r).1 = n at *
    subst h1
    simp only [List.length_cons] at hl
    have e1 : List.drop (2 + s) (199 :: y :: r) = r.drop s := by rw [show 2 + s = s + 1 + 1 by omega]; simp
    have e2 : List.take (2 + s + n) (199 :: y :: r) = 199 :: y :: r.take (s + n) := by rw [show 2 + s + n = s + n + 1 + 1 by omega]; simp
    have hlen : ((r.drop s).take n).length = n := by simp; omega
    rw [e1, e2]
    refine ⟨hlen, ?_⟩
    unfold head
    rw [hlen, h5, List.take_add]
    simp

theorem took_frame {k : Int} {xs more : List Int} (hn : xs.length ≤ 1048576) : took (frame k xs ++ more) = (k, xs, (frame k xs).length, 0) := by
  have ht : take 0 0 (((frame k xs) ++ more).drop 2) = (xs.length, (put xs.length).length, 0) := by
    have h := take_put xs.length 0 0 (xs ++ (byts 4 (sum (head k xs)) ++ more)) (by omega) (by omega) (Or.inr rfl)
    simp only [Nat.pow_zero, Nat.mul_one, Nat.zero_add] at h
    rw [← h]
    simp [frame, head]
  have hfrom : from_ (frame k xs ++ more) = 2 + (put xs.length).length := by unfold from_; rw [ht]
  have hto : to_ (frame k xs ++ more) = (head k xs).length := by unfold to_; rw [hfrom, ht, head_len]
  have hl : (frame k xs ++ more).length = (head k xs).length + 4 + more.length := by simp [frame, byts_len]; omega
  have hd : (frame k xs ++ more).take (head k xs).length = head k xs := by unfold frame; rw [List.append_assoc, List.take_left]
  have hs : ((frame k xs ++ more).drop (head k xs).length).take 4 = byts 4 (sum (head k xs)) := by
    unfold frame
    rw [List.append_assoc, List.drop_left, List.take_left' (byts_len _ _)]
  have hc : ((frame k xs ++ more).drop (2 + (put xs.length).length)).take xs.length = xs := by
    have : frame k xs ++ more = (199 :: k :: put xs.length) ++ (xs ++ (byts 4 (sum (head k xs)) ++ more)) := by simp [frame, head]
    rw [this, List.drop_left' (by simp; omega), List.take_left]
  have h1 : (frame k xs ++ more).getD 0 0 = 199 := by simp [frame, head]
  have h2 : (frame k xs ++ more).getD 1 0 = k := by simp [frame, head]
  have h3 : 2 ≤ (head k xs).length := by rw [head_len]; omega
  unfold took
  rw [if_neg (by omega), if_neg (by simp only [h1, ne_eq, not_true, not_false_iff]), if_neg (by omega), if_neg (by rw [ht]; simp), if_neg (by rw [ht]; simp; omega), if_neg (by rw [hto]; omega), hto, if_neg (by rw [hs, hd]; simp), h2, hfrom, ht]
  simp only [hc]
  simp [frame, byts_len]

/-- A number's bytes, cut off, are none. -/
theorem take_short : ∀ (m i X j : Nat), m * 128 ^ i < 18446744073709551616 → i ≤ 9 → j < (put m).length → take X i ((put m).take j) = (0, 0, 10) := by
  intro m
  induction m using Nat.strongRecOn with
  | ind m ih =>
    intro i X j h hi hj
    cases j with
    | zero => simp [take]
    | succ j =>
      by_cases hm : m < 128
      · rw [put_last hm] at hj; simp at hj
      · have h9 : i = 9 → m < 2 := by
          rintro rfl
          have : m * 128 ^ 9 < 2 * 128 ^ 9 := by omega
          exact Nat.lt_of_mul_lt_mul_right this
        have hi9 : i ≠ 9 := fun h => by have := h9 h; omega
        rw [put_more hm] at hj ⊢
        have e1 : ¬ (i = 9 ∧ (1 : Int) < ((m % 128 : Nat) : Int) + 128) := fun h => hi9 h.1
        have e2 : ¬ (((m % 128 : Nat) : Int) + 128 < 128) := by omega
        have hd : m / 128 * 128 ^ (i + 1) ≤ m * 128 ^ i := by
          rw [Nat.pow_succ, Nat.mul_comm (128 ^ i), ← Nat.mul_assoc]
          exact Nat.mul_le_mul_right _ (Nat.div_mul_le_self m 128)
        simp only [List.take_succ_cons, take, if_neg e1, if_neg e2]
        exact ih (m / 128) (by omega) (i + 1) _ j (by omega) (by omega) (by simpa using hj)

theorem took_cut {k : Int} {xs : List Int} {cut : Nat} (hn : xs.length ≤ 1048576) (hc : cut < (frame k xs).length) : took ((frame k xs).take cut) = (0, [], 0, 10) := by
  have hl : ((frame k xs).take cut).length = cut := by simp; omega
  rw [frame_len] at hc
  unfold took
  rw [hl]
  by_cases h0 : cut = 0
  · rw [if_pos h0]
  have h1 : ((frame k xs).take cut).getD 0 0 = 199 := by
    obtain ⟨d, rfl⟩ : ∃ d, cut = d + 1 := ⟨cut - 1, by omega⟩
    simp [frame, head]
  rw [if_neg h0, if_neg (by simp only [h1, ne_eq, not_true, not_false_iff])]
  by_cases h2 : cut < 2
  · rw [if_pos h2]
  rw [if_neg h2]
  have hr : ((frame k xs).take cut).drop 2 = (put xs.length ++ (xs ++ byts 4 (sum (head k xs)))).take (cut - 2) := by
    obtain ⟨d, rfl⟩ : ∃ d, cut = d + 2 := ⟨cut - 2, by omega⟩
    simp [frame, head]
  by_cases h3 : cut - 2 < (put xs.length).length
  · have ht : take 0 0 (((frame k xs).take cut).drop 2) = (0, 0, 10) := by
      rw [hr, List.take_append_of_le_length (by omega)]
      exact take_short xs.length 0 0 (cut - 2) (by omega) (by omega) h3
    rw [if_pos (by rw [ht]; simp), ht]
  · have ht : take 0 0 (((frame k xs).take cut).drop 2) = (xs.length, (put xs.length).length, 0) := by
      rw [hr, List.take_append, List.take_of_length_le (by omega)]
      have h := take_put xs.length 0 0 ((xs ++ byts 4 (sum (head k xs))).take (cut - 2 - (put xs.length).length)) (by omega) (by omega) (Or.inr rfl)
      simpa only [Nat.pow_zero, Nat.mul_one, Nat.zero_add] using h
    have hto : to_ ((frame k xs).take cut) = 2 + (put xs.length).length + xs.length := by unfold to_ from_; rw [ht]
    rw [if_neg (by rw [ht]; simp), if_neg (by rw [ht]; simp; omega), if_pos (by rw [hto]; omega)]

theorem wholly_frame {k : Int} {xs : List Int} (hn : xs.length ≤ 1048576) : wholly k (frame k xs) = (xs, 0) := by
  have h := took_frame (k := k) (more := []) hn
  rw [List.append_nil] at h
  unfold wholly
  rw [h]
  simp

/-- The reference's check is the checksum's. -/
theorem check {b : List Int} (hb : Byt b) (h0 : b.getD 0 0 = 199) (h2 : ¬ b.length < 2) (he : (take 0 0 (b.drop 2)).2.2 = 0) (hl : ¬ b.length < to_ b + 4) :
    frame (b.getD 1 0) ((b.drop (from_ b)).take (take 0 0 (b.drop 2)).1) = b.take (to_ b + 4) ↔ (b.drop (to_ b)).take 4 = byts 4 (sum (b.take (to_ b))) := by
  obtain ⟨_, h⟩ := head_of hb h0 h2 he hl
  unfold frame
  rw [h, List.take_add, List.append_cancel_left_eq]
  exact eq_comm
end Go.Proofs.Ytdgaaghkhkklpaa.Frm

/- Plain mathematics of layer 4 (frame): a content's frame, the frame that bytes begin with, and that the two are inverse; a frame cut off is none; no program is named here. -/
import Derived.Test.YtjdhedjlilmolaaVarM
import Derived.Test.YtjdhedjlilmolaaCrcM
namespace Go.Proofs.Ytjdhedjlilmolaa.Frm
open Var Crc

/-- All ahead of the checksum, and the frame. -/
def head (k : Int) (xs : List Int) : List Int := 199 :: k :: (put xs.length ++ xs)
def frame (k : Int) (xs : List Int) : List Int := head k xs ++ byts 4 (sum (head k xs))

theorem head_len (k : Int) (xs : List Int) : (head k xs).length = 2 + (put xs.length).length + xs.length := by
  simp [head]; omega
theorem frame_len (k : Int) (xs : List Int) : (frame k xs).length = 2 + (put xs.length).length + xs.length + 4 := by
  simp [frame, head_len, byts_len]

/-- All are bytes. -/
def Byt (xs : List Int) : Prop := ∀ x ∈ xs, 0 ≤ x ∧ x ≤ 255
theorem Byt.crc {xs : List Int} (h : Byt xs) : Bytes xs := fun x hx => by have := h x hx; omega
theorem Bytes.byt {xs : List Int} (h : Bytes xs) : Byt xs := fun x hx => by have := h x hx; omega
theorem Byt.append {xs ys : List Int} (h : Byt xs) (h' : Byt ys) : Byt (xs ++ ys) := fun x hx => by
  rcases List.mem_append.1 hx with h1 | h1
  · exact h x h1
  · exact h' x h1
theorem Byt.cons {x : Int} {ys : List Int} (h : 0 ≤ x ∧ x ≤ 255) (h' : Byt ys) : Byt (x :: ys) := fun y hy => by
  rcases List.mem_cons.1 hy with rfl | h1
  · exact h
  · exact h' y h1
theorem Byt.take {xs : List Int} (h : Byt xs) (n : Nat) : Byt (xs.take n) := fun x hx => h x (List.mem_of_mem_take hx)
theorem Byt.drop {xs : List Int} (h : Byt xs) (n : Nat) : Byt (xs.drop n) := fun x hx => h x (List.mem_of_mem_drop hx)
theorem Byt.getD {xs : List Int} (h : Byt xs) (i : Nat) : 0 ≤ xs.getD i 0 ∧ xs.getD i 0 ≤ 255 := by
  by_cases hi : i < xs.length
  · have : xs.getD i 0 = xs[i] := by simp [List.getD, hi]
    rw [this]
    exact h _ (List.getElem_mem hi)
  · have : xs.getD i 0 = 0 := by simp [List.getD, List.getElem?_eq_none (Nat.le_of_not_lt hi)]
    rw [this]; omega
theorem byts_byt (k n : Nat) : Byt (byts k n) := Bytes.byt (byts_bytes k n)
theorem put_byt (n : Nat) : Byt (put n) := put_byte n
theorem head_byt {k : Int} {xs : List Int} (hk : 0 ≤ k ∧ k ≤ 255) (hx : Byt xs) : Byt (head k xs) :=
  Byt.cons (by omega) (Byt.cons hk ((put_byt _).append hx))
theorem frame_byt {k : Int} {xs : List Int} (hk : 0 ≤ k ∧ k ≤ 255) (hx : Byt xs) : Byt (frame k xs) := (head_byt hk hx).append (byts_byt _ _)

/-- Where the content begins and ends. -/
def from_ (b : List Int) : Nat := 2 + (take 0 0 (b.drop 2)).2.1
def to_ (b : List Int) : Nat := from_ b + (take 0 0 (b.drop 2)).1
/-- The frame that bytes begin with: its kind, its content, how many bytes; the error. -/
def took (b : List Int) : Int × List Int × Nat × Nat :=
  if b.length = 0 then (0, [], 0, 10)
  else if b.getD 0 0 ≠ 199 then (0, [], 0, 11)
  else if b.length < 2 then (0, [], 0, 10)
  else if (take 0 0 (b.drop 2)).2.2 ≠ 0 then (0, [], 0, (take 0 0 (b.drop 2)).2.2)
  else if 1048576 < (take 0 0 (b.drop 2)).1 then (0, [], 0, 3)
  else if b.length < to_ b + 4 then (0, [], 0, 10)
  else if (b.drop (to_ b)).take 4 ≠ byts 4 (sum (b.take (to_ b))) then (0, [], 0, 12)
  else (b.getD 1 0, (b.drop (from_ b)).take (take 0 0 (b.drop 2)).1, to_ b + 4, 0)
/-- A frame that is all. -/
def wholly (k : Int) (b : List Int) : List Int × Nat :=
  if (took b).2.2.2 ≠ 0 then ([], (took b).2.2.2)
  else if (took b).1 ≠ k then ([], 11)
  else if (took b).2.2.1 < b.length then ([], 13)
  else ((took b).2.1, 0)

/-- What bytes hold ahead of the checksum is a head. -/
theorem head_of {b : List Int} (hb : Byt b) (h0 : b.getD 0 0 = 199) (h2 : ¬ b.length < 2) (he : (take 0 0 (b.drop 2)).2.2 = 0) (hl : ¬ b.length < to_ b + 4) :
    ((b.drop (from_ b)).take (take 0 0 (b.drop 2)).1).length = (take 0 0 (b.drop 2)).1 ∧ head (b.getD 1 0) ((b.drop (from_ b)).take (take 0 0 (b.drop 2)).1) = b.take (to_ b) := by
  match b, h2 with
  | x :: y :: r, _ =>
    have hx : x = 199 := by simpa using h0
    subst hx
    obtain ⟨m, h1, _, h3, h4, h5⟩ := put_take r 0 0 (hb.drop 2) he
    simp only [List.drop_succ_cons, List.drop_zero, Nat.zero_add, Nat.pow_zero, Nat.mul_one, Nat.sub_zero] at h1 h3 h4 h5 ⊢
    unfold to_ from_ at *
    simp only [List.drop_succ_cons, List.drop_zero] at hl ⊢
    generalize (take 0 0 r).2.1 = s at *
    generalize (take 0 0 r).1 = n at *
    subst h1
    simp only [List.length_cons] at hl
    have e1 : List.drop (2 + s) (199 :: y :: r) = r.drop s := by rw [show 2 + s = s + 1 + 1 by omega]; simp
    have e2 : List.take (2 + s + n) (199 :: y :: r) = 199 :: y :: r.take (s + n) := by rw [show 2 + s + n = s + n + 1 + 1 by omega]; simp
    have hlen : ((r.drop s).take n).length = n := by simp; omega
    rw [e1, e2]
    refine ⟨hlen, ?_⟩
    unfold head
    rw [hlen, h5, List.take_add]
    simp

theorem took_frame {k : Int} {xs more : List Int} (hn : xs.length ≤ 1048576) : took (frame k xs ++ more) = (k, xs, (frame k xs).length, 0) := by
  have ht : take 0 0 (((frame k xs) ++ more).drop 2) = (xs.length, (put xs.length).length, 0) := by
    have h := take_put xs.length 0 0 (xs ++ (byts 4 (sum (head k xs)) ++ more)) (by omega) (by omega) (Or.inr rfl)
    simp only [Nat.pow_zero, Nat.mul_one, Nat.zero_add] at h
    rw [← h]
    simp [frame, head]
  have hfrom : from_ (frame k xs ++ more) = 2 + (put xs.length).length := by unfold from_; rw [ht]
  have hto : to_ (frame k xs ++ more) = (head k xs).length := by unfold to_; rw [hfrom, ht, head_len]
  have hl : (frame k xs ++ more).length = (head k xs).length + 4 + more.length := by simp [frame, byts_len]; omega
  have hd : (frame k xs ++ more).take (head k xs).length = head k xs := by unfold frame; rw [List.append_assoc, List.take_left]
  have hs : ((frame k xs ++ more).drop (head k xs).length).take 4 = byts 4 (sum (head k xs)) := by
    unfold frame
    rw [List.append_assoc, List.drop_left, List.take_left' (byts_len _ _)]
  have hc : ((frame k xs ++ more).drop (2 + (put xs.length).length)).take xs.length = xs := by
    have : frame k xs ++ more = (199 :: k :: put xs.length) ++ (xs ++ (byts 4 (sum (head k xs)) ++ more)) := by simp [frame, head]
    rw [this, List.drop_left' (by simp; omega), List.take_left]
  have h1 : (frame k xs ++ more).getD 0 0 = 199 := by simp [frame, head]
  have h2 : (frame k xs ++ more).getD 1 0 = k := by simp [frame, head]
  have h3 : 2 ≤ (head k xs).length := by rw [head_len]; omega
  unfold took
  rw [if_neg (by omega), if_neg (by simp only [h1, ne_eq, not_true, not_false_iff]), if_neg (by omega), if_neg (by rw [ht]; simp), if_neg (by rw [ht]; simp; omega), if_neg (by rw [hto]; omega), hto, if_neg (by rw [hs, hd]; simp), h2, hfrom, ht]
  simp only [hc]
  simp [frame, byts_len]

/-- A number's bytes, cut off, are none. -/
theorem take_short : ∀ (m i X j : Nat), m * 128 ^ i < 18446744073709551616 → i ≤ 9 → j < (put m).length → take X i ((put m).take j) = (0, 0, 10) := by
  intro m
  induction m using Nat.strongRecOn with
  | ind m ih =>
    intro i X j h hi hj
    cases j with
    | zero => simp [take]
    | succ j =>
      by_cases hm : m < 128
      · rw [put_last hm] at hj; simp at hj
      · have h9 : i = 9 → m < 2 := by
          rintro rfl
          have : m * 128 ^ 9 < 2 * 128 ^ 9 := by omega
          exact Nat.lt_of_mul_lt_mul_right this
        have hi9 : i ≠ 9 := fun h => by have := h9 h; omega
        rw [put_more hm] at hj ⊢
        have e1 : ¬ (i = 9 ∧ (1 : Int) < ((m % 128 : Nat) : Int) + 128) := fun h => hi9 h.1
        have e2 : ¬ (((m % 128 : Nat) : Int) + 128 < 128) := by omega
        have hd : m / 128 * 128 ^ (i + 1) ≤ m * 128 ^ i := by
          rw [Nat.pow_succ, Nat.mul_comm (128 ^ i), ← Nat.mul_assoc]
          exact Nat.mul_le_mul_right _ (Nat.div_mul_le_self m 128)
        simp only [List.take_succ_cons, take, if_neg e1, if_neg e2]
        exact ih (m / 128) (by omega) (i + 1) _ j (by omega) (by omega) (by simpa using hj)

theorem took_cut {k : Int} {xs : List Int} {cut : Nat} (hn : xs.length ≤ 1048576) (hc : cut < (frame k xs).length) : took ((frame k xs).take cut) = (0, [], 0, 10) := by
  have hl : ((frame k xs).take cut).length = cut := by simp; omega
  rw [frame_len] at hc
  unfold took
  rw [hl]
  by_cases h0 : cut = 0
  · rw [if_pos h0]
  have h1 : ((frame k xs).take cut).getD 0 0 = 199 := by
    obtain ⟨d, rfl⟩ : ∃ d, cut = d + 1 := ⟨cut - 1, by omega⟩
    simp [frame, head]
  rw [if_neg h0, if_neg (by simp only [h1, ne_eq, not_true, not_false_iff])]
  by_cases h2 : cut < 2
  · rw [if_pos h2]
  rw [if_neg h2]
  have hr : ((frame k xs).take cut).drop 2 = (put xs.length ++ (xs ++ byts 4 (sum (head k xs)))).take (cut - 2) := by
    obtain ⟨d, rfl⟩ : ∃ d, cut = d + 2 := ⟨cut - 2, by omega⟩
    simp [frame, head]
  by_cases h3 : cut - 2 < (put xs.length).length
  · have ht : take 0 0 (((frame k xs).take cut).drop 2) = (0, 0, 10) := by
      rw [hr, List.take_append_of_le_length (by omega)]
      exact take_short xs.length 0 0 (cut - 2) (by omega) (by omega) h3
    rw [if_pos (by rw [ht]; simp), ht]
  · have ht : take 0 0 (((frame k xs).take cut).drop 2) = (xs.length, (put xs.length).length, 0) := by
      rw [hr, List.take_append, List.take_of_length_le (by omega)]
      have h := take_put xs.length 0 0 ((xs ++ byts 4 (sum (head k xs))).take (cut - 2 - (put xs.length).length)) (by omega) (by omega) (Or.inr rfl)
      simpa only [Nat.pow_zero, Nat.mul_one, Nat.zero_add] using h
    have hto : to_ ((frame k xs).take cut) = 2 + (put xs.length).length + xs.length := by unfold to_ from_; rw [ht]
    rw [if_neg (by rw [ht]; simp), if_neg (by rw [ht]; simp; omega), if_pos (by rw [hto]; omega)]

theorem wholly_frame {k : Int} {xs : List Int} (hn : xs.length ≤ 1048576) : wholly k (frame k xs) = (xs, 0) := by
  have h := took_frame (k := k) (more := []) hn
  rw [List.append_nil] at h
  unfold wholly
  rw [h]
  simp

/-- The reference's check is the checksum's. -/
theorem check {b : List Int} (hb : Byt b) (h0 : b.getD 0 0 = 199) (h2 : ¬ b.length < 2) (he : (take 0 0 (b.drop 2)).2.2 = 0) (hl : ¬ b.length < to_ b + 4) :
    frame (b.getD 1 0) ((b.drop (from_ b)).take (take 0 0 (b.drop 2)).1) = b.take (to_ b + 4) ↔ (b.drop (to_ b)).take 4 = byts 4 (sum (b.take (to_ b))) := by
  obtain ⟨_, h⟩ := head_of hb h0 h2 he hl
  unfold frame
  rw [h, List.take_add, List.append_cancel_left_eq]
  exact eq_comm
end Go.Proofs.Ytjdhedjlilmolaa.Frm

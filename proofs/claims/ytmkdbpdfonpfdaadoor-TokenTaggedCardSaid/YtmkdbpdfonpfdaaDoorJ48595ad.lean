/- Lemmas that the proof stands on, in build order: FrmM VarW VarT VarR FldW FldM FldR FldC FldD FldG FldX FldY. -/
import Derived.Test.YtmkdbpdfonpfdaaDoorProg
import Derived.WalkKit
import Derived.KernelRfl
import Derived.Deep.QuietTactic
import Derived.BigQuiet
import Derived.WalkMore
import Derived.ScopeJumps
import Derived.Test.YtmkdbpdfonpfdaaDoorJ127b64a
import Derived.Test.YtmkdbpdfonpfdaaDoorJ30798c8
/- Plain mathematics of layer 4 (frame): a content's frame, the frame that bytes begin with, and that the two are inverse; a frame cut off is none; no program is named here. -/
namespace Go.Proofs.YtmkdbpdfonpfdaaDoor.Frm
open Var Crc

/-- All ahead of the checksum, and the frame. -/
def head (k : Int) (xs : List Int) : List Int := 199 :: k :: (put xs.length ++ xs)
def frame (k : Int) (xs : List Int) : List Int := head k xs ++ byts 4 (sum (head k xs))

theorem head_len (k : Int) (xs : List Int) : (head k xs).length = 2 + (put xs.length).length + xs.length := by
  simp [head]; omega
theorem frame_len (k : Int) (xs : List Int) : (frame k xs).length = 2 + (put xs.length).length + xs.length + 4 := by
  simp [frame, head_len, byts_len]

/-- All are bytes. -/
def Byt (xs : List Int) : Prop := ∀ x ∈ xs, 0 ≤ x ∧ x ≤ 255
theorem Byt.crc {xs : List Int} (h : Byt xs) : Bytes xs := fun x hx => by have := h x hx; omega
theorem Bytes.byt {xs : List Int} (h : Bytes xs) : Byt xs := fun x hx => by have := h x hx; omega
theorem Byt.append {xs ys : List Int} (h : Byt xs) (h' : Byt ys) : Byt (xs ++ ys) := fun x hx => by
  rcases List.mem_append.1 hx with h1 | h1
  · exact h x h1
  · exact h' x h1
theorem Byt.cons {x : Int} {ys : List Int} (h : 0 ≤ x ∧ x ≤ 255) (h' : Byt ys) : Byt (x :: ys) := fun y hy => by
  rcases List.mem_cons.1 hy with rfl | h1
  · exact h
  · exact h' y h1
theorem Byt.take {xs : List Int} (h : Byt xs) (n : Nat) : Byt (xs.take n) := fun x hx => h x (List.mem_of_mem_take hx)
theorem Byt.drop {xs : List Int} (h : Byt xs) (n : Nat) : Byt (xs.drop n) := fun x hx => h x (List.mem_of_mem_drop hx)
theorem Byt.getD {xs : List Int} (h : Byt xs) (i : Nat) : 0 ≤ xs.getD i 0 ∧ xs.getD i 0 ≤ 255 := by
  by_cases hi : i < xs.length
  · have : xs.getD i 0 = xs[i] := by simp [List.getD, hi]
    rw [this]
    exact h _ (List.getElem_mem hi)
  · have : xs.getD i 0 = 0 := by simp [List.getD, List.getElem?_eq_none (Nat.le_of_not_lt hi)]
    rw [this]; omega
theorem byts_byt (k n : Nat) : Byt (byts k n) := Bytes.byt (byts_bytes k n)
theorem put_byt (n : Nat) : Byt (put n) := put_byte n
theorem head_byt {k : Int} {xs : List Int} (hk : 0 ≤ k ∧ k ≤ 255) (hx : Byt xs) : Byt (head k xs) :=
  Byt.cons (by omega) (Byt.cons hk ((put_byt _).append hx))
theorem frame_byt {k : Int} {xs : List Int} (hk : 0 ≤ k ∧ k ≤ 255) (hx : Byt xs) : Byt (frame k xs) := (head_byt hk hx).append (byts_byt _ _)

/-- Where the content begins and ends. -/
def from_ (b : List Int) : Nat := 2 + (take 0 0 (b.drop 2)).2.1
def to_ (b : List Int) : Nat := from_ b + (take 0 0 (b.drop 2)).1
/-- The frame that bytes begin with: its kind, its content, how many bytes; the error. -/
def took (b : List Int) : Int × List Int × Nat × Nat :=
  if b.length = 0 then (0, [], 0, 10)
  else if b.getD 0 0 ≠ 199 then (0, [], 0, 11)
  else if b.length < 2 then (0, [], 0, 10)
  else if (take 0 0 (b.drop 2)).2.2 ≠ 0 then (0, [], 0, (take 0 0 (b.drop 2)).2.2)
  else if 1048576 < (take 0 0 (b.drop 2)).1 then (0, [], 0, 3)
  else if b.length < to_ b + 4 then (0, [], 0, 10)
  else if (b.drop (to_ b)).take 4 ≠ byts 4 (sum (b.take (to_ b))) then (0, [], 0, 12)
  else (b.getD 1 0, (b.drop (from_ b)).take (take 0 0 (b.drop 2)).1, to_ b + 4, 0)
/-- A frame that is all. -/
def wholly (k : Int) (b : List Int) : List Int × Nat :=
  if (took b).2.2.2 ≠ 0 then ([], (took b).2.2.2)
  else if (took b).1 ≠ k then ([], 11)
  else if (took b).2.2.1 < b.length then ([], 13)
  else ((took b).2.1, 0)

/-- What bytes hold ahead of the checksum is a head. -/
theorem head_of {b : List Int} (hb : Byt b) (h0 : b.getD 0 0 = 199) (h2 : ¬ b.length < 2) (he : (take 0 0 (b.drop 2)).2.2 = 0) (hl : ¬ b.length < to_ b + 4) :
    ((b.drop (from_ b)).take (take 0 0 (b.drop 2)).1).length = (take 0 0 (b.drop 2)).1 ∧ head (b.getD 1 0) ((b.drop (from_ b)).take (take 0 0 (b.drop 2)).1) = b.take (to_ b) := by
  match b, h2 with
  | x :: y :: r, _ =>
    have hx : x = 199 := by simpa using h0
    subst hx
    obtain ⟨m, h1, _, h3, h4, h5⟩ := put_take r 0 0 (hb.drop 2) he
    simp only [List.drop_succ_cons, List.drop_zero, Nat.zero_add, Nat.pow_zero, Nat.mul_one, Nat.sub_zero] at h1 h3 h4 h5 ⊢
    unfold to_ from_ at *
    simp only [List.drop_succ_cons, List.drop_zero] at hl ⊢
    generalize (take 0 0 r).2.1 = s at *
    generalize (take 0 0 r).1 = n at *
    subst h1
    simp only [List.length_cons] at hl
    have e1 : List.drop (2 + s) (199 :: y :: r) = r.drop s := by rw [show 2 + s = s + 1 + 1 by omega]; simp
    have e2 : List.take (2 + s + n) (199 :: y :: r) = 199 :: y :: r.take (s + n) := by rw [show 2 + s + n = s + n + 1 + 1 by omega]; simp
    have hlen : ((r.drop s).take n).length = n := by simp; omega
    rw [e1, e2]
    refine ⟨hlen, ?_⟩
    unfold head
    rw [hlen, h5, List.take_add]
    simp

theorem took_frame {k : Int} {xs more : List Int} (hn : xs.length ≤ 1048576) : took (frame k xs ++ more) = (k, xs, (frame k xs).length, 0) := by
  have ht : take 0 0 (((frame k xs) ++ more).drop 2) = (xs.length, (put xs.length).length, 0) := by
    have h := take_put xs.length 0 0 (xs ++ (byts 4 (sum (head k xs)) ++ more)) (by omega) (by omega) (Or.inr rfl)
    simp only [Nat.pow_zero, Nat.mul_one, Nat.zero_add] at h
    rw [← h]
    simp [frame, head]
  have hfrom : from_ (frame k xs ++ more) = 2 + (put xs.length).length := by unfold from_; rw [ht]
  have hto : to_ (frame k xs ++ more) = (head k xs).length := by unfold to_; rw [hfrom, ht, head_len]
  have hl : (frame k xs ++ more).length = (head k xs).length + 4 + more.length := by simp [frame, byts_len]; omega
  have hd : (frame k xs ++ more).take (head k xs).length = head k xs := by unfold frame; rw [List.append_assoc, List.take_left]
  have hs : ((frame k xs ++ more).drop (head k xs).length).take 4 = byts 4 (sum (head k xs)) := by
    unfold frame
    rw [List.append_assoc, List.drop_left, List.take_left' (byts_len _ _)]
  have hc : ((frame k xs ++ more).drop (2 + (put xs.length).length)).take xs.length = xs := by
    have : frame k xs ++ more = (199 :: k :: put xs.length) ++ (xs ++ (byts 4 (sum (head k xs)) ++ more)) := by simp [frame, head]
    rw [this, List.drop_left' (by simp; omega), List.take_left]
  have h1 : (frame k xs ++ more).getD 0 0 = 199 := by simp [frame, head]
  have h2 : (frame k xs ++ more).getD 1 0 = k := by simp [frame, head]
  have h3 : 2 ≤ (head k xs).length := by rw [head_len]; omega
  unfold took
  rw [if_neg (by omega), if_neg (by simp only [h1, ne_eq, not_true, not_false_iff]), if_neg (by omega), if_neg (by rw [ht]; simp), if_neg (by rw [ht]; simp; omega), if_neg (by rw [hto]; omega), hto, if_neg (by rw [hs, hd]; simp), h2, hfrom, ht]
  simp only [hc]
  simp [frame, byts_len]

/-- A number's bytes, cut off, are none. -/
theorem take_short : ∀ (m i X j : Nat), m * 128 ^ i < 18446744073709551616 → i ≤ 9 → j < (put m).length → take X i ((put m).take j) = (0, 0, 10) := by
  intro m
  induction m using Nat.strongRecOn with
  | ind m ih =>
    intro i X j h hi hj
    cases j with
    | zero => simp [take]
    | succ j =>
      by_cases hm : m < 128
      · rw [put_last hm] at hj; simp at hj
      · have h9 : i = 9 → m < 2 := by
          rintro rfl
          have : m * 128 ^ 9 < 2 * 128 ^ 9 := by omega
          exact Nat.lt_of_mul_lt_mul_right this
        have hi9 : i ≠ 9 := fun h => by have := h9 h; omega
        rw [put_more hm] at hj ⊢
        have e1 : ¬ (i = 9 ∧ (1 : Int) < ((m % 128 : Nat) : Int) + 128) := fun h => hi9 h.1
        have e2 : ¬ (((m % 128 : Nat) : Int) + 128 < 128) := by omega
        have hd : m / 128 * 128 ^ (i + 1) ≤ m * 128 ^ i := by
          rw [Nat.pow_succ, Nat.mul_comm (128 ^ i), ← Nat.mul_assoc]
          exact Nat.mul_le_mul_right _ (Nat.div_mul_le_self m 128)
        simp only [List.take_succ_cons, take, if_neg e1, if_neg e2]
        exact ih (m / 128) (by omega) (i + 1) _ j (by omega) (by omega) (by simpa using hj)

theorem took_cut {k : Int} {xs : List Int} {cut : Nat} (hn : xs.length ≤ 1048576) (hc : cut < (frame k xs).length) : took ((frame k xs).take cut) = (0, [], 0, 10) := by
  have hl : ((frame k xs).take cut).length = cut := by simp; omega
  rw [frame_len] at hc
  unfold took
  rw [hl]
  by_cases h0 : cut = 0
  · rw [if_pos h0]
  have h1 : ((frame k xs).take cut).getD 0 0 = 199 := by
    obtain ⟨d, rfl⟩ : ∃ d, cut = d + 1 := ⟨cut - 1, by omega⟩
    simp [frame, head]
  rw [if_neg h0, if_neg (by simp only [h1, ne_eq, not_true, not_false_iff])]
  by_cases h2 : cut < 2
  · rw [if_pos h2]
  rw [if_neg h2]
  have hr : ((frame k xs).take cut).drop 2 = (put xs.length ++ (xs ++ byts 4 (sum (head k xs)))).take (cut - 2) := by
    obtain ⟨d, rfl⟩ : ∃ d, cut = d + 2 := ⟨cut - 2, by omega⟩
    simp [frame, head]
  by_cases h3 : cut - 2 < (put xs.length).length
  · have ht : take 0 0 (((frame k xs).take cut).drop 2) = (0, 0, 10) := by
      rw [hr, List.take_append_of_le_length (by omega)]
      exact take_short xs.length 0 0 (cut - 2) (by omega) (by omega) h3
    rw [if_pos (by rw [ht]; simp), ht]
  · have ht : take 0 0 (((frame k xs).take cut).drop 2) = (xs.length, (put xs.length).length, 0) := by
      rw [hr, List.take_append, List.take_of_length_le (by omega)]
      have h := take_put xs.length 0 0 ((xs ++ byts 4 (sum (head k xs))).take (cut - 2 - (put xs.length).length)) (by omega) (by omega) (Or.inr rfl)
      simpa only [Nat.pow_zero, Nat.mul_one, Nat.zero_add] using h
    have hto : to_ ((frame k xs).take cut) = 2 + (put xs.length).length + xs.length := by unfold to_ from_; rw [ht]
    rw [if_neg (by rw [ht]; simp), if_neg (by rw [ht]; simp; omega), if_pos (by rw [hto]; omega)]

theorem wholly_frame {k : Int} {xs : List Int} (hn : xs.length ≤ 1048576) : wholly k (frame k xs) = (xs, 0) := by
  have h := took_frame (k := k) (more := []) hn
  rw [List.append_nil] at h
  unfold wholly
  rw [h]
  simp

/-- The reference's check is the checksum's. -/
theorem check {b : List Int} (hb : Byt b) (h0 : b.getD 0 0 = 199) (h2 : ¬ b.length < 2) (he : (take 0 0 (b.drop 2)).2.2 = 0) (hl : ¬ b.length < to_ b + 4) :
    frame (b.getD 1 0) ((b.drop (from_ b)).take (take 0 0 (b.drop 2)).1) = b.take (to_ b + 4) ↔ (b.drop (to_ b)).take 4 = byts 4 (sum (b.take (to_ b))) := by
  obtain ⟨_, h⟩ := head_of hb h0 h2 he hl
  unfold frame
  rw [h, List.take_add, List.append_cancel_left_eq]
  exact eq_comm
end Go.Proofs.YtmkdbpdfonpfdaaDoor.Frm

/- What the functions of layer 1 (varint) and of its reference return, each for every input, as contracts over the program. -/
namespace Go.Proofs.YtmkdbpdfonpfdaaDoor.Var
open Go.RowKit

theorem info_u8 : (Tryd.prog.info? 5).map (fun i => (i.zero, i.size, i.bytes)) = some (some (.int .u8 0), 1, 1) := by kernel_rfl

def PutsTo (n : Nat) (w : World) (e : Ending) (w' : World) : Prop :=
  ∃ v, e = .returned v ∧ w'.ownsRow w.heap.size 5 1 v (put n).length ((put n).map (Value.int .u8)) ∧ Below w.heap.size w w'

set_option maxHeartbeats 800000 in
set_option maxRecDepth 100000 in
theorem put_any (n : Nat) (hn : n < 18446744073709551616) (w : World) :
    Calls Tryd.prog 61 #[.int .u64 (n : Int)] w (PutsTo n w) := by
  obtain ⟨i0, hi, hz0, hz1, hz2⟩ := info_parts info_u8
  have hL := put_len10 hn
  have HN := Lib.hid hn
  clear hn
  go_enter Tryd.func61, Tryd.ntmps61
  go_wp2
  go_loopw [0, 3] (fun a v wr => ∃ (m : Nat) (xs : List Int), a = .int .u64 (m : Int) ∧ m ≤ n ∧ Hid (put n = xs ++ put m) ∧ wr.ownsRow w.heap.size 5 1 v xs.length (xs.map (Value.int .u8)) ∧ Below w.heap.size w wr)
    (fun a _ _ => (intOf a).toNat)
  case atStart => exact ⟨n, [], rfl, Nat.le_refl _, rfl, World.ownsRow_nil _ _ _ _, Below.refl _ _⟩
  case round =>
    obtain ⟨m, xs, rfl, hm, HP, hown, hbl⟩ := hrel
    have hsz := hbl.size
    have hpl : xs.length + (put m).length ≤ 10 := by
      have := congrArg List.length HP.out
      simp at this
      omega
    have hpp := put_pos m
    by_cases hlt : m < 128
    · have hw8 : IntKind.u8.wrap (m : Int) = (m : Int) := by rw [IntKind.wrap_u8']; omega
      have Hm := Lib.hid (put_last hlt)
      go_wp2_with (at_builtin; refine push_own rfl (.tmp 15) (.tmp 18) 29 rfl w.heap.size 5 i0 .u8 1 Tryd.underlying29 hi hz0 hz1 hz2 _ xs.length xs (m : Int) rfl hown rfl (by omega) (by omega) hsz ?_; intro v1 w1 hown1 hb1)
      go_ret
      exact ⟨v1, rfl, by rw [HP.out, Hm.out]; simpa using hown1, hbl.trans hb1⟩
    · have hd : m / 128 ≤ n := by omega
      have Hm := Lib.hid (put_more hlt)
      have hw8 : IntKind.u8.wrap ((m : Int) % 128) = (m : Int) % 128 := by rw [IntKind.wrap_u8']; omega
      have hwd : IntKind.u64.wrap ((m : Int) / 128) = (m : Int) / 128 := IntWalk.u64_in _ ⟨by omega, by have := HN.out; omega⟩
      have hor := u8_or128_right ((m : Int) % 128) (by omega) (by omega)
      go_wp2_with (at_builtin; refine push_own rfl (.tmp 6) (.tmp 11) 29 rfl w.heap.size 5 i0 .u8 1 Tryd.underlying29 hi hz0 hz1 hz2 _ xs.length xs ((m : Int) % 128 + 128) rfl hown rfl (by omega) (by omega) hsz ?_; intro v1 w1 hown1 hb1)
      go_roundw
      case rel => exact ⟨m / 128, xs ++ [((m % 128 : Nat) : Int) + 128], by go_num, hd, by unfold Hid; rw [HP.out, Hm.out]; simp, by simpa using hown1, hbl.trans hb1⟩
      case measure => simp [intOf]; omega

set_option maxHeartbeats 800000 in
set_option maxRecDepth 100000 in
theorem refput_any (n : Nat) (hn : n < 18446744073709551616) (w : World) :
    Calls Tryd.prog 56 #[.int .u64 (n : Int)] w (PutsTo n w) := by
  obtain ⟨i0, hi, hz0, hz1, hz2⟩ := info_parts info_u8
  have hL := put_len10 hn
  have HN := Lib.hid hn
  clear hn
  go_enter Tryd.func56, Tryd.ntmps56
  go_wp2
  go_loopw [0, 3] (fun a v wr => ∃ (m : Nat) (xs : List Int), a = .int .u64 (m : Int) ∧ m ≤ n ∧ Hid (put n = xs ++ put m) ∧ wr.ownsRow w.heap.size 5 1 v xs.length (xs.map (Value.int .u8)) ∧ Below w.heap.size w wr)
    (fun a _ _ => (intOf a).toNat)
  case atStart => exact ⟨n, [], rfl, Nat.le_refl _, rfl, World.ownsRow_nil _ _ _ _, Below.refl _ _⟩
  case round =>
    obtain ⟨m, xs, rfl, hm, HP, hown, hbl⟩ := hrel
    have hsz := hbl.size
    have hpl : xs.length + (put m).length ≤ 10 := by
      have := congrArg List.length HP.out
      simp at this
      omega
    have hpp := put_pos m
    by_cases hlt : m < 128
    · have hw8 : IntKind.u8.wrap (m : Int) = (m : Int) := by rw [IntKind.wrap_u8']; omega
      have Hm := Lib.hid (put_last hlt)
      go_wp2_with (at_builtin; refine push_own rfl (.tmp 15) (.tmp 18) 29 rfl w.heap.size 5 i0 .u8 1 Tryd.underlying29 hi hz0 hz1 hz2 _ xs.length xs (m : Int) rfl hown rfl (by omega) (by omega) hsz ?_; intro v1 w1 hown1 hb1)
      go_ret
      exact ⟨v1, rfl, by rw [HP.out, Hm.out]; simpa using hown1, hbl.trans hb1⟩
    · have hd : m / 128 ≤ n := by omega
      have Hm := Lib.hid (put_more hlt)
      have hw6 : IntKind.u64.wrap (128 + (m : Int) % 128) = 128 + (m : Int) % 128 := IntWalk.u64_in _ ⟨by omega, by omega⟩
      have hw8 : IntKind.u8.wrap (128 + (m : Int) % 128) = (m : Int) % 128 + 128 := by rw [IntKind.wrap_u8']; omega
      have hwd : IntKind.u64.wrap ((m : Int) / 128) = (m : Int) / 128 := IntWalk.u64_in _ ⟨by omega, by have := HN.out; omega⟩
      go_wp2_with (at_builtin; refine push_own rfl (.tmp 6) (.tmp 11) 29 rfl w.heap.size 5 i0 .u8 1 Tryd.underlying29 hi hz0 hz1 hz2 _ xs.length xs ((m : Int) % 128 + 128) rfl hown rfl (by omega) (by omega) hsz ?_; intro v1 w1 hown1 hb1)
      go_roundw
      case rel => exact ⟨m / 128, xs ++ [((m % 128 : Nat) : Int) + 128], by go_num, hd, by unfold Hid; rw [HP.out, Hm.out]; simp, by simpa using hown1, hbl.trans hb1⟩
      case measure => simp [intOf]; omega

set_option maxHeartbeats 800000 in
set_option maxRecDepth 100000 in
/-- Two slices that read alike are the same. -/
theorem same_yes (A A' : Option Addr) (n c c' B B' : Nat) (xs : List Int) (w : World) (hn : n ≤ 4398046511104) (h1 : Row .u8 w B A n xs) (h2 : Row .u8 w B' A' n xs) :
    Calls Tryd.prog 11 #[.slice A n c, .slice A' n c'] w fun e w' => e = .returned (.bool true) ∧ ∃ q, w' = w.drewN q := by
  have H1 := Lib.hid h1
  have H2 := Lib.hid h2
  clear h1 h2
  go_enter Tryd.func11, Tryd.ntmps11
  go_wp2
  go_loopw [5] (fun i wr => ∃ k q : Nat, k ≤ n ∧ i = .int .i64 (k : Int) ∧ Hid (wr = w.drewN q)) (fun i _ => n - (intOf i).toNat)
  case atStart => exact ⟨0, 0, Nat.zero_le _, rfl, rfl⟩
  case round =>
    obtain ⟨k, q, hk, rfl, hw⟩ := hrel
    obtain rfl := hw.out
    clear hw
    by_cases hlt : k < n
    · obtain ⟨b, o, rfl, _, hc1⟩ := H1.out.cell_at hlt
      obtain ⟨b', o', rfl, _, hc2⟩ := H2.out.cell_at hlt
      go_wp2
      go_quiet (fail)
      go_wp2
      go_roundw
      case rel => exact ⟨k + 1, _, by omega, by go_num, by unfold Hid; rfl⟩
      case measure => simp [intOf]; omega
    · go_wp2
      go_ret
      exact ⟨rfl, _, rfl⟩
end Go.Proofs.YtmkdbpdfonpfdaaDoor.Var

/- Take of layer 1 and of its reference, as contracts. -/
namespace Go.Proofs.YtmkdbpdfonpfdaaDoor
open Go.RowKit

/-- A scope whose one label is jumped back to: what holds at the label, at the first time and at every jump; a measure that each pass lowers. -/
theorem scope_back {P : Program} {a : Act} {w : World} {Q : Exit → Act → World → Prop} {c rest : Code} (l : Nat) (J : Act → World → Prop) (μ : Act → World → Nat) (hf : findLabel c l = some (.seq .skip rest))
    (first : ∀ Q' : Exit → Act → World → Prop, (∀ a w, J a w → rest.wp P Q' a w) → c.wp P Q' a w)
    (pass : ∀ a w, J a w → rest.wp P (Exit.jump l (fun a' w' => J a' w' ∧ μ a' w' < μ a w) Q) a w) : (Code.scope c).wp P Q a w := by
  refine wp_scope_jumps l J μ hf (first _ fun a w hJ => wp_mono (pass a w hJ) ?_) (fun a w hJ => wp_seq (wp_skip (pass a w hJ)))
  intro e a' w' h
  cases e <;> first | exact ⟨h.1, h.2.1⟩ | exact h

namespace Var

/-- What holds at Take's label. -/
def AtNext (A : Option Addr) (n c : Nat) (xs : List Int) (w : World) (a' : Act) (w' : World) : Prop :=
  w = w' ∧ ∃ (i X : Nat) (u7 u8 u9 u10 u11 u12 u13 u14 u15 u16 u17 u18 u19 u20 u21 u22 u23 u24 u25 u26 u27 u28 u29 u30 u31 u32 u33 u34 u35 u36 u37 u38 u39 u40 u41 : Value), i ≤ n ∧ i ≤ 9 ∧ X < 128 ^ i ∧ take 0 0 xs = take X i (xs.drop i) ∧
      a' = { tmps := #[.slice A n c, undef, .int .u64 0, .int .i64 0, .int .i64 0, .int .u64 (X : Int), .int .i64 (i : Int), u7, u8, u9, u10, u11, u12, u13, u14, u15, u16, u17, u18, u19, u20, u21, u22, u23, u24, u25, u26, u27, u28, u29, u30, u31, u32, u33, u34, u35, u36, u37, u38, u39, u40, u41], defers := [] }
def left (n : Nat) (a' : Act) : Nat := n - (intOf (a'.tmps.getD 6 undef)).toNat

/-- One group of seven bits more. -/
theorem group (X i : Nat) (y : Int) (h0 : 0 ≤ y) (hi : i ≤ 9) (h9 : i = 9 → y ≤ 1) (hX : X < 128 ^ i) :
    bits .or .u64 (X : Int) (IntKind.u64.wrap (y % 128 * 2 ^ (7 * i))) = ((X + y.toNat % 128 * 128 ^ i : Nat) : Int) ∧ (i < 9 → X + y.toNat % 128 * 128 ^ i < 128 ^ (i + 1)) ∧ X + y.toNat % 128 * 128 ^ i < 18446744073709551616 := by
  obtain ⟨d, rfl⟩ := Int.eq_ofNat_of_zero_le h0
  have hm : d % 128 ≤ 127 := by omega
  have h1 : X + d % 128 * 128 ^ i < 128 ^ (i + 1) := by
    have := Nat.mul_le_mul_right (128 ^ i) hm
    rw [Nat.pow_succ]
    omega
  have h2 : X + d % 128 * 128 ^ i < 18446744073709551616 := by
    by_cases e : i = 9
    · subst e
      have := h9 rfl
      have hd : d % 128 ≤ 1 := by omega
      have := Nat.mul_le_mul_right (128 ^ 9) hd
      omega
    · have : 128 ^ (i + 1) ≤ 128 ^ 9 := Nat.pow_le_pow_right (by omega) (by omega)
      omega
  have e1 : ((d : Int) % 128 * 2 ^ (7 * i)) = ((d % 128 * 128 ^ i : Nat) : Int) := by
    have := pow7 i
    rw [← this]
    simp
  have e2 : (d : Int).toNat = d := by simp
  rw [e1, e2]
  refine ⟨?_, fun _ => h1, h2⟩
  rw [IntWalk.u64_in _ ⟨by omega, by omega⟩, u64_or_nat _ _ (by omega) (by omega)]
  congr 1
  have := or_group X (d % 128) i (by rw [pow7]; exact hX)
  rw [pow7] at this
  exact this

theorem take_no {X i : Nat} {y : Int} {cs : List Int} (h9 : 9 ≤ i) (hi : i ≤ 9) (hy : 1 < y) : take X i (y :: cs) = (0, 0, 11) := by
  simp only [take]; rw [if_pos ⟨by omega, hy⟩]
theorem take_zero {X i : Nat} {y : Int} {cs : List Int} (hy : y ≤ 0) (h0 : 0 ≤ y) (hi : 0 < i) : take X i (y :: cs) = (0, 0, 11) := by
  simp only [take]; rw [if_neg (by omega), if_pos (by omega), if_pos ⟨by omega, hi⟩]
theorem take_end {X i : Nat} {y : Int} {cs : List Int} (h0 : 0 ≤ y) (h9 : i = 9 → y ≤ 1) (hy : y < 128) (hz : y = 0 → i = 0) : take X i (y :: cs) = (X + y.toNat % 128 * 128 ^ i, i + 1, 0) := by
  simp only [take]; rw [if_neg (by omega), if_pos hy, if_neg (by omega)]
theorem take_on {X i : Nat} {y : Int} {cs : List Int} (h9 : i = 9 → y ≤ 1) (hy : 128 ≤ y) : take X i (y :: cs) = take (X + y.toNat % 128 * 128 ^ i) (i + 1) cs := by
  simp only [take]; rw [if_neg (by omega), if_neg (by omega)]

set_option maxHeartbeats 3200000 in
set_option maxRecDepth 100000 in
theorem take_any (A : Option Addr) (n c B : Nat) (xs : List Int) (w : World) (h : Row .u8 w B A n xs) (hb : ∀ x ∈ xs, 0 ≤ x ∧ x ≤ 255) :
    Calls Tryd.prog 76 #[.slice A n c] w fun e w' =>
      e = .returned (.tuple #[.int .u64 ((take 0 0 xs).1 : Int), .int .i64 ((take 0 0 xs).2.1 : Int), .int .i64 ((take 0 0 xs).2.2 : Int)]) ∧ w = w' := by
  have H := Lib.hid h
  have HB := Lib.hid hb
  clear h hb
  go_enter Tryd.func76, Tryd.ntmps76
  go_wp2
  refine scope_back 0 (AtNext A n c xs w) (fun a' _ => left n a') rfl ?_ ?_
  · intro Q' hQ
    have HQ := Lib.hid hQ
    clear hQ
    go_wp2
    go_step3
    rename_i hK
    exact hK _ _ (HQ.out _ _ ⟨rfl, 0, 0, _, _, _, _, _, _, _, _, _, _, _, _, _, _, _, _, _, _, _, _, _, _, _, _, _, _, _, _, _, _, _, _, _, _, _, Nat.zero_le _, by omega, by simp, rfl, rfl⟩)
  · rintro a' w' ⟨hw, i, X, u7, u8, u9, u10, u11, u12, u13, u14, u15, u16, u17, u18, u19, u20, u21, u22, u23, u24, u25, u26, u27, u28, u29, u30, u31, u32, u33, u34, u35, u36, u37, u38, u39, u40, u41, hi, hi9, hX, hT, rfl⟩
    obtain rfl := hw
    have HT := Lib.hid hT
    have HX := Lib.hid hX
    clear hT hX
    by_cases hlt : i < n
    · obtain ⟨b, o, rfl, _, hcell⟩ := H.out.cell_at hlt
      have hxi : i < xs.length := by rw [H.out.len]; exact hlt
      have hy := HB.out (xs.getD i 0) (by simp [List.getD, hxi])
      have HT' : Hid (take 0 0 xs = take X i (xs.getD i 0 :: xs.drop (i + 1))) := by
        unfold Hid; rw [HT.out, List.drop_eq_getElem_cons hxi]; simp [List.getD, hxi]
      clear HT
      generalize xs.getD i 0 = y at *
      obtain ⟨hy0, hy1⟩ := hy
      by_cases hno : i = 9 ∧ 1 < y
      · obtain ⟨h9, hy2⟩ := hno
        have hb9 : ((i : Int) == 9) = true := beq_iff_eq.2 (by omega)
        have HV := Lib.hid (HT'.out.trans (take_no (by omega) hi9 hy2))
        clear HT' HX h9
        go_wp2
        simp only [Exit.jump]
        go_ret3
        exact ⟨by rw [HV.out]; rfl, rfl⟩
      · have h9y : i = 9 → y ≤ 1 := by omega
        have G := group X i y hy0 hi9 h9y HX.out
        obtain ⟨Y, hY⟩ : ∃ Y, Y = X + y.toNat % 128 * 128 ^ i := ⟨_, rfl⟩
        rw [← hY] at G
        obtain ⟨hor, hY9, hY64⟩ := G
        have HY9 := Lib.hid hY9
        by_cases h128 : y < 128
        · by_cases h0 : y = 0 ∧ 0 < i
          · have HV := Lib.hid (HT'.out.trans (take_zero (by omega) hy0 h0.2))
            have hyb : (y == 0) = true := beq_iff_eq.2 h0.1
            have hi0 : 0 < i := h0.2
            clear HT' HX hY hY9 hY64 HY9 h9y hno h0
            by_cases h9 : i = 9
            · have hb9 : ((i : Int) == 9) = true := beq_iff_eq.2 (by omega)
              have hy2 : y ≤ 1 := by have := beq_iff_eq.1 hyb; omega
              clear h9
              go_wp2
              simp only [Exit.jump]
              go_ret3
              exact ⟨by rw [HV.out]; rfl, rfl⟩
            · have hb9 : ((i : Int) == 9) = false := beq_eq_false_iff_ne.2 (by omega)
              clear h9
              go_wp2
              simp only [Exit.jump]
              go_ret3
              exact ⟨by rw [HV.out]; rfl, rfl⟩
          · have HV := Lib.hid (HT'.out.trans (take_end hy0 h9y h128 (by omega)))
            have HY := Lib.hid hY
            have fin : ∀ i1 : Int, i1 = (i : Int) + 1 → Ending.returned (.tuple #[.int .u64 (Y : Int), .int .i64 i1, .int .i64 0]) = .returned (.tuple #[.int .u64 ((take 0 0 xs).1 : Int), .int .i64 ((take 0 0 xs).2.1 : Int), .int .i64 ((take 0 0 xs).2.2 : Int)]) := by
              intro i1 h1
              rw [HV.out, ← HY.out, h1]
              rfl
            have FIN := Lib.hid fin
            by_cases hyz : y = 0
            · have hyb : (y == 0) = true := beq_iff_eq.2 hyz
              have hi0 : i ≤ 0 := by omega
              have hb9 : ((i : Int) == 9) = false := beq_eq_false_iff_ne.2 (by omega)
              clear HT' HX hY hY9 hY64 HY9 h9y hno h0 hyz fin HV HY
              go_wp2
              simp only [Exit.jump]
              go_ret3
              exact ⟨FIN.out _ rfl, rfl⟩
            · have hyb : (y == 0) = false := beq_eq_false_iff_ne.2 hyz
              by_cases h9 : i = 9
              · have hb9 : ((i : Int) == 9) = true := beq_iff_eq.2 (by omega)
                have hy2 : y ≤ 1 := h9y h9
                clear HT' HX hY hY9 hY64 HY9 h9y hno h0 hyz fin HV HY h9
                go_wp2
                simp only [Exit.jump]
                go_ret3
                exact ⟨FIN.out _ rfl, rfl⟩
              · have hb9 : ((i : Int) == 9) = false := beq_eq_false_iff_ne.2 (by omega)
                clear HT' HX hY hY9 hY64 HY9 h9y hno h0 hyz fin HV HY h9
                go_wp2
                simp only [Exit.jump]
                go_ret3
                exact ⟨FIN.out _ rfl, rfl⟩
        · have h9 : i ≠ 9 := by omega
          have hb9 : ((i : Int) == 9) = false := beq_eq_false_iff_ne.2 (by omega)
          have h128' : 128 ≤ y := by omega
          have HV := Lib.hid (HT'.out.trans (take_on h9y h128'))
          have HY := Lib.hid hY
          clear HT' HX hY hY9 hY64 h9y hno h128
          go_wp2
          go_step3
          have ei : (i : Int) + 1 = ((i + 1 : Nat) : Int) := by omega
          rw [ei]
          exact ⟨rfl, ⟨rfl, i + 1, Y, _, _, _, _, _, _, _, _, _, _, _, _, _, _, _, _, _, _, _, _, _, _, _, _, _, _, _, _, _, _, _, _, _, _, _, by omega, by omega, HY9.out (by omega), by rw [HV.out, HY.out], rfl⟩, by simp [left, intOf]; omega⟩
    · have hv : take 0 0 xs = (0, 0, 10) := by rw [HT.out, List.drop_eq_nil_of_le (by rw [H.out.len]; omega)]; rfl
      have HV := Lib.hid hv
      clear hv
      go_wp2
      simp only [Exit.jump]
      go_ret3
      exact ⟨by rw [HV.out]; rfl, rfl⟩
end Var
end Go.Proofs.YtmkdbpdfonpfdaaDoor

/- The reference's Take of layer 1, as a contract. -/
namespace Go.Proofs.YtmkdbpdfonpfdaaDoor.Var
open Go.RowKit

theorem group_sum (X i S : Nat) (y : Int) (h0 : 0 ≤ y) (hi : i ≤ 9) (h9 : i = 9 → y ≤ 1) (hX : X < 128 ^ i) (hS : S = 128 ^ i) :
    ∃ P Y : Nat, IntKind.u64.wrap (y % 128 * (S : Int)) = (P : Int) ∧ IntKind.u64.wrap ((X : Int) + (P : Int)) = (Y : Int) ∧ Hid (Y = X + y.toNat % 128 * 128 ^ i) ∧ Hid (i < 9 → Y < 128 ^ (i + 1)) ∧
      (i < 9 → IntKind.u64.wrap ((S : Int) * 128) = ((128 ^ (i + 1) : Nat) : Int)) := by
  subst hS
  obtain ⟨-, g1, g2⟩ := group X i y h0 hi h9 hX
  obtain ⟨d, rfl⟩ := Int.eq_ofNat_of_zero_le h0
  have e2 : (d : Int).toNat = d := by simp
  rw [e2] at g1 g2 ⊢
  have e1 : (d : Int) % 128 * ((128 ^ i : Nat) : Int) = ((d % 128 * 128 ^ i : Nat) : Int) := by simp
  refine ⟨d % 128 * 128 ^ i, X + d % 128 * 128 ^ i, ?_, ?_, rfl, g1, fun h => ?_⟩
  · rw [e1]; exact IntWalk.u64_in _ ⟨by omega, by omega⟩
  · rw [IntWalk.u64_in _ ⟨by omega, by omega⟩]; omega
  · have hp : 128 ^ (i + 1) ≤ 128 ^ 9 := Nat.pow_le_pow_right (by omega) (by omega)
    have e3 : ((128 ^ i : Nat) : Int) * 128 = ((128 ^ (i + 1) : Nat) : Int) := by rw [Nat.pow_succ]; simp
    rw [e3]
    exact IntWalk.u64_in _ ⟨by omega, by omega⟩

set_option maxHeartbeats 3200000 in
set_option maxRecDepth 100000 in
theorem reftake_any (A : Option Addr) (n c B : Nat) (xs : List Int) (w : World) (h : Row .u8 w B A n xs) (hb : ∀ x ∈ xs, 0 ≤ x ∧ x ≤ 255) :
    Calls Tryd.prog 84 #[.slice A n c] w fun e w' =>
      e = .returned (.tuple #[.int .u64 ((take 0 0 xs).1 : Int), .int .i64 ((take 0 0 xs).2.1 : Int), .int .i64 ((take 0 0 xs).2.2 : Int)]) ∧ w = w' := by
  have H := Lib.hid h
  have HB := Lib.hid hb
  clear h hb
  go_enter Tryd.func84, Tryd.ntmps84
  go_wp2
  go_loop [5, 6, 7] (fun a s t => ∃ i X S : Nat, i ≤ n ∧ i ≤ 9 ∧ Hid (X < 128 ^ i) ∧ Hid (S = 128 ^ i) ∧ Hid (take 0 0 xs = take X i (xs.drop i)) ∧ a = .int .u64 (X : Int) ∧ s = .int .u64 (S : Int) ∧ t = .int .i64 (i : Int)) (fun _ _ t => n - (intOf t).toNat)
  case atStart => exact ⟨0, 0, 1, Nat.zero_le _, by omega, by unfold Hid; simp, by unfold Hid; simp, rfl, rfl, rfl, rfl⟩
  case round =>
    obtain ⟨i, X, S, hi, hi9, HX, HS, HT, rfl, rfl, rfl⟩ := hrel
    by_cases hlt : i < n
    · obtain ⟨b, o, rfl, _, hcell⟩ := H.out.cell_at hlt
      have hxi : i < xs.length := by rw [H.out.len]; exact hlt
      have hy := HB.out (xs.getD i 0) (by simp [List.getD, hxi])
      have HT' : Hid (take 0 0 xs = take X i (xs.getD i 0 :: xs.drop (i + 1))) := by
        unfold Hid; rw [HT.out, List.drop_eq_getElem_cons hxi]; simp [List.getD, hxi]
      clear HT
      generalize xs.getD i 0 = y at *
      obtain ⟨hy0, hy1⟩ := hy
      by_cases hno : i = 9 ∧ 1 < y
      · obtain ⟨h9, hy2⟩ := hno
        have hb9 : ((i : Int) == 9) = true := beq_iff_eq.2 (by omega)
        have HV := Lib.hid (HT'.out.trans (take_no (by omega) hi9 hy2))
        clear HT' HX h9
        go_wp2
        go_ret3
        exact ⟨by rw [HV.out]; rfl, rfl⟩
      · have h9y : i = 9 → y ≤ 1 := by omega
        obtain ⟨P, Y, hmul, hsum, HY, HY9, hsc⟩ := group_sum X i S y hy0 hi9 h9y HX.out HS.out
        by_cases h128 : y < 128
        · by_cases h0 : y = 0 ∧ 0 < i
          · have HV := Lib.hid (HT'.out.trans (take_zero (by omega) hy0 h0.2))
            have hyb : (y == 0) = true := beq_iff_eq.2 h0.1
            have hi0 : 0 < i := h0.2
            by_cases h9 : i = 9
            · have hb9 : ((i : Int) == 9) = true := beq_iff_eq.2 (by omega)
              have hy2 : y ≤ 1 := h9y h9
              clear h9 HT' HX HY HY9 h9y hno h0 hsc
              go_wp2
              go_ret3
              exact ⟨by rw [HV.out]; rfl, rfl⟩
            · have hb9 : ((i : Int) == 9) = false := beq_eq_false_iff_ne.2 (by omega)
              clear h9 HT' HX HY HY9 h9y hno h0 hsc
              go_wp2
              go_ret3
              exact ⟨by rw [HV.out]; rfl, rfl⟩
          · have HV := Lib.hid (HT'.out.trans (take_end hy0 h9y h128 (by omega)))
            have fin : ∀ i1 : Int, i1 = (i : Int) + 1 → Ending.returned (.tuple #[.int .u64 (Y : Int), .int .i64 i1, .int .i64 0]) = .returned (.tuple #[.int .u64 ((take 0 0 xs).1 : Int), .int .i64 ((take 0 0 xs).2.1 : Int), .int .i64 ((take 0 0 xs).2.2 : Int)]) := by
              intro i1 h1
              rw [HV.out, ← HY.out, h1]
              rfl
            have FIN := Lib.hid fin
            by_cases hyz : y = 0
            · have hyb : (y == 0) = true := beq_iff_eq.2 hyz
              have hi0 : i ≤ 0 := by omega
              have hb9 : ((i : Int) == 9) = false := beq_eq_false_iff_ne.2 (by omega)
              clear HT' HX HY9 h9y hno h0 hyz fin HV HY hsc
              go_wp2
              go_ret3
              exact ⟨FIN.out _ rfl, rfl⟩
            · have hyb : (y == 0) = false := beq_eq_false_iff_ne.2 hyz
              by_cases h9 : i = 9
              · have hb9 : ((i : Int) == 9) = true := beq_iff_eq.2 (by omega)
                have hy2 : y ≤ 1 := h9y h9
                clear HT' HX HY9 h9y hno h0 hyz fin HV HY h9 hsc
                go_wp2
                go_ret3
                exact ⟨FIN.out _ rfl, rfl⟩
              · have hb9 : ((i : Int) == 9) = false := beq_eq_false_iff_ne.2 (by omega)
                clear HT' HX HY9 h9y hno h0 hyz fin HV HY h9 hsc
                go_wp2
                go_ret3
                exact ⟨FIN.out _ rfl, rfl⟩
        · have h9 : i ≠ 9 := by omega
          have hb9 : ((i : Int) == 9) = false := beq_eq_false_iff_ne.2 (by omega)
          have h128' : 128 ≤ y := by omega
          have HV := Lib.hid (HT'.out.trans (take_on h9y h128'))
          have hs' := hsc (by omega)
          obtain ⟨S', HS'⟩ : ∃ S', Hid (S' = 128 ^ (i + 1)) := ⟨128 ^ (i + 1), Lib.hid rfl⟩
          rw [← HS'.out] at hs'
          clear HT' HX h9y hno h128 hsc
          go_wp2
          go_round
          case rel => exact ⟨i + 1, Y, S', by omega, by omega, HY9.out (by omega), HS', by unfold Hid; rw [HV.out, HY.out], rfl, rfl, by go_num⟩
          case measure => simp [intOf]; omega
    · have hv : take 0 0 xs = (0, 0, 10) := by rw [HT.out, List.drop_eq_nil_of_le (by rw [H.out.len]; omega)]; rfl
      have HV := Lib.hid hv
      clear hv
      go_wp2
      go_ret3
      exact ⟨by rw [HV.out]; rfl, rfl⟩
end Go.Proofs.YtmkdbpdfonpfdaaDoor.Var

/- The Writer of layer 3 (field) and its reference: what each method does, as contracts over the program. -/
namespace Go.Proofs.YtmkdbpdfonpfdaaDoor.Fld
open Go.RowKit Var

/-- A slice value of one's own, from its shape. -/
theorem own_nil {w : World} {base n : Nat} {e : TypeId} {v : Value} {xs : List Value} (h : w.ownsRow base e 1 v n xs) : ∃ A c, v = .slice A n c ∧ (A = none → c = 0) := by
  obtain ⟨A, c, h1, _, h2⟩ := own_slice h
  exact ⟨A, c, h1, h2⟩

set_option maxHeartbeats 800000 in
set_option maxRecDepth 100000 in
/-- slices.Clone: a row of its own that reads alike. -/
theorem clone_any (A : Option Addr) (n c B : Nat) (xs : List Int) (w : World) (h : Row .u8 w B A n xs) (hB : B ≤ w.heap.size) (hnil : A = none → c = 0) (hn : n ≤ 4398046511104) :
    Calls Tryd.prog 46 #[.slice A n c] w fun e w' =>
      ∃ v, e = .returned v ∧ w'.ownsRow w.heap.size 5 1 v n (xs.map (Value.int .u8)) ∧ Below w.heap.size w w' := by
  obtain ⟨i0, hi, hz0, hz1, hz2⟩ := info_parts info_u8
  rcases A with _ | ad
  · have hn0 : n = 0 := by
      rcases Nat.eq_zero_or_pos n with h0 | h0
      · exact h0
      · obtain ⟨_, _, h1, _⟩ := h.2 h0
        cases h1
    subst hn0
    have hx : xs = [] := List.eq_nil_of_length_eq_zero h.1
    subst hx
    rw [hnil rfl]
    have he : ∀ w : World, (binOp .eql 29 (.slice none 0 0) (.slice none 0 0)).run Tryd.prog w = .ok (.bool true) w := fun _ => rfl
    go_enter Tryd.func46, Tryd.ntmps46
    go_wp2
    go_ret
    exact ⟨_, rfl, World.ownsRow_nil _ _ _ _, Below.refl _ _⟩
  · have H := Lib.hid h
    have H2 := Lib.hid hnil
    clear h hnil
    have he : ∀ w : World, (binOp .eql 29 (.slice (some ad) n c) (.slice none 0 0)).run Tryd.prog w = .ok (.bool false) w := fun _ => rfl
    go_enter Tryd.func46, Tryd.ntmps46
    go_wp2_with (at_builtin; refine cat_own rfl (.tmp 5) (.tmp 6) 29 rfl w.heap.size 5 i0 .u8 1 Tryd.underlying29 hi hz0 hz1 hz2 _ 0 [] rfl (World.ownsRow_made w #[] 0 (Nat.le_refl _) (Nat.zero_le _) rfl) B (some ad) n c xs rfl H2.out (H.out.alloc hB _) (by omega) (by omega) (by simp) ?_; intro v1 w1 hown1 hb1)
    go_ret
    exact ⟨v1, rfl, by simpa using hown1, ((Below.refl _ _).alloc (Nat.le_refl _) _).trans hb1⟩

/-- A Writer behind a pointer: its block, the row that it owns. -/
structure Wr (w : World) (base g : Nat) (v : Value) (n : Nat) (xs : List Int) : Prop where
  blk : w.heap[g]? = some (.cells #[v] 65 (0, 0))
  own : w.ownsRow base 5 1 v n (xs.map (Value.int .u8))
  ne : v.ownBlock ≠ some g
  low : base ≤ g

/-- What a Writer's method may turn, and where its row lies behind it. -/
structure Mv (w w' : World) (g : Nat) (v v' : Value) : Prop where
  only : Only (fun k => k = g ∨ v.ownBlock = some k) w w'
  new : ∀ k, v'.ownBlock = some k → v.ownBlock = some k ∨ w.heap.size ≤ k

theorem Mv.refl (w : World) (g : Nat) (v : Value) : Mv w w g v v := ⟨Only.refl _ _, fun _ h => .inl h⟩
theorem Mv.trans {w w1 w2 : World} {g : Nat} {v v1 v2 : Value} (h : Mv w w1 g v v1) (k : Mv w1 w2 g v1 v2) : Mv w w2 g v v2 := by
  refine ⟨h.only.trans k.only ?_, fun i hi => ?_⟩
  · rintro i hi (rfl | hm)
    · exact .inl rfl
    · rcases h.new i hm with h1 | h1
      · exact .inr h1
      · omega
  · rcases k.new i hi with h1 | h1
    · exact h.new i h1
    · exact .inr (Nat.le_trans h.only.size h1)
theorem Mv.of_below {w w1 : World} {g : Nat} {v : Value} (h : Below w.heap.size w w1) : Mv w w1 g v v := ⟨Only.of_below h, fun _ h => .inl h⟩
theorem Wr.below {w w1 : World} {base g n : Nat} {v : Value} {xs : List Int} (h : Wr w base g v n xs) (hb : Below w.heap.size w w1) : Wr w1 base g v n xs :=
  ⟨(hb.block g (Array.getElem?_eq_some_iff.1 h.blk).1).trans h.blk, own_below h.own hb, h.ne, h.low⟩
theorem Wr.lt {w : World} {base g n : Nat} {v : Value} {xs : List Int} (h : Wr w base g v n xs) : g < w.heap.size := (Array.getElem?_eq_some_iff.1 h.blk).1

def Adds (w : World) (base g : Nat) (v : Value) (n : Nat) (xs ys : List Int) (e : Ending) (w' : World) : Prop :=
  e = .returned (.tuple #[]) ∧ ∃ v', Wr w' base g v' (n + ys.length) (xs ++ ys) ∧ Mv w w' g v v'

theorem after_add {w w1 : World} {base g n m : Nat} {v v1 : Value} {xs : List Int} {zs : List Value} (hw : Wr w base g v n xs) (hown1 : w1.ownsRow base 5 1 v1 m zs) (hg1 : w.grownBy w1 v.ownBlock) (hl1 : v1.ownBlock = v.ownBlock ∨ v1.ownBlock = some w.heap.size) :
    ∃ A1 c1, v1 = .slice A1 m c1 ∧ w1.cell? ⟨g, 0, none⟩ = some v ∧ w1.frozen? ⟨g, 0, none⟩ = false ∧ Hid (w1.ownsRow base 5 1 v1 m zs) ∧ Hid (w.grownBy w1 v.ownBlock) ∧ Hid (v1.ownBlock = v.ownBlock ∨ v1.ownBlock = some w.heap.size) ∧ Hid (v1.ownBlock ≠ some g) ∧ Hid (w1.heap[g]? = some (.cells #[v] 65 (0, 0))) := by
  have hblk : w1.heap[g]? = some (.cells #[v] 65 (0, 0)) := (hg1.block g hw.lt (fun e => hw.ne e.symm)).trans hw.blk
  obtain ⟨A1, c1, h1, -⟩ := own_nil hown1
  refine ⟨A1, c1, h1, cell_of_one hblk, free_of_one hblk, hown1, hg1, hl1, ?_, hblk⟩
  unfold Hid
  rcases hl1 with h | h
  · rw [h]; exact hw.ne
  · rw [h]; intro e; injection e with e; have := hw.lt; omega

set_option maxHeartbeats 800000 in
set_option maxRecDepth 100000 in
theorem add_any (base g n : Nat) (v : Value) (xs : List Int) (A : Option Addr) (m c B : Nat) (ys : List Int) (w : World) (hw : Wr w base g v n xs) (hr : Row .u8 w B A m ys) (hnil : A = none → c = 0) (hn : n + m ≤ 4398046511104) :
    Calls Tryd.prog 60 #[.pointer (some ⟨g, 0, none⟩), .slice A m c] w (Adds w base g v n xs ys) := by
  obtain ⟨i0, hi, hz0, hz1, hz2⟩ := info_parts info_u8
  have HW := Lib.hid hw
  have HR := Lib.hid hr
  have HN := Lib.hid hnil
  have hc := cell_of_one hw.blk
  have hlow : base ≤ w.heap.size := Nat.le_trans hw.low (Nat.le_of_lt hw.lt)
  clear hw hr hnil
  obtain ⟨A0, c0, rfl, -⟩ := own_nil HW.out.own
  go_enter Tryd.func60, Tryd.ntmps60
  go_wp2_with (at_builtin; refine cat_mine rfl (.tmp 10) (.tmp 11) 29 rfl base 5 i0 .u8 1 Tryd.underlying29 hi hz0 hz1 hz2 (.slice A0 n c0) n xs rfl HW.out.own B A m c ys rfl HN.out HR.out hn (by omega) hlow ?_; intro v1 w1 hown1 hg1 hl1; obtain ⟨A1, c1, rfl, hc1, hf1, HO, HG, HL, HE, HK⟩ := after_add HW.out hown1 hg1 hl1; clear hown1 hg1 hl1)
  go_end0
  have hm : ys.length = m := HR.out.len
  refine ⟨rfl, _, ⟨one_setCell HK.out, by rw [hm]; exact ownsRow_setCell_other HO.out HE.out _, HE.out, HW.out.low⟩, ?_, ?_⟩
  · refine (Only.of_grown HG.out |>.mono (fun i h => Or.inr h)).trans (Only.setCell _ ⟨g, 0, none⟩ _) (fun i _ h => Or.inl h)
  · intro k hk
    rcases HL.out with h | h
    · left; rw [← h]; exact hk
    · right; rw [h] at hk; injection hk with hk; omega

set_option maxHeartbeats 800000 in
set_option maxRecDepth 100000 in
/-- A nil Writer: nothing happens. -/
theorem add_nil (v : Value) (w : World) : Calls Tryd.prog 60 #[.pointer none, v] w fun e w' => e = .returned (.tuple #[]) ∧ w = w' := by
  go_enter Tryd.func60, Tryd.ntmps60
  go_wp2
  go_end0
  exact ⟨rfl, rfl⟩

/-- A number's field. -/
def num (k : Int) : List Int := put k.toNat
theorem num_len {k : Int} (h : k ≤ 9223372036854775807) : (num k).length ≤ 10 := put_len10 (by omega)

theorem Adds.from_below {w w1 w2 : World} {base g n : Nat} {v : Value} {xs ys : List Int} {e : Ending} (hb : Below w.heap.size w w1) (h : Adds w1 base g v n xs ys e w2) : Adds w base g v n xs ys e w2 := by
  obtain ⟨he, v', h1, h2⟩ := h
  exact ⟨he, v', h1, (Mv.of_below hb).trans h2⟩

theorem Wr.below_of {w w' : World} {base g n : Nat} {v v' : Value} {xs : List Int} (h : Wr w base g v n xs) (k : Mv w w' g v v') : Below base w w' :=
  k.only.below (Nat.le_trans h.low (Nat.le_of_lt h.lt)) (fun i hi => by
    rcases hi with rfl | hi
    · exact h.low
    · exact (h.own.lt i hi).1)

set_option maxHeartbeats 800000 in
set_option maxRecDepth 100000 in
theorem number_any (base g n : Nat) (v : Value) (xs : List Int) (k : Int) (w : World) (hw : Wr w base g v n xs) (h2 : k ≤ 9223372036854775807) (hn : n + 10 ≤ 4398046511104) :
    Calls Tryd.prog 35 #[.pointer (some ⟨g, 0, none⟩), .int .i64 k] w (Adds w base g v n xs (num k)) := by
  have HW := Lib.hid hw
  have HK := Lib.hid h2
  clear hw h2
  have fin : ∀ (v1 : Value) (w1 : World), w1.ownsRow w.heap.size 5 1 v1 (put k.toNat).length ((put k.toNat).map (Value.int .u8)) → Below w.heap.size w w1 →
      Calls Tryd.prog 60 #[.pointer (some ⟨g, 0, none⟩), v1] w1 (Adds w base g v n xs (num k)) := by
    intro v1 w1 hown hb
    obtain ⟨A, c, rfl, hnil⟩ := own_nil hown
    have := num_len HK.out
    unfold num at this
    exact (add_any base g n v xs A _ c _ _ w1 (HW.out.below hb) (Row.of_own hown) hnil (by omega)).mono fun e w2 h => Adds.from_below hb h
  have FIN := Lib.hid fin
  clear fin
  go_enter Tryd.func35, Tryd.ntmps35
  by_cases hk : k < 0
  · have hm : max k 0 = 0 := by omega
    have HZ : Hid (k.toNat = 0) := by unfold Hid; omega
    go_wp2_with fail
    refine (put_any 0 (by omega) _).mono ?_
    rintro e1 w1 ⟨v1, rfl, hown, hb⟩
    rw [← HZ.out] at hown
    go_wp2_with fail
    refine (FIN.out v1 w1 hown hb).mono ?_
    rintro e2 w2 h
    obtain ⟨rfl, -⟩ := id h
    have H := Lib.hid h
    clear h
    go_wp2
    go_end0
    exact H.out
  · have hm : max k 0 = k := by omega
    have hku : IntKind.u64.wrap k = k := IntWalk.u64_in _ ⟨by omega, by have := HK.out; omega⟩
    have HZ : Hid (k = (k.toNat : Int)) := by unfold Hid; omega
    go_wp2_with fail
    have P := put_any k.toNat (by have := HK.out; omega) w
    rw [← HZ.out] at P
    refine P.mono ?_
    clear P
    rintro e1 w1 ⟨v1, rfl, hown, hb⟩
    go_wp2_with fail
    refine (FIN.out v1 w1 hown hb).mono ?_
    rintro e2 w2 h
    obtain ⟨rfl, -⟩ := id h
    have H := Lib.hid h
    clear h
    go_wp2
    go_end0
    exact H.out

/-- A signed number's field. -/
def sgn (k : Int) : List Int := put (turn k).toNat
theorem sgn_len {k : Int} (h1 : -9223372036854775808 ≤ k) (h2 : k ≤ 9223372036854775807) : (sgn k).length ≤ 10 := put_len10 (by have := turn_bd h1 h2; omega)

set_option maxHeartbeats 800000 in
set_option maxRecDepth 100000 in
theorem number_nil (k : Nat) (hk : k ≤ 9223372036854775807) (w : World) : Calls Tryd.prog 35 #[.pointer none, .int .i64 (k : Int)] w fun e w' => e = .returned (.tuple #[]) ∧ Below w.heap.size w w' := by
  have hm : max (k : Int) 0 = k := by omega
  have hku : IntKind.u64.wrap (k : Int) = k := IntWalk.u64_in _ ⟨by omega, by omega⟩
  have HK := Lib.hid hk
  clear hk
  go_enter Tryd.func35, Tryd.ntmps35
  go_wp2_with fail
  refine (put_any k (by have := HK.out; omega) _).mono ?_
  rintro e1 w1 ⟨v1, rfl, -, hb⟩
  go_wp2_with fail
  refine (add_nil _ _).mono ?_
  rintro e2 w2 ⟨rfl, rfl⟩
  go_wp2
  go_end0
  exact ⟨rfl, hb⟩

set_option maxHeartbeats 800000 in
set_option maxRecDepth 100000 in
theorem out_any (base g n : Nat) (v : Value) (xs : List Int) (w : World) (hw : Wr w base g v n xs) (hn : n ≤ 4398046511104) :
    Calls Tryd.prog 36 #[.pointer (some ⟨g, 0, none⟩)] w fun e w' =>
      ∃ v', e = .returned v' ∧ w'.ownsRow w.heap.size 5 1 v' n (xs.map (Value.int .u8)) ∧ Below w.heap.size w w' := by
  have HW := Lib.hid hw
  have hc := cell_of_one hw.blk
  clear hw
  obtain ⟨A0, c0, rfl, hnil⟩ := own_nil HW.out.own
  have HN := Lib.hid hnil
  clear hnil
  go_enter Tryd.func36, Tryd.ntmps36
  go_wp2_with fail
  refine (clone_any A0 n c0 _ xs w (Row.of_own HW.out.own) (Nat.le_refl _) HN.out hn).mono ?_
  rintro e1 w1 ⟨v1, rfl, hown, hb⟩
  go_wp2
  go_ret
  exact ⟨v1, rfl, hown, hb⟩

set_option maxHeartbeats 800000 in
set_option maxRecDepth 100000 in
theorem out_nil (w : World) : Calls Tryd.prog 36 #[.pointer none] w fun e w' => e = .returned (.slice none 0 0) ∧ w = w' := by
  go_enter Tryd.func36, Tryd.ntmps36
  go_wp2
  go_ret
  exact ⟨rfl, rfl⟩

/-- The reference's: a row of its own. -/
def Makes (ys : List Int) (w : World) (e : Ending) (w' : World) : Prop :=
  ∃ v, e = .returned v ∧ w'.ownsRow w.heap.size 5 1 v ys.length (ys.map (Value.int .u8)) ∧ Below w.heap.size w w'

set_option maxHeartbeats 800000 in
set_option maxRecDepth 100000 in
theorem refnumber_any (k : Int) (h2 : k ≤ 9223372036854775807) (w : World) : Calls Tryd.prog 37 #[.int .i64 k] w (Makes (num k) w) := by
  have HK := Lib.hid h2
  clear h2
  by_cases hk : k < 0
  · have HZ : Hid (k.toNat = 0) := by unfold Hid; omega
    go_enter Tryd.func37, Tryd.ntmps37
    go_wp2_with fail
    refine (refput_any 0 (by omega) _).mono ?_
    rintro e1 w1 ⟨v1, rfl, hown, hb⟩
    rw [← HZ.out] at hown
    go_wp2
    go_ret
    exact ⟨v1, rfl, hown, hb⟩
  · have hku : IntKind.u64.wrap k = k := IntWalk.u64_in _ ⟨by omega, by have := HK.out; omega⟩
    have HZ : Hid (k = (k.toNat : Int)) := by unfold Hid; omega
    go_enter Tryd.func37, Tryd.ntmps37
    go_wp2_with fail
    have P := refput_any k.toNat (by have := HK.out; omega) w
    rw [← HZ.out] at P
    refine P.mono ?_
    clear P
    rintro e1 w1 ⟨v1, rfl, hown, hb⟩
    go_wp2
    go_ret
    exact ⟨v1, rfl, hown, hb⟩

theorem own_mono {w : World} {base base' n : Nat} {e : TypeId} {v : Value} {xs : List Value} (h : w.ownsRow base e 1 v n xs) (hb : base' ≤ base) : w.ownsRow base' e 1 v n xs := by
  refine ⟨h.1, ?_⟩
  rcases h.2 with h0 | ⟨g, cap, cur, h1, h2, h3⟩
  · exact .inl h0
  · exact .inr ⟨g, cap, cur, h1, Nat.le_trans hb h2, h3⟩
end Go.Proofs.YtmkdbpdfonpfdaaDoor.Fld

/- Plain mathematics of layer 3's Reader: what a field reads as; no program is named here. -/
namespace Go.Proofs.YtmkdbpdfonpfdaaDoor.Fld
open Var

/-- Is an absolute value above what may be? -/
def abv (n : Nat) (most : Int) : Bool := decide (most < 0) || decide (most < (n : Int)) || decide (4611686018427387904 < n)

theorem abv_no {n : Nat} {most : Int} (h : abv n most = false) : 0 ≤ most ∧ (n : Int) ≤ most ∧ n ≤ 4611686018427387904 := by
  unfold abv at h
  simp only [Bool.or_eq_false_iff, decide_eq_false_iff_not] at h
  omega

/-- The next number: its value, its size, the error. -/
def nxt (xs : List Int) (most : Int) : Int × Nat × Nat :=
  if (take 0 0 xs).2.2 ≠ 0 then (0, 0, (take 0 0 xs).2.2)
  else if abv (take 0 0 xs).1 most then (0, 0, 3)
  else ((take 0 0 xs).1, (take 0 0 xs).2.1, 0)

/-- The next signed number. -/
def nxs (xs : List Int) (most : Int) : Int × Nat × Nat :=
  if (take 0 0 xs).2.2 ≠ 0 then (0, 0, (take 0 0 xs).2.2)
  else if abv (back (take 0 0 xs).1).natAbs most then (0, 0, 3)
  else (back (take 0 0 xs).1, (take 0 0 xs).2.1, 0)

/-- The next byte. -/
def nxb : List Int → Int × Nat × Nat
  | [] => (0, 0, 10)
  | x :: _ => (x, 1, 0)

/-- The next bytes. -/
def nxl (xs : List Int) (most : Int) : List Int × Nat × Nat :=
  if (nxt xs most).2.2 ≠ 0 then ([], 0, (nxt xs most).2.2)
  else if (xs.length : Int) - (nxt xs most).2.1 < (nxt xs most).1 then ([], 0, 10)
  else ((xs.drop (nxt xs most).2.1).take (nxt xs most).1.toNat, (nxt xs most).2.1 + (nxt xs most).1.toNat, 0)

theorem take_lim : ∀ (xs : List Int) (i X : Nat), (∀ x ∈ xs, 0 ≤ x ∧ x ≤ 255) → X < 128 ^ i → i ≤ 9 → (take X i xs).1 < 18446744073709551616
  | [], i, X, _, _, _ => by simp [take]
  | c :: cs, i, X, hb, hX, hi => by
    have hc := hb c (by simp)
    have hcs : ∀ x ∈ cs, 0 ≤ x ∧ x ≤ 255 := fun x hx => hb x (by simp [hx])
    by_cases e1 : i = 9 ∧ 1 < c
    · simp [take, if_pos e1]
    have hm : c.toNat % 128 ≤ 127 := by omega
    have h1 : X + c.toNat % 128 * 128 ^ i < 128 ^ (i + 1) := by
      have := Nat.mul_le_mul_right (128 ^ i) hm
      rw [Nat.pow_succ]
      omega
    have h2 : X + c.toNat % 128 * 128 ^ i < 18446744073709551616 := by
      by_cases e : i = 9
      · subst e
        have hd : c.toNat % 128 ≤ 1 := by omega
        have := Nat.mul_le_mul_right (128 ^ 9) hd
        omega
      · have : 128 ^ (i + 1) ≤ 128 ^ 9 := Nat.pow_le_pow_right (by omega) (by omega)
        omega
    by_cases e2 : c < 128
    · by_cases e3 : c = 0 ∧ 0 < i
      · simp [take, if_pos e2, if_pos e3]
      · simp only [take, if_neg e1, if_pos e2, if_neg e3]
        exact h2
    · have hv : take X i (c :: cs) = take (X + c.toNat % 128 * 128 ^ i) (i + 1) cs := by simp [take, if_neg e1, if_neg e2]
      rw [hv]
      exact take_lim cs (i + 1) _ hcs h1 (by omega)

theorem take64 {xs : List Int} (hb : ∀ x ∈ xs, 0 ≤ x ∧ x ≤ 255) : (take 0 0 xs).1 < 18446744073709551616 := take_lim xs 0 0 hb (by simp) (by omega)
theorem take_size {xs : List Int} (hb : ∀ x ∈ xs, 0 ≤ x ∧ x ≤ 255) (h : (take 0 0 xs).2.2 = 0) : 0 < (take 0 0 xs).2.1 ∧ (take 0 0 xs).2.1 ≤ xs.length := by
  obtain ⟨m, _, _, h3, h4, _⟩ := put_take xs 0 0 hb h
  omega
theorem take_err (xs : List Int) (i X : Nat) : (take X i xs).2.2 = 0 ∨ (take X i xs).2.2 = 10 ∨ (take X i xs).2.2 = 11 := by
  induction xs generalizing i X with
  | nil => simp [take]
  | cons c cs ih =>
    simp only [take]
    split
    · simp
    · split
      · split <;> simp
      · exact ih _ _
theorem nxt_ok {xs : List Int} {most : Int} (hb : ∀ x ∈ xs, 0 ≤ x ∧ x ≤ 255) (h : (nxt xs most).2.2 = 0) : 0 < (nxt xs most).2.1 ∧ (nxt xs most).2.1 ≤ xs.length ∧ 0 ≤ (nxt xs most).1 ∧ (nxt xs most).1 ≤ 4611686018427387904 := by
  unfold nxt at h ⊢
  by_cases he : (take 0 0 xs).2.2 ≠ 0
  · rw [if_pos he] at h
    exact absurd h he
  · rw [if_neg he] at h ⊢
    cases ha : abv (take 0 0 xs).1 most with
    | true => rw [ha] at h; simp at h
    | false =>
      have h1 := abv_no ha
      have h2 := take_size hb (by omega)
      simp only [Bool.false_eq_true, if_false]
      omega
theorem nxs_ok {xs : List Int} {most : Int} (hb : ∀ x ∈ xs, 0 ≤ x ∧ x ≤ 255) (h : (nxs xs most).2.2 = 0) : 0 < (nxs xs most).2.1 ∧ (nxs xs most).2.1 ≤ xs.length := by
  unfold nxs at h ⊢
  by_cases he : (take 0 0 xs).2.2 ≠ 0
  · rw [if_pos he] at h
    exact absurd h he
  · rw [if_neg he] at h ⊢
    cases ha : abv (back (take 0 0 xs).1).natAbs most with
    | true => rw [ha] at h; simp at h
    | false =>
      have h2 := take_size hb (by omega)
      simp only [Bool.false_eq_true, if_false]
      omega
theorem nxb_ok {xs : List Int} (h : (nxb xs).2.2 = 0) : 0 < (nxb xs).2.1 ∧ (nxb xs).2.1 ≤ xs.length := by
  cases xs with
  | nil => simp [nxb] at h
  | cons x xs => simp [nxb]
theorem nxl_ok {xs : List Int} {most : Int} (hb : ∀ x ∈ xs, 0 ≤ x ∧ x ≤ 255) (h : (nxl xs most).2.2 = 0) : 0 < (nxl xs most).2.1 ∧ (nxl xs most).2.1 ≤ xs.length := by
  unfold nxl at h ⊢
  by_cases he : (nxt xs most).2.2 ≠ 0
  · rw [if_pos he] at h
    exact absurd h he
  · rw [if_neg he] at h ⊢
    obtain ⟨h1, h2, h3, _⟩ := nxt_ok (most := most) hb (by omega)
    by_cases hx : (xs.length : Int) - (nxt xs most).2.1 < (nxt xs most).1
    · rw [if_pos hx] at h
      simp at h
    · rw [if_neg hx]
      simp only
      omega
end Go.Proofs.YtmkdbpdfonpfdaaDoor.Fld

/- The Reader of layer 3 (field): what each function of it does, as contracts over the program. -/
namespace Go.Proofs.YtmkdbpdfonpfdaaDoor.Fld
open Go.RowKit Var

set_option maxRecDepth 100000 in
theorem above_any (n : Nat) (most : Int) (hn : n < 18446744073709551616) (h1 : -9223372036854775808 ≤ most) (h2 : most ≤ 9223372036854775807) (w : World) :
    Calls Tryd.prog 92 #[.int .u64 (n : Int), .int .i64 most] w fun e w' => e = .returned (.bool (abv n most)) ∧ w = w' := by
  have HN := Lib.hid hn
  have H1 := Lib.hid h1
  have H2 := Lib.hid h2
  clear hn h1 h2
  go_enter Tryd.func92, Tryd.ntmps92
  by_cases hm : most < 0
  · have hd : decide (most < 0) = true := decide_eq_true hm
    go_wp2
    go_ret
    refine ⟨?_, rfl⟩
    unfold abv
    rw [hd]
    rfl
  · have hd : decide (most < 0) = false := decide_eq_false hm
    by_cases hb : 4611686018427387904 < most
    · go_wp2
      go_ret
      refine ⟨?_, rfl⟩
      have : abv n most = decide (4611686018427387904 < (n : Int)) := by
        unfold abv
        rw [hd, Bool.false_or, ← Bool.decide_or]
        exact decide_eq_decide.2 (by omega)
      rw [this]
      rfl
    · have hw : IntKind.u64.wrap most = most := IntWalk.u64_in _ ⟨by omega, by omega⟩
      go_wp2
      go_ret
      refine ⟨?_, rfl⟩
      have : abv n most = decide (most < (n : Int)) := by
        unfold abv
        rw [hd, Bool.false_or, ← Bool.decide_or]
        exact decide_eq_decide.2 (by omega)
      rw [this]
      rfl

/-- A tuple of a value, a size, an error. -/
def Tells (v : Value) (s e : Nat) : Ending := .returned (.tuple #[v, .int .i64 (s : Int), .int .i64 (e : Int)])

set_option maxHeartbeats 800000 in
set_option maxRecDepth 100000 in
theorem numb_any (A : Option Addr) (n c B : Nat) (xs : List Int) (most : Int) (w : World) (h : Row .u8 w B A n xs) (hb : ∀ x ∈ xs, 0 ≤ x ∧ x ≤ 255) (h1 : -9223372036854775808 ≤ most) (h2 : most ≤ 9223372036854775807) :
    Calls Tryd.prog 80 #[.slice A n c, .int .i64 most] w fun e w' => e = Tells (.int .i64 (nxt xs most).1) (nxt xs most).2.1 (nxt xs most).2.2 ∧ w = w' := by
  have H := Lib.hid h
  have HB := Lib.hid hb
  have H1 := Lib.hid h1
  have H2 := Lib.hid h2
  have H64 := Lib.hid (take64 hb)
  clear h hb h1 h2
  obtain ⟨t, HT⟩ : ∃ t, Hid (take 0 0 xs = t) := ⟨_, rfl⟩
  obtain ⟨x, s, er⟩ := t
  have HX : Hid (nxt xs most = if er ≠ 0 then (0, 0, er) else if abv x most then (0, 0, 3) else ((x : Int), s, 0)) := by unfold Hid nxt; rw [HT.out]
  go_enter Tryd.func80, Tryd.ntmps80
  go_wp2_with fail
  refine (take_any A n c B xs _ H.out HB.out).mono ?_
  rintro e1 w1 ⟨rfl, rfl⟩
  rw [HT.out]
  rw [HT.out] at H64
  by_cases he : er = 0
  · subst he
    go_wp2_with fail
    refine (above_any x most H64.out H1.out H2.out _).mono ?_
    rintro e2 w2 ⟨rfl, rfl⟩
    cases ha : abv x most with
    | true =>
      go_wp2
      go_ret3
      refine ⟨?_, rfl⟩
      rw [HX.out, ha]
      rfl
    | false =>
      have hx := (abv_no ha).2.2
      have hw : IntKind.i64.wrap (x : Int) = x := IntWalk.i64_in _ ⟨by omega, by omega⟩
      clear hx
      go_wp2
      go_ret3
      refine ⟨?_, rfl⟩
      rw [HX.out, ha]
      rfl
  · have hne : ((er : Int) == 0) = false := beq_eq_false_iff_ne.2 (by omega)
    go_wp2
    go_ret3
    refine ⟨?_, rfl⟩
    rw [HX.out, if_pos he]
    rfl

/-- A Reader behind a pointer: its block, what is left, the first error. -/
structure Rd (w : World) (g : Nat) (A : Option Addr) (n c : Nat) (e : Int) : Prop where
  blk : w.heap[g]? = some (.cells #[.bool true, .slice A n c, .int .i64 e] 113 (0, 0))

theorem Rd.c0 {w : World} {g n c : Nat} {A : Option Addr} {e : Int} (h : Rd w g A n c e) : w.cell? ⟨g, 0, none⟩ = some (.bool true) := cell_of_blk h.blk rfl
theorem Rd.c1 {w : World} {g n c : Nat} {A : Option Addr} {e : Int} (h : Rd w g A n c e) : w.cell? ⟨g, 1, none⟩ = some (.slice A n c) := cell_of_blk h.blk rfl
theorem Rd.c2 {w : World} {g n c : Nat} {A : Option Addr} {e : Int} (h : Rd w g A n c e) : w.cell? ⟨g, 2, none⟩ = some (.int .i64 e) := cell_of_blk h.blk rfl

set_option maxRecDepth 100000 in
theorem error_any (g n c : Nat) (A : Option Addr) (e : Int) (w : World) (h : Rd w g A n c e) :
    Calls Tryd.prog 83 #[.pointer (some ⟨g, 0, none⟩)] w fun r w' => r = .returned (.int .i64 e) ∧ w = w' := by
  have c0 := h.c0
  have c2 := h.c2
  clear h
  go_enter Tryd.func83, Tryd.ntmps83
  go_wp2
  go_ret
  exact ⟨rfl, rfl⟩

set_option maxRecDepth 100000 in
theorem error_nil (w : World) : Calls Tryd.prog 83 #[.pointer none] w fun r w' => r = .returned (.int .i64 1) ∧ w = w' := by
  go_enter Tryd.func83, Tryd.ntmps83
  go_wp2
  go_ret
  exact ⟨rfl, rfl⟩

/-- What a reading leaves: the Reader's cells, and nothing else turned. -/
def ReadsTo (w : World) (g : Nat) (A : Option Addr) (n c : Nat) (zero v : Value) (s er : Nat) (w1 : World) (r : Ending) (w' : World) : Prop :=
  (er = 0 → r = .returned v ∧ ∃ b o o', A = some ⟨b, o, none⟩ ∧ Rd w' g (some ⟨b, o', none⟩) (n - s) (c - s) 0 ∧ (n - s ≠ 0 → o' = o + s)) ∧ (er ≠ 0 → r = .returned zero ∧ Rd w' g A n c er) ∧ Only (fun k => k = g) w1 w' ∧ Below w.heap.size w w1

theorem Rd.below {w w1 : World} {g n c : Nat} {A : Option Addr} {e : Int} (h : Rd w g A n c e) (hb : Below w.heap.size w w1) : Rd w1 g A n c e :=
  ⟨(hb.block g (lt_of_block h.blk)).trans h.blk⟩

def Enters (fn : Nat) : Prop := ∀ (args : Array Value) (w : World), (callFunc fn args).run Tryd.prog w = .ok (.enter fn args) w

set_option maxHeartbeats 800000 in
set_option maxRecDepth 100000 in
theorem next_int (g n c : Nat) (A : Option Addr) (fn : Nat) (p : Value) (Q : Value → World → Prop) (s er : Nat) (w : World) (h : Rd w g A n c 0) (hnc : n ≤ c) (hs : er = 0 → 0 < s ∧ s ≤ n) (hA : 0 < n → ∃ b o, A = some ⟨b, o, none⟩) (hent : Enters fn)
    (how : Calls Tryd.prog fn #[.slice A n c, p] w fun e w' => ∃ v, e = Tells v s er ∧ Below w.heap.size w w' ∧ Q v w') :
    Calls Tryd.prog 78 #[.pointer (some ⟨g, 0, none⟩), .func (.func fn) #[] #[p]] w (fun r w' => ∃ v w1, Q v w1 ∧ ReadsTo w g A n c (.int .i64 0) v s er w1 r w') := by
  have HR := Lib.hid h
  have HH := Lib.hid how
  have HS := Lib.hid hs
  have HA := Lib.hid hA
  have c1 := h.c1
  have c2 := h.c2
  unfold Enters at hent
  clear h how hs hA
  go_enter Tryd.func78, Tryd.ntmps78
  go_wp2_with fail
  refine (error_any g n c A 0 w HR.out).mono ?_
  rintro e1 w1 ⟨rfl, rfl⟩
  go_wp2_with fail
  refine HH.out.mono ?_
  rintro e1 w1 ⟨v, rfl, hb1, hq⟩
  have HB := Lib.hid hb1
  have HQ := Lib.hid hq
  have HR1 := Lib.hid (HR.out.below hb1)
  have d1 := HR1.out.c1
  have f1 : w1.frozen? ⟨g, 1, none⟩ = false := free_of_blk HR1.out.blk
  have d2 := HR1.out.c2
  have f2 : w1.frozen? ⟨g, 2, none⟩ = false := free_of_blk HR1.out.blk
  clear hb1 c1 c2 hq
  unfold Tells
  by_cases he : er = 0
  · subst he
    obtain ⟨hs0, hsn⟩ := HS.out rfl
    obtain ⟨b, o, rfl⟩ := HA.out (by omega)
    by_cases hcs : c = s
    · have hz : n - s = 0 := by omega
      have hz' : c - s = 0 := by omega
      subst hcs
      go_wp2
      go_ret
      refine ⟨v, w1, HQ.out, fun _ => ⟨rfl, b, o, o, rfl, ⟨?_⟩, fun h => by omega⟩, fun h => absurd rfl h, Only.setCell _ ⟨g, 1, none⟩ _, HB.out⟩
      have := set_blk (u := .slice (some ⟨b, o, none⟩) (n - c) (c - c)) (j := 1) HR1.out.blk
      simpa [hz, hz'] using this
    · go_wp2
      go_ret
      refine ⟨v, w1, HQ.out, fun _ => ⟨rfl, b, o, o + s, rfl, ⟨set_blk HR1.out.blk⟩, fun _ => rfl⟩, fun h => absurd rfl h, Only.setCell _ ⟨g, 1, none⟩ _, HB.out⟩
  · have hne : ((er : Int) == 0) = false := beq_eq_false_iff_ne.2 (by omega)
    go_wp2
    go_ret
    refine ⟨v, w1, HQ.out, fun h => absurd h he, fun _ => ⟨rfl, ⟨set_blk HR1.out.blk⟩⟩, Only.setCell _ ⟨g, 2, none⟩ _, HB.out⟩

set_option maxHeartbeats 800000 in
set_option maxRecDepth 100000 in
theorem next_int_bad (g n c : Nat) (A : Option Addr) (e : Int) (fv : Value) (w : World) (h : Rd w g A n c e) (he : e ≠ 0) :
    Calls Tryd.prog 78 #[.pointer (some ⟨g, 0, none⟩), fv] w fun r w' => r = .returned (.int .i64 0) ∧ w = w' := by
  have HR := Lib.hid h
  have hne : (e == 0) = false := beq_eq_false_iff_ne.2 he
  clear h he
  go_enter Tryd.func78, Tryd.ntmps78
  go_wp2_with fail
  refine (error_any g n c A e w HR.out).mono ?_
  rintro e1 w1 ⟨rfl, rfl⟩
  go_wp2
  go_ret
  exact ⟨rfl, rfl⟩

set_option maxHeartbeats 800000 in
set_option maxRecDepth 100000 in
theorem next_int_nil (fv : Value) (w : World) :
    Calls Tryd.prog 78 #[.pointer none, fv] w fun r w' => r = .returned (.int .i64 0) ∧ w = w' := by
  go_enter Tryd.func78, Tryd.ntmps78
  go_wp2_with fail
  refine (error_nil w).mono ?_
  rintro e1 w1 ⟨rfl, rfl⟩
  go_wp2
  go_ret
  exact ⟨rfl, rfl⟩

end Go.Proofs.YtmkdbpdfonpfdaaDoor.Fld

/- The closures and the methods of layer 3's Reader, as contracts: each returns the next field, or nothing behind an error. -/
namespace Go.Proofs.YtmkdbpdfonpfdaaDoor.Fld
open Go.RowKit Var

theorem Row.drop {k : IntKind} {w : World} {B b o o' n s : Nat} {xs : List Int} (h : Row k w B (some ⟨b, o, none⟩) n xs) (ho : n - s ≠ 0 → o' = o + s) : Row k w B (some ⟨b, o', none⟩) (n - s) (xs.drop s) := by
  refine ⟨by rw [List.length_drop, h.1], fun hn => ?_⟩
  obtain ⟨b1, o1, e, hb, hc⟩ := h.2 (by omega)
  injection e with e
  injection e with e1 e2
  subst e1 e2
  refine ⟨b, o', rfl, hb, fun j hj => ?_⟩
  rw [ho (by omega), Nat.add_assoc, hc (s + j) (by omega)]
  have hl := h.1
  simp [List.getD, List.getElem?_drop]

theorem Row.take_ {k : IntKind} {w : World} {B n m : Nat} {A : Option Addr} {xs : List Int} (h : Row k w B A n xs) (hm : m ≤ n) : Row k w B A m (xs.take m) := by
  refine ⟨by rw [List.length_take, h.1]; omega, fun hn => ?_⟩
  obtain ⟨b, o, e, hb, hc⟩ := h.2 (by omega)
  refine ⟨b, o, e, hb, fun j hj => ?_⟩
  rw [hc j (by omega)]
  simp [List.getD, hj]

theorem Row.some_of {k : IntKind} {w : World} {B n : Nat} {A : Option Addr} {xs : List Int} (h : Row k w B A n xs) (hn : 0 < n) : ∃ b o, A = some ⟨b, o, none⟩ := by
  obtain ⟨b, o, e, _⟩ := h.2 hn
  exact ⟨b, o, e⟩

/-- A Reader: what is left of its bytes, and its first error. -/
structure Rdr (w : World) (g : Nat) (xs : List Int) (e : Nat) : Prop where
  ex : ∃ A n c, Rd w g A n c e ∧ Row .u8 w g A n xs ∧ n ≤ c ∧ (A = none → c = 0)
  byt : ∀ x ∈ xs, 0 ≤ x ∧ x ≤ 255

theorem Rdr.lt {w : World} {g e : Nat} {xs : List Int} (h : Rdr w g xs e) : g < w.heap.size := by
  obtain ⟨A, n, c, h1, _⟩ := h.ex
  exact lt_of_block h1.blk
theorem Rdr.only {M : Nat → Prop} {w w' : World} {g e : Nat} {xs : List Int} (h : Rdr w g xs e) (ho : Only M w w') (hM : ∀ k, k ≤ g → ¬ M k) : Rdr w' g xs e := by
  obtain ⟨A, n, c, h1, h2, h3, h4⟩ := h.ex
  have hg := h.lt
  exact ⟨⟨A, n, c, ⟨ho.at h1.blk (hM g (Nat.le_refl _))⟩, ho.row h2 (Nat.le_of_lt hg) (fun b _ _ hb => hM b (by omega)), h3, h4⟩, h.byt⟩
theorem Rdr.below {w w' : World} {g e : Nat} {xs : List Int} (h : Rdr w g xs e) (hb : Below w.heap.size w w') : Rdr w' g xs e :=
  h.only (M := fun _ => False) (Only.of_below hb) (fun _ _ h => h)

/-- What a step of the Reader leaves. -/
def after (xs : List Int) (e s er : Nat) : List Int × Nat := if e ≠ 0 then (xs, e) else if er ≠ 0 then (xs, er) else (xs.drop s, 0)

theorem reads_ok {w w2 w1 w' : World} {g n c s er : Nat} {A : Option Addr} {xs : List Int} {zero v : Value} {r : Ending} (h1 : Rd w g A n c 0) (h2 : Row .u8 w g A n xs) (h3 : n ≤ c) (h4 : A = none → c = 0) (hbyt : ∀ x ∈ xs, 0 ≤ x ∧ x ≤ 255)
    (hb2 : Below w.heap.size w w2) (h : ReadsTo w2 g A n c zero v s er w1 r w') : r = .returned (if er ≠ 0 then zero else v) ∧ Rdr w' g (after xs 0 s er).1 (after xs 0 s er).2 ∧ Only (fun k => k = g) w w' := by
  obtain ⟨ok, bad, ho, hb⟩ := h
  have hO : Only (fun k => k = g) w w' := ((Only.of_below (hb2.trans (hb.mono hb2.size)) : Only (fun k => k = g) w w1)).trans ho (fun _ _ h => h)
  have hlt : g < w.heap.size := lt_of_block h1.blk
  have hr : Row .u8 w' g A n xs := hO.row h2 (Nat.le_of_lt hlt) (fun b _ _ hb e => by omega)
  by_cases he : er = 0
  · obtain ⟨hv, b, o, o', rfl, hrd, hoo⟩ := ok he
    refine ⟨by simp [he, hv], ?_, hO⟩
    have : after xs 0 s er = (xs.drop s, 0) := by unfold after; simp [he]
    rw [this]
    exact ⟨⟨_, _, _, hrd, Row.drop hr hoo, by omega, fun h => by cases h⟩, fun x hx => hbyt x (List.mem_of_mem_drop hx)⟩
  · obtain ⟨hv, hrd⟩ := bad he
    refine ⟨by simp [he, hv], ?_, hO⟩
    have : after xs 0 s er = (xs, er) := by unfold after; simp [he]
    rw [this]
    exact ⟨⟨_, _, _, hrd, hr, h3, h4⟩, hbyt⟩

set_option maxRecDepth 100000 in
theorem ent_number : Enters 79 := fun _ _ => rfl
set_option maxHeartbeats 800000 in
set_option maxRecDepth 100000 in
theorem how_number (A : Option Addr) (n c B mb : Nat) (xs : List Int) (most : Int) (w : World) (h : Row .u8 w B A n xs) (hb : ∀ x ∈ xs, 0 ≤ x ∧ x ≤ 255) (h1 : -9223372036854775808 ≤ most) (h2 : most ≤ 9223372036854775807) (hm : w.cell? ⟨mb, 0, none⟩ = some (.int .i64 most)) :
    Calls Tryd.prog 79 #[.slice A n c, .pointer (some ⟨mb, 0, none⟩)] w fun e w' =>
      ∃ v, e = Tells v (nxt xs most).2.1 (nxt xs most).2.2 ∧ Below w.heap.size w w' ∧ v = .int .i64 (nxt xs most).1 := by
  have H := Lib.hid h
  have HB := Lib.hid hb
  have H1 := Lib.hid h1
  have H2 := Lib.hid h2
  clear h hb h1 h2
  go_enter Tryd.func79, Tryd.ntmps79
  go_wp2_with fail
  refine (numb_any A n c B xs most w H.out HB.out H1.out H2.out).mono ?_
  rintro e1 w1 ⟨rfl, rfl⟩
  unfold Tells
  go_wp2
  go_ret3
  exact ⟨_, rfl, Below.refl _ _, rfl⟩

theorem same_flip {P : Program} {f : FuncId} {args : Array Value} {w : World} {v : Value} (h : Calls P f args w fun e w' => e = .returned v ∧ w = w') : Calls P f args w fun e w' => e = .returned v ∧ w' = w := h.mono fun _ _ ⟨a, b⟩ => ⟨a, b.symm⟩

end Go.Proofs.YtmkdbpdfonpfdaaDoor.Fld

/- The methods of layer 3's Reader, as contracts: each returns the next field, or nothing behind an error; a nil Reader. -/
namespace Go.Proofs.YtmkdbpdfonpfdaaDoor.Fld
open Go.RowKit Var

/-- The value that a step returns. -/
def val (e : Nat) (t : Int × Nat × Nat) : Int := if e ≠ 0 ∨ t.2.2 ≠ 0 then 0 else t.1

def Steps (w : World) (g : Nat) (xs : List Int) (e : Nat) (k : IntKind) (t : Int × Nat × Nat) (r : Ending) (w' : World) : Prop :=
  r = .returned (.int k (val e t)) ∧ Rdr w' g (after xs e t.2.1 t.2.2).1 (after xs e t.2.1 t.2.2).2 ∧ Only (fun k => k = g) w w'

theorem steps_ok {w w2 w1 w' : World} {g n c : Nat} {A : Option Addr} {xs : List Int} {k : IntKind} {t : Int × Nat × Nat} {v : Value} {r : Ending} (h1 : Rd w g A n c 0) (h2 : Row .u8 w g A n xs) (h3 : n ≤ c) (h4 : A = none → c = 0) (hbyt : ∀ x ∈ xs, 0 ≤ x ∧ x ≤ 255)
    (hb2 : Below w.heap.size w w2) (hv : v = .int k t.1) (h : ReadsTo w2 g A n c (.int k 0) v t.2.1 t.2.2 w1 r w') : Steps w g xs 0 k t r w' := by
  obtain ⟨a, b, c⟩ := reads_ok h1 h2 h3 h4 hbyt hb2 h
  refine ⟨?_, b, c⟩
  rw [a, hv]
  unfold val
  by_cases he : t.2.2 = 0 <;> simp [he]

theorem steps_bad {w w2 : World} {g e : Nat} {xs : List Int} {k : IntKind} {t : Int × Nat × Nat} (h : Rdr w g xs e) (he : e ≠ 0) (hb2 : Below w.heap.size w w2) : Steps w g xs e k t (.returned (.int k 0)) w2 := by
  have e1 : after xs e t.2.1 t.2.2 = (xs, e) := by unfold after; rw [if_pos he]
  refine ⟨?_, by rw [e1]; exact h.below hb2, Only.of_below hb2⟩
  unfold val
  rw [if_pos (.inl he)]

set_option maxHeartbeats 800000 in
set_option maxRecDepth 100000 in
theorem numberR (g e : Nat) (xs : List Int) (most : Int) (w : World) (h : Rdr w g xs e) (h1 : -9223372036854775808 ≤ most) (h2 : most ≤ 9223372036854775807) :
    Calls Tryd.prog 64 #[.pointer (some ⟨g, 0, none⟩), .int .i64 most] w (Steps w g xs e .i64 (nxt xs most)) := by
  have HR := Lib.hid h
  have H1 := Lib.hid h1
  have H2 := Lib.hid h2
  clear h h1 h2
  have hb2 : Hid (Below w.heap.size w (w.alloc (.cells #[.int .i64 most] 3))) := ((Below.refl _ _).alloc (Nat.le_refl _) _)
  have hcell : Hid ((w.alloc (.cells #[.int .i64 most] 3)).cell? ⟨w.heap.size, 0, none⟩ = some (.int .i64 most)) := cell_of_one (heap_alloc_new w _)
  have hmf : ∀ (fn : Fn) (first cap : Array Value) (w : World), (Instr.makeFunc fn first cap).run Tryd.prog w = .ok (.func fn first cap) w := fun _ _ _ _ => rfl
  have fin : Calls Tryd.prog 78 #[.pointer (some ⟨g, 0, none⟩), .func (.func 79) #[] #[.pointer (some ⟨w.heap.size, 0, none⟩)]] (w.alloc (.cells #[.int .i64 most] 3)) (Steps w g xs e .i64 (nxt xs most)) := by
    obtain ⟨A, n, c, hrd, hrow, hnc, hnil⟩ := HR.out.ex
    have hlt : g < w.heap.size := HR.out.lt
    have hlen := hrow.len
    by_cases he : e = 0
    · subst he
      refine (next_int g n c A 79 (.pointer (some ⟨w.heap.size, 0, none⟩)) (fun v _ => v = .int .i64 (nxt xs most).1) (nxt xs most).2.1 (nxt xs most).2.2 _ (hrd.below hb2.out) hnc (fun h => by have := nxt_ok (most := most) HR.out.byt h; omega) (fun h => Row.some_of hrow h) ent_number (how_number A n c g _ xs most _ (hrow.alloc (Nat.le_of_lt hlt) _) HR.out.byt H1.out H2.out hcell.out)).mono ?_
      rintro r w' ⟨v, w1, hv, hR⟩
      exact steps_ok hrd hrow hnc hnil HR.out.byt hb2.out hv hR
    · refine (next_int_bad g n c A e _ _ (hrd.below hb2.out) (by omega)).mono ?_
      rintro r w' ⟨rfl, rfl⟩
      exact steps_bad HR.out he hb2.out
  have FIN := Lib.hid fin
  clear fin hb2 hcell
  go_enter Tryd.func64, Tryd.ntmps64
  go_wp2_with fail
  refine FIN.out.mono ?_
  rintro r w' hst
  obtain ⟨u, hu⟩ : ∃ u, r = .returned u := ⟨_, hst.1⟩
  subst hu
  have HST := Lib.hid hst
  clear hst
  go_wp2
  go_ret
  exact HST.out

set_option maxHeartbeats 800000 in
set_option maxRecDepth 100000 in
theorem numberR_nil (most : Int) (w : World) : Calls Tryd.prog 64 #[.pointer none, .int .i64 most] w fun r w' => r = .returned (.int .i64 0) ∧ Below w.heap.size w w' := by
  have hmf : ∀ (fn : Fn) (first cap : Array Value) (w : World), (Instr.makeFunc fn first cap).run Tryd.prog w = .ok (.func fn first cap) w := fun _ _ _ _ => rfl
  go_enter Tryd.func64, Tryd.ntmps64
  go_wp2_with fail
  refine (next_int_nil _ _).mono ?_
  rintro r w' ⟨rfl, rfl⟩
  go_wp2
  go_ret
  exact ⟨rfl, ((Below.refl _ _).alloc (Nat.le_refl _) _)⟩

end Go.Proofs.YtmkdbpdfonpfdaaDoor.Fld

/- Error and Read of layer 3's Reader, as contracts. -/
namespace Go.Proofs.YtmkdbpdfonpfdaaDoor.Fld
open Go.RowKit Var

set_option maxHeartbeats 800000 in
set_option maxRecDepth 100000 in
theorem errorR (g e : Nat) (xs : List Int) (w : World) (h : Rdr w g xs e) : Calls Tryd.prog 83 #[.pointer (some ⟨g, 0, none⟩)] w fun r w' => r = .returned (.int .i64 (e : Int)) ∧ w = w' := by
  obtain ⟨A, n, c, hrd, _⟩ := h.ex
  exact error_any g n c A e w hrd

set_option maxHeartbeats 800000 in
set_option maxRecDepth 100000 in
theorem readR (A : Option Addr) (n c B : Nat) (xs : List Int) (w : World) (h : Row .u8 w B A n xs) (hB : B ≤ w.heap.size) (hnil : A = none → c = 0) (hn : n ≤ 4398046511104) (hbyt : ∀ x ∈ xs, 0 ≤ x ∧ x ≤ 255) :
    Calls Tryd.prog 63 #[.slice A n c] w fun r w' => ∃ g, r = .returned (.pointer (some ⟨g, 0, none⟩)) ∧ w.heap.size ≤ g ∧ Rdr w' g xs 0 ∧ Below w.heap.size w w' := by
  have H := Lib.hid h
  have HB := Lib.hid hB
  have HN := Lib.hid hnil
  have HY := Lib.hid hbyt
  clear h hB hnil hbyt
  go_enter Tryd.func63, Tryd.ntmps63
  go_wp2_with fail
  refine (clone_any A n c B xs w H.out HB.out HN.out hn).mono ?_
  rintro r w1 ⟨v, rfl, hown, hb⟩
  obtain ⟨A1, c1, rfl, hc1, hnil1⟩ := own_slice hown
  have HO := Lib.hid hown
  have HBL := Lib.hid hb
  have HN1 := Lib.hid hnil1
  have HC := Lib.hid hc1
  clear hown hb hnil1 hc1
  go_wp2
  go_ret
  refine ⟨w1.heap.size, rfl, HBL.out.size, ⟨⟨A1, n, c1, ⟨heap_alloc_new w1 _⟩, (Row.of_own HO.out).alloc (Nat.le_refl _) _, HC.out, HN1.out⟩, HY.out⟩, HBL.out.alloc HBL.out.size _⟩
end Go.Proofs.YtmkdbpdfonpfdaaDoor.Fld

/- The reference's reader of layer 3, as contracts. -/
namespace Go.Proofs.YtmkdbpdfonpfdaaDoor.Fld
open Go.RowKit Var

/-- The reference's reader behind a pointer: all its bytes, how far it is, the first error. -/
structure Rf (w : World) (g : Nat) (A : Option Addr) (n c at_ e : Nat) : Prop where
  blk : w.heap[g]? = some (.cells #[.slice A n c, .int .i64 (at_ : Int), .int .i64 (e : Int)] 99 (0, 0))

section
variable {w w' : World} {g n c at_ e : Nat} {A : Option Addr}
theorem Rf.c0 (h : Rf w g A n c at_ e) : w.cell? ⟨g, 0, none⟩ = some (.slice A n c) := cell_of_blk h.blk rfl
theorem Rf.c1 (h : Rf w g A n c at_ e) : w.cell? ⟨g, 1, none⟩ = some (.int .i64 (at_ : Int)) := cell_of_blk h.blk rfl
theorem Rf.c2 (h : Rf w g A n c at_ e) : w.cell? ⟨g, 2, none⟩ = some (.int .i64 (e : Int)) := cell_of_blk h.blk rfl
theorem Rf.f1 (h : Rf w g A n c at_ e) : w.frozen? ⟨g, 1, none⟩ = false := free_of_blk h.blk
theorem Rf.f2 (h : Rf w g A n c at_ e) : w.frozen? ⟨g, 2, none⟩ = false := free_of_blk h.blk
theorem Rf.set1 (h : Rf w g A n c at_ e) (k : Nat) : Rf (w.setCell ⟨g, 1, none⟩ (.int .i64 (k : Int))) g A n c k e := ⟨set_blk h.blk⟩
theorem Rf.set2 (h : Rf w g A n c at_ e) (k : Nat) : Rf (w.setCell ⟨g, 2, none⟩ (.int .i64 (k : Int))) g A n c at_ k := ⟨set_blk h.blk⟩
theorem Rf.drew (h : Rf w g A n c at_ e) (q : Nat) : Rf (w.drewN q) g A n c at_ e := ⟨h.blk⟩
end

structure Rfr (w : World) (g N : Nat) (A : Option Addr) (n c : Nat) (bs : List Int) (at_ e : Nat) : Prop where
  rf : Rf w g A n c at_ e
  row : Row .u8 w N A n bs
  low : N ≤ g
  nc : n ≤ c
  le : at_ ≤ n
  nil : A = none → c = 0
  byt : ∀ x ∈ bs, 0 ≤ x ∧ x ≤ 255
  len : n ≤ 4398046511104

theorem Rfr.lt {w : World} {g N n c at_ e : Nat} {A : Option Addr} {bs : List Int} (h : Rfr w g N A n c bs at_ e) : g < w.heap.size := lt_of_block h.rf.blk
theorem Rfr.only {M : Nat → Prop} {w w' : World} {g N n c at_ e : Nat} {A : Option Addr} {bs : List Int} (h : Rfr w g N A n c bs at_ e) (ho : Only M w w') (hg : ¬ M g) (hM : ∀ k, k < N → ¬ M k) : Rfr w' g N A n c bs at_ e :=
  ⟨⟨ho.at h.rf.blk hg⟩, ho.row h.row (by have := h.lt; have := h.low; omega) (fun b _ _ hb => hM b hb), h.low, h.nc, h.le, h.nil, h.byt, h.len⟩
theorem Rfr.set {w w' : World} {g N n c at_ e at' e' : Nat} {A : Option Addr} {bs : List Int} (h : Rfr w g N A n c bs at_ e) (ho : Only (fun k => k = g) w w') (hr : Rf w' g A n c at' e') (ha : at' ≤ n) : Rfr w' g N A n c bs at' e' :=
  ⟨hr, ho.row h.row (by have := h.lt; have := h.low; omega) (fun b _ _ hb e => by have := h.low; omega), h.low, h.nc, ha, h.nil, h.byt, h.len⟩

/-- What raw returns: layer 1's number and size, its error kept. -/
def RawTo (w : World) (g N : Nat) (A : Option Addr) (n c : Nat) (bs : List Int) (at_ : Nat) (r : Ending) (w' : World) : Prop :=
  r = .returned (.tuple #[.int .u64 ((take 0 0 (bs.drop at_)).1 : Int), .int .i64 ((take 0 0 (bs.drop at_)).2.1 : Int)]) ∧ Rfr w' g N A n c bs at_ (take 0 0 (bs.drop at_)).2.2 ∧ Only (fun k => k = g) w w'

set_option maxHeartbeats 1600000 in
set_option maxRecDepth 100000 in
theorem raw_any (g N n c at_ : Nat) (A : Option Addr) (bs : List Int) (w : World) (h : Rfr w g N A n c bs at_ 0) :
    Calls Tryd.prog 68 #[.pointer (some ⟨g, 0, none⟩)] w (RawTo w g N A n c bs at_) := by
  have HR := Lib.hid h
  have c0 := h.rf.c0
  have c1 := h.rf.c1
  have c2 := h.rf.c2
  have f2 := h.rf.f2
  have hle := h.le
  have hnc := h.nc
  have hlen := h.len
  obtain ⟨t, HT⟩ : ∃ t, Hid (take 0 0 (bs.drop at_) = t) := ⟨_, rfl⟩
  obtain ⟨x, s, er⟩ := t
  have TK : ∀ (A' : Option Addr) (m c' : Nat) (w' : World), Row .u8 w' N A' m (bs.drop at_) → Calls Tryd.prog 84 #[.slice A' m c'] w' fun e w'' => e = .returned (.tuple #[.int .u64 (x : Int), .int .i64 (s : Int), .int .i64 (er : Int)]) ∧ w'' = w' := by
    intro A' m c' w' hr
    have := reftake_any A' m c' N (bs.drop at_) w' hr (fun y hy => HR.out.byt y (List.mem_of_mem_drop hy))
    rw [HT.out] at this
    exact same_flip this
  have HTK := Lib.hid TK
  clear h TK
  have fin : ∀ q : Nat, (er = 0 → RawTo w g N A n c bs at_ (.returned (.tuple #[.int .u64 (x : Int), .int .i64 (s : Int)])) (w.drewN q)) ∧
      (er ≠ 0 → RawTo w g N A n c bs at_ (.returned (.tuple #[.int .u64 (x : Int), .int .i64 (s : Int)])) ((w.drewN q).setCell ⟨g, 2, none⟩ (.int .i64 (er : Int)))) := by
    intro q
    have hO : Only (fun k => k = g) w (w.drewN q) := ⟨rfl, rfl, rfl, Nat.le_refl _, fun _ _ _ => rfl⟩
    have hO2 : Only (fun k => k = g) w ((w.drewN q).setCell ⟨g, 2, none⟩ (.int .i64 (er : Int))) := hO.trans (Only.setCell _ ⟨g, 2, none⟩ _) (fun _ _ h => h)
    constructor
    · intro he
      unfold RawTo
      rw [HT.out]
      refine ⟨rfl, HR.out.set hO ?_ HR.out.le, hO⟩
      have := HR.out.rf.drew q
      simpa [he] using this
    · intro he
      unfold RawTo
      rw [HT.out]
      exact ⟨rfl, HR.out.set hO2 ((HR.out.rf.drew q).set2 er) HR.out.le, hO2⟩
  have FIN := Lib.hid fin
  clear fin
  rcases Nat.eq_zero_or_pos n with hn0 | hn0
  · subst hn0
    have ha : at_ = 0 := by omega
    subst ha
    have HRow : Hid (Row .u8 w N A (0 - 0) (bs.drop 0)) := by
      have := HR.out.row
      unfold Hid
      simpa using this
    rcases A with _ | a
    · have hc0 := HR.out.nil rfl
      subst hc0
      go_enter Tryd.func68, Tryd.ntmps68
      go_wp2_with fail
      go_quiet ((go_at_call 84; refine Calls.quiet_of_same (HTK.out none 0 0 _ HRow.out)))
      by_cases he : er = 0
      · have HE := Lib.hid he
        have hz : ((er : Int) == 0) = true := beq_iff_eq.2 (by omega)
        clear he
        go_wp2
        go_ret2
        exact (FIN.out _).1 HE.out
      · have HE := Lib.hid he
        have hz : ((er : Int) == 0) = false := beq_eq_false_iff_ne.2 (by omega)
        clear he
        go_wp2
        go_ret2
        exact (FIN.out _).2 HE.out
    · by_cases hc0 : c = 0
      · subst hc0
        go_enter Tryd.func68, Tryd.ntmps68
        go_wp2_with fail
        go_quiet ((go_at_call 84; refine Calls.quiet_of_same (HTK.out (some a) 0 0 _ HRow.out)))
        by_cases he : er = 0
        · have HE := Lib.hid he
          have hz : ((er : Int) == 0) = true := beq_iff_eq.2 (by omega)
          clear he
          go_wp2
          go_ret2
          exact (FIN.out _).1 HE.out
        · have HE := Lib.hid he
          have hz : ((er : Int) == 0) = false := beq_eq_false_iff_ne.2 (by omega)
          clear he
          go_wp2
          go_ret2
          exact (FIN.out _).2 HE.out
      · go_enter Tryd.func68, Tryd.ntmps68
        go_wp2_with fail
        go_quiet ((go_at_call 84; refine Calls.quiet_of_same (HTK.out (some a) 0 c _ HRow.out)))
        by_cases he : er = 0
        · have HE := Lib.hid he
          have hz : ((er : Int) == 0) = true := beq_iff_eq.2 (by omega)
          clear he
          go_wp2
          go_ret2
          exact (FIN.out _).1 HE.out
        · have HE := Lib.hid he
          have hz : ((er : Int) == 0) = false := beq_eq_false_iff_ne.2 (by omega)
          clear he
          go_wp2
          go_ret2
          exact (FIN.out _).2 HE.out
  · obtain ⟨b, o, rfl⟩ := Row.some_of HR.out.row hn0
    have HRow : Hid (∀ o', (n - at_ ≠ 0 → o' = o + at_) → Row .u8 w N (some ⟨b, o', none⟩) (n - at_) (bs.drop at_)) := fun o' ho => Row.drop HR.out.row ho
    by_cases hc0 : c = at_
    · have hz0 : n - at_ = 0 := by omega
      have hna : at_ = n := by omega
      have HR0 : Hid (Row .u8 w N (some ⟨b, o, none⟩) 0 (bs.drop at_)) := by
        have := HRow.out o (fun h => absurd hz0 h)
        rw [hz0] at this
        exact this
      subst hna
      subst hc0
      clear hz0 HRow
      go_enter Tryd.func68, Tryd.ntmps68
      go_wp2_with fail
      go_quiet ((go_at_call 84; refine Calls.quiet_of_same (HTK.out (some ⟨b, o, none⟩) 0 0 _ HR0.out)))
      by_cases he : er = 0
      · have HE := Lib.hid he
        have hz : ((er : Int) == 0) = true := beq_iff_eq.2 (by omega)
        clear he
        go_wp2
        go_ret2
        exact (FIN.out _).1 HE.out
      · have HE := Lib.hid he
        have hz : ((er : Int) == 0) = false := beq_eq_false_iff_ne.2 (by omega)
        clear he
        go_wp2
        go_ret2
        exact (FIN.out _).2 HE.out
    · have HR0 : Hid (Row .u8 w N (some ⟨b, o + at_, none⟩) (n - at_) (bs.drop at_)) := HRow.out (o + at_) (fun _ => rfl)
      go_enter Tryd.func68, Tryd.ntmps68
      go_wp2_with fail
      go_quiet ((go_at_call 84; refine Calls.quiet_of_same (HTK.out (some ⟨b, o + at_, none⟩) (n - at_) (c - at_) _ HR0.out)))
      by_cases he : er = 0
      · have HE := Lib.hid he
        have hz : ((er : Int) == 0) = true := beq_iff_eq.2 (by omega)
        clear he
        go_wp2
        go_ret2
        exact (FIN.out _).1 HE.out
      · have HE := Lib.hid he
        have hz : ((er : Int) == 0) = false := beq_eq_false_iff_ne.2 (by omega)
        clear he
        go_wp2
        go_ret2
        exact (FIN.out _).2 HE.out
end Go.Proofs.YtmkdbpdfonpfdaaDoor.Fld

/- The reference's reader of layer 3: its methods, as contracts. -/
namespace Go.Proofs.YtmkdbpdfonpfdaaDoor.Fld
open Go.RowKit Var

def RefSteps (w : World) (g N : Nat) (A : Option Addr) (n c : Nat) (bs : List Int) (at_ e : Nat) (k : IntKind) (t : Int × Nat × Nat) (r : Ending) (w' : World) : Prop :=
  r = .returned (.int k (val e t)) ∧ (∃ at', Rfr w' g N A n c bs at' (after (bs.drop at_) e t.2.1 t.2.2).2 ∧ bs.drop at' = (after (bs.drop at_) e t.2.1 t.2.2).1) ∧ Only (fun k => k = g) w w'

section
variable {w w1 w' : World} {g N n c at_ e : Nat} {A : Option Addr} {bs : List Int} {k : IntKind} {t : Int × Nat × Nat}
theorem refsteps_bad (h : Rfr w g N A n c bs at_ e) (he : e ≠ 0) : RefSteps w g N A n c bs at_ e k t (.returned (.int k 0)) w := by
  have e1 : after (bs.drop at_) e t.2.1 t.2.2 = (bs.drop at_, e) := by unfold after; rw [if_pos he]
  unfold RefSteps
  rw [e1]
  exact ⟨by unfold val; rw [if_pos (.inl he)], ⟨at_, h, rfl⟩, Only.refl _ _⟩
theorem refsteps_err {er : Nat} (h : Rfr w' g N A n c bs at_ er) (ht : t.2.2 = er) (he : er ≠ 0) (ho : Only (fun k => k = g) w w') : RefSteps w g N A n c bs at_ 0 k t (.returned (.int k 0)) w' := by
  have e1 : after (bs.drop at_) 0 t.2.1 t.2.2 = (bs.drop at_, er) := by unfold after; rw [if_neg (by simp), if_pos (by rw [ht]; exact he), ht]
  unfold RefSteps
  rw [e1]
  exact ⟨by unfold val; rw [if_pos (.inr (by rw [ht]; exact he))], ⟨at_, h, rfl⟩, ho⟩
theorem refsteps_ok {s : Nat} {x : Int} (h : Rfr w' g N A n c bs (at_ + s) 0) (ht : t = (x, s, 0)) (ho : Only (fun k => k = g) w w') : RefSteps w g N A n c bs at_ 0 k t (.returned (.int k x)) w' := by
  subst ht
  refine ⟨by simp [val], ⟨at_ + s, by simpa [after] using h, by simp [after]⟩, ho⟩
end

set_option maxHeartbeats 800000 in
set_option maxRecDepth 100000 in
theorem raw_bad (g n c at_ e : Nat) (A : Option Addr) (w : World) (h : Rf w g A n c at_ e) (he : e ≠ 0) :
    Calls Tryd.prog 68 #[.pointer (some ⟨g, 0, none⟩)] w fun r w' => r = .returned (.tuple #[.int .u64 0, .int .i64 0]) ∧ w = w' := by
  have c2 := h.c2
  have hne : ((e : Int) == 0) = false := beq_eq_false_iff_ne.2 (by omega)
  clear h he
  go_enter Tryd.func68, Tryd.ntmps68
  go_wp2
  go_ret2
  exact ⟨rfl, rfl⟩

theorem nxt_err {xs : List Int} {most : Int} {x s er : Nat} (h : take 0 0 xs = (x, s, er)) (he : er ≠ 0) : (nxt xs most).2.2 = er := by unfold nxt; rw [h]; simp [he]
theorem nxt_abv {xs : List Int} {most : Int} {x s : Nat} (h : take 0 0 xs = (x, s, 0)) (ha : abv x most = true) : (nxt xs most).2.2 = 3 := by unfold nxt; rw [h]; simp [ha]
theorem nxt_fin {xs : List Int} {most : Int} {x s : Nat} (h : take 0 0 xs = (x, s, 0)) (ha : abv x most = false) : nxt xs most = ((x : Int), s, 0) := by unfold nxt; rw [h]; simp [ha]

set_option maxHeartbeats 1600000 in
set_option maxRecDepth 100000 in
theorem refnum_any (g N n c at_ e : Nat) (A : Option Addr) (bs : List Int) (most : Int) (w : World) (h : Rfr w g N A n c bs at_ e) (h1 : -9223372036854775808 ≤ most) (h2 : most ≤ 9223372036854775807) :
    Calls Tryd.prog 42 #[.pointer (some ⟨g, 0, none⟩), .int .i64 most] w (RefSteps w g N A n c bs at_ e .i64 (nxt (bs.drop at_) most)) := by
  have HR := Lib.hid h
  have H1 := Lib.hid h1
  have H2 := Lib.hid h2
  have hbyt : ∀ y ∈ bs.drop at_, 0 ≤ y ∧ y ≤ 255 := fun y hy => h.byt y (List.mem_of_mem_drop hy)
  have H64 := Lib.hid (take64 hbyt)
  have HSZ := Lib.hid (take_size hbyt)
  have HL : Hid ((bs.drop at_).length = n - at_) := by unfold Hid; rw [List.length_drop, h.row.len]
  clear h h1 h2 hbyt
  by_cases he : e = 0
  · subst he
    obtain ⟨t, HT⟩ : ∃ t, Hid (take 0 0 (bs.drop at_) = t) := ⟨_, rfl⟩
    obtain ⟨x, s, er⟩ := t
    rw [HT.out] at H64 HSZ
    go_enter Tryd.func42, Tryd.ntmps42
    go_wp2_with fail
    refine (raw_any g N n c at_ A bs w HR.out).mono ?_
    rintro r w1 ⟨rfl, hr1, ho1⟩
    rw [HT.out] at hr1
    rw [HT.out]
    have HR1 := Lib.hid hr1
    have HO1 := Lib.hid ho1
    have d1 := hr1.rf.c1
    have g1 := hr1.rf.f1
    have d2 := hr1.rf.c2
    have g2 := hr1.rf.f2
    clear hr1 ho1
    by_cases her : er = 0
    · subst her
      obtain ⟨s0, s1⟩ := HSZ.out rfl
      have s2 : at_ + s ≤ n := by have := HL.out; have := HR.out.le; omega
      have s3 : n ≤ 4398046511104 := HR.out.len
      clear s0 s1
      have HS2 := Lib.hid s2
      have hw0 : IntKind.i64.wrap ((at_ : Int) + s) = (at_ : Int) + s := IntWalk.i64_in _ ⟨by omega, by omega⟩
      cases ha : abv x most with
      | true =>
        have fin : ∀ r w2, r = Ending.returned (.int .i64 0) → w2 = w1.setCell ⟨g, 2, none⟩ (.int .i64 3) → RefSteps w g N A n c bs at_ 0 .i64 (nxt (bs.drop at_) most) r w2 := by
          rintro r w2 rfl rfl
          have hO := HO1.out.trans (Only.setCell w1 ⟨g, 2, none⟩ (.int .i64 3)) (fun _ _ h => h)
          exact refsteps_err (HR1.out.set (Only.setCell w1 ⟨g, 2, none⟩ _) (HR1.out.rf.set2 3) HR1.out.le) (nxt_abv HT.out ha) (by omega) hO
        have FIN := Lib.hid fin
        clear fin s2
        by_cases hm : most < 0
        · have hd : decide (most < 0) = true := decide_eq_true hm
          go_wp2
          go_ret
          exact FIN.out _ _ rfl rfl
        · have hd : decide (most < 0) = false := decide_eq_false hm
          have hw : IntKind.u64.wrap most = most := IntWalk.u64_in _ ⟨by omega, by have := H2.out; omega⟩
          by_cases hx : most < (x : Int)
          · have hd2 : decide (most < (x : Int)) = true := decide_eq_true hx
            go_wp2
            go_ret
            exact FIN.out _ _ rfl rfl
          · have hd2 : decide (most < (x : Int)) = false := decide_eq_false hx
            have hx3 : (4611686018427387904 : Int) < (x : Int) := by
              unfold abv at ha
              simp [hd, hd2] at ha
              omega
            have hd3 : decide ((4611686018427387904 : Int) < (x : Int)) = true := decide_eq_true hx3
            go_wp2
            go_ret
            exact FIN.out _ _ rfl rfl
      | false =>
        obtain ⟨a1, a2, a3⟩ := abv_no ha
        have hd : decide (most < 0) = false := decide_eq_false (by omega)
        have hd2 : decide (most < (x : Int)) = false := decide_eq_false (by omega)
        have hd3 : decide ((4611686018427387904 : Int) < (x : Int)) = false := decide_eq_false (by omega)
        have hw : IntKind.u64.wrap most = most := IntWalk.u64_in _ ⟨by omega, by have := H2.out; omega⟩
        have hw2 : IntKind.i64.wrap (x : Int) = x := IntWalk.i64_in _ ⟨by omega, by omega⟩
        have HF := Lib.hid (nxt_fin HT.out ha)
        clear a3 s2
        go_wp2
        go_ret
        have e1 : (at_ : Int) + s = ((at_ + s : Nat) : Int) := by omega
        refine refsteps_ok ?_ HF.out (HO1.out.trans (Only.setCell w1 ⟨g, 1, none⟩ _) (fun _ _ h => h))
        refine HR1.out.set (Only.setCell w1 ⟨g, 1, none⟩ _) ?_ HS2.out
        rw [e1]
        exact HR1.out.rf.set1 (at_ + s)
    · have hne : ((er : Int) == 0) = false := beq_eq_false_iff_ne.2 (by omega)
      have HF := Lib.hid (nxt_err (most := most) HT.out her)
      have HE := Lib.hid her
      clear her
      go_wp2
      go_ret
      exact refsteps_err HR1.out HF.out HE.out HO1.out
  · have hne : ((e : Int) == 0) = false := beq_eq_false_iff_ne.2 (by omega)
    have c2 := HR.out.rf.c2
    have HE := Lib.hid he
    clear he
    go_enter Tryd.func42, Tryd.ntmps42
    go_wp2_with fail
    refine (raw_bad g n c at_ e A w HR.out.rf HE.out).mono ?_
    rintro r w1 ⟨rfl, rfl⟩
    go_wp2
    go_ret
    exact refsteps_bad HR.out HE.out
end Go.Proofs.YtmkdbpdfonpfdaaDoor.Fld

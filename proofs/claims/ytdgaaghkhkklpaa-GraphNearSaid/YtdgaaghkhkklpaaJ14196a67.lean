/- Lemmas that the proof stands on, in build order: CrcR FrmW Same SameA FrmP. -/
import Derived.Test.YtdgaaghkhkklpaaProg
import Derived.WalkKit
import Derived.KernelRfl
import Derived.WalkMore
import Derived.Deep.QuietTactic
import Derived.BigQuiet
import Derived.Test.YtdgaaghkhkklpaaJ1369b22f
import Derived.Test.YtdgaaghkhkklpaaJ14943df
import Derived.Test.YtdgaaghkhkklpaaJ7fe623b
import Derived.Test.YtdgaaghkhkklpaaJ8ff70c6
/- What crc.Sum and crc.Bytes, and the reference's Sum and Bytes return, as contracts over the program. -/
namespace Go.Proofs.Ytdgaaghkhkklpaa.Crc
open Go.RowKit

theorem info_u8 : (Try.prog.info? 5).map (fun i => (i.zero, i.size, i.bytes)) = some (some (.int .u8 0), 1, 1) := by kernel_rfl

set_option maxHeartbeats 400000 in
set_option maxRecDepth 100000 in
theorem sum_any (A : Option Addr) (n c B : Nat) (xs : List Int) (w : World) (hr : Row .u8 w B A n xs) (hx : Bytes xs) (hB : B ≤ w.heap.size) (hn : n ≤ 4398046511104) :
    Calls Try.prog 64 #[.slice A n c] w fun e w' => e = .returned (.int .u32 ((sum xs : Nat) : Int)) ∧ Below w.heap.size w w' := by
  have HR := Lib.hid hr
  have HX := Lib.hid hx
  clear hr hx
  go_enter Try.func64, Try.ntmps64
  go_wp2_with fail
  refine (more_any 0 (by omega) A n c B xs _ HR.out HX.out hB hn).mono ?_
  rintro e w1 ⟨rfl, hb1⟩
  have HB1 := Lib.hid hb1
  clear hb1
  rw [sum_more]
  go_wp2
  go_ret
  exact ⟨rfl, HB1.out⟩

set_option maxHeartbeats 1000000 in
set_option maxRecDepth 100000 in
theorem refsum_any (A : Option Addr) (n c B : Nat) (xs : List Int) (w : World) (hr : Row .u8 w B A n xs) (hx : Bytes xs) (hn : n ≤ 4398046511104) :
    Calls Try.prog 50 #[.slice A n c] w fun e w' => e = .returned (.int .u32 ((sum xs : Nat) : Int)) ∧ w' = w := by
  have HR := Lib.hid hr
  have HX := Lib.hid hx
  have hlen := hr.len
  clear hr hx
  go_enter Try.func50, Try.ntmps50
  go_wp2
  go_loop [4, 3] (fun a b => ∃ i r : Nat, i ≤ n ∧ a = .int .i64 (i : Int) ∧ b = .int .u32 (r : Int) ∧ Hid (r < 4294967296 ∧ crc 4294967295 xs = crc r (xs.drop i))) (fun a _ => n - (intOf a).toNat)
  case atStart => exact ⟨0, 4294967295, Nat.zero_le _, rfl, rfl, by unfold Hid; exact ⟨by omega, by simp⟩⟩
  case round =>
    obtain ⟨i, r, hi, rfl, rfl, HI⟩ := hrel
    by_cases hlt : i < n
    · obtain ⟨b, o, rfl, _, hc1⟩ := HR.out.cell_at hlt
      have hr := HI.out.1
      have h8 := HX.out.getD (i := i) (by omega)
      have HD := Lib.hid (crc_drop (xs := xs) (i := i) (by omega) r)
      have HU := Lib.hid (upd_eq r (xs.getD i 0))
      have HL := Lib.hid (upd_lt hr h8.1 h8.2)
      obtain ⟨x, hx⟩ : ∃ x : Nat, xs.getD i 0 = (x : Int) := ⟨(xs.getD i 0).toNat, by omega⟩
      rw [hx] at hc1 h8 HU HD HL
      clear hx
      have h8' : x < 256 := by omega
      clear h8
      go_wp2
      go_loop [6, 5, 3] (fun a b d => ∃ k y q : Nat, k ≤ 8 ∧ a = .int .i64 (k : Int) ∧ b = .int .i64 (y : Int) ∧ d = .int .u32 (q : Int) ∧ Hid (y = x / 2 ^ k) ∧ Hid (q < 4294967296 ∧ q ^^^ y = steps k (r ^^^ x))) (fun a _ _ => 8 - (intOf a).toNat)
      case atStart => exact ⟨0, x, r, Nat.zero_le _, rfl, by go_num, rfl, by unfold Hid; simp, by unfold Hid; exact ⟨hr, rfl⟩⟩
      case round =>
        obtain ⟨k, y, q, hk, rfl, rfl, rfl, HY, HQ⟩ := hrel
        have hy : y < 256 := by rw [HY.out]; exact Nat.lt_of_le_of_lt (Nat.div_le_self _ _) h8'
        by_cases hlt8 : k < 8
        · have hq := HQ.out.1
          have HS : Hid (rstep q y ^^^ (y / 2) = steps (k + 1) (r ^^^ x)) := by unfold Hid; rw [step_rstep, HQ.out.2]; rfl
          have HY2 : Hid (y / 2 = x / 2 ^ (k + 1)) := by unfold Hid; rw [HY.out, Nat.div_div_eq_div_mul, ← Nat.pow_succ]
          have hxor : bits .xor .u32 ((q : Int) / 2) 3988292384 = ((q / 2 ^^^ 3988292384 : Nat) : Int) := u32_xor_nat (q / 2) 3988292384 (by omega) (by omega)
          have hwy := u32_in (x := (y : Int) % 2) (by omega) (by omega)
          by_cases hbit : q % 2 = y % 2
          · have hb : ((q : Int) % 2 == (y : Int) % 2) = true := by simp; omega
            have hb' : ((q : Int) % 2 != (y : Int) % 2) = false := by simp; omega
            go_wp2
            go_round
            case rel => exact ⟨k + 1, y / 2, rstep q y, by omega, by go_num, by go_num, by unfold rstep; rw [if_pos hbit]; go_num, HY2, by unfold Hid; exact ⟨rstep_lt hq, HS.out⟩⟩
            case measure => simp [intOf]; omega
          · have hb : ((q : Int) % 2 == (y : Int) % 2) = false := by simp; omega
            have hb' : ((q : Int) % 2 != (y : Int) % 2) = true := by simp; omega
            go_wp2
            go_round
            case rel => exact ⟨k + 1, y / 2, rstep q y, by omega, by go_num, by go_num, by unfold rstep; rw [if_neg hbit], HY2, by unfold Hid; exact ⟨rstep_lt hq, HS.out⟩⟩
            case measure => simp [intOf]; omega
        · obtain rfl : k = 8 := by omega
          have hy0 : y = 0 := by rw [HY.out]; exact Nat.div_eq_of_lt h8'
          subst hy0
          have HE : Hid (q = upd r (x : Int)) := by
            have := HQ.out.2
            rw [Nat.xor_zero] at this
            unfold Hid
            rw [this, HU.out]
            rfl
          go_wp2
          exact ⟨⟨i + 1, q, by omega, by go_num, rfl, by unfold Hid; exact ⟨HQ.out.1, by rw [HI.out.2, HD.out, HE.out]⟩⟩, by simp [intOf]; omega⟩
    · obtain rfl : i = n := by omega
      have hdr : xs.drop xs.length = [] := List.drop_eq_nil_of_le (Nat.le_refl _)
      have hr := HI.out.1
      have HF : Hid (sum xs = inv r) := by unfold Hid sum; rw [HI.out.2, ← hlen, hdr]; rfl
      clear hdr
      have hsub : IntKind.u32.wrap (4294967295 - (r : Int)) = 4294967295 - (r : Int) := u32_in (by omega) (by omega)
      go_wp2
      go_ret
      exact ⟨ret_int (by rw [HF.out]; unfold inv; omega), rfl⟩

def BytesTo (n : Nat) (w : World) (e : Ending) (w' : World) : Prop :=
  ∃ v, e = .returned v ∧ w'.ownsRow w.heap.size 5 1 v 4 ((byts 4 n).map (Value.int .u8)) ∧ Below w.heap.size w w'

set_option maxHeartbeats 400000 in
set_option maxRecDepth 100000 in
theorem bytes_any (n : Nat) (w : World) : Calls Try.prog 63 #[.int .u32 (n : Int)] w (BytesTo n w) := by
  have h0 : IntKind.u8.wrap (n : Int) = ((n % 256 : Nat) : Int) := by rw [IntKind.wrap_u8']; omega
  have h1 : IntKind.u8.wrap ((n : Int) / 256) = ((n / 256 % 256 : Nat) : Int) := by rw [IntKind.wrap_u8']; omega
  have h2 : IntKind.u8.wrap ((n : Int) / 65536) = ((n / 256 / 256 % 256 : Nat) : Int) := by rw [IntKind.wrap_u8']; omega
  have h3 : IntKind.u8.wrap ((n : Int) / 16777216) = ((n / 256 / 256 / 256 % 256 : Nat) : Int) := by rw [IntKind.wrap_u8']; omega
  go_enter Try.func63, Try.ntmps63
  go_wp2
  go_ret
  refine ⟨_, rfl, World.ownsRow_lit w _ 4 (Nat.le_refl _) (by unfold maxLen; omega) rfl, (Below.refl _ _).alloc (Nat.le_refl _) _⟩

set_option maxHeartbeats 800000 in
set_option maxRecDepth 100000 in
theorem refbytes_any (n : Nat) (hn : n < 4294967296) (w : World) : Calls Try.prog 49 #[.int .u32 (n : Int)] w (BytesTo n w) := by
  obtain ⟨i0, hi, hz0, hz1, hz2⟩ := info_parts info_u8
  go_enter Try.func49, Try.ntmps49
  go_wp2
  go_loopw [4, 0, 3] (fun a b v wr => ∃ (i m : Nat) (xs : List Int), i ≤ 4 ∧ m ≤ n ∧ a = .int .i64 (i : Int) ∧ b = .int .u32 (m : Int) ∧ Hid (byts 4 n = xs ++ byts (4 - i) m) ∧ Hid (xs.length = i) ∧ wr.ownsRow w.heap.size 5 1 v i (xs.map (Value.int .u8)) ∧ Below w.heap.size w wr)
    (fun a _ _ _ => 4 - (intOf a).toNat)
  case atStart => exact ⟨0, n, [], Nat.zero_le _, Nat.le_refl _, rfl, rfl, rfl, rfl, World.ownsRow_nil _ _ _ _, Below.refl _ _⟩
  case round =>
    obtain ⟨i, m, xs, hi4, hm, rfl, rfl, HP, HL, hown, hbl⟩ := hrel
    have hsz := hbl.size
    by_cases hlt : i < 4
    · have hw8 : IntKind.u8.wrap ((m : Int) % 256) = ((m % 256 : Nat) : Int) := by rw [IntKind.wrap_u8']; omega
      have HP2 : Hid (byts 4 n = (xs ++ [((m % 256 : Nat) : Int)]) ++ byts (4 - (i + 1)) (m / 256)) := by
        unfold Hid
        rw [HP.out, show 4 - i = (4 - (i + 1)) + 1 by omega]
        simp [byts]
      go_wp2_with (at_builtin; refine push_own rfl (.tmp 9) (.tmp 13) 26 rfl w.heap.size 5 i0 .u8 1 Try.underlying26 hi hz0 hz1 hz2 _ i xs ((m % 256 : Nat) : Int) rfl hown rfl (by omega) (by omega) hsz ?_; intro v1 w1 hown1 hb1)
      go_roundw
      case rel => exact ⟨i + 1, m / 256, xs ++ [((m % 256 : Nat) : Int)], by omega, by omega, by go_num, by go_num, HP2, by unfold Hid; simp [HL.out], hown1, hbl.trans hb1⟩
      case measure => simp [intOf]; omega
    · obtain rfl : i = 4 := by omega
      have HF : Hid (byts 4 n = xs) := by unfold Hid; rw [HP.out]; simp [byts]
      go_wp2
      go_ret
      exact ⟨_, rfl, by rw [HF.out]; exact hown, hbl⟩
end Go.Proofs.Ytdgaaghkhkklpaa.Crc

/- What layer 4's (frame's) Put and its reference's return, as contracts over the program. -/
namespace Go.Proofs.Ytdgaaghkhkklpaa.Frm
open Go.RowKit Var Crc Slc

theorem own_mono {w : World} {base base' n : Nat} {e : TypeId} {v : Value} {xs : List Value} (h : w.ownsRow base e 1 v n xs) (hb : base' ≤ base) : w.ownsRow base' e 1 v n xs := by
  refine ⟨h.1, ?_⟩
  rcases h.2 with h0 | ⟨g, cap, cur, h1, h2, rest⟩
  · exact .inl h0
  · exact .inr ⟨g, cap, cur, h1, Nat.le_trans hb h2, rest⟩

set_option maxHeartbeats 400000 in
set_option maxRecDepth 100000 in
theorem fsum_any (A : Option Addr) (n c B : Nat) (xs : List Int) (w : World) (hr : Row .u8 w B A n xs) (hx : Byt xs) (hB : B ≤ w.heap.size) (hn : n ≤ 4398046511104) :
    Calls Try.prog 43 #[.slice A n c] w fun e w' =>
      ∃ v, e = .returned v ∧ w'.ownsRow w.heap.size 5 1 v 4 ((byts 4 (sum xs)).map (Value.int .u8)) ∧ Below w.heap.size w w' := by
  have HR := Lib.hid hr
  have HX := Lib.hid hx
  clear hr hx
  go_enter Try.func43, Try.ntmps43
  go_wp2_with fail
  refine (Crc.sum_any A n c B xs _ HR.out HX.out.crc hB hn).mono ?_
  rintro e1 w1 ⟨rfl, hb1⟩
  go_wp2_with fail
  refine (Crc.bytes_any (sum xs) _).mono ?_
  rintro e2 w2 ⟨v2, rfl, hown2, hb2⟩
  go_wp2
  go_ret
  exact ⟨_, rfl, own_mono hown2 hb1.size, hb1.trans (hb2.mono hb1.size)⟩

/-- A frame, in a row of its own. -/
def Puts (k : Int) (xs : List Int) (w : World) (v : Value) (w' : World) : Prop :=
  w'.ownsRow w.heap.size 5 1 v (frame k xs).length ((frame k xs).map (Value.int .u8)) ∧ Below w.heap.size w w'

set_option maxHeartbeats 800000 in
set_option maxRecDepth 100000 in
theorem put_any (k : Int) (hk : 0 ≤ k ∧ k ≤ 255) (A : Option Addr) (n c : Nat) (xs : List Int) (w : World) (hr : Row .u8 w w.heap.size A n xs) (hnil : A = none → c = 0) (hx : Byt xs) (hn : n ≤ 1048576) :
    Calls Try.prog 22 #[.int .u8 k, .slice A n c] w fun e w' => ∃ v, e = .returned (.tuple #[v, .int .i64 0]) ∧ Puts k xs w v w' := by
  obtain ⟨i0, hi, hz0, hz1, hz2⟩ := info_parts Slc.info_u8
  have HR := Lib.hid hr
  have HX := Lib.hid hx
  have HN := Lib.hid hnil
  have hlen := hr.len
  clear hr hx hnil
  have hL := put_len10 (n := n) (by omega)
  go_enter Try.func22, Try.ntmps22
  go_wp2_with fail
  have HO1 := Lib.hid (World.ownsRow_lit (e := 5) (size := 1) (base := w.heap.size) w #[.int .u8 199, .int .u8 k] 2 (Nat.le_refl _) (by unfold maxLen; omega) rfl)
  have HB1 := Lib.hid ((Below.refl w.heap.size w).alloc (Nat.le_refl _) (.cells #[.int .u8 199, .int .u8 k] 5))
  generalize hw1 : w.alloc (.cells #[.int .u8 199, .int .u8 k] 5) = w1 at *
  have hs1 : w.heap.size + 1 = w1.heap.size := by rw [← hw1]; simp
  clear hw1
  refine (Var.put_any n (by omega) _).mono ?_
  rintro e2 w2 ⟨v2, rfl, hown2, hb2⟩
  obtain ⟨A2, c2, rfl, -, hnil2⟩ := own_slice hown2
  have HO2 := Lib.hid hown2
  have HB2 := Lib.hid hb2
  have HN2 := Lib.hid hnil2
  have hs2 := hb2.size
  clear hown2 hb2 hnil2
  go_wp2_with fail
  have HB3 := Lib.hid ((Below.refl w2.heap.size w2).alloc (Nat.le_refl _) (.cells #[.slice (some ⟨w.heap.size, 0, none⟩) 2 2, .slice A2 (put n).length c2, .slice A n c] 26))
  have h0 : ∀ j (h : j < [Part.mk (some ⟨w.heap.size, 0, none⟩) 2 2 [199, k], Part.mk A2 (put n).length c2 (put n), Part.mk A n c xs].length), (w2.alloc (.cells #[.slice (some ⟨w.heap.size, 0, none⟩) 2 2, .slice A2 (put n).length c2, .slice A n c] 26)).cell? ⟨w2.heap.size, j, none⟩ = some ([Part.mk (some ⟨w.heap.size, 0, none⟩) 2 2 [199, k], Part.mk A2 (put n).length c2 (put n), Part.mk A n c xs][j]).v := by
    intro j hj
    match j, hj with
    | 0, _ => simp [Part.v]
    | 1, _ => simp [Part.v]
    | 2, _ => simp [Part.v]
  have H0 := Lib.hid h0
  clear h0
  generalize hw3 : w2.alloc (.cells #[.slice (some ⟨w.heap.size, 0, none⟩) 2 2, .slice A2 (put n).length c2, .slice A n c] 26) = w3 at *
  have hs3 : w2.heap.size + 1 = w3.heap.size := by rw [← hw3]; simp
  clear hw3
  have HL : Hid (∀ p ∈ [Part.mk (some ⟨w.heap.size, 0, none⟩) 2 2 [199, k], Part.mk A2 (put n).length c2 (put n), Part.mk A n c xs], p.Right w3 w3.heap.size) := by
    intro p hp
    simp only [List.mem_cons, List.not_mem_nil, or_false] at hp
    rcases hp with rfl | rfl | rfl
    · exact ⟨((((Row.of_own (xs := [199, k]) HO1.out).below HB2.out).below (HB3.out.mono (by omega))).more (by omega)), fun h => by cases h⟩
    · exact ⟨(((Row.of_own HO2.out).below HB3.out).more (by omega)), HN2.out⟩
    · exact ⟨((((HR.out.below HB1.out).below (HB2.out.mono (by omega))).below (HB3.out.mono (by omega))).more (by omega)), HN.out⟩
  refine (concat_any [Part.mk (some ⟨w.heap.size, 0, none⟩) 2 2 [199, k], Part.mk A2 (put n).length c2 (put n), Part.mk A n c xs] w2.heap.size 3 w3.heap.size w3 H0.out HL.out (Nat.le_refl _) (by omega) (by simp [total]; omega) (by simp)).mono ?_
  rintro e4 w4 ⟨v4, rfl, hown4, hb4⟩
  have hh : whole [Part.mk (some ⟨w.heap.size, 0, none⟩) 2 2 [199, k], Part.mk A2 (put n).length c2 (put n), Part.mk A n c xs] = head k xs := by simp [whole, head, hlen]
  have ht : total [Part.mk (some ⟨w.heap.size, 0, none⟩) 2 2 [199, k], Part.mk A2 (put n).length c2 (put n), Part.mk A n c xs] = (head k xs).length := by rw [head_len, hlen]; simp [total]; omega
  rw [hh, ht] at hown4
  clear hh ht
  obtain ⟨A4, c4, rfl, -, -⟩ := own_slice hown4
  have HO4 := Lib.hid hown4
  have HB4 := Lib.hid hb4
  have hs4 := hb4.size
  clear hown4 hb4 H0 HL
  have HHB : Hid (Byt (head k xs)) := head_byt hk HX.out
  have hhl : (head k xs).length ≤ 2000000 := by rw [head_len, hlen]; omega
  have HF : Hid (frame k xs = head k xs ++ byts 4 (sum (head k xs))) := rfl
  have HFL : Hid ((frame k xs).length = (head k xs).length + 4) := by unfold Hid; rw [frame_len, head_len]
  generalize head k xs = hd at *
  go_wp2_with fail
  refine (fsum_any A4 hd.length c4 _ hd _ (Row.of_own HO4.out) HHB.out (Nat.le_refl _) (by omega)).mono ?_
  rintro e5 w5 ⟨v5, rfl, hown5, hb5⟩
  obtain ⟨A5, c5, rfl, -, hnil5⟩ := own_slice hown5
  have HO4' := Lib.hid (own_below HO4.out hb5)
  have HO5 := Lib.hid hown5
  have HB5 := Lib.hid hb5
  have HN5 := Lib.hid hnil5
  have hs5 := hb5.size
  clear hown5 hb5 hnil5
  go_wp2_with (at_builtin; refine cat_own rfl (.tmp 19) (.tmp 21) 26 rfl w3.heap.size 5 i0 .u8 1 Try.underlying26 hi hz0 hz1 hz2 _ hd.length hd rfl HO4'.out _ A5 4 c5 (byts 4 (sum hd)) rfl HN5.out (Row.of_own HO5.out) (by omega) (by omega) (by omega) ?_; intro v6 w6 hown6 hb6; have HO6 := Lib.hid hown6; have HB6 := Lib.hid hb6; clear hown6 hb6)
  go_ret2
  refine ⟨v6, rfl, ?_, ?_⟩
  · rw [HFL.out, HF.out]; exact own_mono HO6.out (by omega)
  · exact HB1.out.trans ((HB2.out.mono (by omega)).trans ((HB3.out.mono (by omega)).trans ((HB4.out.mono (by omega)).trans ((HB5.out.mono (by omega)).trans (HB6.out.mono (by omega))))))

set_option maxHeartbeats 400000 in
set_option maxRecDepth 100000 in
theorem put_much (k : Int) (A : Option Addr) (n c : Nat) (w : World) (hn : 1048576 < n) :
    Calls Try.prog 22 #[.int .u8 k, .slice A n c] w fun e w' => e = .returned (.tuple #[.slice none 0 0, .int .i64 3]) ∧ w = w' := by
  go_enter Try.func22, Try.ntmps22
  go_wp2
  go_ret2
  exact ⟨rfl, rfl⟩
end Go.Proofs.Ytdgaaghkhkklpaa.Frm

/- Two slices of bytes that read alike are the same for the reference's Same: a contract over the program. -/
namespace Go.Proofs.Ytdgaaghkhkklpaa
open Go.RowKit

set_option maxHeartbeats 800000 in
set_option maxRecDepth 100000 in
/-- Two slices that read alike are the same. -/
theorem same_yes (A A' : Option Addr) (n c c' B B' : Nat) (xs : List Int) (w : World) (hn : n ≤ 4398046511104) (h1 : Row .u8 w B A n xs) (h2 : Row .u8 w B' A' n xs) :
    Calls Try.prog 11 #[.slice A n c, .slice A' n c'] w fun e w' => e = .returned (.bool true) ∧ ∃ q, w' = w.drewN q := by
  have H1 := Lib.hid h1
  have H2 := Lib.hid h2
  clear h1 h2
  go_enter Try.func11, Try.ntmps11
  go_wp2
  go_loopw [5] (fun i wr => ∃ k q : Nat, k ≤ n ∧ i = .int .i64 (k : Int) ∧ Hid (wr = w.drewN q)) (fun i _ => n - (intOf i).toNat)
  case atStart => exact ⟨0, 0, Nat.zero_le _, rfl, rfl⟩
  case round =>
    obtain ⟨k, q, hk, rfl, hw⟩ := hrel
    obtain rfl := hw.out
    clear hw
    by_cases hlt : k < n
    · obtain ⟨b, o, rfl, _, hc1⟩ := H1.out.cell_at hlt
      obtain ⟨b', o', rfl, _, hc2⟩ := H2.out.cell_at hlt
      go_wp2
      go_quiet (fail)
      go_wp2
      go_roundw
      case rel => exact ⟨k + 1, _, by omega, by go_num, by unfold Hid; rfl⟩
      case measure => simp [intOf]; omega
    · go_wp2
      go_ret
      exact ⟨rfl, _, rfl⟩
end Go.Proofs.Ytdgaaghkhkklpaa

/- The reference's Same of any two slices of bytes: a contract over the program. -/
namespace Go.Proofs.Ytdgaaghkhkklpaa
open Go.RowKit

set_option maxHeartbeats 800000 in
set_option maxRecDepth 100000 in
/-- Any two slices. -/
theorem same_any (A A' : Option Addr) (n c n' c' B B' : Nat) (xs ys : List Int) (w : World) (hn : n ≤ 4398046511104) (hn' : n' ≤ 4398046511104) (h1 : Row .u8 w B A n xs) (h2 : Row .u8 w B' A' n' ys) :
    Calls Try.prog 11 #[.slice A n c, .slice A' n' c'] w fun e w' => e = .returned (.bool (decide (xs = ys))) ∧ ∃ q, w' = w.drewN q := by
  have H1 := Lib.hid h1
  have H2 := Lib.hid h2
  have l1 := h1.len
  have l2 := h2.len
  clear h1 h2
  by_cases hne : n = n'
  · subst hne
    go_enter Try.func11, Try.ntmps11
    go_wp2
    go_loopw [5] (fun i wr => ∃ k q : Nat, k ≤ n ∧ i = .int .i64 (k : Int) ∧ Hid (xs.take k = ys.take k) ∧ Hid (wr = w.drewN q)) (fun i _ => n - (intOf i).toNat)
    case atStart => exact ⟨0, 0, Nat.zero_le _, rfl, rfl, rfl⟩
    case round =>
      obtain ⟨k, q, hk, rfl, HT, hw⟩ := hrel
      obtain rfl := hw.out
      clear hw
      by_cases hlt : k < n
      · obtain ⟨b, o, rfl, _, hc1⟩ := H1.out.cell_at hlt
        obtain ⟨b', o', rfl, _, hc2⟩ := H2.out.cell_at hlt
        have hx : xs.getD k 0 = xs[k]'(by omega) := by simp [List.getD, show k < xs.length by omega]
        have hy : ys.getD k 0 = ys[k]'(by omega) := by simp [List.getD, show k < ys.length by omega]
        by_cases heq : xs.getD k 0 = ys.getD k 0
        · have HT2 : Hid (xs.take (k + 1) = ys.take (k + 1)) := by
            unfold Hid
            rw [List.take_succ_eq_append_getElem (by omega), List.take_succ_eq_append_getElem (by omega), HT.out, ← hx, ← hy, heq]
          rw [← heq] at hc2
          clear hx hy heq
          go_wp2
          go_quiet (fail)
          go_wp2
          go_roundw
          case rel => exact ⟨k + 1, _, by omega, by go_num, HT2, by unfold Hid; rfl⟩
          case measure => simp [intOf]; omega
        · have HNE : Hid (decide (xs = ys) = false) := by
            unfold Hid
            refine decide_eq_false fun h => heq ?_
            rw [h]
          have hnb : (xs.getD k 0 == ys.getD k 0) = false := beq_eq_false_iff_ne.2 heq
          have hnb2 : (xs.getD k 0 != ys.getD k 0) = true := by rw [bne, hnb]; rfl
          generalize xs.getD k 0 = x at *
          generalize ys.getD k 0 = y at *
          clear hx hy heq
          go_wp2
          go_quiet (fail)
          go_wp2
          go_ret
          exact ⟨by rw [HNE.out]; rfl, q + nq, World.drewN_drewN _ _ _⟩
      · have HY : Hid (decide (xs = ys) = true) := by
          unfold Hid
          have h := HT.out
          rw [List.take_of_length_le (by omega), List.take_of_length_le (by omega)] at h
          exact decide_eq_true h
        go_wp2
        go_ret
        exact ⟨by rw [HY.out]; rfl, _, rfl⟩
  · have HNE : Hid (decide (xs = ys) = false) := by
      unfold Hid
      refine decide_eq_false fun h => hne ?_
      rw [← l1, ← l2, h]
    have hb : ((n : Int) == (n' : Int)) = false := beq_eq_false_iff_ne.2 (by omega)
    have hb2 : ((n : Int) != (n' : Int)) = true := by rw [bne, hb]; rfl
    clear hne
    go_enter Try.func11, Try.ntmps11
    go_wp2
    go_ret
    exact ⟨by rw [HNE.out]; rfl, 0, rfl⟩
end Go.Proofs.Ytdgaaghkhkklpaa

/- What the reference's Put of layer 4 returns, as a contract over the program. -/
namespace Go.Proofs.Ytdgaaghkhkklpaa.Frm
open Go.RowKit Var Crc Slc

set_option maxHeartbeats 800000 in
set_option maxRecDepth 100000 in
theorem refput_any (k : Int) (hk : 0 ≤ k ∧ k ≤ 255) (A : Option Addr) (n c : Nat) (xs : List Int) (w : World) (hr : Row .u8 w w.heap.size A n xs) (hnil : A = none → c = 0) (hx : Byt xs) (hn : n ≤ 1048576) :
    Calls Try.prog 27 #[.int .u8 k, .slice A n c] w fun e w' => ∃ v, e = .returned v ∧ Puts k xs w v w' := by
  obtain ⟨i0, hi, hz0, hz1, hz2⟩ := info_parts Slc.info_u8
  have HR := Lib.hid hr
  have HX := Lib.hid hx
  have HN := Lib.hid hnil
  have hlen := hr.len
  clear hr hx hnil
  have hL := put_len10 (n := n) (by omega)
  go_enter Try.func27, Try.ntmps27
  go_wp2_with fail
  have HO1 := Lib.hid (World.ownsRow_lit (e := 5) (size := 1) (base := w.heap.size) w #[.int .u8 199, .int .u8 k] 2 (Nat.le_refl _) (by unfold maxLen; omega) rfl)
  have HB1 := Lib.hid ((Below.refl w.heap.size w).alloc (Nat.le_refl _) (.cells #[.int .u8 199, .int .u8 k] 5))
  generalize hw1 : w.alloc (.cells #[.int .u8 199, .int .u8 k] 5) = w1 at *
  have hs1 : w.heap.size + 1 = w1.heap.size := by rw [← hw1]; simp
  clear hw1
  refine (Var.refput_any n (by omega) _).mono ?_
  rintro e2 w2 ⟨v2, rfl, hown2, hb2⟩
  obtain ⟨A2, c2, rfl, -, hnil2⟩ := own_slice hown2
  have HO2 := Lib.hid hown2
  have HB2 := Lib.hid hb2
  have HN2 := Lib.hid hnil2
  have HO1' := Lib.hid (own_below HO1.out hb2)
  have hs2 := hb2.size
  clear hown2 hb2 hnil2
  go_wp2_with (at_builtin; first
    | (refine cat_own rfl (.tmp 8) (.tmp 12) 26 rfl w.heap.size 5 i0 .u8 1 Try.underlying26 hi hz0 hz1 hz2 _ 2 [199, k] rfl HO1'.out _ A2 (put n).length c2 (put n) rfl HN2.out (Row.of_own HO2.out) (by omega) (by omega) (by omega) ?_; intro v3 w3 hown3 hb3; have HO3 := Lib.hid hown3; have HB3 := Lib.hid hb3; clear hown3 hb3)
    | (refine cat_own rfl (.tmp 14) (.tmp 15) 26 rfl w.heap.size 5 i0 .u8 1 Try.underlying26 hi hz0 hz1 hz2 _ (2 + (put n).length) ([199, k] ++ put n) rfl HO3.out w.heap.size A n c xs rfl HN.out (((HR.out.below HB1.out).below (HB2.out.mono (by omega))).below HB3.out) (by omega) (by omega) (by have := HB3.out.size; omega) ?_; intro v4 w4 hown4 hb4; have HO4 := Lib.hid hown4; have HB4 := Lib.hid hb4; clear hown4 hb4))
  have hh : [199, k] ++ put n ++ xs = head k xs := by simp [head, hlen]
  have ht : 2 + (put n).length + n = (head k xs).length := by rw [head_len, hlen]
  rw [hh, ht] at HO4
  clear hh ht
  obtain ⟨A4, c4, rfl, -, -⟩ := own_slice HO4.out
  have hs3 := HB3.out.size
  have hs4 := HB4.out.size
  have HHB : Hid (Byt (head k xs)) := head_byt hk HX.out
  have hhl : (head k xs).length ≤ 2000000 := by rw [head_len, hlen]; omega
  have HF : Hid (frame k xs = head k xs ++ byts 4 (sum (head k xs))) := rfl
  have HFL : Hid ((frame k xs).length = (head k xs).length + 4) := by unfold Hid; rw [frame_len, head_len]
  generalize head k xs = hd at *
  refine (refsum_any A4 hd.length c4 _ hd _ (Row.of_own HO4.out) HHB.out.crc (by omega)).mono ?_
  rintro e5 w5 ⟨rfl, rfl⟩
  go_wp2_with fail
  refine (refbytes_any (sum hd) (sum_lt hd) _).mono ?_
  rintro e6 w6 ⟨v6, rfl, hown6, hb6⟩
  obtain ⟨A6, c6, rfl, -, hnil6⟩ := own_slice hown6
  have HO4' := Lib.hid (own_below HO4.out hb6)
  have HO6 := Lib.hid hown6
  have HB6 := Lib.hid hb6
  have HN6 := Lib.hid hnil6
  have hs6 := hb6.size
  clear hown6 hb6 hnil6
  go_wp2_with (at_builtin; refine cat_own rfl (.tmp 17) (.tmp 20) 26 rfl w.heap.size 5 i0 .u8 1 Try.underlying26 hi hz0 hz1 hz2 _ hd.length hd rfl HO4'.out _ A6 4 c6 (byts 4 (sum hd)) rfl HN6.out (Row.of_own HO6.out) (by omega) (by omega) (by omega) ?_; intro v7 w7 hown7 hb7; have HO7 := Lib.hid hown7; have HB7 := Lib.hid hb7; clear hown7 hb7)
  go_ret
  refine ⟨v7, rfl, ?_, ?_⟩
  · rw [HFL.out, HF.out]; exact HO7.out
  · exact HB1.out.trans ((HB2.out.mono (by omega)).trans (HB3.out.trans (HB4.out.trans ((HB6.out.mono (by omega)).trans HB7.out))))
end Go.Proofs.Ytdgaaghkhkklpaa.Frm

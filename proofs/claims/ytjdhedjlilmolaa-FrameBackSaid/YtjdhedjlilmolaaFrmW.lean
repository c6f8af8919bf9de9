/- What layer 4's (frame's) Put and its reference's return, as contracts over the program. -/
import Derived.Test.YtjdhedjlilmolaaFrmM
import Derived.Test.YtjdhedjlilmolaaSlc
import Derived.Test.YtjdhedjlilmolaaVarR
import Derived.Test.YtjdhedjlilmolaaCrcR
namespace Go.Proofs.Ytjdhedjlilmolaa.Frm
open Go.RowKit Var Crc Slc

theorem own_mono {w : World} {base base' n : Nat} {e : TypeId} {v : Value} {xs : List Value} (h : w.ownsRow base e 1 v n xs) (hb : base' ≤ base) : w.ownsRow base' e 1 v n xs := by
  refine ⟨h.1, ?_⟩
  rcases h.2 with h0 | ⟨g, cap, cur, h1, h2, rest⟩
  · exact .inl h0
  · exact .inr ⟨g, cap, cur, h1, Nat.le_trans hb h2, rest⟩

set_option maxHeartbeats 400000 in
set_option maxRecDepth 100000 in
theorem fsum_any (A : Option Addr) (n c B : Nat) (xs : List Int) (w : World) (hr : Row .u8 w B A n xs) (hx : Byt xs) (hB : B ≤ w.heap.size) (hn : n ≤ 4398046511104) :
    Calls Try.prog 16 #[.slice A n c] w fun e w' =>
      ∃ v, e = .returned v ∧ w'.ownsRow w.heap.size 5 1 v 4 ((byts 4 (sum xs)).map (Value.int .u8)) ∧ Below w.heap.size w w' := by
  have HR := Lib.hid hr
  have HX := Lib.hid hx
  clear hr hx
  go_enter Try.func16, Try.ntmps16
  go_wp2_with fail
  refine (Crc.sum_any A n c B xs _ HR.out HX.out.crc hB hn).mono ?_
  rintro e1 w1 ⟨rfl, hb1⟩
  go_wp2_with fail
  refine (Crc.bytes_any (sum xs) _).mono ?_
  rintro e2 w2 ⟨v2, rfl, hown2, hb2⟩
  go_wp2
  go_ret
  exact ⟨_, rfl, own_mono hown2 hb1.size, hb1.trans (hb2.mono hb1.size)⟩

/-- A frame, in a row of its own. -/
def Puts (k : Int) (xs : List Int) (w : World) (v : Value) (w' : World) : Prop :=
  w'.ownsRow w.heap.size 5 1 v (frame k xs).length ((frame k xs).map (Value.int .u8)) ∧ Below w.heap.size w w'

set_option maxHeartbeats 800000 in
set_option maxRecDepth 100000 in
theorem put_any (k : Int) (hk : 0 ≤ k ∧ k ≤ 255) (A : Option Addr) (n c : Nat) (xs : List Int) (w : World) (hr : Row .u8 w w.heap.size A n xs) (hnil : A = none → c = 0) (hx : Byt xs) (hn : n ≤ 1048576) :
    Calls Try.prog 7 #[.int .u8 k, .slice A n c] w fun e w' => ∃ v, e = .returned (.tuple #[v, .int .i64 0]) ∧ Puts k xs w v w' := by
  obtain ⟨i0, hi, hz0, hz1, hz2⟩ := info_parts Slc.info_u8
  have HR := Lib.hid hr
  have HX := Lib.hid hx
  have HN := Lib.hid hnil
  have hlen := hr.len
  clear hr hx hnil
  have hL := put_len10 (n := n) (by omega)
  go_enter Try.func7, Try.ntmps7
  go_wp2_with fail
  have HO1 := Lib.hid (World.ownsRow_lit (e := 5) (size := 1) (base := w.heap.size) w #[.int .u8 199, .int .u8 k] 2 (Nat.le_refl _) (by unfold maxLen; omega) rfl)
  have HB1 := Lib.hid ((Below.refl w.heap.size w).alloc (Nat.le_refl _) (.cells #[.int .u8 199, .int .u8 k] 5))
  generalize hw1 : w.alloc (.cells #[.int .u8 199, .int .u8 k] 5) = w1 at *
  have hs1 : w.heap.size + 1 = w1.heap.size := by rw [← hw1]; simp
  clear hw1
  refine (Var.put_any n (by omega) _).mono ?_
  rintro e2 w2 ⟨v2, rfl, hown2, hb2⟩
  obtain ⟨A2, c2, rfl, -, hnil2⟩ := own_slice hown2
  have HO2 := Lib.hid hown2
  have HB2 := Lib.hid hb2
  have HN2 := Lib.hid hnil2
  have hs2 := hb2.size
  clear hown2 hb2 hnil2
  go_wp2_with fail
  have HB3 := Lib.hid ((Below.refl w2.heap.size w2).alloc (Nat.le_refl _) (.cells #[.slice (some ⟨w.heap.size, 0, none⟩) 2 2, .slice A2 (put n).length c2, .slice A n c] 22))
  have h0 : ∀ j (h : j < [Part.mk (some ⟨w.heap.size, 0, none⟩) 2 2 [199, k], Part.mk A2 (put n).length c2 (put n), Part.mk A n c xs].length), (w2.alloc (.cells #[.slice (some ⟨w.heap.size, 0, none⟩) 2 2, .slice A2 (put n).length c2, .slice A n c] 22)).cell? ⟨w2.heap.size, j, none⟩ = some ([Part.mk (some ⟨w.heap.size, 0, none⟩) 2 2 [199, k], Part.mk A2 (put n).length c2 (put n), Part.mk A n c xs][j]).v := by
    intro j hj
    match j, hj with
    | 0, _ => simp [Part.v]
    | 1, _ => simp [Part.v]
    | 2, _ => simp [Part.v]
  have H0 := Lib.hid h0
  clear h0
  generalize hw3 : w2.alloc (.cells #[.slice (some ⟨w.heap.size, 0, none⟩) 2 2, .slice A2 (put n).length c2, .slice A n c] 22) = w3 at *
  have hs3 : w2.heap.size + 1 = w3.heap.size := by rw [← hw3]; simp
  clear hw3
  have HL : Hid (∀ p ∈ [Part.mk (some ⟨w.heap.size, 0, none⟩) 2 2 [199, k], Part.mk A2 (put n).length c2 (put n), Part.mk A n c xs], p.Right w3 w3.heap.size) := by
    intro p hp
    simp only [List.mem_cons, List.not_mem_nil, or_false] at hp
    rcases hp with rfl | rfl | rfl
    · exact ⟨((((Row.of_own (xs := [199, k]) HO1.out).below HB2.out).below (HB3.out.mono (by omega))).more (by omega)), fun h => by cases h⟩
    · exact ⟨(((Row.of_own HO2.out).below HB3.out).more (by omega)), HN2.out⟩
    · exact ⟨((((HR.out.below HB1.out).below (HB2.out.mono (by omega))).below (HB3.out.mono (by omega))).more (by omega)), HN.out⟩
  refine (concat_any [Part.mk (some ⟨w.heap.size, 0, none⟩) 2 2 [199, k], Part.mk A2 (put n).length c2 (put n), Part.mk A n c xs] w2.heap.size 3 w3.heap.size w3 H0.out HL.out (Nat.le_refl _) (by omega) (by simp [total]; omega) (by simp)).mono ?_
  rintro e4 w4 ⟨v4, rfl, hown4, hb4⟩
  have hh : whole [Part.mk (some ⟨w.heap.size, 0, none⟩) 2 2 [199, k], Part.mk A2 (put n).length c2 (put n), Part.mk A n c xs] = head k xs := by simp [whole, head, hlen]
  have ht : total [Part.mk (some ⟨w.heap.size, 0, none⟩) 2 2 [199, k], Part.mk A2 (put n).length c2 (put n), Part.mk A n c xs] = (head k xs).length := by rw [head_len, hlen]; simp [total]; omega
  rw [hh, ht] at hown4
  clear hh ht
  obtain ⟨A4, c4, rfl, -, -⟩ := own_slice hown4
  have HO4 := Lib.hid hown4
  have HB4 := Lib.hid hb4
  have hs4 := hb4.size
  clear hown4 hb4 H0 HL
  have HHB : Hid (Byt (head k xs)) := head_byt hk HX.out
  have hhl : (head k xs).length ≤ 2000000 := by rw [head_len, hlen]; omega
  have HF : Hid (frame k xs = head k xs ++ byts 4 (sum (head k xs))) := rfl
  have HFL : Hid ((frame k xs).length = (head k xs).length + 4) := by unfold Hid; rw [frame_len, head_len]
  generalize head k xs = hd at *
  go_wp2_with fail
  refine (fsum_any A4 hd.length c4 _ hd _ (Row.of_own HO4.out) HHB.out (Nat.le_refl _) (by omega)).mono ?_
  rintro e5 w5 ⟨v5, rfl, hown5, hb5⟩
  obtain ⟨A5, c5, rfl, -, hnil5⟩ := own_slice hown5
  have HO4' := Lib.hid (own_below HO4.out hb5)
  have HO5 := Lib.hid hown5
  have HB5 := Lib.hid hb5
  have HN5 := Lib.hid hnil5
  have hs5 := hb5.size
  clear hown5 hb5 hnil5
  go_wp2_with (at_builtin; refine cat_own rfl (.tmp 19) (.tmp 21) 22 rfl w3.heap.size 5 i0 .u8 1 Try.underlying22 hi hz0 hz1 hz2 _ hd.length hd rfl HO4'.out _ A5 4 c5 (byts 4 (sum hd)) rfl HN5.out (Row.of_own HO5.out) (by omega) (by omega) (by omega) ?_; intro v6 w6 hown6 hb6; have HO6 := Lib.hid hown6; have HB6 := Lib.hid hb6; clear hown6 hb6)
  go_ret2
  refine ⟨v6, rfl, ?_, ?_⟩
  · rw [HFL.out, HF.out]; exact own_mono HO6.out (by omega)
  · exact HB1.out.trans ((HB2.out.mono (by omega)).trans ((HB3.out.mono (by omega)).trans ((HB4.out.mono (by omega)).trans ((HB5.out.mono (by omega)).trans (HB6.out.mono (by omega))))))

set_option maxHeartbeats 400000 in
set_option maxRecDepth 100000 in
theorem put_much (k : Int) (A : Option Addr) (n c : Nat) (w : World) (hn : 1048576 < n) :
    Calls Try.prog 7 #[.int .u8 k, .slice A n c] w fun e w' => e = .returned (.tuple #[.slice none 0 0, .int .i64 3]) ∧ w = w' := by
  go_enter Try.func7, Try.ntmps7
  go_wp2
  go_ret2
  exact ⟨rfl, rfl⟩
end Go.Proofs.Ytjdhedjlilmolaa.Frm

/- Lemmas that the proof stands on, in build order: FrmV Res. -/
import Derived.Test.YtdgaaghkhkklpaaProg
import Derived.WalkKit
import Derived.Laws.Rows
import Derived.Test.YtdgaaghkhkklpaaJ184d8b89
/- What the reference's Take of layer 4 returns for any bytes, and both Wholes, as contracts over the program. -/
namespace Go.Proofs.Ytdgaaghkhkklpaa.Frm
open Go.RowKit Var Crc Slc

set_option maxHeartbeats 1600000 in
set_option maxRecDepth 100000 in
theorem reftake_any (A : Option Addr) (n c : Nat) (xs : List Int) (w : World) (hr : Row .u8 w w.heap.size A n xs) (hx : Byt xs) (hn : n ≤ 4398046511104) (hcap : n ≤ c) (hc : c ≤ maxLen) :
    Calls Try.prog 58 #[.slice A n c] w (RTakes (took xs) w) := by
  have HR := Lib.hid hr
  have HX := Lib.hid hx
  have hlen := hr.len
  have hc' : c ≤ 9223372036854775807 := by unfold maxLen at hc; omega
  clear hr hx hc
  by_cases h0 : n = 0
  · subst h0
    have HT : Hid (took xs = (0, [], 0, 10)) := by unfold Hid took; rw [if_pos hlen]
    go_enter Try.func58, Try.ntmps58
    go_wp2
    refine bodyPost_ret (results_tmp4 rfl _ _ _) rfl ?_
    rw [HT.out]
    exact ⟨none, 0, rfl, Row.none_, Below.refl _ _, Fit.none_⟩
  obtain ⟨b, o, rfl, hbw, hcell0⟩ := HR.out.cell_at (show 0 < n by omega)
  rw [Nat.add_zero] at hcell0
  have hnb : ((n : Int) == 0) = false := beq_eq_false_iff_ne.2 (by omega)
  have hy := HX.out.getD 0
  by_cases h1 : ¬ xs.getD 0 0 = 199
  · have HT : Hid (took xs = (0, [], 0, 11)) := by unfold Hid took; rw [if_neg (by omega), if_pos h1]
    have hb1 : (xs.getD 0 0 == 199) = false := beq_eq_false_iff_ne.2 h1
    have hb2 : (xs.getD 0 0 != 199) = true := by rw [bne, hb1]; rfl
    generalize xs.getD 0 0 = y at *
    clear h1
    go_enter Try.func58, Try.ntmps58
    go_wp2
    refine bodyPost_ret (results_tmp4 rfl _ _ _) rfl ?_
    rw [HT.out]
    exact ⟨none, 0, rfl, Row.none_, Below.refl _ _, Fit.none_⟩
  have h1 : xs.getD 0 0 = 199 := Decidable.not_not.1 h1
  rw [h1] at hcell0
  by_cases h2 : n < 2
  · have HT : Hid (took xs = (0, [], 0, 10)) := by unfold Hid took; rw [if_neg (by omega), if_neg (by simp only [h1, ne_eq, not_true, not_false_iff]), if_pos (by omega)]
    clear h1 hy
    go_enter Try.func58, Try.ntmps58
    go_wp2
    refine bodyPost_ret (results_tmp4 rfl _ _ _) rfl ?_
    rw [HT.out]
    exact ⟨none, 0, rfl, Row.none_, Below.refl _ _, Fit.none_⟩
  by_cases hc2 : c = 2
  · subst hc2
    have hn2 : n = 2 := by omega
    subst hn2
    have hd : xs.drop 2 = [] := List.drop_eq_nil_of_le (by omega)
    have HT : Hid (took xs = (0, [], 0, 10)) := by
      unfold Hid took
      rw [if_neg (by omega), if_neg (by simp only [h1, ne_eq, not_true, not_false_iff]), if_neg (by omega), hd, if_pos (by simp [take])]
      rfl
    have HD : Hid (take 0 0 ([] : List Int) = (0, 0, 10)) := rfl
    clear h1 hy hd
    go_enter Try.func58, Try.ntmps58
    go_wp2_with fail
    refine (Var.reftake_any (some ⟨b, o, none⟩) 0 0 w.heap.size [] w Row.none_ (fun x hx => by simp at hx)).mono ?_
    rintro e1 w1 ⟨rfl, rfl⟩
    rw [HD.out]
    go_wp2
    refine bodyPost_ret (results_tmp4 rfl _ _ _) rfl ?_
    rw [HT.out]
    exact ⟨none, 0, rfl, Row.none_, Below.refl _ _, Fit.none_⟩
  have HR2 : Hid (Row .u8 w w.heap.size (some ⟨b, o + 2, none⟩) (n - 2) (xs.drop 2)) := by
    have := row_sub HR.out (lo := 2) (m := n - 2) (by omega)
    rwa [List.take_of_length_le (by simp; omega)] at this
  obtain ⟨cnt, sz, er, HK⟩ : ∃ cnt sz er, Hid (take 0 0 (xs.drop 2) = (cnt, sz, er)) := ⟨_, _, _, Lib.hid rfl⟩
  have hsz : er = 0 → sz ≤ n - 2 ∧ 0 < sz := by
    rintro rfl
    obtain ⟨m, _, _, h3, h4, _⟩ := put_take (xs.drop 2) 0 0 (HX.out.drop 2) (by rw [HK.out])
    rw [HK.out] at h3 h4
    simp at h3 h4
    omega
  by_cases hgood : er = 0 ∧ ¬ 1048576 < cnt ∧ ¬ n < 2 + sz + cnt + 4
  · obtain ⟨rfl, hcnt, hend⟩ := hgood
    exact reftake_good b o n c sz cnt (2 + sz) (2 + sz + cnt) (2 + sz + cnt + 4) xs w HR.out HX.out hn hcap hc' h1 hc2 HK.out (hsz rfl) hcnt rfl rfl rfl (by omega)
  go_enter Try.func58, Try.ntmps58
  go_wp2_with fail
  refine (Var.reftake_any (some ⟨b, o + 2, none⟩) (n - 2) (c - 2) w.heap.size (xs.drop 2) w HR2.out (HX.out.drop 2)).mono ?_
  rintro e1 w1 ⟨rfl, rfl⟩
  rw [HK.out]
  by_cases her : er ≠ 0
  · have HT : Hid (took xs = (0, [], 0, er)) := by
      unfold Hid took
      rw [if_neg (by omega), if_neg (by simp only [h1, ne_eq, not_true, not_false_iff]), if_neg (by omega), HK.out, if_pos her]
    have hb1 : ((er : Int) == 0) = false := beq_eq_false_iff_ne.2 (by omega)
    have hb2 : ((er : Int) != 0) = true := by rw [bne, hb1]; rfl
    clear h1 hy her
    go_wp2
    refine bodyPost_ret (results_tmp4 rfl _ _ _) rfl ?_
    rw [HT.out]
    exact ⟨none, 0, rfl, Row.none_, Below.refl _ _, Fit.none_⟩
  obtain rfl : er = 0 := by omega
  clear her
  have hsz := hsz rfl
  by_cases hcnt : 1048576 < cnt
  · have HT : Hid (took xs = (0, [], 0, 3)) := by
      unfold Hid took
      rw [if_neg (by omega), if_neg (by simp only [h1, ne_eq, not_true, not_false_iff]), if_neg (by omega), HK.out, if_neg (by simp), if_pos hcnt]
    have hd1 : (1048576 : Int) < (cnt : Int) := by omega
    clear h1 hy hcnt
    go_wp2
    refine bodyPost_ret (results_tmp4 rfl _ _ _) rfl ?_
    rw [HT.out]
    exact ⟨none, 0, rfl, Row.none_, Below.refl _ _, Fit.none_⟩
  have hto : Hid (to_ xs = 2 + sz + cnt) := by unfold Hid to_ from_; rw [HK.out]
  have hfrom : Hid (from_ xs = 2 + sz) := by unfold Hid from_; rw [HK.out]
  by_cases hend : n < 2 + sz + cnt + 4
  · have HT : Hid (took xs = (0, [], 0, 10)) := by
      unfold Hid took
      rw [if_neg (by omega), if_neg (by simp only [h1, ne_eq, not_true, not_false_iff]), if_neg (by omega), HK.out, if_neg (by simp), if_neg hcnt, hto.out, if_pos (by omega)]
    clear h1 hy
    go_wp2
    refine bodyPost_ret (results_tmp4 rfl _ _ _) rfl ?_
    rw [HT.out]
    exact ⟨none, 0, rfl, Row.none_, Below.refl _ _, Fit.none_⟩
  exact absurd ⟨rfl, hcnt, hend⟩ hgood

/-- What Whole returns. -/
def Wholes (t : List Int × Nat) (w : World) (e : Ending) (w' : World) : Prop :=
  ∃ v, e = .returned (.tuple #[v, .int .i64 (t.2 : Int)]) ∧ w'.ownsRow w.heap.size 5 1 v t.1.length (t.1.map (Value.int .u8)) ∧ Below w.heap.size w w'
def RWholes (t : List Int × Nat) (w : World) (e : Ending) (w' : World) : Prop :=
  ∃ A c, e = .returned (.tuple #[.slice A t.1.length c, .int .i64 (t.2 : Int)]) ∧ Row .u8 w' w.heap.size A t.1.length t.1 ∧ Below w.heap.size w w' ∧ Fit A t.1.length c

theorem wholly_of {k k' : Int} {b ys : List Int} {u er : Nat} (h : took b = (k', ys, u, er)) : wholly k b = if er ≠ 0 then ([], er) else if k' ≠ k then ([], 11) else if u < b.length then ([], 13) else (ys, 0) := by
  unfold wholly
  rw [h]

set_option maxHeartbeats 800000 in
set_option maxRecDepth 100000 in
theorem whole_any (k : Int) (A : Option Addr) (n c : Nat) (xs : List Int) (w : World) (hr : Row .u8 w w.heap.size A n xs) (hnil : A = none → c = 0) (hx : Byt xs) (hn : n ≤ 4398046511104) (hcap : n ≤ c) (hc : c ≤ maxLen) :
    Calls Try.prog 28 #[.int .u8 k, .slice A n c] w (Wholes (wholly k xs) w) := by
  have hlen := hr.len
  have H := Lib.hid (take_any A n c xs w hr hnil hx hn hcap hc)
  obtain ⟨k', ys, u, er, HK⟩ : ∃ k' ys u er, Hid (took xs = (k', ys, u, er)) := ⟨_, _, _, _, Lib.hid rfl⟩
  have HW := Lib.hid (wholly_of (k := k) HK.out)
  rw [HK.out] at H
  rw [hlen] at HW
  clear hr hx
  go_enter Try.func28, Try.ntmps28
  go_wp2_with fail
  refine H.out.mono ?_
  rintro e1 w1 ⟨v1, rfl, hown1, hb1⟩
  have HO1 := Lib.hid hown1
  have HB1 := Lib.hid hb1
  clear hown1 hb1 H hnil
  by_cases her : er ≠ 0
  · have HT := Lib.hid (HW.out.trans (if_pos her))
    have hb1 : ((er : Int) == 0) = false := beq_eq_false_iff_ne.2 (by omega)
    have hb2 : ((er : Int) != 0) = true := by rw [bne, hb1]; rfl
    clear her HW
    go_wp2
    go_ret2
    rw [HT.out]
    exact ⟨_, rfl, World.ownsRow_nil _ _ _ _, HB1.out⟩
  obtain rfl : er = 0 := by omega
  have HW := Lib.hid (HW.out.trans (if_neg her))
  clear her
  by_cases hk : k' ≠ k
  · have HT := Lib.hid (HW.out.trans (if_pos hk))
    have hb1 : (k' == k) = false := beq_eq_false_iff_ne.2 hk
    have hb2 : (k' != k) = true := by rw [bne, hb1]; rfl
    clear hk HW
    go_wp2
    go_ret2
    rw [HT.out]
    exact ⟨_, rfl, World.ownsRow_nil _ _ _ _, HB1.out⟩
  obtain rfl : k' = k := Decidable.not_not.1 hk
  have HW := Lib.hid (HW.out.trans (if_neg hk))
  clear hk
  by_cases hu : u < n
  · have HT := Lib.hid (HW.out.trans (if_pos hu))
    have hu' : (u : Int) < (n : Int) := by omega
    clear HW
    go_wp2
    go_ret2
    rw [HT.out]
    exact ⟨_, rfl, World.ownsRow_nil _ _ _ _, HB1.out⟩
  · have HT := Lib.hid (HW.out.trans (if_neg hu))
    have hu' : ¬ (u : Int) < (n : Int) := by omega
    clear HW
    go_wp2
    go_ret2
    rw [HT.out]
    exact ⟨_, rfl, HO1.out, HB1.out⟩

set_option maxHeartbeats 800000 in
set_option maxRecDepth 100000 in
theorem refwhole_any (k : Int) (A : Option Addr) (n c : Nat) (xs : List Int) (w : World) (hr : Row .u8 w w.heap.size A n xs) (hx : Byt xs) (hn : n ≤ 4398046511104) (hcap : n ≤ c) (hc : c ≤ maxLen) :
    Calls Try.prog 32 #[.int .u8 k, .slice A n c] w (RWholes (wholly k xs) w) := by
  have hlen := hr.len
  have H := Lib.hid (reftake_any A n c xs w hr hx hn hcap hc)
  obtain ⟨k', ys, u, er, HK⟩ : ∃ k' ys u er, Hid (took xs = (k', ys, u, er)) := ⟨_, _, _, _, Lib.hid rfl⟩
  have HW := Lib.hid (wholly_of (k := k) HK.out)
  rw [HK.out] at H
  rw [hlen] at HW
  clear hr hx
  go_enter Try.func32, Try.ntmps32
  go_wp2_with fail
  refine H.out.mono ?_
  rintro e1 w1 ⟨A1, c1, rfl, hrow1, hb1, hf1⟩
  have HO1 := Lib.hid hrow1
  have HB1 := Lib.hid hb1
  have HF1 := Lib.hid hf1
  clear hrow1 hb1 hf1 H
  by_cases her : er ≠ 0
  · have HT := Lib.hid (HW.out.trans (if_pos her))
    have hb1 : ((er : Int) == 0) = false := beq_eq_false_iff_ne.2 (by omega)
    have hb2 : ((er : Int) != 0) = true := by rw [bne, hb1]; rfl
    clear her HW
    go_wp2
    go_ret2
    rw [HT.out]
    exact ⟨none, 0, rfl, Row.none_, HB1.out, Fit.none_⟩
  obtain rfl : er = 0 := by omega
  have HW := Lib.hid (HW.out.trans (if_neg her))
  clear her
  by_cases hk : k' ≠ k
  · have HT := Lib.hid (HW.out.trans (if_pos hk))
    have hb1 : (k' == k) = false := beq_eq_false_iff_ne.2 hk
    have hb2 : (k' != k) = true := by rw [bne, hb1]; rfl
    clear hk HW
    go_wp2
    go_ret2
    rw [HT.out]
    exact ⟨none, 0, rfl, Row.none_, HB1.out, Fit.none_⟩
  obtain rfl : k' = k := Decidable.not_not.1 hk
  have HW := Lib.hid (HW.out.trans (if_neg hk))
  clear hk
  by_cases hu : u < n
  · have HT := Lib.hid (HW.out.trans (if_pos hu))
    have hu' : (u : Int) < (n : Int) := by omega
    clear HW
    go_wp2
    go_ret2
    rw [HT.out]
    exact ⟨none, 0, rfl, Row.none_, HB1.out, Fit.none_⟩
  · have HT := Lib.hid (HW.out.trans (if_neg hu))
    have hu' : ¬ (u : Int) < (n : Int) := by omega
    clear HW
    go_wp2
    go_ret2
    rw [HT.out]
    exact ⟨A1, c1, rfl, HO1.out, HB1.out, HF1.out⟩
end Go.Proofs.Ytdgaaghkhkklpaa.Frm

/- Results of which the first lies in a block of its own, over any program. -/
namespace Go.Proofs.Ytdgaaghkhkklpaa
open Go.RowKit

theorem results_cell_tmps {fn : Func} {p u v : Tmp} {ty : TypeId} {P : Program} (h : fn.results = #[.cell p ty, .tmp u, .tmp v]) (tmps : Array Value) (w : World) (g : Nat) (cs : Array Value)
    (hp : tmps.getD p undef = .pointer (some ⟨g, 0, none⟩)) (hl : (loadVar ty ⟨g, 0, none⟩).run P w = .ok (.agg cs) w) :
    (results fn tmps).run P w = .ok (.tuple #[.agg cs, tmps.getD u undef, tmps.getD v undef]) w := by
  have hp' : tmps[p]?.getD undef = .pointer (some ⟨g, 0, none⟩) := by simpa using hp
  simp [results, h, hp', asAddr, hl]
theorem results_cell_one {fn : Func} {p u : Tmp} {ty : TypeId} {P : Program} (h : fn.results = #[.cell p ty, .tmp u]) (tmps : Array Value) (w : World) (g : Nat) (cs : Array Value)
    (hp : tmps.getD p undef = .pointer (some ⟨g, 0, none⟩)) (hl : (loadVar ty ⟨g, 0, none⟩).run P w = .ok (.agg cs) w) :
    (results fn tmps).run P w = .ok (.tuple #[.agg cs, tmps.getD u undef]) w := by
  have hp' : tmps[p]?.getD undef = .pointer (some ⟨g, 0, none⟩) := by simpa using hp
  simp [results, h, hp', asAddr, hl]
end Go.Proofs.Ytdgaaghkhkklpaa

/- Lemmas that the proof stands on, in build order: FrmT FrmU. -/
import Derived.Deep.QuietTactic
import Derived.BigQuiet
import Derived.Deep.RegionHeld3
import Derived.ScopeJumps
import Derived.Deep.DrawnRows
import Derived.Test.YtdgaaghkhkklpaaJ14196a67
/- What layer 4's Take returns, as a contract over the program. -/
namespace Go.Proofs.Ytdgaaghkhkklpaa.Frm
open Go.RowKit Var Crc Slc
attribute [local go_sem ↓] Go.wp_at_zero Go.wp_at_succ

theorem results_tmp4 {fn : Func} {t u v x : Tmp} (h : fn.results = #[.tmp t, .tmp u, .tmp v, .tmp x]) (tmps : Array Value) (P : Program) (w : World) :
    (results fn tmps).run P w = .ok (.tuple #[tmps.getD t undef, tmps.getD u undef, tmps.getD v undef, tmps.getD x undef]) w := by
  simp [results, h]

/-- What is left from a label on. -/
def Later (P : Program) (rest : Code) (Q : Exit → Act → World → Prop) (a : Act) (w : World) : Prop := rest.wp P Q a w
/-- A scope whose one label is jumped to from ahead alone. -/
theorem scope_on {P : Program} {a : Act} {w : World} {Q : Exit → Act → World → Prop} {c rest : Code} (l : Nat) (hf : findLabel c l = some (.seq .skip rest))
    (h : c.wp P (Exit.jump l (Later P rest (Exit.jump l (fun _ _ => False) Q)) Q) a w) : (Code.scope c).wp P Q a w := by
  refine wp_scope_jumps l (Later P rest (Exit.jump l (fun _ _ => False) Q)) (fun _ _ => 0) hf h ?_
  intro a w hJ
  refine wp_seq (wp_skip (wp_mono hJ ?_))
  intro e a' w' h
  cases e <;> first | exact h.2.elim | exact h

/-- A part of a slice. -/
theorem row_sub {k : IntKind} {w : World} {B b o n : Nat} {xs : List Int} (h : Row k w B (some ⟨b, o, none⟩) n xs) {lo m : Nat} (hm : lo + m ≤ n) : Row k w B (some ⟨b, o + lo, none⟩) m ((xs.drop lo).take m) := by
  have hl := h.1
  refine ⟨by simp; omega, fun h0 => ?_⟩
  obtain ⟨b', o', e, hb, hc⟩ := h.2 (by omega)
  injection e with e
  injection e with e1 e2
  subst e1; subst e2
  refine ⟨b, o + lo, rfl, hb, fun j hj => ?_⟩
  rw [Nat.add_assoc, hc (lo + j) (by omega)]
  simp [List.getD, hj]

/-- What Take returns. -/
def Takes (t : Int × List Int × Nat × Nat) (w : World) (e : Ending) (w' : World) : Prop :=
  ∃ v, e = .returned (.tuple #[.int .u8 t.1, v, .int .i64 (t.2.2.1 : Int), .int .i64 (t.2.2.2 : Int)]) ∧ w'.ownsRow w.heap.size 5 1 v t.2.1.length (t.2.1.map (Value.int .u8)) ∧ Below w.heap.size w w'

set_option maxHeartbeats 3200000 in
set_option maxRecDepth 100000 in
theorem take_good (b o n c sz cnt f t : Nat) (xs : List Int) (w : World) (hr : Row .u8 w w.heap.size (some ⟨b, o, none⟩) n xs) (hx : Byt xs) (hn : n ≤ 4398046511104) (hcap : n ≤ c) (hc' : c ≤ 9223372036854775807)
    (h1 : xs.getD 0 0 = 199) (hc2 : ¬ c = 2) (hk : take 0 0 (xs.drop 2) = (cnt, sz, 0)) (hsz : sz ≤ n - 2 ∧ 0 < sz) (hcnt : ¬ 1048576 < cnt) (hf : f = 2 + sz) (ht : t = f + cnt) (htn : t + 4 ≤ n) :
    Calls Try.prog 51 #[.slice (some ⟨b, o, none⟩) n c] w (Takes (took xs) w) := by
  have HR := Lib.hid hr
  have HX := Lib.hid hx
  have HK := Lib.hid hk
  have hlen := hr.len
  have hcell0 := (hr.cell_at (j := 0) (by omega))
  have hcell1 := (hr.cell_at (j := 1) (by omega))
  obtain ⟨_, _, e, hbw, hcell0⟩ := hcell0
  injection e with e
  injection e with e1 e2
  subst e1; subst e2
  obtain ⟨_, _, e, _, hcell1⟩ := hcell1
  injection e with e
  injection e with e1 e2
  subst e1; subst e2
  rw [Nat.add_zero, h1] at hcell0
  have hnb : ((n : Int) == 0) = false := beq_eq_false_iff_ne.2 (by omega)
  have hto : Hid (to_ xs = t) := by unfold Hid to_ from_; rw [hk]; simp only; omega
  have hfrom : Hid (from_ xs = f) := by unfold Hid from_; rw [hk]; simp only; omega
  have HR2 : Hid (Row .u8 w w.heap.size (some ⟨b, o + 2, none⟩) (n - 2) (xs.drop 2)) := by
    have := row_sub HR.out (lo := 2) (m := n - 2) (by omega)
    rwa [List.take_of_length_le (by simp; omega)] at this
  have HT : Hid (took xs = if (xs.drop t).take 4 ≠ byts 4 (sum (xs.take t)) then (0, [], 0, 12) else (xs.getD 1 0, (xs.drop f).take cnt, t + 4, 0)) := by
    unfold Hid took
    rw [if_neg (by omega), if_neg (by simp only [h1, ne_eq, not_true, not_false_iff]), if_neg (by omega), HK.out, if_neg (by simp), if_neg hcnt, hto.out, if_neg (by omega), hfrom.out]
  have HRS : Hid (Row .u8 w w.heap.size (some ⟨b, o + t, none⟩) (((t : Int) + 4).toNat - t) ((xs.drop t).take 4)) := by
    unfold Hid
    rw [show ((t : Int) + 4).toNat - t = 4 by omega]
    exact row_sub HR.out (by omega)
  have HRT : Hid (Row .u8 w w.heap.size (some ⟨b, o, none⟩) t (xs.take t)) := by
    have := row_sub HR.out (lo := 0) (m := t) (by omega)
    rwa [Nat.add_zero, List.drop_zero] at this
  have HRC : Hid (Row .u8 w w.heap.size (some ⟨b, o + f, none⟩) (t - f) ((xs.drop f).take cnt)) := by
    unfold Hid
    rw [show t - f = cnt by omega]
    exact row_sub HR.out (by omega)
  have HCL : Hid (((xs.drop f).take cnt).length = t - f) := HRC.out.len
  have hy := HX.out.getD 1
  have hsum1 : IntKind.i64.wrap (2 + (sz : Int)) = (f : Int) := by rw [IntWalk.i64_in _ ⟨by omega, by omega⟩]; omega
  have hsum2 : IntKind.i64.wrap ((f : Int) + (cnt : Int)) = (t : Int) := by rw [IntWalk.i64_in _ ⟨by omega, by omega⟩]; omega
  have hconv : IntKind.i64.wrap (cnt : Int) = (cnt : Int) := IntWalk.i64_in _ ⟨by omega, by omega⟩
  have hw4 : IntKind.i64.wrap ((t : Int) + 4) = (t : Int) + 4 := IntWalk.i64_in _ ⟨by omega, by omega⟩
  have hct : ¬ c = t := by omega
  have hcf : ¬ c = f := by omega
  have i1 : (0 : Int) ≤ (t : Int) := by omega
  have i2 : (t : Int) ≤ (t : Int) + 4 := by omega
  have i3 : (t : Int) + 4 ≤ (c : Int) := by omega
  have i4 : (t : Int) ≤ (c : Int) := by omega
  have i5 : (f : Int) ≤ (t : Int) := by omega
  have i6 : (0 : Int) ≤ (f : Int) := by omega
  have i7 : (t : Int) + 4 ≤ (n : Int) := by omega
  have i8 : (2 : Int) ≤ (n : Int) := by omega
  have i9 : (1 : Int) < (n : Int) := by omega
  have HFT := Lib.hid ht
  have d1 : decide ((n : Int) < 2) = false := by simp; omega
  have d2 : decide ((1048576 : Int) < (cnt : Int)) = false := by simp; omega
  have d3 : decide ((n : Int) < (t : Int) + 4) = false := by simp; omega
  clear hr hx hk h1 hf ht htn hsz hcnt hlen
  go_enter Try.func51, Try.ntmps51
  go_wp2_with fail
  refine scope_on 0 rfl ?_
  go_wp2_with fail
  refine (Var.take_any (some ⟨b, o + 2, none⟩) (n - 2) (c - 2) w.heap.size (xs.drop 2) w HR2.out (HX.out.drop 2)).mono ?_
  rintro e1 w1 ⟨rfl, rfl⟩
  rw [HK.out]
  go_wp2_with fail
  clear hsum1 hsum2 hconv d1 d2 d3 hnb hcell0
  clear hto hfrom HR2 HK
  go_region_held3 (fun _ => True) (trivial) (first
    | (go_at_call 43; refine (fsum_any (some ⟨b, o, none⟩) t c w.heap.size (xs.take t) _ HRT.out.drew (HX.out.take t) (Nat.le_refl _) (by omega)).mono ?_; rintro r1 w5 ⟨v5, rfl, hown5, hb5⟩; obtain ⟨A5, c5, rfl, -, -⟩ := own_slice hown5; have HO5 := Lib.hid hown5; have HB5 := Lib.hid hb5; clear hown5 hb5)
    | (go_at_call 66; refine (equal_any (some ⟨b, o + t, none⟩) A5 (((t : Int) + 4).toNat - t) (c - t) 4 c5 w.heap.size _ ((xs.drop t).take 4) (byts 4 (sum (xs.take t))) _ (HRS.out.drew.below HB5.out) (Row.of_own HO5.out) ((HX.out.drop t).take 4) (byts_byt _ _)).mono ?_; rintro r2 w6 ⟨rfl, rfl⟩))
  have HBW := Lib.hid ((Below.refl w.heap.size w).drew.trans HB5.out)
  by_cases heq : (xs.drop t).take 4 = byts 4 (sum (xs.take t))
  · have hdec : decide ((xs.drop t).take 4 = byts 4 (sum (xs.take t))) = true := decide_eq_true heq
    have HT' := Lib.hid (HT.out.trans (if_neg (by simp only [heq, ne_eq, not_true, not_false_iff])))
    rw [hdec]
    clear HT heq hdec
    generalize xs.getD 1 0 = y at *
    have m1 : w5.cell? ⟨b, o + 1, none⟩ = some (.int .u8 y) := (HBW.out.cell (p := ⟨b, o + 1, none⟩) hbw).trans hcell1
    have m2 : w5.drew.cell? ⟨b, o + 1, none⟩ = some (.int .u8 y) := m1
    have HRC5 := Lib.hid (HRC.out.below HBW.out).drew
    have hs5 := HBW.out.size
    clear hcell1
    go_wp2
    go_region_held3 (fun wx => wx.cell? ⟨b, o + 1, none⟩ = some (.int .u8 y)) (first | exact m1 | exact m3) (
      (go_at_call 44; refine (clone_any (some ⟨b, o + f, none⟩) (t - f) (c - f) w.heap.size ((xs.drop f).take cnt) _ HRC5.out (fun h => by cases h) hs5 (by omega)).mono ?_; rintro r3 w7 ⟨v7, rfl, hown7, hb7⟩; have m3 := (hb7.cell (p := ⟨b, o + 1, none⟩) (Nat.lt_of_lt_of_le hbw hs5)).trans m2; have HO7 := Lib.hid hown7; have HB7 := Lib.hid hb7; clear hown7 hb7))
    go_wp2
    simp only [Exit.jump]
    refine bodyPost_ret (results_tmp4 rfl _ _ _) rfl ?_
    rw [HT'.out]
    refine ⟨v7, rfl, ?_, HBW.out.drew.trans (HB7.out.mono hs5)⟩
    simp only
    rw [HCL.out]
    exact own_mono HO7.out hs5
  · have hdec : decide ((xs.drop t).take 4 = byts 4 (sum (xs.take t))) = false := decide_eq_false heq
    have HT' := Lib.hid (HT.out.trans (if_pos heq))
    rw [hdec]
    clear HT heq hdec
    go_wp2
    go_step3
    refine ⟨rfl, ?_⟩
    unfold Later
    go_wp2
    simp only [Exit.jump]
    refine bodyPost_ret (results_tmp4 rfl _ _ _) rfl ?_
    rw [HT'.out]
    exact ⟨_, rfl, World.ownsRow_nil _ _ _ _, HBW.out⟩

set_option maxHeartbeats 1600000 in
set_option maxRecDepth 100000 in
theorem take_any (A : Option Addr) (n c : Nat) (xs : List Int) (w : World) (hr : Row .u8 w w.heap.size A n xs) (hnil : A = none → c = 0) (hx : Byt xs) (hn : n ≤ 4398046511104) (hcap : n ≤ c) (hc : c ≤ maxLen) :
    Calls Try.prog 51 #[.slice A n c] w (Takes (took xs) w) := by
  have HR := Lib.hid hr
  have HX := Lib.hid hx
  have HN := Lib.hid hnil
  have hlen := hr.len
  have hc' : c ≤ 9223372036854775807 := by unfold maxLen at hc; omega
  clear hr hx hnil hc
  by_cases h0 : n = 0
  · subst h0
    have HT : Hid (took xs = (0, [], 0, 10)) := by unfold Hid took; rw [if_pos hlen]
    rw [HT.out]
    go_enter Try.func51, Try.ntmps51
    go_wp2
    refine scope_on 0 rfl ?_
    go_wp2
    go_step3
    refine ⟨rfl, ?_⟩
    unfold Later
    go_wp2
    simp only [Exit.jump]
    refine bodyPost_ret (results_tmp4 rfl _ _ _) rfl ?_
    exact ⟨_, rfl, World.ownsRow_nil _ _ _ _, Below.refl _ _⟩
  obtain ⟨b, o, rfl, hbw, hcell0⟩ := HR.out.cell_at (show 0 < n by omega)
  rw [Nat.add_zero] at hcell0
  have hnb : ((n : Int) == 0) = false := beq_eq_false_iff_ne.2 (by omega)
  have hy := HX.out.getD 0
  by_cases h1 : ¬ xs.getD 0 0 = 199
  · have HT : Hid (took xs = (0, [], 0, 11)) := by unfold Hid took; rw [if_neg (by omega), if_pos h1]
    rw [HT.out]
    have hb1 : (xs.getD 0 0 == 199) = false := beq_eq_false_iff_ne.2 h1
    have hb2 : (xs.getD 0 0 != 199) = true := by rw [bne, hb1]; rfl
    generalize xs.getD 0 0 = y at *
    clear h1
    go_enter Try.func51, Try.ntmps51
    go_wp2
    refine scope_on 0 rfl ?_
    go_wp2
    go_step3
    refine ⟨rfl, ?_⟩
    unfold Later
    go_wp2
    simp only [Exit.jump]
    refine bodyPost_ret (results_tmp4 rfl _ _ _) rfl ?_
    exact ⟨_, rfl, World.ownsRow_nil _ _ _ _, Below.refl _ _⟩
  have h1 : xs.getD 0 0 = 199 := Decidable.not_not.1 h1
  rw [h1] at hcell0
  by_cases h2 : n < 2
  · have HT : Hid (took xs = (0, [], 0, 10)) := by unfold Hid took; rw [if_neg (by omega), if_neg (by simp only [h1, ne_eq, not_true, not_false_iff]), if_pos (by omega)]
    rw [HT.out]
    clear h1 hy
    go_enter Try.func51, Try.ntmps51
    go_wp2
    refine scope_on 0 rfl ?_
    go_wp2
    go_step3
    refine ⟨rfl, ?_⟩
    unfold Later
    go_wp2
    simp only [Exit.jump]
    refine bodyPost_ret (results_tmp4 rfl _ _ _) rfl ?_
    exact ⟨_, rfl, World.ownsRow_nil _ _ _ _, Below.refl _ _⟩
  by_cases hc2 : c = 2
  · subst hc2
    have hn2 : n = 2 := by omega
    subst hn2
    have hd : xs.drop 2 = [] := List.drop_eq_nil_of_le (by omega)
    have HT : Hid (took xs = (0, [], 0, 10)) := by
      unfold Hid took
      rw [if_neg (by omega), if_neg (by simp only [h1, ne_eq, not_true, not_false_iff]), if_neg (by omega), hd, if_pos (by simp [take])]
      rfl
    have HD : Hid (take 0 0 ([] : List Int) = (0, 0, 10)) := rfl
    clear h1 hy hd
    go_enter Try.func51, Try.ntmps51
    go_wp2_with fail
    refine scope_on 0 rfl ?_
    go_wp2_with fail
    refine (Var.take_any (some ⟨b, o, none⟩) 0 0 w.heap.size [] w Row.none_ (fun x hx => by simp at hx)).mono ?_
    rintro e1 w1 ⟨rfl, rfl⟩
    rw [HD.out]
    go_wp2
    go_step3
    refine ⟨rfl, ?_⟩
    unfold Later
    go_wp2
    simp only [Exit.jump]
    refine bodyPost_ret (results_tmp4 rfl _ _ _) rfl ?_
    rw [HT.out]
    exact ⟨_, rfl, World.ownsRow_nil _ _ _ _, Below.refl _ _⟩
  have HR2 : Hid (Row .u8 w w.heap.size (some ⟨b, o + 2, none⟩) (n - 2) (xs.drop 2)) := by
    have := row_sub HR.out (lo := 2) (m := n - 2) (by omega)
    rwa [List.take_of_length_le (by simp; omega)] at this
  obtain ⟨cnt, sz, er, HK⟩ : ∃ cnt sz er, Hid (take 0 0 (xs.drop 2) = (cnt, sz, er)) := ⟨_, _, _, Lib.hid rfl⟩
  have hsz : er = 0 → sz ≤ n - 2 ∧ 0 < sz := by
    rintro rfl
    obtain ⟨m, _, _, h3, h4, _⟩ := put_take (xs.drop 2) 0 0 (HX.out.drop 2) (by rw [HK.out])
    rw [HK.out] at h3 h4
    simp at h3 h4
    omega
  by_cases hgood : er = 0 ∧ ¬ 1048576 < cnt ∧ ¬ n < 2 + sz + cnt + 4
  · obtain ⟨rfl, hcnt, hend⟩ := hgood
    exact take_good b o n c sz cnt (2 + sz) (2 + sz + cnt) xs w HR.out HX.out hn hcap hc' h1 hc2 HK.out (hsz rfl) hcnt rfl rfl (by omega)
  go_enter Try.func51, Try.ntmps51
  go_wp2_with fail
  refine scope_on 0 rfl ?_
  go_wp2_with fail
  refine (Var.take_any (some ⟨b, o + 2, none⟩) (n - 2) (c - 2) w.heap.size (xs.drop 2) w HR2.out (HX.out.drop 2)).mono ?_
  rintro e1 w1 ⟨rfl, rfl⟩
  rw [HK.out]
  by_cases her : er ≠ 0
  · have HT : Hid (took xs = (0, [], 0, er)) := by
      unfold Hid took
      rw [if_neg (by omega), if_neg (by simp only [h1, ne_eq, not_true, not_false_iff]), if_neg (by omega), HK.out, if_pos her]
    have hb1 : ((er : Int) == 0) = false := beq_eq_false_iff_ne.2 (by omega)
    have hb2 : ((er : Int) != 0) = true := by rw [bne, hb1]; rfl
    clear h1 hy her
    go_wp2
    go_step3
    refine ⟨rfl, ?_⟩
    unfold Later
    go_wp2
    simp only [Exit.jump]
    refine bodyPost_ret (results_tmp4 rfl _ _ _) rfl ?_
    rw [HT.out]
    exact ⟨_, rfl, World.ownsRow_nil _ _ _ _, Below.refl _ _⟩
  obtain rfl : er = 0 := by omega
  clear her
  have hsz := hsz rfl
  by_cases hcnt : 1048576 < cnt
  · have HT : Hid (took xs = (0, [], 0, 3)) := by
      unfold Hid took
      rw [if_neg (by omega), if_neg (by simp only [h1, ne_eq, not_true, not_false_iff]), if_neg (by omega), HK.out, if_neg (by simp), if_pos hcnt]
    have hd1 : (1048576 : Int) < (cnt : Int) := by omega
    clear h1 hy hcnt
    go_wp2
    go_step3
    refine ⟨rfl, ?_⟩
    unfold Later
    go_wp2
    simp only [Exit.jump]
    refine bodyPost_ret (results_tmp4 rfl _ _ _) rfl ?_
    rw [HT.out]
    exact ⟨_, rfl, World.ownsRow_nil _ _ _ _, Below.refl _ _⟩
  have hto : Hid (to_ xs = 2 + sz + cnt) := by unfold Hid to_ from_; rw [HK.out]
  have hfrom : Hid (from_ xs = 2 + sz) := by unfold Hid from_; rw [HK.out]
  by_cases hend : n < 2 + sz + cnt + 4
  · have HT : Hid (took xs = (0, [], 0, 10)) := by
      unfold Hid took
      rw [if_neg (by omega), if_neg (by simp only [h1, ne_eq, not_true, not_false_iff]), if_neg (by omega), HK.out, if_neg (by simp), if_neg hcnt, hto.out, if_pos (by omega)]
    clear h1 hy
    go_wp2
    go_step3
    refine ⟨rfl, ?_⟩
    unfold Later
    go_wp2
    simp only [Exit.jump]
    refine bodyPost_ret (results_tmp4 rfl _ _ _) rfl ?_
    rw [HT.out]
    exact ⟨_, rfl, World.ownsRow_nil _ _ _ _, Below.refl _ _⟩
  exact absurd ⟨rfl, hcnt, hend⟩ hgood
end Go.Proofs.Ytdgaaghkhkklpaa.Frm

/- What the reference's Take of layer 4 returns, as a contract over the program. -/
namespace Go.Proofs.Ytdgaaghkhkklpaa.Frm
open Go.RowKit Var Crc Slc
attribute [local go_sem ↓] Go.wp_at_zero Go.wp_at_succ

/-- A slice's pointer and capacity fit. -/
def Fit (A : Option Addr) (n c : Nat) : Prop := (A = none → c = 0) ∧ n ≤ c
theorem Fit.none_ : Fit none 0 0 := ⟨fun _ => rfl, Nat.le_refl _⟩

/-- What the reference's Take returns: the content is a part of what came in. -/
def RTakes (t : Int × List Int × Nat × Nat) (w : World) (e : Ending) (w' : World) : Prop :=
  ∃ A c, e = .returned (.tuple #[.int .u8 t.1, .slice A t.2.1.length c, .int .i64 (t.2.2.1 : Int), .int .i64 (t.2.2.2 : Int)]) ∧ Row .u8 w' w.heap.size A t.2.1.length t.2.1 ∧ Below w.heap.size w w' ∧ Fit A t.2.1.length c

set_option maxHeartbeats 3200000 in
set_option maxRecDepth 100000 in
theorem reftake_good (b o n c sz cnt f t al : Nat) (xs : List Int) (w : World) (hr : Row .u8 w w.heap.size (some ⟨b, o, none⟩) n xs) (hx : Byt xs) (hn : n ≤ 4398046511104) (hcap : n ≤ c) (hc' : c ≤ 9223372036854775807)
    (h1 : xs.getD 0 0 = 199) (hc2 : ¬ c = 2) (hk : take 0 0 (xs.drop 2) = (cnt, sz, 0)) (hsz : sz ≤ n - 2 ∧ 0 < sz) (hcnt : ¬ 1048576 < cnt) (hf : f = 2 + sz) (ht : t = f + cnt) (hal : al = t + 4) (htn : al ≤ n) :
    Calls Try.prog 58 #[.slice (some ⟨b, o, none⟩) n c] w (RTakes (took xs) w) := by
  have HR := Lib.hid hr
  have HX := Lib.hid hx
  have HK := Lib.hid hk
  have hlen := hr.len
  have hcell0 := (hr.cell_at (j := 0) (by omega))
  have hcell1 := (hr.cell_at (j := 1) (by omega))
  obtain ⟨_, _, e, hbw, hcell0⟩ := hcell0
  injection e with e
  injection e with e1 e2
  subst e1; subst e2
  obtain ⟨_, _, e, _, hcell1⟩ := hcell1
  injection e with e
  injection e with e1 e2
  subst e1; subst e2
  rw [Nat.add_zero, h1] at hcell0
  have hnb : ((n : Int) == 0) = false := beq_eq_false_iff_ne.2 (by omega)
  have hto : Hid (to_ xs = t) := by unfold Hid to_ from_; rw [hk]; simp only; omega
  have hfrom : Hid (from_ xs = f) := by unfold Hid from_; rw [hk]; simp only; omega
  have HR2 : Hid (Row .u8 w w.heap.size (some ⟨b, o + 2, none⟩) (n - 2) (xs.drop 2)) := by
    have := row_sub HR.out (lo := 2) (m := n - 2) (by omega)
    rwa [List.take_of_length_le (by simp; omega)] at this
  have HCH : Hid (frame (xs.getD 1 0) ((xs.drop f).take cnt) = xs.take al ↔ (xs.drop t).take 4 = byts 4 (sum (xs.take t))) := by
    have := check HX.out h1 (by omega) (by rw [hk]) (by rw [hto.out]; omega)
    rw [hto.out, hfrom.out, hk] at this
    rw [hal]
    exact this
  have HT : Hid (took xs = if ¬ frame (xs.getD 1 0) ((xs.drop f).take cnt) = xs.take al then (0, [], 0, 12) else (xs.getD 1 0, (xs.drop f).take cnt, al, 0)) := by
    unfold Hid took
    rw [if_neg (by omega), if_neg (by simp only [h1, ne_eq, not_true, not_false_iff]), if_neg (by omega), HK.out, if_neg (by simp), if_neg hcnt, hto.out, if_neg (by omega), hfrom.out, ← hal]
    by_cases h : (xs.drop t).take 4 = byts 4 (sum (xs.take t))
    · rw [if_neg (fun h' => h' h), if_neg (fun h' => h' (HCH.out.2 h))]
    · rw [if_pos h, if_pos (fun h' => h (HCH.out.1 h'))]
  have HRA : Hid (Row .u8 w w.heap.size (some ⟨b, o, none⟩) al (xs.take al)) := by
    have := row_sub HR.out (lo := 0) (m := al) (by omega)
    rwa [Nat.add_zero, List.drop_zero] at this
  have HRC : Hid (Row .u8 w w.heap.size (some ⟨b, o + f, none⟩) (t - f) ((xs.drop f).take cnt)) := by
    unfold Hid
    rw [show t - f = cnt by omega]
    exact row_sub HR.out (by omega)
  have HCL : Hid (((xs.drop f).take cnt).length = t - f) := HRC.out.len
  have hy := HX.out.getD 1
  have hcs : t - f ≤ 1048576 := by omega
  have hsum1 : IntKind.i64.wrap (2 + (sz : Int)) = (f : Int) := by rw [IntWalk.i64_in _ ⟨by omega, by omega⟩]; omega
  have hsum2 : IntKind.i64.wrap ((f : Int) + (cnt : Int)) = (t : Int) := by rw [IntWalk.i64_in _ ⟨by omega, by omega⟩]; omega
  have hconv : IntKind.i64.wrap (cnt : Int) = (cnt : Int) := IntWalk.i64_in _ ⟨by omega, by omega⟩
  have hw4 : IntKind.i64.wrap ((t : Int) + 4) = (al : Int) := by rw [IntWalk.i64_in _ ⟨by omega, by omega⟩]; omega
  have hw5 : IntKind.i64.wrap ((al : Int) - 4) = (t : Int) := by rw [IntWalk.i64_in _ ⟨by omega, by omega⟩]; omega
  have hcf : ¬ c = f := by omega
  have i1 : (0 : Int) ≤ (al : Int) := by omega
  have i2 : (t : Int) ≤ (c : Int) := by omega
  have i3 : (al : Int) ≤ (c : Int) := by omega
  have i5 : (f : Int) ≤ (t : Int) := by omega
  have i6 : (0 : Int) ≤ (f : Int) := by omega
  have i8 : (2 : Int) ≤ (n : Int) := by omega
  have i9 : (1 : Int) < (n : Int) := by omega
  have d1 : decide ((n : Int) < 2) = false := by simp; omega
  have d2 : decide ((1048576 : Int) < (cnt : Int)) = false := by simp; omega
  have d3 : decide ((n : Int) < (al : Int)) = false := by simp; omega
  have hale : al ≤ 4398046511104 := by omega
  have HFL : Hid ((frame (xs.getD 1 0) ((xs.drop f).take cnt)).length ≤ 4398046511104) := by
    unfold Hid
    have := put_len10 (n := ((xs.drop f).take cnt).length) (by rw [HCL.out]; omega)
    rw [frame_len, HCL.out]
    rw [HCL.out] at this
    omega
  have d4 : ¬ n < al := by omega
  clear hr hx hk h1 hf ht hsz hcnt hlen hal HCH
  go_enter Try.func58, Try.ntmps58
  go_wp2_with fail
  refine (Var.reftake_any (some ⟨b, o + 2, none⟩) (n - 2) (c - 2) w.heap.size (xs.drop 2) w HR2.out (HX.out.drop 2)).mono ?_
  rintro e1 w1 ⟨rfl, rfl⟩
  rw [HK.out]
  go_wp2_with fail
  generalize xs.getD 1 0 = y at *
  have HRC5 := Lib.hid (HRC.out).drew
  have m2 : w.drew.cell? ⟨b, o + 1, none⟩ = some (.int .u8 y) := hcell1
  clear hsum1 hsum2 hconv d1 d2 d3 hnb hcell0 hto hfrom HR2 HK hw4 hw5
  go_region_held3 (fun wx => wx.cell? ⟨b, o + 1, none⟩ = some (.int .u8 y)) (first | exact hcell1 | exact m3 | exact m4) (first
    | (go_at_call 27; refine (refput_any y hy (some ⟨b, o + f, none⟩) (t - f) (c - f) ((xs.drop f).take cnt) _ HRC5.out (fun h => by cases h) ((HX.out.drop f).take cnt) hcs).mono ?_; rintro r1 w5 ⟨v5, rfl, hown5, hb5⟩; obtain ⟨A5, c5, rfl, -, -⟩ := own_slice hown5; have m3 := (hb5.cell (p := ⟨b, o + 1, none⟩) hbw).trans m2; have HO5 := Lib.hid hown5; have HB5 := Lib.hid hb5; clear hown5 hb5)
    | (go_at_call 11; refine (same_any A5 (some ⟨b, o, none⟩) (frame y ((xs.drop f).take cnt)).length c5 al c _ w.heap.size (frame y ((xs.drop f).take cnt)) (xs.take al) _ HFL.out hale (Row.of_own HO5.out) (HRA.out.drew.below HB5.out)).mono ?_; rintro r2 w6 ⟨rfl, q, rfl⟩; have m4 : (w5.drewN q).cell? ⟨b, o + 1, none⟩ = some (.int .u8 y) := m3))
  have HBW : Hid (Below w.heap.size w (w5.drewN q)) := by
    have h := (Below.refl w.heap.size w).drew.trans HB5.out
    exact ⟨h.os, h.tape, h.output, h.size, h.block⟩
  have HRR := Lib.hid (HRC.out.below HBW.out)
  clear m2 m3 HRC5 HO5 HB5 HFL
  generalize w5.drewN q = w8 at *
  by_cases heq : frame y ((xs.drop f).take cnt) = xs.take al
  · have hdec : decide (frame y ((xs.drop f).take cnt) = xs.take al) = true := decide_eq_true heq
    have HT' := Lib.hid (HT.out.trans (if_neg (fun h => h heq)))
    rw [hdec]
    clear HT heq hdec
    go_wp2
    refine bodyPost_ret (results_tmp4 rfl _ _ _) rfl ?_
    rw [HT'.out]
    refine ⟨some ⟨b, o + f, none⟩, c - f, ?_, ?_, HBW.out, ⟨(fun h => nomatch h), ?_⟩⟩
    · simp only
      rw [HCL.out]
      rfl
    · simp only
      rw [HCL.out]
      exact HRR.out
    · simp only
      rw [HCL.out]
      omega
  · have hdec : decide (frame y ((xs.drop f).take cnt) = xs.take al) = false := decide_eq_false heq
    have HT' := Lib.hid (HT.out.trans (if_pos heq))
    rw [hdec]
    clear HT heq hdec
    go_wp2
    refine bodyPost_ret (results_tmp4 rfl _ _ _) rfl ?_
    rw [HT'.out]
    exact ⟨none, 0, rfl, Row.none_, HBW.out, Fit.none_⟩
end Go.Proofs.Ytdgaaghkhkklpaa.Frm

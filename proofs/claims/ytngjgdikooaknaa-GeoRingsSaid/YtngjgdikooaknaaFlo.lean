/- Floats of 64 bits that hold whole numbers below 2^53, over any program: what is converted, added, taken away and multiplied is exact (a zero of either sign is nought). -/
import Derived.WalkKit
import Derived.Laws.FloatArith
import Derived.Laws.ComplexArith
namespace Go.Proofs.Ytngjgdikooaknaa.Flo
open Go.RowKit Ieee

/-- The least place. -/
def lp : Nat := 1074
theorem lp_eq : lp = 1074 := rfl
attribute [irreducible] lp
/-- What a number comes to, in units of the least place. -/
def val (s : Bool) (m : Nat) (e : Int) : Int := (if s then -1 else 1) * ((m * 2 ^ (e + 1074).toNat : Nat) : Int)
/-- These bits read as the whole number n. -/
def Fl (b : Nat) (n : Int) : Prop := ∃ s m e, double.read b = .number s m e ∧ -1074 ≤ e ∧ m < 2 ^ 53 ∧ val s m e = n * ((2 ^ lp : Nat) : Int)
theorem signed_eq (s : Bool) (m k : Nat) : signed s m k = (if s then -1 else 1) * ((m * 2 ^ k : Nat) : Int) := by
  unfold signed
  rw [Nat.shiftLeft_eq]
  cases s <;> simp
theorem val_scale (s : Bool) (m : Nat) {e b : Int} (hb : -1074 ≤ b) (he : b ≤ e) : val s m e = signed s m (e - b).toNat * ((2 ^ (b + 1074).toNat : Nat) : Int) := by
  rw [signed_eq]
  unfold val
  have h : (e + 1074).toNat = (e - b).toNat + (b + 1074).toNat := by omega
  rw [h, Nat.pow_add, Int.mul_assoc, ← Int.natCast_mul, Nat.mul_assoc]
theorem val_of (t : Int) (b : Int) (s : Bool) (hs : t ≠ 0 → s = decide (t < 0)) : val s t.natAbs b = t * ((2 ^ (b + 1074).toNat : Nat) : Int) := by
  unfold val
  rw [Int.natCast_mul, ← Int.mul_assoc]
  congr 1
  by_cases h0 : t = 0
  · subst h0; simp
  · rw [hs h0]
    by_cases h1 : t < 0
    · rw [decide_eq_true h1]; simp; omega
    · rw [decide_eq_false h1]; simp; omega

set_option maxRecDepth 100000 in
/-- A word whose digits are these reads back so. -/
theorem read_word (s : Bool) {kept : Nat} {up : Nat} (h1 : 2 ^ 52 ≤ kept) (h2 : kept < 2 ^ 53) (hu : up ≤ 2000) : double.read (double.word s (up * 2 ^ 52 + kept)) = .number s kept (-1074 + (up : Int)) := by
  have hsw : double.signWeight = 2 ^ 63 := rfl
  have hbi : double.binade = 2 ^ 52 := rfl
  have hin : double.infRung = 2047 * 2 ^ 52 := rfl
  have hlp : double.leastPlace = -1074 := by decide
  have hr : up * 2 ^ 52 + kept < 2 ^ 63 := by omega
  have hmod : double.word s (up * 2 ^ 52 + kept) % 2 ^ 63 = up * 2 ^ 52 + kept := by
    unfold Format.word; rw [hsw]; cases s <;> simp <;> omega
  have hdiv : (double.word s (up * 2 ^ 52 + kept) / 2 ^ 63 % 2 == 1) = s := by
    unfold Format.word; rw [hsw]; cases s <;> simp <;> omega
  unfold Format.read
  rw [hsw, hbi, hin, hlp]
  simp only
  rw [hmod, hdiv, if_neg (by omega), if_pos (by omega)]
  have e1 : (up * 2 ^ 52 + kept) % 2 ^ 52 = kept - 2 ^ 52 := by omega
  have e2 : (up * 2 ^ 52 + kept) / 2 ^ 52 = up + 1 := by omega
  have e3 : 2 ^ 52 + (kept - 2 ^ 52) = kept := by omega
  have e4 : up + 1 - 1 = up := by omega
  rw [e1, e2, e3, e4]

theorem read_zero (s : Bool) : double.read (double.word s 0) = .number s 0 (-1074) := by cases s <;> decide

theorem cut_whole (neg : Bool) {n d : Nat} (h : n % 2 ^ d = 0) (hd : d ≤ n.log2 + 2) : Toward.even.cut neg n d = n / 2 ^ d := by
  unfold Toward.cut
  rw [Nat.min_eq_left hd, Nat.one_shiftLeft]
  simp only [h]
  have : 0 < 2 ^ d := Nat.two_pow_pos d
  have e : (decide (2 ^ d < 2 * 0) || (2 ^ d == 2 * 0 && n / 2 ^ d % 2 == 1)) = false := by simp
  rw [e]
  rfl

/-- A whole number that is small is written as it is. -/
theorem fl_write {s : Bool} {m : Nat} {e : Int} {n : Int} (he : -1074 ≤ e) (hv : val s m e = n * ((2 ^ lp : Nat) : Int)) (hn : n.natAbs < 2 ^ 53) : Fl (double.write (.number s m e)) n := by
  have hlp : double.leastPlace = -1074 := by decide
  have hfb : (double.fractionBits : Int) = 52 := rfl
  have hbi : double.binade = 2 ^ 52 := rfl
  have hin : double.infRung = 2047 * 2 ^ 52 := rfl
  have hva : m * 2 ^ (e + 1074).toNat = n.natAbs * 2 ^ lp := by
    have := congrArg Int.natAbs hv
    unfold val at this
    rw [Int.natAbs_mul, Int.natAbs_mul, Int.natAbs_natCast, Int.natAbs_natCast] at this
    cases s <;> simpa using this
  show Fl (double.nearest s m e) n
  unfold Format.nearest
  by_cases hm : m = 0
  · rw [if_pos hm]
    refine ⟨s, 0, -1074, read_zero s, by omega, by omega, ?_⟩
    rw [← hv, hm]
    unfold val
    simp
  rw [if_neg hm]
  simp only
  rw [hlp, hfb, hbi, hin]
  obtain ⟨L, hL⟩ : ∃ L, m.log2 = L := ⟨_, rfl⟩
  have hL1 : 2 ^ L ≤ m := hL ▸ Nat.log2_self_le hm
  have hL2 : m < 2 ^ (L + 1) := hL ▸ Nat.lt_log2_self
  have hpos : 0 < n.natAbs := by
    rcases Nat.eq_zero_or_pos n.natAbs with h | h
    · rw [h, Nat.zero_mul] at hva
      have := Nat.two_pow_pos (e + 1074).toNat
      rcases Nat.mul_eq_zero.1 hva with h2 | h2 <;> omega
    · exact h
  have hlpe := lp_eq
  have hlo : (1074 : Nat) ≤ L + (e + 1074).toNat := by
    have h1 : 1 * 2 ^ lp ≤ n.natAbs * 2 ^ lp := Nat.mul_le_mul_right _ hpos
    have h2 : m * 2 ^ (e + 1074).toNat < 2 ^ (L + 1) * 2 ^ (e + 1074).toNat := Nat.mul_lt_mul_of_pos_right hL2 (Nat.two_pow_pos _)
    rw [← Nat.pow_add] at h2
    have h3 : 2 ^ lp < 2 ^ (L + 1 + (e + 1074).toNat) := by
      rw [Nat.one_mul] at h1
      exact Nat.lt_of_le_of_lt h1 (by rw [← hva]; exact h2)
    have h4 := (Nat.pow_lt_pow_iff_right (by omega)).1 h3
    clear h1 h2 h3 hva
    omega
  have hhi : L + (e + 1074).toNat < 1127 := by
    have h1 : n.natAbs * 2 ^ lp < 2 ^ 53 * 2 ^ lp := Nat.mul_lt_mul_of_pos_right hn (Nat.two_pow_pos _)
    have h2 : 2 ^ L * 2 ^ (e + 1074).toNat ≤ m * 2 ^ (e + 1074).toNat := Nat.mul_le_mul_right _ hL1
    rw [← Nat.pow_add] at h1 h2
    have h3 : 2 ^ (L + (e + 1074).toNat) < 2 ^ (53 + lp) := Nat.lt_of_le_of_lt h2 (by rw [hva]; exact h1)
    have h4 := (Nat.pow_lt_pow_iff_right (by omega)).1 h3
    clear h1 h2 h3 hva
    omega
  rw [hL]
  obtain ⟨la, hla⟩ : ∃ la : Int, max (e + (L : Int) - 52) (-1074) = la := ⟨_, rfl⟩
  have hla' : la = e + L - 52 := by omega
  rw [hla]
  clear hla
  have key : ∃ kept, Toward.even.cut s (m <<< (e - la).toNat) (la - e).toNat = kept ∧ kept * 2 ^ (la + 1074).toNat = n.natAbs * 2 ^ lp ∧ 2 ^ 52 ≤ kept ∧ kept < 2 ^ 53 := by
    rcases Int.lt_or_le e la with h | h
    rotate_left
    · have hd : (la - e).toNat = 0 := by omega
      refine ⟨m * 2 ^ (e - la).toNat, ?_, ?_, ?_, ?_⟩
      · rw [hd, cut_whole s (by rw [Nat.pow_zero, Nat.mod_one]) (by omega), Nat.pow_zero, Nat.div_one, Nat.shiftLeft_eq]
      · rw [Nat.mul_assoc, ← Nat.pow_add, ← hva]
        congr 2
        omega
      · have h1 : 2 ^ L * 2 ^ (e - la).toNat ≤ m * 2 ^ (e - la).toNat := Nat.mul_le_mul_right _ hL1
        rw [← Nat.pow_add] at h1
        have h2 : L + (e - la).toNat = 52 := by omega
        rwa [h2] at h1
      · have h1 : m * 2 ^ (e - la).toNat < 2 ^ (L + 1) * 2 ^ (e - la).toNat := Nat.mul_lt_mul_of_pos_right hL2 (Nat.two_pow_pos _)
        rw [← Nat.pow_add] at h1
        have h2 : L + 1 + (e - la).toNat = 53 := by omega
        rwa [h2] at h1
    · have hu : (e - la).toNat = 0 := by omega
      obtain ⟨d, hd⟩ : ∃ d, (la - e).toNat = d := ⟨_, rfl⟩
      -- all that is dropped is nought
      have hq : m = n.natAbs * 2 ^ (lp - (e + 1074).toNat) := by
        have h1 : (e + 1074).toNat ≤ lp := by omega
        have h2 : n.natAbs * 2 ^ lp = n.natAbs * 2 ^ (lp - (e + 1074).toNat) * 2 ^ (e + 1074).toNat := by
          rw [Nat.mul_assoc, ← Nat.pow_add]
          congr 2
          omega
        rw [h2] at hva
        exact Nat.eq_of_mul_eq_mul_right (Nat.two_pow_pos _) hva
      have hdd : d ≤ lp - (e + 1074).toNat := by omega
      have hm2 : m = n.natAbs * 2 ^ (lp - (e + 1074).toNat - d) * 2 ^ d := by
        rw [Nat.mul_assoc, ← Nat.pow_add]
        have : lp - (e + 1074).toNat - d + d = lp - (e + 1074).toNat := by omega
        rw [this]
        exact hq
      have hmod : m % 2 ^ d = 0 := by rw [hm2]; exact Nat.mul_mod_left _ _
      have hmd : m / 2 ^ d * 2 ^ d = m := Nat.div_mul_cancel (Nat.dvd_of_mod_eq_zero hmod)
      refine ⟨m / 2 ^ d, ?_, ?_, ?_, ?_⟩
      · rw [hu, hd, Nat.shiftLeft_zero, cut_whole s hmod (by rw [hL]; omega)]
      · have : (la + 1074).toNat = d + (e + 1074).toNat := by omega
        rw [this, Nat.pow_add, ← Nat.mul_assoc, hmd, hva]
      · have h2 : L = 52 + d := by omega
        rw [h2, Nat.pow_add] at hL1
        exact (Nat.le_div_iff_mul_le (Nat.two_pow_pos _)).2 hL1
      · have h2 : L + 1 = 53 + d := by omega
        rw [h2, Nat.pow_add] at hL2
        exact (Nat.div_lt_iff_lt_mul (Nat.two_pow_pos _)).2 hL2
  obtain ⟨kept, hk, hkv, hk1, hk2⟩ := key
  rw [hk]
  obtain ⟨up, hup⟩ : ∃ up : Nat, (la - -1074).toNat = up := ⟨_, rfl⟩
  have hup' : (la + 1074).toNat = up := by omega
  have hub : up ≤ 1127 := by omega
  rw [hup, Nat.min_eq_left (by omega)]
  refine ⟨s, kept, _, read_word s hk1 hk2 (by omega), by omega, hk2, ?_⟩
  rw [← hv]
  unfold val
  congr 2
  rw [hva, ← hkv, hup']
  congr 2
  omega

theorem fl_int (n : Int) (hn : n.natAbs < 2 ^ 53) : Fl (floatOfInt .f64 n) n := by
  refine fl_write (s := decide (n < 0)) (m := n.natAbs) (e := 0) (by omega) ?_ hn
  have h0 : ((0 : Int) + 1074).toNat = lp := by rw [lp_eq]; rfl
  rw [val_of n 0 _ (fun _ => rfl), h0]
theorem fl_add {x y : Nat} {n m : Int} (hx : Fl x n) (hy : Fl y m) (h : (n + m).natAbs < 2 ^ 53) : ∃ r, floatBits .add .f64 x y = some r ∧ Fl r (n + m) := by
  obtain ⟨s, a, i, e1, hi, _, v1⟩ := hx
  obtain ⟨t, b, j, e2, hj, _, v2⟩ := hy
  have hb : -1074 ≤ min i j := by omega
  refine ⟨_, by show ((double.read x).sum (double.read y)).map double.write = some _; rw [e1, e2]; rfl, ?_⟩
  refine fl_write hb ?_ h
  rw [val_of _ _ _ (fun h0 => by rw [if_neg h0])]
  rw [Int.add_mul, ← val_scale s a hb (by omega), ← val_scale t b hb (by omega), v1, v2, Int.add_mul]
theorem fl_sub {x y : Nat} {n m : Int} (hx : Fl x n) (hy : Fl y m) (h : (n - m).natAbs < 2 ^ 53) : ∃ r, floatBits .sub .f64 x y = some r ∧ Fl r (n - m) := by
  obtain ⟨s, a, i, e1, hi, _, v1⟩ := hx
  obtain ⟨t, b, j, e2, hj, _, v2⟩ := hy
  have hb : -1074 ≤ min i j := by omega
  have v3 : val (!t) b j = -m * ((2 ^ lp : Nat) : Int) := by
    rw [Int.neg_mul, ← v2]
    unfold val
    cases t <;> simp
  refine ⟨_, by show ((double.read x).sum (double.read y).opposite).map double.write = some _; rw [e1, e2]; rfl, ?_⟩
  refine fl_write hb ?_ h
  rw [val_of _ _ _ (fun h0 => by rw [if_neg h0])]
  rw [Int.add_mul, ← val_scale s a hb (by omega), ← val_scale (!t) b hb (by omega), v1, v3, ← Int.add_mul, Int.sub_eq_add_neg]
theorem val_abs {s : Bool} {m : Nat} {e n : Int} (h : val s m e = n * ((2 ^ lp : Nat) : Int)) : m * 2 ^ (e + 1074).toNat = n.natAbs * 2 ^ lp := by
  have := congrArg Int.natAbs h
  unfold val at this
  rw [Int.natAbs_mul, Int.natAbs_mul, Int.natAbs_natCast, Int.natAbs_natCast] at this
  cases s <;> simpa using this
theorem val_sign {s : Bool} {m : Nat} {e n : Int} (h : val s m e = n * ((2 ^ lp : Nat) : Int)) : n = (if s then -1 else 1) * (n.natAbs : Int) := by
  have h1 := val_abs h
  unfold val at h
  rw [h1, Int.natCast_mul, ← Int.mul_assoc] at h
  have hp : ((2 ^ lp : Nat) : Int) ≠ 0 := by have := Nat.two_pow_pos lp; omega
  exact (Int.eq_of_mul_eq_mul_right hp h).symm
/-- A number that is not nought has its first digit far enough up. -/
theorem place_low {m : Nat} {e : Int} {n : Int} (he : -1074 ≤ e) (hm : m < 2 ^ 53) (h : m * 2 ^ (e + 1074).toNat = n.natAbs * 2 ^ lp) (hn : n ≠ 0) : -53 ≤ e := by
  have h1 : 1 * 2 ^ lp ≤ n.natAbs * 2 ^ lp := Nat.mul_le_mul_right _ (by omega)
  have h2 : m * 2 ^ (e + 1074).toNat < 2 ^ 53 * 2 ^ (e + 1074).toNat := Nat.mul_lt_mul_of_pos_right hm (Nat.two_pow_pos _)
  rw [← Nat.pow_add] at h2
  have h3 : 2 ^ lp < 2 ^ (53 + (e + 1074).toNat) := by
    rw [Nat.one_mul] at h1
    exact Nat.lt_of_le_of_lt h1 (by rw [← h]; exact h2)
  have h4 := (Nat.pow_lt_pow_iff_right (by omega)).1 h3
  have h5 := lp_eq
  clear h1 h2 h3 h
  omega
theorem fl_mul {x y : Nat} {n m : Int} (hx : Fl x n) (hy : Fl y m) (h : (n * m).natAbs < 2 ^ 53) : ∃ r, floatBits .mul .f64 x y = some r ∧ Fl r (n * m) := by
  obtain ⟨s, a, i, e1, hi, ha, v1⟩ := hx
  obtain ⟨t, b, j, e2, hj, hb, v2⟩ := hy
  refine ⟨_, by show ((double.read x).product (double.read y)).map double.write = some _; rw [e1, e2]; rfl, ?_⟩
  have a1 := val_abs v1
  have a2 := val_abs v2
  by_cases hz : n * m = 0
  · rw [hz]
    have hab : a * b = 0 := by
      have hp := Nat.two_pow_pos lp
      rcases Int.mul_eq_zero.1 hz with h0 | h0
      · rw [h0] at a1
        simp only [Int.natAbs_zero, Nat.zero_mul] at a1
        rcases Nat.mul_eq_zero.1 a1 with h1 | h1
        · rw [h1, Nat.zero_mul]
        · have := Nat.two_pow_pos (i + 1074).toNat; omega
      · rw [h0] at a2
        simp only [Int.natAbs_zero, Nat.zero_mul] at a2
        rcases Nat.mul_eq_zero.1 a2 with h1 | h1
        · rw [h1, Nat.mul_zero]
        · have := Nat.two_pow_pos (j + 1074).toNat; omega
    rw [hab]
    refine ⟨s ^^ t, 0, -1074, ?_, by omega, by omega, by unfold val; simp⟩
    show double.read (double.nearest (s ^^ t) 0 (i + j)) = _
    unfold Format.nearest
    rw [if_pos rfl]
    exact read_zero _
  · have hn : n ≠ 0 := fun e => hz (by rw [e, Int.zero_mul])
    have hm : m ≠ 0 := fun e => hz (by rw [e, Int.mul_zero])
    have p1 := place_low hi ha a1 hn
    have p2 := place_low hj hb a2 hm
    refine fl_write (by omega) ?_ h
    have g1 := val_sign v1
    have g2 := val_sign v2
    have hmag : a * b * 2 ^ (i + j + 1074).toNat = n.natAbs * m.natAbs * 2 ^ lp := by
      have h1 : a * b * 2 ^ (i + j + 1074).toNat * 2 ^ lp = n.natAbs * m.natAbs * 2 ^ lp * 2 ^ lp := by
        have e3 : (i + j + 1074).toNat + lp = (i + 1074).toNat + (j + 1074).toNat := by have := lp_eq; omega
        calc a * b * 2 ^ (i + j + 1074).toNat * 2 ^ lp = a * b * 2 ^ ((i + j + 1074).toNat + lp) := by rw [Nat.mul_assoc, ← Nat.pow_add]
          _ = (a * 2 ^ (i + 1074).toNat) * (b * 2 ^ (j + 1074).toNat) := by rw [e3, Nat.pow_add]; simp only [Nat.mul_left_comm, Nat.mul_assoc]
          _ = n.natAbs * m.natAbs * 2 ^ lp * 2 ^ lp := by rw [a1, a2]; simp only [Nat.mul_left_comm, Nat.mul_assoc]
      exact Nat.eq_of_mul_eq_mul_right (Nat.two_pow_pos _) h1
    unfold val
    rw [hmag, Int.natCast_mul, ← Int.mul_assoc]
    congr 1
    rw [g1, g2]
    simp only [Int.natAbs_mul, Int.natAbs_natCast, Int.natCast_mul]
    cases s <;> cases t <;> simp [Int.neg_mul, Int.mul_neg]

/-- Made an integer it is that number. -/
theorem fl_toInt {b : Nat} {n : Int} (hb : Fl b n) (h : n.natAbs < 2 ^ 53) : floatToIntVal .f64 b .i64 = some n := by
  obtain ⟨s, m, e, e1, he, hm, v1⟩ := hb
  have a1 := val_abs v1
  have g1 := val_sign v1
  have hd : FloatKind.decode .f64 b = .number s m e := e1
  have hcut : Toward.zero.cut s (m <<< e.toNat) (-e).toNat = n.natAbs := by
    unfold Toward.cut
    simp only [Bool.toNat_false, Nat.add_zero, Nat.one_shiftLeft]
    rcases Int.lt_or_le e 0 with h0 | h0
    · have e2 : e.toNat = 0 := by omega
      obtain ⟨d, hdd⟩ : ∃ d, (-e).toNat = d := ⟨_, rfl⟩
      rw [e2, Nat.shiftLeft_zero, hdd]
      have hm2 : m = n.natAbs * 2 ^ d := by
        have e3 : lp = d + (e + 1074).toNat := by have := lp_eq; omega
        rw [e3, Nat.pow_add, ← Nat.mul_assoc] at a1
        exact Nat.eq_of_mul_eq_mul_right (Nat.two_pow_pos _) a1
      by_cases hmin : d ≤ m.log2 + 2
      · rw [Nat.min_eq_left hmin, hm2, Nat.mul_div_cancel _ (Nat.two_pow_pos d)]
      · rw [Nat.min_eq_right (by omega)]
        have hlt : m < 2 ^ (m.log2 + 2) := Nat.lt_trans Nat.lt_log2_self (Nat.pow_lt_pow_right (by omega) (by omega))
        rw [Nat.div_eq_of_lt hlt]
        rcases Nat.eq_zero_or_pos n.natAbs with h2 | h2
        · exact h2.symm
        · have h3 : 2 ^ d ≤ m := by rw [hm2]; exact Nat.le_mul_of_pos_left _ h2
          have h4 : 2 ^ (m.log2 + 2) ≤ 2 ^ d := Nat.pow_le_pow_right (by omega) (by omega)
          omega
    · have e2 : (-e).toNat = 0 := by omega
      rw [e2, Nat.min_eq_left (by omega), Nat.pow_zero, Nat.div_one, Nat.shiftLeft_eq]
      have e3 : (e + 1074).toNat = e.toNat + lp := by have := lp_eq; omega
      rw [e3, Nat.pow_add, ← Nat.mul_assoc] at a1
      exact Nat.eq_of_mul_eq_mul_right (Nat.two_pow_pos _) a1
  unfold floatToIntVal
  rw [hd]
  unfold Datum.toInt Datum.integral
  simp only [hcut]
  have hs : signed s n.natAbs 0 = n := by rw [signed_eq, Nat.pow_zero, Nat.mul_one]; exact g1.symm
  rw [hs]
  show (if _ then _ else _) = _
  rw [if_pos]
  exact ⟨by show (-9223372036854775808 : Int) ≤ n; omega, by show n ≤ (9223372036854775807 : Int); omega⟩

/-- A complex number of two whole numbers. -/
theorem fl_csum {a b c d : Nat} {n m n' m' : Int} (h1 : Fl a n) (h2 : Fl b m) (h3 : Fl c n') (h4 : Fl d m') (g1 : (n + n').natAbs < 2 ^ 53) (g2 : (m + m').natAbs < 2 ^ 53) :
    ∃ re im, cSumBits .add .f64 a b c d = some (re, im) ∧ Fl re (n + n') ∧ Fl im (m + m') := by
  obtain ⟨re, e1, f1⟩ := fl_add h1 h3 g1
  obtain ⟨im, e2, f2⟩ := fl_add h2 h4 g2
  exact ⟨re, im, by unfold cSumBits; rw [e1, e2]; rfl, f1, f2⟩
theorem fl_cmul {a b c d : Nat} {n m n' m' : Int} (h1 : Fl a n) (h2 : Fl b m) (h3 : Fl c n') (h4 : Fl d m') (g1 : (n * n').natAbs < 2 ^ 53) (g2 : (m * m').natAbs < 2 ^ 53) (g3 : (n * m').natAbs < 2 ^ 53) (g4 : (m * n').natAbs < 2 ^ 53)
    (g5 : (n * n' - m * m').natAbs < 2 ^ 53) (g6 : (n * m' + m * n').natAbs < 2 ^ 53) :
    ∃ re im, cMulBits a b c d = some (re, im) ∧ Fl re (n * n' - m * m') ∧ Fl im (n * m' + m * n') := by
  obtain ⟨r1, e1, f1⟩ := fl_mul h1 h3 g1
  obtain ⟨r2, e2, f2⟩ := fl_mul h2 h4 g2
  obtain ⟨r3, e3, f3⟩ := fl_mul h1 h4 g3
  obtain ⟨r4, e4, f4⟩ := fl_mul h2 h3 g4
  obtain ⟨re, e5, f5⟩ := fl_sub f1 f2 g5
  obtain ⟨im, e6, f6⟩ := fl_add f3 f4 g6
  exact ⟨re, im, by unfold cMulBits; rw [e1, e2]; simp only [Option.bind_some]; rw [e5, e3, e4]; simp only [Option.bind_some]; rw [e6]; rfl, f5, f6⟩
/-- Nought and one. -/
theorem fl_zero : Fl 0 0 := ⟨false, 0, -1074, by decide, by omega, by omega, by unfold val; simp⟩
theorem fl_one : Fl 4607182418800017408 1 := fl_int 1 (by decide)
end Go.Proofs.Ytngjgdikooaknaa.Flo

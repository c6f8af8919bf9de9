/- Lemmas that the proof stands on, in build order: FldU FldN0 TokM. -/
import Derived.StillTailTactics
import Derived.Test.YtppbpmmfcoblmaaDoorJ24e72b8
import Derived.Test.YtppbpmmfcoblmaaDoorJ36dfed5
import Derived.Test.YtppbpmmfcoblmaaDoorJ6d27903
import Derived.Test.YtppbpmmfcoblmaaDoorJ7d4a34c
/- The reference's reader of layer 3: Bytes, as a contract. -/
namespace Go.Proofs.YtppbpmmfcoblmaaDoor.Fld
open Go.RowKit Var

def RefStepsL (w : World) (g N : Nat) (A : Option Addr) (n c : Nat) (bs : List Int) (at_ e : Nat) (t : List Int × Nat × Nat) (r : Ending) (w' : World) : Prop :=
  ∃ v, r = .returned v ∧ w'.ownsRow w.heap.size 5 1 v (vals e t).length ((vals e t).map (Value.int .u8)) ∧ (∃ at', Rfr w' g N A n c bs at' (after (bs.drop at_) e t.2.1 t.2.2).2 ∧ ((after (bs.drop at_) e t.2.1 t.2.2).2 = 0 → bs.drop at' = (after (bs.drop at_) e t.2.1 t.2.2).1)) ∧ Only (fun k => k = g) w w'

section
variable {w w1 w' : World} {g N n c at_ e at1 : Nat} {A : Option Addr} {bs : List Int} {t : List Int × Nat × Nat}
theorem reflist_none {e1 : Nat} (h : Rfr w1 g N A n c bs at1 e1) (he : e1 ≠ 0) (ht : (e ≠ 0 ∧ e1 = e) ∨ (e = 0 ∧ t.2.2 = e1)) (ho : Only (fun k => k = g) w w1) : RefStepsL w g N A n c bs at_ e t (.returned (.slice none 0 0)) w1 := by
  have e2 : after (bs.drop at_) e t.2.1 t.2.2 = (bs.drop at_, e1) := by
    unfold after
    rcases ht with ⟨h1, h2⟩ | ⟨h1, h2⟩
    · rw [if_pos h1, h2]
    · rw [if_neg (by omega), if_pos (by omega), h2]
  have e3 : vals e t = [] := by
    unfold vals
    rw [if_pos]
    rcases ht with ⟨h1, h2⟩ | ⟨h1, h2⟩
    · exact .inl h1
    · exact .inr (by omega)
  refine ⟨_, rfl, by rw [e3]; exact World.ownsRow_nil _ _ _ _, ?_, ho⟩
  rw [e2]
  exact ⟨at1, h, fun h0 => absurd h0 he⟩
end

theorem reflist_like {w w1 w' : World} {g N n c at_ at1 er : Nat} {A : Option Addr} {bs : List Int} {t : List Int × Nat × Nat} (h : Rfr w1 g N A n c bs at1 0) (ho : Only (fun k => k = g) w w1) (hl : Like (w1.setCell ⟨g, 2, none⟩ (.int .i64 (er : Int))) w') (ht : t.2.2 = er) (he : er ≠ 0) : RefStepsL w g N A n c bs at_ 0 t (.returned (.slice none 0 0)) w' := by
  have hO := hl.only (Only.setCell w1 ⟨g, 2, none⟩ (.int .i64 (er : Int)))
  exact reflist_none (h.set hO (hl.rf (h.rf.set2 er)) h.le) he (.inr ⟨rfl, ht⟩) (ho.trans hO (fun _ _ h => h))

theorem ref_after {w1 w3 w4 : World} {g N n c at1 m : Nat} {A : Option Addr} {bs : List Int} {v4 : Value} {zs : List Value} (h : Rfr w1 g N A n c bs at1 0) (hown : w4.ownsRow w1.heap.size 5 1 v4 m zs) (hb : Below w1.heap.size w3 w4) (hl : Like w1 w3 := by exact ⟨rfl, rfl, rfl, rfl⟩) :
    w4.cell? ⟨g, 0, none⟩ = some (.slice A n c) ∧ w4.cell? ⟨g, 1, none⟩ = some (.int .i64 (at1 : Int)) ∧ w4.frozen? ⟨g, 1, none⟩ = false ∧ w4.frozen? ⟨g, 2, none⟩ = false ∧ Hid (w4.ownsRow w1.heap.size 5 1 v4 m zs) ∧ Hid (Below w1.heap.size w1 w4) := by
  have hB : Below w1.heap.size w1 w4 := ⟨hb.os.trans hl.os, hb.tape.trans hl.tape, hb.output.trans hl.output, by have := hb.size; rw [hl.heap] at this; exact this, fun k hk => by rw [hb.block k hk, hl.heap]⟩
  have hr : Rf w4 g A n c at1 0 := ⟨(hB.block g h.lt).trans h.rf.blk⟩
  exact ⟨hr.c0, hr.c1, hr.f1, hr.f2, hown, hB⟩

theorem reflist_ok {w w1 w4 : World} {g N n c at_ s m p : Nat} {A : Option Addr} {bs ys : List Int} {t : List Int × Nat × Nat} {v4 : Value} (h : Rfr w1 g N A n c bs p 0) (ho : Only (fun k => k = g) w w1) (hb : Below w1.heap.size w1 w4) (hown : w4.ownsRow w1.heap.size 5 1 v4 m (ys.map (Value.int .u8)))
    (ht : t = (ys, s + m, 0)) (hp : at_ + s = p) (hl : ys.length = m) (hs : p + m ≤ n) (hi : ((p : Int) + m) = ((p + m : Nat) : Int)) : RefStepsL w g N A n c bs at_ 0 t (.returned v4) (w4.setCell ⟨g, 1, none⟩ (.int .i64 ((p : Int) + m))) := by
  subst ht
  rw [hi]
  have h4 : Rfr w4 g N A n c bs p 0 := h.only (M := fun _ => False) (Only.of_below hb) (fun h => h) (fun _ _ h => h)
  have hO : Only (fun k => k = g) w4 (w4.setCell ⟨g, 1, none⟩ (.int .i64 ((p + m : Nat) : Int))) := Only.setCell w4 ⟨g, 1, none⟩ _
  have hlt := h.lt
  refine ⟨v4, rfl, ?_, ⟨p + m, ?_, ?_⟩, ?_⟩
  · have : vals 0 ((ys, s + m, 0) : List Int × Nat × Nat) = ys := by simp [vals]
    rw [this, hl]
    exact own_mono (hO.own hown (fun k hk e => by have := (hown.lt k hk).1; omega)) ho.size
  · have : (after (bs.drop at_) 0 (s + m) 0).2 = 0 := by simp [after]
    show Rfr _ _ _ _ _ _ _ _ (after (bs.drop at_) 0 (s + m) 0).2
    rw [this]
    exact h4.set hO (h4.rf.set1 (p + m)) hs
  · intro _
    show bs.drop (p + m) = (after (bs.drop at_) 0 (s + m) 0).1
    simp [after, ← hp, Nat.add_assoc]
  · exact (ho.trans (Only.of_below hb : Only (fun k => k = g) w1 w4) (fun _ _ h => h)).trans hO (fun _ _ h => h)

set_option maxHeartbeats 1600000 in
set_option maxRecDepth 100000 in
theorem reflist_any (g N n c at_ e : Nat) (A : Option Addr) (bs : List Int) (most : Int) (w : World) (h : Rfr w g N A n c bs at_ e) (h1 : -9223372036854775808 ≤ most) (h2 : most ≤ 9223372036854775807) :
    Calls Tryd.prog 44 #[.pointer (some ⟨g, 0, none⟩), .int .i64 most] w (RefStepsL w g N A n c bs at_ e (nxl (bs.drop at_) most)) := by
  obtain ⟨i0, hi, hz0, hz1, hz2⟩ := info_parts info_u8
  have HR := Lib.hid h
  have H1 := Lib.hid h1
  have H2 := Lib.hid h2
  have hbyt : ∀ y ∈ bs.drop at_, 0 ≤ y ∧ y ≤ 255 := fun y hy => h.byt y (List.mem_of_mem_drop hy)
  have HK := Lib.hid (nxt_ok (most := most) hbyt)
  have HL : Hid ((bs.drop at_).length = n - at_) := by unfold Hid; rw [List.length_drop, h.row.len]
  clear h h1 h2 hbyt
  obtain ⟨t, HT⟩ : ∃ t, Hid (nxt (bs.drop at_) most = t) := ⟨_, rfl⟩
  obtain ⟨x, s, er⟩ := t
  have HX : Hid (nxl (bs.drop at_) most = if er ≠ 0 then ([], 0, er) else if ((bs.drop at_).length : Int) - s < x then ([], 0, 10) else (((bs.drop at_).drop s).take x.toNat, s + x.toNat, 0)) := by unfold Hid nxl; rw [HT.out]
  rw [HT.out] at HK
  go_enter Tryd.func44, Tryd.ntmps44
  go_wp2_with fail
  refine (refnum_any g N n c at_ e A bs most w HR.out H1.out H2.out).mono ?_
  rintro r w1 ⟨rfl, ⟨at1, hr1, hat1⟩, ho1⟩
  rw [HT.out] at hr1 hat1
  rw [HT.out]
  by_cases he : e = 0
  · subst he
    by_cases her : er = 0
    · subst her
      have e2 : after (bs.drop at_) 0 s 0 = ((bs.drop at_).drop s, 0) := by simp [after]
      have e3 : val 0 ((x, s, 0) : Int × Nat × Nat) = x := by simp [val]
      simp only [e2] at hr1 hat1
      rw [e3]
      obtain ⟨k1, k2, k3, k4⟩ := HK.out rfl
      have hl := HL.out
      have ha : at1 = at_ + s := by
        have l1 := congrArg List.length hat1
        have := hr1.le
        have hrl := hr1.row.len
        rw [List.drop_drop, List.length_drop, List.length_drop, hrl] at l1
        omega
      subst ha
      obtain ⟨m, rfl⟩ := Int.eq_ofNat_of_zero_le k3
      have HR1 := Lib.hid hr1
      have HO1 := Lib.hid ho1
      have d0 := hr1.rf.c0
      have d1 := hr1.rf.c1
      have d2 := hr1.rf.c2
      have g1 := hr1.rf.f1
      have g2 := hr1.rf.f2
      have hn := hr1.len
      have hle := hr1.le
      have hnc := hr1.nc
      clear hr1 hat1 ho1 e2 e3 k4
      by_cases hx : (n : Int) - (at_ + s : Nat) < m
      · have HX2 : Hid ((nxl (bs.drop at_) most).2.2 = 10) := by unfold Hid; rw [HX.out, if_neg (by simp), if_pos (by omega)]
        have hx' : decide ((n : Int) - ((at_ : Int) + s) < m) = true := decide_eq_true (by omega)
        have hx2 : decide ((n : Int) - ((at_ + s : Nat) : Int) < m) = true := decide_eq_true hx
        have hw : IntKind.i64.wrap ((n : Int) - ((at_ : Int) + s)) = (n : Int) - ((at_ : Int) + s) := IntWalk.i64_in _ ⟨by omega, by omega⟩
        go_wp2
        go_quiet (fail)
        go_wp2
        go_ret
        exact reflist_like (er := 10) HR1.out HO1.out ⟨rfl, rfl, rfl, rfl⟩ HX2.out (by decide)
      · have hsum : at_ + s + m ≤ n := by omega
        have HXF : Hid (nxl (bs.drop at_) most = ((bs.drop (at_ + s)).take m, s + m, 0)) := by unfold Hid; rw [HX.out, if_neg (by simp), if_neg (by omega), List.drop_drop]; simp
        obtain ⟨b, o, rfl⟩ := Row.some_of HR1.out.row (by omega)
        obtain ⟨p, hp⟩ : ∃ p, at_ + s = p := ⟨_, rfl⟩
        rw [hp] at HR1 d1 hle hsum hx HXF
        have HP := Lib.hid hp
        have hx2 : decide ((n : Int) - (p : Int) < m) = false := decide_eq_false hx
        have hw : IntKind.i64.wrap ((n : Int) - (p : Int)) = (n : Int) - (p : Int) := IntWalk.i64_in _ ⟨by omega, by omega⟩
        have hw2 : IntKind.i64.wrap ((p : Int) + m) = (p : Int) + m := IntWalk.i64_in _ ⟨by omega, by omega⟩
        clear hp
        by_cases hcp : c = p
        · have hz : n - p = 0 := by omega
          have HM0 : Hid (m = 0) := by unfold Hid; omega
          subst hcp
          clear hz
          have HPM : Hid (c + m - c = m) := by unfold Hid; omega
          have hg1 : (0 : Int) ≤ (c : Int) := by omega
          have hg2 : (0 : Int) ≤ (c : Int) + m := by omega
          have hg3 : (c : Int) + m ≤ (c : Int) := by omega
          have hg4 : (c : Int) ≤ (c : Int) + m := by omega
          have hg5 : c ≤ c + m := by omega
          have hg6 : c + m ≤ c := by omega
          have hg7 : ((c : Int) + m).toNat = c + m := by omega
          go_wp2
          go_quiet (fail)
          go_wp2
          have HL3 : Hid (Like w1 (w1.drewN nq)) := ⟨rfl, rfl, rfl, rfl⟩
          have u0 : (w1.drewN nq).cell? ⟨g, 0, none⟩ = some (.slice (some ⟨b, o, none⟩) n c) := d0
          have u1 : (w1.drewN nq).cell? ⟨g, 1, none⟩ = some (.int .i64 (c : Int)) := d1
          have HRow3 : Hid (Row .u8 (w1.drewN nq) N (some ⟨b, o, none⟩) 0 []) := Row.none_
          generalize w1.drewN nq = w3 at *
          go_still_tail 16, (by kernel_rfl)
          change wpList _ _ _ _ _ w3.drew
          go_wp2_with (at_builtin; refine cat_own rfl (.tmp 30) (.tmp 45) 25 rfl w1.heap.size 5 i0 .u8 1 Tryd.underlying25 hi hz0 hz1 hz2 _ 0 [] rfl (World.ownsRow_nil _ _ _ _) N _ 0 _ [] rfl (fun h => by cases h) HRow3.out.drew (by omega) (by omega) (by show w1.heap.size ≤ w3.heap.size; rw [HL3.out.heap]; exact Nat.le_refl _) ?_; intro v4 w4 hown4 hb4; obtain ⟨q0, q1, q2, q3, HO4, HB4⟩ := ref_after HR1.out hown4 hb4 ⟨HL3.out.heap, HL3.out.os, HL3.out.tape, HL3.out.output⟩; clear hown4 hb4)
          go_ret
          exact reflist_ok HR1.out HO1.out HB4.out (by have := HO4.out; simpa [HM0.out] using this) HXF.out HP.out (by rw [List.length_take, List.length_drop, HR1.out.row.len]; omega) hsum (by omega)
        · have HRow : Hid (Row .u8 w1 N (some ⟨b, o + p, none⟩) m ((bs.drop p).take m)) := Row.take_ (Row.drop HR1.out.row (fun _ => rfl)) (by omega)
          have HPM : Hid (p + m - p = m) := by unfold Hid; omega
          have hg1 : (0 : Int) ≤ (p : Int) := by omega
          have hg2 : (0 : Int) ≤ (p : Int) + m := by omega
          have hg3 : (p : Int) + m ≤ (c : Int) := by omega
          have hg4 : (p : Int) ≤ (p : Int) + m := by omega
          have hg5 : p ≤ p + m := by omega
          have hg6 : p + m ≤ c := by omega
          have hg7 : ((p : Int) + m).toNat = p + m := by omega
          go_wp2
          go_quiet (fail)
          go_wp2
          have HL3 : Hid (Like w1 (w1.drewN nq)) := ⟨rfl, rfl, rfl, rfl⟩
          have u0 : (w1.drewN nq).cell? ⟨g, 0, none⟩ = some (.slice (some ⟨b, o, none⟩) n c) := d0
          have u1 : (w1.drewN nq).cell? ⟨g, 1, none⟩ = some (.int .i64 (p : Int)) := d1
          have HRow3 : Hid (Row .u8 (w1.drewN nq) N (some ⟨b, o + p, none⟩) m ((bs.drop p).take m)) := HRow.out
          generalize w1.drewN nq = w3 at *
          go_still_tail 16, (by kernel_rfl)
          change wpList _ _ _ _ _ w3.drew
          go_wp2_with (at_builtin; refine cat_own rfl (.tmp 30) (.tmp 45) 25 rfl w1.heap.size 5 i0 .u8 1 Tryd.underlying25 hi hz0 hz1 hz2 _ 0 [] rfl (World.ownsRow_nil _ _ _ _) N _ m _ ((bs.drop p).take m) rfl (fun h => by cases h) HRow3.out.drew (by omega) (by omega) (by show w1.heap.size ≤ w3.heap.size; rw [HL3.out.heap]; exact Nat.le_refl _) ?_; intro v4 w4 hown4 hb4; obtain ⟨q0, q1, q2, q3, HO4, HB4⟩ := ref_after HR1.out hown4 hb4 ⟨HL3.out.heap, HL3.out.os, HL3.out.tape, HL3.out.output⟩; clear hown4 hb4)
          go_ret
          exact reflist_ok HR1.out HO1.out HB4.out (by have := HO4.out; simpa using this) HXF.out HP.out (by rw [List.length_take, List.length_drop, HR1.out.row.len]; omega) hsum (by omega)
    · have e2 : after (bs.drop at_) 0 s er = (bs.drop at_, er) := by simp [after, her]
      have e3 : val 0 ((x, s, er) : Int × Nat × Nat) = 0 := by simp [val, her]
      rw [e2] at hr1 hat1
      rw [e3]
      have hne : ((er : Int) == 0) = false := beq_eq_false_iff_ne.2 (by omega)
      have HX2 : Hid ((nxl (bs.drop at_) most).2.2 = er) := by unfold Hid; rw [HX.out, if_pos her]
      have HR1 := Lib.hid hr1
      have HO1 := Lib.hid ho1
      have d2 := hr1.rf.c2
      have HE := Lib.hid her
      clear hr1 hat1 ho1 e2 e3 her
      go_wp2
      go_ret
      exact reflist_none HR1.out HE.out (.inr ⟨rfl, HX2.out⟩) HO1.out
  · have e2 : after (bs.drop at_) e s er = (bs.drop at_, e) := by simp [after, he]
    have e3 : val e ((x, s, er) : Int × Nat × Nat) = 0 := by simp [val, he]
    rw [e2] at hr1 hat1
    rw [e3]
    have hne : ((e : Int) == 0) = false := beq_eq_false_iff_ne.2 (by omega)
    have HR1 := Lib.hid hr1
    have HO1 := Lib.hid ho1
    have d2 := hr1.rf.c2
    have HE := Lib.hid he
    clear hr1 hat1 ho1 e2 e3 he
    go_wp2
    go_ret
    exact reflist_none HR1.out HE.out (.inl ⟨HE.out, rfl⟩) HO1.out
end Go.Proofs.YtppbpmmfcoblmaaDoor.Fld

/- What was written is read: plain words. -/
namespace Go.Proofs.YtppbpmmfcoblmaaDoor.Fld
open Go.RowKit Var

theorem take_put0 {n : Nat} (h : n < 18446744073709551616) (rest : List Int) : take 0 0 (put n ++ rest) = (n, (put n).length, 0) := by
  have := take_put n 0 0 rest (by simpa using h) (by omega) (.inr rfl)
  simpa using this

theorem abv_self {n : Nat} {most : Int} (h : (n : Int) ≤ most) (h2 : n ≤ 4611686018427387904) : abv n most = false := by
  unfold abv
  simp only [Bool.or_eq_false_iff, decide_eq_false_iff_not]
  omega

theorem after_put (xs ys : List Int) : after (xs ++ ys) 0 xs.length 0 = (ys, 0) := by unfold after; simp
end Go.Proofs.YtppbpmmfcoblmaaDoor.Fld

/- Layer 10 (token) as plain mathematics; no program's text is named here. -/
namespace Go.Proofs.YtppbpmmfcoblmaaDoor.Tok
open Go.RowKit Var Fld Frm Sha Hmc Rg

/-- A token: trip, account, stop, begin, end, epoch. -/
structure T where
  tr : Int
  ac : Int
  st : Int
  is : Int
  un : Int
  ep : Int
deriving DecidableEq
def T.cells (t : T) : Array Value := #[.int .i64 t.tr, .int .i64 t.ac, .int .i64 t.st, .int .i64 t.is, .int .i64 t.un, .int .i64 t.ep]
def T.val (t : T) : Value := .agg t.cells
/-- Its numbers are numbers of 64 bits. -/
structure T.ok (t : T) : Prop where
  tr : -9223372036854775808 ≤ t.tr ∧ t.tr ≤ 9223372036854775807
  ac : -9223372036854775808 ≤ t.ac ∧ t.ac ≤ 9223372036854775807
  st : -9223372036854775808 ≤ t.st ∧ t.st ≤ 9223372036854775807
  is : -9223372036854775808 ≤ t.is ∧ t.is ≤ 9223372036854775807
  un : -9223372036854775808 ≤ t.un ∧ t.un ≤ 9223372036854775807
  ep : -9223372036854775808 ≤ t.ep ∧ t.ep ≤ 9223372036854775807
def T.may (t : T) : Prop := (1 ≤ t.tr ∧ t.tr ≤ 2147483648) ∧ (1 ≤ t.ac ∧ t.ac ≤ 2147483648) ∧ (0 ≤ t.st ∧ t.st ≤ 4095) ∧ (0 ≤ t.is ∧ t.is ≤ 1099511627776) ∧ (0 ≤ t.un ∧ t.un ≤ 1099511627776) ∧ t.is ≤ t.un ∧ (1 ≤ t.ep ∧ t.ep ≤ 1048576)
instance (t : T) : Decidable t.may := by unfold T.may; infer_instance
def T.zero : T := ⟨0, 0, 0, 0, 0, 0⟩
def T.at (t : T) (e : Int) : T := { t with ep := e }
/-- Its fields; its tag; its bytes. -/
def flds (t : T) : List Int := num t.tr ++ (num t.ac ++ (num t.st ++ (num t.is ++ (num t.un ++ num t.ep))))
def tokn : List Int := [116, 111, 107, 101, 110]
def tagT (k : List Int) (t : T) : List Int := mac k (tokn ++ 0 :: flds t)
def body (k : List Int) (t : T) : List Int := flds t ++ (num 32 ++ tagT k t)
/-- The last key's bytes. -/
def lastK (E : List Kl) : List Int := (E.getLast?.map (·.2)).getD []
open Classical in
noncomputable def issue (keep : Int) (E : List Kl) (t : T) : List Int × Int :=
  if RtP keep E ∧ (t.at (now E)).may then (frame 2 (body (lastK E) (t.at (now E))), 0) else ([], 2)
/-- One number read. -/
def rd1 (s : List Int × Nat) (most : Int) : List Int × Nat := after s.1 s.2 (nxt s.1 most).2.1 (nxt s.1 most).2.2
def rv1 (s : List Int × Nat) (most : Int) : Int := val s.2 (nxt s.1 most)
def s1 (c : List Int) : List Int × Nat := rd1 (c, 0) 2147483648
def s2 (c : List Int) : List Int × Nat := rd1 (s1 c) 2147483648
def s3 (c : List Int) : List Int × Nat := rd1 (s2 c) 4095
def s4 (c : List Int) : List Int × Nat := rd1 (s3 c) 1099511627776
def s5 (c : List Int) : List Int × Nat := rd1 (s4 c) 1099511627776
def s6 (c : List Int) : List Int × Nat := rd1 (s5 c) 1048576
def s7 (c : List Int) : List Int × Nat := after (s6 c).1 (s6 c).2 (nxl (s6 c).1 32).2.1 (nxl (s6 c).1 32).2.2
def tokOf (c : List Int) : T := ⟨rv1 (c, 0) 2147483648, rv1 (s1 c) 2147483648, rv1 (s2 c) 4095, rv1 (s3 c) 1099511627776, rv1 (s4 c) 1099511627776, rv1 (s5 c) 1048576⟩
def tagOf (c : List Int) : List Int := vals (s6 c).2 (nxl (s6 c).1 32)
def opnF (er dn : Nat) (t : T) (tg : List Int) : T × List Int × Nat :=
  if er ≠ 0 then (T.zero, [], er)
  else if dn ≠ 0 then (T.zero, [], dn)
  else if t.may ∧ tg.length = 32 then (t, tg, 0)
  else (T.zero, [], 2)
def opn (b : List Int) : T × List Int × Nat := opnF (wholly 2 b).2 (done (s7 (wholly 2 b).1).1 (s7 (wholly 2 b).1).2) (tokOf (wholly 2 b).1) (tagOf (wholly 2 b).1)
def verify (E : List Kl) (b : List Int) (nw : Int) : T × Nat :=
  if (opn b).2.2 ≠ 0 then (T.zero, (opn b).2.2)
  else match fnd E (opn b).1.ep with
    | none => (T.zero, 20)
    | some k => if tagT k (opn b).1 ≠ (opn b).2.1 then (T.zero, 21) else if nw < (opn b).1.is ∨ (opn b).1.un < nw then (T.zero, 22) else ((opn b).1, 0)

theorem num_byt (k : Int) : ∀ x ∈ num k, 0 ≤ x ∧ x ≤ 255 := put_byt _
theorem flds_byt (t : T) : ∀ x ∈ flds t, 0 ≤ x ∧ x ≤ 255 := by
  intro x hx
  simp only [flds, List.mem_append] at hx
  rcases hx with h | h | h | h | h | h <;> exact num_byt _ x h
theorem flds_len {t : T} (h : t.ok) : (flds t).length ≤ 60 := by
  have a := num_len h.tr.2
  have b := num_len h.ac.2
  have c := num_len h.st.2
  have d := num_len h.is.2
  have e := num_len h.un.2
  have f := num_len h.ep.2
  simp only [flds, List.length_append]
  omega
theorem T.may.ok {t : T} (h : t.may) : t.ok := by
  unfold T.may at h
  exact ⟨by omega, by omega, by omega, by omega, by omega, by omega⟩
theorem tagT_len (k : List Int) (t : T) : (tagT k t).length = 32 := mac_len _ _
theorem tagT_byt (k : List Int) (t : T) : ∀ x ∈ tagT k t, 0 ≤ x ∧ x ≤ 255 := sum256_byt _
theorem body_byt (k : List Int) (t : T) : ∀ x ∈ body k t, 0 ≤ x ∧ x ≤ 255 := by
  intro x hx
  simp only [body, List.mem_append] at hx
  rcases hx with h | h | h
  · exact flds_byt t x h
  · exact num_byt _ x h
  · exact tagT_byt k t x h
theorem body_len {k : List Int} {t : T} (h : t.ok) : (body k t).length ≤ 102 := by
  have a := flds_len h
  have b : (num 32).length ≤ 10 := num_len (by omega)
  have c := tagT_len k t
  simp only [body, List.length_append]
  omega
/-- A number that was written is read. -/
theorem rd1_num {k most : Int} {ys : List Int} (h0 : 0 ≤ k) (h1 : k ≤ most) (h2 : k ≤ 4611686018427387904) : rd1 (num k ++ ys, 0) most = (ys, 0) ∧ rv1 (num k ++ ys, 0) most = k := by
  have e : take 0 0 (num k ++ ys) = (k.toNat, (num k).length, 0) := take_put0 (by omega) ys
  have ha : abv k.toNat most = false := by unfold abv; simp; omega
  have en : nxt (num k ++ ys) most = (k, (num k).length, 0) := by
    unfold nxt
    rw [e]
    simp only [ne_eq, not_true_eq_false, if_false, ha, Bool.false_eq_true]
    rw [show ((k.toNat : Nat) : Int) = k by omega]
  unfold rd1 rv1
  simp only [en]
  refine ⟨?_, rfl⟩
  unfold after
  simp
/-- What was issued is opened. -/
theorem opn_body {k : List Int} {t : T} (h : t.may) : opn (frame 2 (body k t)) = (t, tagT k t, 0) := by
  have hb := body_len (k := k) h.ok
  have hw : wholly 2 (frame 2 (body k t)) = (body k t, 0) := wholly_frame (by omega)
  obtain ⟨tr, ac, st, is, un, ep⟩ := t
  have hm := h
  unfold T.may at hm
  simp only at hm
  obtain ⟨h1, h2, h3, h4, h5, -, h6⟩ := hm
  obtain ⟨G, hG⟩ : ∃ G, tagT k ⟨tr, ac, st, is, un, ep⟩ = G := ⟨_, rfl⟩
  have hGl : G.length = 32 := by rw [← hG]; exact tagT_len _ _
  have eb : body k ⟨tr, ac, st, is, un, ep⟩ = num tr ++ (num ac ++ (num st ++ (num is ++ (num un ++ (num ep ++ (num 32 ++ G)))))) := by
    unfold body flds
    rw [hG]
    simp only [List.append_assoc]
  rw [eb] at hw
  obtain ⟨a1, b1⟩ := rd1_num (k := tr) (most := 2147483648) (ys := num ac ++ (num st ++ (num is ++ (num un ++ (num ep ++ (num 32 ++ G)))))) (by omega) (by omega) (by omega)
  obtain ⟨a2, b2⟩ := rd1_num (k := ac) (most := 2147483648) (ys := num st ++ (num is ++ (num un ++ (num ep ++ (num 32 ++ G))))) (by omega) (by omega) (by omega)
  obtain ⟨a3, b3⟩ := rd1_num (k := st) (most := 4095) (ys := num is ++ (num un ++ (num ep ++ (num 32 ++ G)))) (by omega) (by omega) (by omega)
  obtain ⟨a4, b4⟩ := rd1_num (k := is) (most := 1099511627776) (ys := num un ++ (num ep ++ (num 32 ++ G))) (by omega) (by omega) (by omega)
  obtain ⟨a5, b5⟩ := rd1_num (k := un) (most := 1099511627776) (ys := num ep ++ (num 32 ++ G)) (by omega) (by omega) (by omega)
  obtain ⟨a6, b6⟩ := rd1_num (k := ep) (most := 1048576) (ys := num 32 ++ G) (by omega) (by omega) (by omega)
  obtain ⟨C, hC⟩ : ∃ C, num tr ++ (num ac ++ (num st ++ (num is ++ (num un ++ (num ep ++ (num 32 ++ G)))))) = C := ⟨_, rfl⟩
  rw [hC] at a1 b1 hw eb
  have e1 : s1 C = (num ac ++ (num st ++ (num is ++ (num un ++ (num ep ++ (num 32 ++ G))))), 0) := a1
  have e2 : s2 C = (num st ++ (num is ++ (num un ++ (num ep ++ (num 32 ++ G)))), 0) := by unfold s2; rw [e1]; exact a2
  have e3 : s3 C = (num is ++ (num un ++ (num ep ++ (num 32 ++ G))), 0) := by unfold s3; rw [e2]; exact a3
  have e4 : s4 C = (num un ++ (num ep ++ (num 32 ++ G)), 0) := by unfold s4; rw [e3]; exact a4
  have e5 : s5 C = (num ep ++ (num 32 ++ G), 0) := by unfold s5; rw [e4]; exact a5
  have e6 : s6 C = (num 32 ++ G, 0) := by unfold s6; rw [e5]; exact a6
  have et : tokOf C = ⟨tr, ac, st, is, un, ep⟩ := by unfold tokOf; rw [e1, e2, e3, e4, e5, b1, b2, b3, b4, b5, b6]
  have en : nxt (num 32 ++ G) 32 = (32, (num 32).length, 0) := by
    have e : take 0 0 (num 32 ++ G) = (32, (num 32).length, 0) := take_put0 (n := 32) (by omega) G
    unfold nxt
    rw [e]
    rfl
  have el : nxl (num 32 ++ G) 32 = (G, (num 32).length + 32, 0) := by
    unfold nxl
    simp only [en, ne_eq, not_true_eq_false, if_false]
    rw [if_neg (by simp; omega)]
    rw [List.drop_left' rfl]
    simp only [Prod.mk.injEq, and_true]
    exact ⟨List.take_of_length_le (by show G.length ≤ 32; omega), rfl⟩
  have e7 : s7 C = ([], 0) := by
    unfold s7
    rw [e6]
    simp only [el, after, ne_eq, not_true_eq_false, if_false]
    rw [List.drop_of_length_le (by simp; omega)]
  have eg : tagOf C = G := by unfold tagOf; rw [e6]; simp [vals, el]
  rw [eb]
  unfold opn opnF
  rw [hw]
  simp only [ne_eq, not_true_eq_false, if_false]
  rw [e7, et, eg]
  simp only [done, ne_eq, not_true_eq_false, if_false, List.length_nil, if_true]
  rw [if_pos ⟨h, hGl⟩, hG]
end Go.Proofs.YtppbpmmfcoblmaaDoor.Tok

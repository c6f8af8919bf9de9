/- The reference's reader of layer 3: Bytes, as a contract. -/
import Derived.Test.YtbmbibjkjnjbpaaFldV
import Derived.StillTailTactics
namespace Go.Proofs.Ytbmbibjkjnjbpaa.Fld
open Go.RowKit Var

def RefStepsL (w : World) (g N : Nat) (A : Option Addr) (n c : Nat) (bs : List Int) (at_ e : Nat) (t : List Int × Nat × Nat) (r : Ending) (w' : World) : Prop :=
  ∃ v, r = .returned v ∧ w'.ownsRow w.heap.size 5 1 v (vals e t).length ((vals e t).map (Value.int .u8)) ∧ (∃ at', Rfr w' g N A n c bs at' (after (bs.drop at_) e t.2.1 t.2.2).2 ∧ ((after (bs.drop at_) e t.2.1 t.2.2).2 = 0 → bs.drop at' = (after (bs.drop at_) e t.2.1 t.2.2).1)) ∧ Only (fun k => k = g) w w'

section
variable {w w1 w' : World} {g N n c at_ e at1 : Nat} {A : Option Addr} {bs : List Int} {t : List Int × Nat × Nat}
theorem reflist_none {e1 : Nat} (h : Rfr w1 g N A n c bs at1 e1) (he : e1 ≠ 0) (ht : (e ≠ 0 ∧ e1 = e) ∨ (e = 0 ∧ t.2.2 = e1)) (ho : Only (fun k => k = g) w w1) : RefStepsL w g N A n c bs at_ e t (.returned (.slice none 0 0)) w1 := by
  have e2 : after (bs.drop at_) e t.2.1 t.2.2 = (bs.drop at_, e1) := by
    unfold after
    rcases ht with ⟨h1, h2⟩ | ⟨h1, h2⟩
    · rw [if_pos h1, h2]
    · rw [if_neg (by omega), if_pos (by omega), h2]
  have e3 : vals e t = [] := by
    unfold vals
    rw [if_pos]
    rcases ht with ⟨h1, h2⟩ | ⟨h1, h2⟩
    · exact .inl h1
    · exact .inr (by omega)
  refine ⟨_, rfl, by rw [e3]; exact World.ownsRow_nil _ _ _ _, ?_, ho⟩
  rw [e2]
  exact ⟨at1, h, fun h0 => absurd h0 he⟩
end

theorem reflist_like {w w1 w' : World} {g N n c at_ at1 er : Nat} {A : Option Addr} {bs : List Int} {t : List Int × Nat × Nat} (h : Rfr w1 g N A n c bs at1 0) (ho : Only (fun k => k = g) w w1) (hl : Like (w1.setCell ⟨g, 2, none⟩ (.int .i64 (er : Int))) w') (ht : t.2.2 = er) (he : er ≠ 0) : RefStepsL w g N A n c bs at_ 0 t (.returned (.slice none 0 0)) w' := by
  have hO := hl.only (Only.setCell w1 ⟨g, 2, none⟩ (.int .i64 (er : Int)))
  exact reflist_none (h.set hO (hl.rf (h.rf.set2 er)) h.le) he (.inr ⟨rfl, ht⟩) (ho.trans hO (fun _ _ h => h))

theorem ref_after {w1 w3 w4 : World} {g N n c at1 m : Nat} {A : Option Addr} {bs : List Int} {v4 : Value} {zs : List Value} (h : Rfr w1 g N A n c bs at1 0) (hown : w4.ownsRow w1.heap.size 5 1 v4 m zs) (hb : Below w1.heap.size w3 w4) (hl : Like w1 w3 := by exact ⟨rfl, rfl, rfl, rfl⟩) :
    w4.cell? ⟨g, 0, none⟩ = some (.slice A n c) ∧ w4.cell? ⟨g, 1, none⟩ = some (.int .i64 (at1 : Int)) ∧ w4.frozen? ⟨g, 1, none⟩ = false ∧ w4.frozen? ⟨g, 2, none⟩ = false ∧ Hid (w4.ownsRow w1.heap.size 5 1 v4 m zs) ∧ Hid (Below w1.heap.size w1 w4) := by
  have hB : Below w1.heap.size w1 w4 := ⟨hb.os.trans hl.os, hb.tape.trans hl.tape, hb.output.trans hl.output, by have := hb.size; rw [hl.heap] at this; exact this, fun k hk => by rw [hb.block k hk, hl.heap]⟩
  have hr : Rf w4 g A n c at1 0 := ⟨(hB.block g h.lt).trans h.rf.blk⟩
  exact ⟨hr.c0, hr.c1, hr.f1, hr.f2, hown, hB⟩

theorem reflist_ok {w w1 w4 : World} {g N n c at_ s m p : Nat} {A : Option Addr} {bs ys : List Int} {t : List Int × Nat × Nat} {v4 : Value} (h : Rfr w1 g N A n c bs p 0) (ho : Only (fun k => k = g) w w1) (hb : Below w1.heap.size w1 w4) (hown : w4.ownsRow w1.heap.size 5 1 v4 m (ys.map (Value.int .u8)))
    (ht : t = (ys, s + m, 0)) (hp : at_ + s = p) (hl : ys.length = m) (hs : p + m ≤ n) (hi : ((p : Int) + m) = ((p + m : Nat) : Int)) : RefStepsL w g N A n c bs at_ 0 t (.returned v4) (w4.setCell ⟨g, 1, none⟩ (.int .i64 ((p : Int) + m))) := by
  subst ht
  rw [hi]
  have h4 : Rfr w4 g N A n c bs p 0 := h.only (M := fun _ => False) (Only.of_below hb) (fun h => h) (fun _ _ h => h)
  have hO : Only (fun k => k = g) w4 (w4.setCell ⟨g, 1, none⟩ (.int .i64 ((p + m : Nat) : Int))) := Only.setCell w4 ⟨g, 1, none⟩ _
  have hlt := h.lt
  refine ⟨v4, rfl, ?_, ⟨p + m, ?_, ?_⟩, ?_⟩
  · have : vals 0 ((ys, s + m, 0) : List Int × Nat × Nat) = ys := by simp [vals]
    rw [this, hl]
    exact own_mono (hO.own hown (fun k hk e => by have := (hown.lt k hk).1; omega)) ho.size
  · have : (after (bs.drop at_) 0 (s + m) 0).2 = 0 := by simp [after]
    show Rfr _ _ _ _ _ _ _ _ (after (bs.drop at_) 0 (s + m) 0).2
    rw [this]
    exact h4.set hO (h4.rf.set1 (p + m)) hs
  · intro _
    show bs.drop (p + m) = (after (bs.drop at_) 0 (s + m) 0).1
    simp [after, ← hp, Nat.add_assoc]
  · exact (ho.trans (Only.of_below hb : Only (fun k => k = g) w1 w4) (fun _ _ h => h)).trans hO (fun _ _ h => h)

set_option maxHeartbeats 1600000 in
set_option maxRecDepth 100000 in
theorem reflist_any (g N n c at_ e : Nat) (A : Option Addr) (bs : List Int) (most : Int) (w : World) (h : Rfr w g N A n c bs at_ e) (h1 : -9223372036854775808 ≤ most) (h2 : most ≤ 9223372036854775807) :
    Calls Try.prog 22 #[.pointer (some ⟨g, 0, none⟩), .int .i64 most] w (RefStepsL w g N A n c bs at_ e (nxl (bs.drop at_) most)) := by
  obtain ⟨i0, hi, hz0, hz1, hz2⟩ := info_parts info_u8
  have HR := Lib.hid h
  have H1 := Lib.hid h1
  have H2 := Lib.hid h2
  have hbyt : ∀ y ∈ bs.drop at_, 0 ≤ y ∧ y ≤ 255 := fun y hy => h.byt y (List.mem_of_mem_drop hy)
  have HK := Lib.hid (nxt_ok (most := most) hbyt)
  have HL : Hid ((bs.drop at_).length = n - at_) := by unfold Hid; rw [List.length_drop, h.row.len]
  clear h h1 h2 hbyt
  obtain ⟨t, HT⟩ : ∃ t, Hid (nxt (bs.drop at_) most = t) := ⟨_, rfl⟩
  obtain ⟨x, s, er⟩ := t
  have HX : Hid (nxl (bs.drop at_) most = if er ≠ 0 then ([], 0, er) else if ((bs.drop at_).length : Int) - s < x then ([], 0, 10) else (((bs.drop at_).drop s).take x.toNat, s + x.toNat, 0)) := by unfold Hid nxl; rw [HT.out]
  rw [HT.out] at HK
  go_enter Try.func22, Try.ntmps22
  go_wp2_with fail
  refine (refnum_any g N n c at_ e A bs most w HR.out H1.out H2.out).mono ?_
  rintro r w1 ⟨rfl, ⟨at1, hr1, hat1⟩, ho1⟩
  rw [HT.out] at hr1 hat1
  rw [HT.out]
  by_cases he : e = 0
  · subst he
    by_cases her : er = 0
    · subst her
      have e2 : after (bs.drop at_) 0 s 0 = ((bs.drop at_).drop s, 0) := by simp [after]
      have e3 : val 0 ((x, s, 0) : Int × Nat × Nat) = x := by simp [val]
      simp only [e2] at hr1 hat1
      rw [e3]
      obtain ⟨k1, k2, k3, k4⟩ := HK.out rfl
      have hl := HL.out
      have ha : at1 = at_ + s := by
        have l1 := congrArg List.length hat1
        have := hr1.le
        have hrl := hr1.row.len
        rw [List.drop_drop, List.length_drop, List.length_drop, hrl] at l1
        omega
      subst ha
      obtain ⟨m, rfl⟩ := Int.eq_ofNat_of_zero_le k3
      have HR1 := Lib.hid hr1
      have HO1 := Lib.hid ho1
      have d0 := hr1.rf.c0
      have d1 := hr1.rf.c1
      have d2 := hr1.rf.c2
      have g1 := hr1.rf.f1
      have g2 := hr1.rf.f2
      have hn := hr1.len
      have hle := hr1.le
      have hnc := hr1.nc
      clear hr1 hat1 ho1 e2 e3 k4
      by_cases hx : (n : Int) - (at_ + s : Nat) < m
      · have HX2 : Hid ((nxl (bs.drop at_) most).2.2 = 10) := by unfold Hid; rw [HX.out, if_neg (by simp), if_pos (by omega)]
        have hx' : decide ((n : Int) - ((at_ : Int) + s) < m) = true := decide_eq_true (by omega)
        have hx2 : decide ((n : Int) - ((at_ + s : Nat) : Int) < m) = true := decide_eq_true hx
        have hw : IntKind.i64.wrap ((n : Int) - ((at_ : Int) + s)) = (n : Int) - ((at_ : Int) + s) := IntWalk.i64_in _ ⟨by omega, by omega⟩
        go_wp2
        go_quiet (fail)
        go_wp2
        go_ret
        exact reflist_like (er := 10) HR1.out HO1.out ⟨rfl, rfl, rfl, rfl⟩ HX2.out (by decide)
      · have hsum : at_ + s + m ≤ n := by omega
        have HXF : Hid (nxl (bs.drop at_) most = ((bs.drop (at_ + s)).take m, s + m, 0)) := by unfold Hid; rw [HX.out, if_neg (by simp), if_neg (by omega), List.drop_drop]; simp
        obtain ⟨b, o, rfl⟩ := Row.some_of HR1.out.row (by omega)
        obtain ⟨p, hp⟩ : ∃ p, at_ + s = p := ⟨_, rfl⟩
        rw [hp] at HR1 d1 hle hsum hx HXF
        have HP := Lib.hid hp
        have hx2 : decide ((n : Int) - (p : Int) < m) = false := decide_eq_false hx
        have hw : IntKind.i64.wrap ((n : Int) - (p : Int)) = (n : Int) - (p : Int) := IntWalk.i64_in _ ⟨by omega, by omega⟩
        have hw2 : IntKind.i64.wrap ((p : Int) + m) = (p : Int) + m := IntWalk.i64_in _ ⟨by omega, by omega⟩
        clear hp
        by_cases hcp : c = p
        · have hz : n - p = 0 := by omega
          have HM0 : Hid (m = 0) := by unfold Hid; omega
          subst hcp
          clear hz
          have HPM : Hid (c + m - c = m) := by unfold Hid; omega
          have hg1 : (0 : Int) ≤ (c : Int) := by omega
          have hg2 : (0 : Int) ≤ (c : Int) + m := by omega
          have hg3 : (c : Int) + m ≤ (c : Int) := by omega
          have hg4 : (c : Int) ≤ (c : Int) + m := by omega
          have hg5 : c ≤ c + m := by omega
          have hg6 : c + m ≤ c := by omega
          have hg7 : ((c : Int) + m).toNat = c + m := by omega
          go_wp2
          go_quiet (fail)
          go_wp2
          have HL3 : Hid (Like w1 (w1.drewN nq)) := ⟨rfl, rfl, rfl, rfl⟩
          have u0 : (w1.drewN nq).cell? ⟨g, 0, none⟩ = some (.slice (some ⟨b, o, none⟩) n c) := d0
          have u1 : (w1.drewN nq).cell? ⟨g, 1, none⟩ = some (.int .i64 (c : Int)) := d1
          have HRow3 : Hid (Row .u8 (w1.drewN nq) N (some ⟨b, o, none⟩) 0 []) := Row.none_
          generalize w1.drewN nq = w3 at *
          go_still_tail 16, (by kernel_rfl)
          change wpList _ _ _ _ _ w3.drew
          go_wp2_with (at_builtin; refine cat_own rfl (.tmp 30) (.tmp 45) 25 rfl w1.heap.size 5 i0 .u8 1 Try.underlying25 hi hz0 hz1 hz2 _ 0 [] rfl (World.ownsRow_nil _ _ _ _) N _ 0 _ [] rfl (fun h => by cases h) HRow3.out.drew (by omega) (by omega) (by show w1.heap.size ≤ w3.heap.size; rw [HL3.out.heap]; exact Nat.le_refl _) ?_; intro v4 w4 hown4 hb4; obtain ⟨q0, q1, q2, q3, HO4, HB4⟩ := ref_after HR1.out hown4 hb4 ⟨HL3.out.heap, HL3.out.os, HL3.out.tape, HL3.out.output⟩; clear hown4 hb4)
          go_ret
          exact reflist_ok HR1.out HO1.out HB4.out (by have := HO4.out; simpa [HM0.out] using this) HXF.out HP.out (by rw [List.length_take, List.length_drop, HR1.out.row.len]; omega) hsum (by omega)
        · have HRow : Hid (Row .u8 w1 N (some ⟨b, o + p, none⟩) m ((bs.drop p).take m)) := Row.take_ (Row.drop HR1.out.row (fun _ => rfl)) (by omega)
          have HPM : Hid (p + m - p = m) := by unfold Hid; omega
          have hg1 : (0 : Int) ≤ (p : Int) := by omega
          have hg2 : (0 : Int) ≤ (p : Int) + m := by omega
          have hg3 : (p : Int) + m ≤ (c : Int) := by omega
          have hg4 : (p : Int) ≤ (p : Int) + m := by omega
          have hg5 : p ≤ p + m := by omega
          have hg6 : p + m ≤ c := by omega
          have hg7 : ((p : Int) + m).toNat = p + m := by omega
          go_wp2
          go_quiet (fail)
          go_wp2
          have HL3 : Hid (Like w1 (w1.drewN nq)) := ⟨rfl, rfl, rfl, rfl⟩
          have u0 : (w1.drewN nq).cell? ⟨g, 0, none⟩ = some (.slice (some ⟨b, o, none⟩) n c) := d0
          have u1 : (w1.drewN nq).cell? ⟨g, 1, none⟩ = some (.int .i64 (p : Int)) := d1
          have HRow3 : Hid (Row .u8 (w1.drewN nq) N (some ⟨b, o + p, none⟩) m ((bs.drop p).take m)) := HRow.out
          generalize w1.drewN nq = w3 at *
          go_still_tail 16, (by kernel_rfl)
          change wpList _ _ _ _ _ w3.drew
          go_wp2_with (at_builtin; refine cat_own rfl (.tmp 30) (.tmp 45) 25 rfl w1.heap.size 5 i0 .u8 1 Try.underlying25 hi hz0 hz1 hz2 _ 0 [] rfl (World.ownsRow_nil _ _ _ _) N _ m _ ((bs.drop p).take m) rfl (fun h => by cases h) HRow3.out.drew (by omega) (by omega) (by show w1.heap.size ≤ w3.heap.size; rw [HL3.out.heap]; exact Nat.le_refl _) ?_; intro v4 w4 hown4 hb4; obtain ⟨q0, q1, q2, q3, HO4, HB4⟩ := ref_after HR1.out hown4 hb4 ⟨HL3.out.heap, HL3.out.os, HL3.out.tape, HL3.out.output⟩; clear hown4 hb4)
          go_ret
          exact reflist_ok HR1.out HO1.out HB4.out (by have := HO4.out; simpa using this) HXF.out HP.out (by rw [List.length_take, List.length_drop, HR1.out.row.len]; omega) hsum (by omega)
    · have e2 : after (bs.drop at_) 0 s er = (bs.drop at_, er) := by simp [after, her]
      have e3 : val 0 ((x, s, er) : Int × Nat × Nat) = 0 := by simp [val, her]
      rw [e2] at hr1 hat1
      rw [e3]
      have hne : ((er : Int) == 0) = false := beq_eq_false_iff_ne.2 (by omega)
      have HX2 : Hid ((nxl (bs.drop at_) most).2.2 = er) := by unfold Hid; rw [HX.out, if_pos her]
      have HR1 := Lib.hid hr1
      have HO1 := Lib.hid ho1
      have d2 := hr1.rf.c2
      have HE := Lib.hid her
      clear hr1 hat1 ho1 e2 e3 her
      go_wp2
      go_ret
      exact reflist_none HR1.out HE.out (.inr ⟨rfl, HX2.out⟩) HO1.out
  · have e2 : after (bs.drop at_) e s er = (bs.drop at_, e) := by simp [after, he]
    have e3 : val e ((x, s, er) : Int × Nat × Nat) = 0 := by simp [val, he]
    rw [e2] at hr1 hat1
    rw [e3]
    have hne : ((e : Int) == 0) = false := beq_eq_false_iff_ne.2 (by omega)
    have HR1 := Lib.hid hr1
    have HO1 := Lib.hid ho1
    have d2 := hr1.rf.c2
    have HE := Lib.hid he
    clear hr1 hat1 ho1 e2 e3 he
    go_wp2
    go_ret
    exact reflist_none HR1.out HE.out (.inl ⟨HE.out, rfl⟩) HO1.out
end Go.Proofs.Ytbmbibjkjnjbpaa.Fld

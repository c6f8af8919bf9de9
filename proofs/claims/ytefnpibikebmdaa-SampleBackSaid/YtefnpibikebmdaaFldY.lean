/- The reference's reader of layer 3: its methods, as contracts. -/
import Derived.Test.YtefnpibikebmdaaFldX
namespace Go.Proofs.Ytefnpibikebmdaa.Fld
open Go.RowKit Var

def RefSteps (w : World) (g N : Nat) (A : Option Addr) (n c : Nat) (bs : List Int) (at_ e : Nat) (k : IntKind) (t : Int × Nat × Nat) (r : Ending) (w' : World) : Prop :=
  r = .returned (.int k (val e t)) ∧ (∃ at', Rfr w' g N A n c bs at' (after (bs.drop at_) e t.2.1 t.2.2).2 ∧ bs.drop at' = (after (bs.drop at_) e t.2.1 t.2.2).1) ∧ Only (fun k => k = g) w w'

section
variable {w w1 w' : World} {g N n c at_ e : Nat} {A : Option Addr} {bs : List Int} {k : IntKind} {t : Int × Nat × Nat}
theorem refsteps_bad (h : Rfr w g N A n c bs at_ e) (he : e ≠ 0) : RefSteps w g N A n c bs at_ e k t (.returned (.int k 0)) w := by
  have e1 : after (bs.drop at_) e t.2.1 t.2.2 = (bs.drop at_, e) := by unfold after; rw [if_pos he]
  unfold RefSteps
  rw [e1]
  exact ⟨by unfold val; rw [if_pos (.inl he)], ⟨at_, h, rfl⟩, Only.refl _ _⟩
theorem refsteps_err {er : Nat} (h : Rfr w' g N A n c bs at_ er) (ht : t.2.2 = er) (he : er ≠ 0) (ho : Only (fun k => k = g) w w') : RefSteps w g N A n c bs at_ 0 k t (.returned (.int k 0)) w' := by
  have e1 : after (bs.drop at_) 0 t.2.1 t.2.2 = (bs.drop at_, er) := by unfold after; rw [if_neg (by simp), if_pos (by rw [ht]; exact he), ht]
  unfold RefSteps
  rw [e1]
  exact ⟨by unfold val; rw [if_pos (.inr (by rw [ht]; exact he))], ⟨at_, h, rfl⟩, ho⟩
theorem refsteps_ok {s : Nat} {x : Int} (h : Rfr w' g N A n c bs (at_ + s) 0) (ht : t = (x, s, 0)) (ho : Only (fun k => k = g) w w') : RefSteps w g N A n c bs at_ 0 k t (.returned (.int k x)) w' := by
  subst ht
  refine ⟨by simp [val], ⟨at_ + s, by simpa [after] using h, by simp [after]⟩, ho⟩
end

set_option maxHeartbeats 800000 in
set_option maxRecDepth 100000 in
theorem raw_bad (g n c at_ e : Nat) (A : Option Addr) (w : World) (h : Rf w g A n c at_ e) (he : e ≠ 0) :
    Calls Try.prog 36 #[.pointer (some ⟨g, 0, none⟩)] w fun r w' => r = .returned (.tuple #[.int .u64 0, .int .i64 0]) ∧ w = w' := by
  have c2 := h.c2
  have hne : ((e : Int) == 0) = false := beq_eq_false_iff_ne.2 (by omega)
  clear h he
  go_enter Try.func36, Try.ntmps36
  go_wp2
  go_ret2
  exact ⟨rfl, rfl⟩

theorem nxt_err {xs : List Int} {most : Int} {x s er : Nat} (h : take 0 0 xs = (x, s, er)) (he : er ≠ 0) : (nxt xs most).2.2 = er := by unfold nxt; rw [h]; simp [he]
theorem nxt_abv {xs : List Int} {most : Int} {x s : Nat} (h : take 0 0 xs = (x, s, 0)) (ha : abv x most = true) : (nxt xs most).2.2 = 3 := by unfold nxt; rw [h]; simp [ha]
theorem nxt_fin {xs : List Int} {most : Int} {x s : Nat} (h : take 0 0 xs = (x, s, 0)) (ha : abv x most = false) : nxt xs most = ((x : Int), s, 0) := by unfold nxt; rw [h]; simp [ha]

set_option maxHeartbeats 1600000 in
set_option maxRecDepth 100000 in
theorem refnum_any (g N n c at_ e : Nat) (A : Option Addr) (bs : List Int) (most : Int) (w : World) (h : Rfr w g N A n c bs at_ e) (h1 : -9223372036854775808 ≤ most) (h2 : most ≤ 9223372036854775807) :
    Calls Try.prog 24 #[.pointer (some ⟨g, 0, none⟩), .int .i64 most] w (RefSteps w g N A n c bs at_ e .i64 (nxt (bs.drop at_) most)) := by
  have HR := Lib.hid h
  have H1 := Lib.hid h1
  have H2 := Lib.hid h2
  have hbyt : ∀ y ∈ bs.drop at_, 0 ≤ y ∧ y ≤ 255 := fun y hy => h.byt y (List.mem_of_mem_drop hy)
  have H64 := Lib.hid (take64 hbyt)
  have HSZ := Lib.hid (take_size hbyt)
  have HL : Hid ((bs.drop at_).length = n - at_) := by unfold Hid; rw [List.length_drop, h.row.len]
  clear h h1 h2 hbyt
  by_cases he : e = 0
  · subst he
    obtain ⟨t, HT⟩ : ∃ t, Hid (take 0 0 (bs.drop at_) = t) := ⟨_, rfl⟩
    obtain ⟨x, s, er⟩ := t
    rw [HT.out] at H64 HSZ
    go_enter Try.func24, Try.ntmps24
    go_wp2_with fail
    refine (raw_any g N n c at_ A bs w HR.out).mono ?_
    rintro r w1 ⟨rfl, hr1, ho1⟩
    rw [HT.out] at hr1
    rw [HT.out]
    have HR1 := Lib.hid hr1
    have HO1 := Lib.hid ho1
    have d1 := hr1.rf.c1
    have g1 := hr1.rf.f1
    have d2 := hr1.rf.c2
    have g2 := hr1.rf.f2
    clear hr1 ho1
    by_cases her : er = 0
    · subst her
      obtain ⟨s0, s1⟩ := HSZ.out rfl
      have s2 : at_ + s ≤ n := by have := HL.out; have := HR.out.le; omega
      have s3 : n ≤ 4398046511104 := HR.out.len
      clear s0 s1
      have HS2 := Lib.hid s2
      have hw0 : IntKind.i64.wrap ((at_ : Int) + s) = (at_ : Int) + s := IntWalk.i64_in _ ⟨by omega, by omega⟩
      cases ha : abv x most with
      | true =>
        have fin : ∀ r w2, r = Ending.returned (.int .i64 0) → w2 = w1.setCell ⟨g, 2, none⟩ (.int .i64 3) → RefSteps w g N A n c bs at_ 0 .i64 (nxt (bs.drop at_) most) r w2 := by
          rintro r w2 rfl rfl
          have hO := HO1.out.trans (Only.setCell w1 ⟨g, 2, none⟩ (.int .i64 3)) (fun _ _ h => h)
          exact refsteps_err (HR1.out.set (Only.setCell w1 ⟨g, 2, none⟩ _) (HR1.out.rf.set2 3) HR1.out.le) (nxt_abv HT.out ha) (by omega) hO
        have FIN := Lib.hid fin
        clear fin s2
        by_cases hm : most < 0
        · have hd : decide (most < 0) = true := decide_eq_true hm
          go_wp2
          go_ret
          exact FIN.out _ _ rfl rfl
        · have hd : decide (most < 0) = false := decide_eq_false hm
          have hw : IntKind.u64.wrap most = most := IntWalk.u64_in _ ⟨by omega, by have := H2.out; omega⟩
          by_cases hx : most < (x : Int)
          · have hd2 : decide (most < (x : Int)) = true := decide_eq_true hx
            go_wp2
            go_ret
            exact FIN.out _ _ rfl rfl
          · have hd2 : decide (most < (x : Int)) = false := decide_eq_false hx
            have hx3 : (4611686018427387904 : Int) < (x : Int) := by
              unfold abv at ha
              simp [hd, hd2] at ha
              omega
            have hd3 : decide ((4611686018427387904 : Int) < (x : Int)) = true := decide_eq_true hx3
            go_wp2
            go_ret
            exact FIN.out _ _ rfl rfl
      | false =>
        obtain ⟨a1, a2, a3⟩ := abv_no ha
        have hd : decide (most < 0) = false := decide_eq_false (by omega)
        have hd2 : decide (most < (x : Int)) = false := decide_eq_false (by omega)
        have hd3 : decide ((4611686018427387904 : Int) < (x : Int)) = false := decide_eq_false (by omega)
        have hw : IntKind.u64.wrap most = most := IntWalk.u64_in _ ⟨by omega, by have := H2.out; omega⟩
        have hw2 : IntKind.i64.wrap (x : Int) = x := IntWalk.i64_in _ ⟨by omega, by omega⟩
        have HF := Lib.hid (nxt_fin HT.out ha)
        clear a3 s2
        go_wp2
        go_ret
        have e1 : (at_ : Int) + s = ((at_ + s : Nat) : Int) := by omega
        refine refsteps_ok ?_ HF.out (HO1.out.trans (Only.setCell w1 ⟨g, 1, none⟩ _) (fun _ _ h => h))
        refine HR1.out.set (Only.setCell w1 ⟨g, 1, none⟩ _) ?_ HS2.out
        rw [e1]
        exact HR1.out.rf.set1 (at_ + s)
    · have hne : ((er : Int) == 0) = false := beq_eq_false_iff_ne.2 (by omega)
      have HF := Lib.hid (nxt_err (most := most) HT.out her)
      have HE := Lib.hid her
      clear her
      go_wp2
      go_ret
      exact refsteps_err HR1.out HF.out HE.out HO1.out
  · have hne : ((e : Int) == 0) = false := beq_eq_false_iff_ne.2 (by omega)
    have c2 := HR.out.rf.c2
    have HE := Lib.hid he
    clear he
    go_enter Try.func24, Try.ntmps24
    go_wp2_with fail
    refine (raw_bad g n c at_ e A w HR.out.rf HE.out).mono ?_
    rintro r w1 ⟨rfl, rfl⟩
    go_wp2
    go_ret
    exact refsteps_bad HR.out HE.out
end Go.Proofs.Ytefnpibikebmdaa.Fld

/- The reference's reader of layer 3: Signed, Byte, Bytes, Done, Read, as contracts. -/
import Derived.Test.YtefnpibikebmdaaFldY
namespace Go.Proofs.Ytefnpibikebmdaa.Fld
open Go.RowKit Var

theorem nxs_err {xs : List Int} {most : Int} {x s er : Nat} (h : take 0 0 xs = (x, s, er)) (he : er ≠ 0) : (nxs xs most).2.2 = er := by unfold nxs; rw [h]; simp [he]
theorem nxs_abv {xs : List Int} {most : Int} {x s : Nat} (h : take 0 0 xs = (x, s, 0)) (ha : abv (back x).natAbs most = true) : (nxs xs most).2.2 = 3 := by unfold nxs; rw [h]; simp [ha]
theorem nxs_fin {xs : List Int} {most : Int} {x s : Nat} (h : take 0 0 xs = (x, s, 0)) (ha : abv (back x).natAbs most = false) : nxs xs most = (back x, s, 0) := by unfold nxs; rw [h]; simp [ha]

set_option maxHeartbeats 1600000 in
set_option maxRecDepth 100000 in
theorem refsgn_any (g N n c at_ e : Nat) (A : Option Addr) (bs : List Int) (most : Int) (w : World) (h : Rfr w g N A n c bs at_ e) (h1 : -9223372036854775808 ≤ most) (h2 : most ≤ 9223372036854775807) :
    Calls Try.prog 25 #[.pointer (some ⟨g, 0, none⟩), .int .i64 most] w (RefSteps w g N A n c bs at_ e .i64 (nxs (bs.drop at_) most)) := by
  have HR := Lib.hid h
  have H1 := Lib.hid h1
  have H2 := Lib.hid h2
  have hbyt : ∀ y ∈ bs.drop at_, 0 ≤ y ∧ y ≤ 255 := fun y hy => h.byt y (List.mem_of_mem_drop hy)
  have H64 := Lib.hid (take64 hbyt)
  have HSZ := Lib.hid (take_size hbyt)
  have HL : Hid ((bs.drop at_).length = n - at_) := by unfold Hid; rw [List.length_drop, h.row.len]
  clear h h1 h2 hbyt
  by_cases he : e = 0
  · subst he
    obtain ⟨t, HT⟩ : ∃ t, Hid (take 0 0 (bs.drop at_) = t) := ⟨_, rfl⟩
    obtain ⟨x, s, er⟩ := t
    rw [HT.out] at H64 HSZ
    go_enter Try.func25, Try.ntmps25
    go_wp2_with fail
    refine (raw_any g N n c at_ A bs w HR.out).mono ?_
    rintro r w1 ⟨rfl, hr1, ho1⟩
    rw [HT.out] at hr1
    rw [HT.out]
    have HR1 := Lib.hid hr1
    have HO1 := Lib.hid ho1
    have d1 := hr1.rf.c1
    have g1 := hr1.rf.f1
    have d2 := hr1.rf.c2
    have g2 := hr1.rf.f2
    clear hr1 ho1
    by_cases her : er = 0
    · subst her
      obtain ⟨s0, s1⟩ := HSZ.out rfl
      have s2 : at_ + s ≤ n := by have := HL.out; have := HR.out.le; omega
      have s3 : n ≤ 4398046511104 := HR.out.len
      clear s0 s1
      have HS2 := Lib.hid s2
      have hw0 : IntKind.i64.wrap ((at_ : Int) + s) = (at_ : Int) + s := IntWalk.i64_in _ ⟨by omega, by omega⟩
      have hwq : IntKind.u64.wrap ((x : Int) / 2) = (x : Int) / 2 := IntWalk.u64_in _ ⟨by omega, by have := H64.out; omega⟩
      have hwr : IntKind.u64.wrap ((x : Int) % 2) = (x : Int) % 2 := IntWalk.u64_in _ ⟨by omega, by omega⟩
      have hwp : IntKind.u64.wrap ((x : Int) / 2 + 1) = (x : Int) / 2 + 1 := IntWalk.u64_in _ ⟨by omega, by have := H64.out; omega⟩
      have finerr : abv (back x).natAbs most = true → ∀ r w2, r = Ending.returned (.int .i64 0) → w2 = w1.setCell ⟨g, 2, none⟩ (.int .i64 3) → RefSteps w g N A n c bs at_ 0 .i64 (nxs (bs.drop at_) most) r w2 := by
        rintro ha r w2 rfl rfl
        have hO := HO1.out.trans (Only.setCell w1 ⟨g, 2, none⟩ (.int .i64 3)) (fun _ _ h => h)
        exact refsteps_err (HR1.out.set (Only.setCell w1 ⟨g, 2, none⟩ _) (HR1.out.rf.set2 3) HR1.out.le) (nxs_abv HT.out ha) (by omega) hO
      have FE := Lib.hid finerr
      have finok : abv (back x).natAbs most = false → ∀ r w2 (i : Int), i = back x → r = Ending.returned (.int .i64 i) → w2 = w1.setCell ⟨g, 1, none⟩ (.int .i64 ((at_ : Int) + s)) → RefSteps w g N A n c bs at_ 0 .i64 (nxs (bs.drop at_) most) r w2 := by
        rintro ha r w2 i rfl rfl rfl
        have e1 : (at_ : Int) + s = ((at_ + s : Nat) : Int) := by omega
        refine refsteps_ok ?_ (nxs_fin HT.out ha) (HO1.out.trans (Only.setCell w1 ⟨g, 1, none⟩ _) (fun _ _ h => h))
        refine HR1.out.set (Only.setCell w1 ⟨g, 1, none⟩ _) ?_ HS2.out
        rw [e1]
        exact HR1.out.rf.set1 (at_ + s)
      have FO := Lib.hid finok
      clear finerr finok s2
      by_cases hodd : x % 2 = 1
      · have ho : ((x : Int) % 2 == 1) = true := beq_iff_eq.2 (by omega)
        obtain ⟨z, hz, HZ⟩ : ∃ z : Int, (x : Int) / 2 + 1 = z ∧ Hid (z = (x : Int) / 2 + 1) := ⟨_, rfl, rfl⟩
        have HZ' : Hid (((back x).natAbs : Int) = z) := by have := HZ.out; unfold Hid back; split <;> omega
        have HBK : Hid (back x = -z) := by have := HZ.out; unfold Hid back; split <;> omega
        rw [hz] at hwp
        have hz0 : 0 ≤ z := by have := HZ.out; omega
        cases ha : abv (back x).natAbs most with
        | true =>
          have F := Lib.hid (FE.out ha)
          by_cases hm : most < 0
          · have hd : decide (most < 0) = true := decide_eq_true hm
            go_wp2
            go_ret
            exact F.out _ _ rfl rfl
          · have hd : decide (most < 0) = false := decide_eq_false hm
            have hw : IntKind.u64.wrap most = most := IntWalk.u64_in _ ⟨by omega, by have := H2.out; omega⟩
            by_cases hx : most < z
            · have hd2 : decide (most < z) = true := decide_eq_true hx
              go_wp2
              go_ret
              exact F.out _ _ rfl rfl
            · have hd2 : decide (most < z) = false := decide_eq_false hx
              have hx3 : (4611686018427387904 : Int) < z := by
                have h5 := HZ'.out
                unfold abv at ha
                rw [h5, hd, hd2] at ha
                simp at ha
                omega
              have hd3 : decide ((4611686018427387904 : Int) < z) = true := decide_eq_true hx3
              go_wp2
              go_ret
              exact F.out _ _ rfl rfl
        | false =>
          have F := Lib.hid (FO.out ha)
          obtain ⟨a1, a2, a3⟩ := abv_no ha
          have h5 := HZ'.out
          have hd : decide (most < 0) = false := decide_eq_false (by omega)
          have hd2 : decide (most < z) = false := decide_eq_false (by omega)
          have hd3 : decide ((4611686018427387904 : Int) < z) = false := decide_eq_false (by omega)
          have hw : IntKind.u64.wrap most = most := IntWalk.u64_in _ ⟨by omega, by have := H2.out; omega⟩
          have hw2 : IntKind.i64.wrap z = z := IntWalk.i64_in _ ⟨by omega, by omega⟩
          have hw3 : IntKind.i64.wrap (-z) = -z := IntWalk.i64_in _ ⟨by omega, by omega⟩
          clear a3 h5 a2
          go_wp2
          go_ret
          exact F.out _ _ _ HBK.out.symm rfl rfl
      · have ho : ((x : Int) % 2 == 1) = false := beq_eq_false_iff_ne.2 (by omega)
        obtain ⟨z, hz, HZ⟩ : ∃ z : Int, (x : Int) / 2 = z ∧ Hid (z = (x : Int) / 2) := ⟨_, rfl, rfl⟩
        have HZ' : Hid (((back x).natAbs : Int) = z) := by have := HZ.out; unfold Hid back; split <;> omega
        have HBK : Hid (back x = z) := by have := HZ.out; unfold Hid back; split <;> omega
        rw [hz] at hwq
        have hz0 : 0 ≤ z := by have := HZ.out; omega
        cases ha : abv (back x).natAbs most with
        | true =>
          have F := Lib.hid (FE.out ha)
          by_cases hm : most < 0
          · have hd : decide (most < 0) = true := decide_eq_true hm
            go_wp2
            go_ret
            exact F.out _ _ rfl rfl
          · have hd : decide (most < 0) = false := decide_eq_false hm
            have hw : IntKind.u64.wrap most = most := IntWalk.u64_in _ ⟨by omega, by have := H2.out; omega⟩
            by_cases hx : most < z
            · have hd2 : decide (most < z) = true := decide_eq_true hx
              go_wp2
              go_ret
              exact F.out _ _ rfl rfl
            · have hd2 : decide (most < z) = false := decide_eq_false hx
              have hx3 : (4611686018427387904 : Int) < z := by
                have h5 := HZ'.out
                unfold abv at ha
                rw [h5, hd, hd2] at ha
                simp at ha
                omega
              have hd3 : decide ((4611686018427387904 : Int) < z) = true := decide_eq_true hx3
              go_wp2
              go_ret
              exact F.out _ _ rfl rfl
        | false =>
          have F := Lib.hid (FO.out ha)
          obtain ⟨a1, a2, a3⟩ := abv_no ha
          have h5 := HZ'.out
          have hd : decide (most < 0) = false := decide_eq_false (by omega)
          have hd2 : decide (most < z) = false := decide_eq_false (by omega)
          have hd3 : decide ((4611686018427387904 : Int) < z) = false := decide_eq_false (by omega)
          have hw : IntKind.u64.wrap most = most := IntWalk.u64_in _ ⟨by omega, by have := H2.out; omega⟩
          have hw2 : IntKind.i64.wrap z = z := IntWalk.i64_in _ ⟨by omega, by omega⟩
          have hw3 : IntKind.i64.wrap (-z) = -z := IntWalk.i64_in _ ⟨by omega, by omega⟩
          clear a3 h5 a2
          go_wp2
          go_ret
          exact F.out _ _ _ HBK.out.symm rfl rfl
    · have hne : ((er : Int) == 0) = false := beq_eq_false_iff_ne.2 (by omega)
      have HF := Lib.hid (nxs_err (most := most) HT.out her)
      have HE := Lib.hid her
      clear her
      go_wp2
      go_ret
      exact refsteps_err HR1.out HF.out HE.out HO1.out
  · have hne : ((e : Int) == 0) = false := beq_eq_false_iff_ne.2 (by omega)
    have c2 := HR.out.rf.c2
    have HE := Lib.hid he
    clear he
    go_enter Try.func25, Try.ntmps25
    go_wp2_with fail
    refine (raw_bad g n c at_ e A w HR.out.rf HE.out).mono ?_
    rintro r w1 ⟨rfl, rfl⟩
    go_wp2
    go_ret
    exact refsteps_bad HR.out HE.out
end Go.Proofs.Ytefnpibikebmdaa.Fld

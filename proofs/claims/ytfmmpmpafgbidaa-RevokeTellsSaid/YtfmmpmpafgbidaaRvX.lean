/- Layer 12 (revoke): RevokeMerges as a walk, out of what the program's functions must do. -/
import Derived.Test.YtfmmpmpafgbidaaRvW
namespace Go.Proofs.Ytfmmpmpafgbidaa.Rv
open Go.RowKit Rec

theorem mergeT_no {a b : List P} (h : ¬ (Rt a ∧ Rt b)) : mergeT a b = ([], 2) := by unfold mergeT; rw [if_neg h]
theorem mergeT_yes {a b : List P} (ha : Rt a) (hb : Rt b) (h : a.length + b.length ≤ 4096) : mergeT a b = (adds a b, 0) := by
  unfold mergeT
  rw [if_pos ⟨ha, hb⟩, if_pos (Nat.le_trans (len_adds ha.asc) h)]
theorem len_adds_take {a b : List P} (ha : Asc a) (k : Nat) : (adds a (b.take k)).length ≤ a.length + k := by
  have h1 := len_adds (b := b.take k) ha
  rw [List.length_take] at h1
  omega

set_option maxHeartbeats 3200000 in
set_option maxRecDepth 100000 in
theorem merges_walk (hA : AddOk) (hH : HasOk) (hM : MergeOk) (A A' : Option Addr) (n n' c c' : Nat) (a b : List P) (w : World) (h : RRow rvS w w.heap.size A n a) (hnil : A = none → c = 0) (hnc : n ≤ c) (hcm : c ≤ maxLen)
    (h' : RRow rvS w w.heap.size A' n' b) (hnil' : A' = none → c' = 0) (hnc' : n' ≤ c') (hcm' : c' ≤ maxLen) :
    Calls Try.prog 4 #[.slice A n c, .slice A' n' c'] w fun e w' => e = .returned (.bool true) ∧ Below w.heap.size w w' := by
  have H := Lib.hid h
  have HX := Lib.hid (And.intro hnil (And.intro hnc hcm))
  have HL := Lib.hid h.len
  have H' := Lib.hid h'
  have HX' := Lib.hid (And.intro hnil' (And.intro hnc' hcm'))
  have HL' := Lib.hid h'.len
  clear h hnil hnc hcm h' hnil' hnc' hcm'
  go_enter Try.func4, Try.ntmps4
  go_wp2_with fail
  refine (awake_any hA hH _).mono ?_
  rintro e1 w1 ⟨rfl, hb1⟩
  have HB1 := Lib.hid hb1
  clear hb1
  by_cases hbig : 300 < n
  · have hd : decide (300 < (n : Int)) = true := decide_eq_true (by omega)
    go_wp2
    go_ret
    exact ⟨rfl, HB1.out⟩
  have hd : decide (300 < (n : Int)) = false := decide_eq_false (by omega)
  by_cases hbig' : 300 < n'
  · have hd' : decide (300 < (n' : Int)) = true := decide_eq_true (by omega)
    go_wp2
    go_ret
    exact ⟨rfl, HB1.out⟩
  have hd' : decide (300 < (n' : Int)) = false := decide_eq_false (by omega)
  have R1 := Lib.hid ((H.out.below HB1.out).more HB1.out.size)
  have R1' := Lib.hid ((H'.out.below HB1.out).more HB1.out.size)
  go_wp2_with fail
  refine (hM A A' n n' c c' a b w1 R1.out HX.out.1 HX.out.2.1 HX.out.2.2 (by omega) R1'.out HX'.out.1 HX'.out.2.1 HX'.out.2.2 (by omega)).mono ?_
  rintro e2 w2 ⟨v2, rfl, A2, n2, c2, rfl, hr2, -, hnc2, -, hb2⟩
  obtain rfl := hr2.len
  have HR2 := Lib.hid hr2
  have HB2 := Lib.hid (HB1.out.trans (hb2.mono HB1.out.size))
  have R2 := Lib.hid ((R1.out.below hb2).more hb2.size)
  have R2' := Lib.hid ((R1'.out.below hb2).more hb2.size)
  clear hr2 hb2 R1 R1' HB1
  cases ra : decide (Rt a) with
  | false =>
    have HT := Lib.hid (mergeT_no (b := b) (fun h => of_decide_eq_false ra h.1))
    rw [HT.out] at HR2 ⊢
    go_wp2_with fail
    refine (refright_any A n c _ a w2 R2.out (by omega)).mono ?_
    rw [ra]
    rintro e3 w3 ⟨rfl, q3, rfl⟩
    go_wp2
    go_ret
    exact ⟨rfl, below_drewN HB2.out _⟩
  | true =>
    have hra : Rt a := of_decide_eq_true ra
    have HRA := Lib.hid hra
    clear hra
    go_wp2_with fail
    refine (refright_any A n c _ a w2 R2.out (by omega)).mono ?_
    rw [ra]
    rintro e3 w3 ⟨rfl, q3, rfl⟩
    have HB3 := Lib.hid (below_drewN HB2.out q3)
    have R3 := Lib.hid (R2.out.drewN q3)
    have R3' := Lib.hid (R2'.out.drewN q3)
    have HR3 := Lib.hid (HR2.out.drewN q3)
    have HS3 : Hid (w2.heap.size = (w2.drewN q3).heap.size) := rfl
    rw [HS3.out] at R3 R3' HR3
    clear R2 R2' HR2 HB2 HS3
    generalize w2.drewN q3 = w3 at *
    cases rb : decide (Rt b) with
    | false =>
      have HT := Lib.hid (mergeT_no (a := a) (fun h => of_decide_eq_false rb h.2))
      rw [HT.out] at HR3 ⊢
      go_wp2_with fail
      refine (refright_any A' n' c' _ b w3 R3'.out (by omega)).mono ?_
      rw [rb]
      rintro e4 w4 ⟨rfl, q4, rfl⟩
      go_wp2
      go_ret
      exact ⟨rfl, below_drewN HB3.out _⟩
    | true =>
      have hrb : Rt b := of_decide_eq_true rb
      have HRB := Lib.hid hrb
      clear hrb
      have HT : Hid (mergeT a b = (adds a b, 0)) := mergeT_yes HRA.out HRB.out (by rw [HL.out, HL'.out]; omega)
      rw [HT.out] at HR3 ⊢
      go_wp2_with fail
      refine (refright_any A' n' c' _ b w3 R3'.out (by omega)).mono ?_
      rw [rb]
      rintro e4 w4 ⟨rfl, q4, rfl⟩
      have HB4 := Lib.hid (below_drewN HB3.out q4)
      have R4 := Lib.hid (R3.out.drewN q4)
      have R4' := Lib.hid (R3'.out.drewN q4)
      have HR4 := Lib.hid (HR3.out.drewN q4)
      have HS4 : Hid (w3.heap.size = (w3.drewN q4).heap.size) := rfl
      rw [HS4.out] at R4 R4' HR4
      clear R3 R3' HR3 HB3 HS4
      generalize w3.drewN q4 = w4 at *
      go_wp2
      go_loopw [7, 44] (fun v i wr => ∃ (k : Nat) (A7 : Option Addr) (n7 c7 : Nat), k ≤ n' ∧ i = .int .i64 (k : Int) ∧ v = .slice A7 n7 c7 ∧ n7 ≤ 300 + k ∧ Hid (RRow rvS wr wr.heap.size A7 n7 (adds a (b.take k))) ∧ Hid (Below w4.heap.size w4 wr)) (fun _ i _ => n' - (intOf i).toNat)
      case atStart => exact ⟨0, A, n, c, Nat.zero_le _, rfl, rfl, by omega, R4.out, Below.refl _ _⟩
      case round =>
        obtain ⟨k, A7, n7, c7, hk, rfl, rfl, hn7, HO, HB⟩ := hrel
        have HBW : Hid (Below w.heap.size w wr) := HB4.out.trans (HB.out.mono HB4.out.size)
        by_cases hlt : k < n'
        · obtain ⟨bb, o, p, rfl, hbl, hp, c0, c1⟩ := rv_at (R4'.out.below HB.out) hlt
          have hkw : IntKind.i64.wrap ((k : Int) + 1) = (k : Int) + 1 := IntWalk.i64_in _ ⟨by omega, by omega⟩
          have HN := Lib.hid (adds_next (a := a) hp)
          have HF : Hid (rest p false (adds a (b.take k)) = add (adds a (b.take k)) p) := rest_false (asc_adds HRA.out.asc)
          have HLN := Lib.hid (len_adds_take (b := b) HRA.out.asc (k + 1))
          have hba : Below wr.heap.size wr (wr.alloc (.cells #[.int .i64 p.1, .int .i64 p.2] 24)) := (Below.refl _ _).alloc (Nat.le_refl _) _
          have HBA := Lib.hid (HB.out.trans (hba.mono HB.out.size))
          have HOA := Lib.hid ((HO.out.below hba).more hba.size)
          clear hp hba
          go_wp2_with fail
          generalize wr.alloc (.cells #[.int .i64 p.1, .int .i64 p.2] 24) = wA at *
          refine (refadd_any A7 n7 c7 (adds a (b.take k)) p wA HOA.out (by omega)).mono ?_
          rw [HF.out, ← HN.out]
          rintro e5 w5 ⟨v5, rfl, A5, n5, c5, rfl, hr5, -, hnc5, -, hb5⟩
          have hl5 := hr5.len
          have HR5 := Lib.hid hr5
          have HB5 := Lib.hid (HBA.out.trans (hb5.mono HBA.out.size))
          have hn5 : n5 ≤ 300 + (k + 1) := by have := HLN.out; have := HL.out; omega
          clear hr5 hb5 hl5
          go_wp2
          go_roundw
          case rel => exact ⟨k + 1, A5, n5, c5, by omega, by go_num, rfl, hn5, HR5.out, HB5.out⟩
          case measure => simp [intOf]; omega
        · have hkn : k = n' := by omega
          have ht : b.take k = b := List.take_of_length_le (by rw [HL'.out]; omega)
          rw [ht] at HO
          obtain rfl := HO.out.len
          have HRX := Lib.hid (HR4.out.below HB.out)
          go_wp2_with fail
          refine (refsame_any A2 A7 _ c2 c7 _ _ (adds a b) wr (by omega) HRX.out HO.out).mono ?_
          rintro e6 w6 ⟨rfl, q6, rfl⟩
          go_wp2
          go_ret
          exact ⟨rfl, below_drewN HBW.out _⟩
end Go.Proofs.Ytfmmpmpafgbidaa.Rv

/- Lemmas that the proof stands on, in build order: TokZ TokB TokC Shut Open ShaY OpenS OpenP. -/
import Derived.StillTailTactics
import Derived.Deep.RegionHeld3
import Derived.RegionTactic
import Derived.Deep.DeepCutAuto
import Derived.WalkKit
import Derived.ProofKit
import Derived.OpenShut
import Derived.Carry
import Derived.JoinedCond
import Derived.Test.YtmkdbpdfonpfdaaDoorRows
import Derived.LaidMore
import Derived.Stop.Joined
import Derived.Deep.Slices
import Derived.Deep.Fields
import Derived.Test.YtmkdbpdfonpfdaaDoorJ127b64a
import Derived.Test.YtmkdbpdfonpfdaaDoorJ30798c8
import Derived.Test.YtmkdbpdfonpfdaaDoorJ81f4fc8
/- Layer 10 (token): the walk of the law on what has its tag. -/
namespace Go.Proofs.YtmkdbpdfonpfdaaDoor.Tok
open Go.RowKit Slc Var Fld Frm Sha Hmc Rg

/-- What a program's other functions must do. -/
def DerOk : Prop := ∀ (A A' : Option Addr) (n c n' c' : Nat) (k : List Int) (s : ByteArray) (L : List Part) (w : World), Row .u8 w w.heap.size A n k → (A = none → c = 0) → n ≤ c → (∀ x ∈ k, 0 ≤ x ∧ x ≤ 255) → Prs w w.heap.size A' n' L → (A' = none → c' = 0) → n' ≤ c' → n ≤ 100000 → s.size ≤ 100000 → n' ≤ 100000 → total L ≤ 100000 → Lay w →
  Calls Tryd.prog 25 #[.slice A n c, .string s, .slice A' n' c'] w fun e w' => ∃ v, e = .returned v ∧ w'.ownsRow w.heap.size 5 1 v 32 ((mac k (sby s ++ 0 :: whole L)).map (Value.int .u8)) ∧ Below w.heap.size w w'
def SamOk : Prop := ∀ (A A' : Option Addr) (n c n' c' : Nat) (xs ys : List Int) (w : World), Row .u8 w w.heap.size A n xs → Row .u8 w w.heap.size A' n' ys → n ≤ 1000 → n' ≤ 1000 → (∀ x ∈ xs, 0 ≤ x ∧ x ≤ 255) → (∀ x ∈ ys, 0 ≤ x ∧ x ≤ 255) →
  Calls Tryd.prog 24 #[.slice A n c, .slice A' n' c'] w fun e w' => e = .returned (.bool (decide (xs = ys))) ∧ Below w.heap.size w w'

set_option maxHeartbeats 3200000 in
set_option maxRecDepth 100000 in
theorem tagged_walk (hmay : MayOk) (hfields : FieldsOk) (hfind : FindOk) (hder : DerOk) (hsam : SamOk) (hopen : OpenOk) (hiss : IssueOk) (hver : VerifyOk) (hnew : NewOk) (keep nw : Int) (A A' : Option Addr) (n c n' c' : Nat) (K : List Kp) (b : List Int) (w : World) (h : KRow w w.heap.size A n K) (hnil : A = none → c = 0) (hc : n ≤ c) (hm : c ≤ maxLen) (hkeep : -9223372036854775808 ≤ keep ∧ keep ≤ 9223372036854775807) (hnw : -9223372036854775808 ≤ nw ∧ nw ≤ 9223372036854775807)
    (h' : Row .u8 w w.heap.size A' n' b) (hnil' : A' = none → c' = 0) (hc' : n' ≤ c') (hm' : c' ≤ maxLen) (hb : Byt b) (hT : Lay w) :
    Calls Tryd.prog 6 #[.agg #[.int .i64 keep, .slice A n c], .slice A' n' c', .int .i64 nw] w fun x w' => x = .returned (.bool true) ∧ Below w.heap.size w w' := by
  have H := Lib.hid h
  have HD := Lib.hid h'
  have HNIL := Lib.hid hnil
  have HNIL' := Lib.hid hnil'
  have HT := Lib.hid hT
  have HC := Lib.hid hc
  have HC' := Lib.hid hc'
  have HM := Lib.hid (Nat.le_trans hc hm)
  have HM' := Lib.hid hm'
  have HKE := Lib.hid hkeep
  have HNW := Lib.hid hnw
  have HBY := Lib.hid hb
  have HVER := Lib.hid hver
  have HOPN := Lib.hid hopen
  have HFND := Lib.hid hfind
  have HFLD := Lib.hid hfields
  have HDER := Lib.hid hder
  have HSAM := Lib.hid hsam
  have HMAY := Lib.hid hmay
  have HX : Hid (Rx w keep A n c (w.alloc (.cells #[.int .i64 keep, .slice A n c] 24))) := Rx.new
  clear h hnil hc hm hkeep hT h' hnil' hc' hm' hnw hb
  go_enter Tryd.func6, Tryd.ntmps6
  go_wp2_with fail
  refine (awake_any hnew hiss hver _ (HT.out.below HX.out.bel HT.out.tab.1)).mono ?_
  rintro e1 w1 ⟨rfl, hb1⟩
  have HX1 := Lib.hid (HX.out.below hb1)
  clear hb1 HX
  have g0 := HX1.out.ring.1
  have g1 := HX1.out.ring.2
  go_wp2_with fail
  refine (few_any keep A n c w.heap.size K w1 (H.out.below HX1.out.bel) HX1.out.bel.size HM.out).mono ?_
  rintro e2 w2 ⟨⟨b2, rfl, hfew⟩, hb2⟩
  have HX2 := Lib.hid (HX1.out.below hb2)
  clear hb2 HX1 g0 g1
  cases b2 with
  | false =>
    go_wp2
    go_ret
    exact ⟨rfl, HX2.out.bel⟩
  | true =>
    obtain ⟨hn30, hk100⟩ := hfew rfl
    have HSM : Hid (Small n K) := ⟨by omega, fun k hk => by have := hk100 k hk; omega⟩
    have HK100 := Lib.hid hk100
    clear hfew hk100
    by_cases hbig : 500 < n'
    · have hd : decide ((500 : Int) < (n' : Int)) = true := by simp; omega
      go_wp2
      go_ret
      exact ⟨rfl, HX2.out.bel⟩
    have hd : decide ((500 : Int) < (n' : Int)) = false := by simp; omega
    have HNB : Hid (n' ≤ 4398046511104) := by unfold Hid; omega
    have HR2 := Lib.hid ((HD.out.below HX2.out.bel).more HX2.out.bel.size)
    have HK2 := Lib.hid ((H.out.below HX2.out.bel).more HX2.out.bel.size)
    have g0 := HX2.out.ring.1
    have g1 := HX2.out.ring.2
    have HYES := Lib.hid (verify_yes (E := ls K) (b := b) (nw := nw))
    have HZER := Lib.hid (verify_zero (E := ls K) (b := b) (nw := nw))
    have HOLEN := Lib.hid (opn_len b)
    have HOBY := Lib.hid (tagOf_byt HBY.out)
    have HFL := Lib.hid (fnd_le H.out HK100.out)
    have HFB := Lib.hid (fun e x => fnd_byt (e := e) (x := x) H.out)
    go_wp2_with fail
    refine (HVER.out keep nw A A' n c n' c' K b w2 HK2.out HNIL.out HC.out HSM.out HKE.out HNW.out HR2.out HNIL'.out HBY.out HC'.out HM'.out HNB.out (HT.out.below HX2.out.bel HT.out.tab.1)).mono ?_
    rintro e3 w3 ⟨rfl, hb3⟩
    generalize verify (ls K) b nw = v at *
    obtain ⟨⟨v0, v1, v2, v3, v4, v5⟩, ve⟩ := v
    simp only [T.val, T.cells]
    have HX3 := Lib.hid (HX2.out.below hb3)
    clear hb3 HX2 HK2 HR2 g0 g1
    have HX4 : Hid (Rx w keep A n c (w3.alloc (.cells #[.int .i64 v0, .int .i64 v1, .int .i64 v2, .int .i64 v3, .int .i64 v4, .int .i64 v5] 26))) := HX3.out.below below_new
    have HG4 : Hid (TokAt (w3.alloc (.cells #[.int .i64 v0, .int .i64 v1, .int .i64 v2, .int .i64 v3, .int .i64 v4, .int .i64 v5] 26)) w3.heap.size ⟨v0, v1, v2, v3, v4, v5⟩) := TokAt.blk (heap_alloc_new _ _)
    have HL4 : Hid (w3.heap.size < (w3.alloc (.cells #[.int .i64 v0, .int .i64 v1, .int .i64 v2, .int .i64 v3, .int .i64 v4, .int .i64 v5] 26)).heap.size) := by unfold Hid; simp
    clear HX3
    obtain ⟨a0, a1, a2, a3, a4, a5⟩ := HG4.out
    by_cases hve : ve = 0
    · subst hve
      obtain ⟨hoe, hvo, hmy, hkk, hlo, hhi⟩ := HYES.out rfl
      have hd1 : (((0 : Nat) : Int) != 0) = false := rfl
      clear HYES HZER
      go_wp2_with fail
      generalize w3.alloc (.cells #[.int .i64 v0, .int .i64 v1, .int .i64 v2, .int .i64 v3, .int .i64 v4, .int .i64 v5] 26) = w4 at *
      generalize w3.heap.size = G3 at *
      refine (HOPN.out A' n' c' b w4 ((HD.out.below HX4.out.bel).more HX4.out.bel.size) HNIL'.out HBY.out HC'.out HM'.out HNB.out (HT.out.below HX4.out.bel HT.out.tab.1)).mono ?_
      rintro e5 w5 ⟨A5, n5, c5, rfl, hr5, hnil5, hnc5, hb5⟩
      generalize opn b = r at *
      obtain ⟨o, og, oe⟩ := r
      simp only at hoe hvo hmy hkk hlo hhi hr5
      subst hoe
      obtain rfl : o = ⟨v0, v1, v2, v3, v4, v5⟩ := hvo.symm
      obtain ⟨k, hk, hog⟩ := hkk
      simp only at hk hlo hhi
      simp only [T.val, T.cells]
      have HHK := Lib.hid hk
      have HHG := Lib.hid hog
      have HLO := Lib.hid hlo
      have HHI := Lib.hid hhi
      have HMY := Lib.hid hmy
      have HX5 := Lib.hid (HX4.out.below hb5)
      have HG5 := Lib.hid (HG4.out.below hb5 HL4.out)
      have HL5 : Hid (G3 < w5.heap.size) := Nat.lt_of_lt_of_le HL4.out hb5.size
      have HR5 : Hid (Row .u8 w5 w5.heap.size A5 n5 og) := hr5
      clear hk hog hlo hhi hmy hr5 hnil5 hnc5 hb5 HX4 HG4 HL4 a0 a1 a2 a3 a4 a5 hvo
      have HX6 : Hid (Rx w keep A n c (w5.alloc (.cells #[.int .i64 v0, .int .i64 v1, .int .i64 v2, .int .i64 v3, .int .i64 v4, .int .i64 v5] 26))) := HX5.out.below below_new
      have HG6 : Hid (TokAt (w5.alloc (.cells #[.int .i64 v0, .int .i64 v1, .int .i64 v2, .int .i64 v3, .int .i64 v4, .int .i64 v5] 26)) G3 ⟨v0, v1, v2, v3, v4, v5⟩) := HG5.out.below below_new HL5.out
      have HH6 : Hid (TokAt (w5.alloc (.cells #[.int .i64 v0, .int .i64 v1, .int .i64 v2, .int .i64 v3, .int .i64 v4, .int .i64 v5] 26)) w5.heap.size ⟨v0, v1, v2, v3, v4, v5⟩) := TokAt.blk (heap_alloc_new _ _)
      have HL6 : Hid (w5.heap.size < (w5.alloc (.cells #[.int .i64 v0, .int .i64 v1, .int .i64 v2, .int .i64 v3, .int .i64 v4, .int .i64 v5] 26)).heap.size) := by unfold Hid; simp
      have HR6 := Lib.hid ((HR5.out.below (below_new (w := w5) (o := (.cells #[.int .i64 v0, .int .i64 v1, .int .i64 v2, .int .i64 v3, .int .i64 v4, .int .i64 v5] 26)))).more (below_new (w := w5) (o := (.cells #[.int .i64 v0, .int .i64 v1, .int .i64 v2, .int .i64 v3, .int .i64 v4, .int .i64 v5] 26))).size)
      clear HX5 HG5 HR5
      have g0 := HX6.out.ring.1
      have g1 := HX6.out.ring.2
      have a5 := HG6.out.2.2.2.2.2
      go_wp2_with fail
      generalize w5.alloc (.cells #[.int .i64 v0, .int .i64 v1, .int .i64 v2, .int .i64 v3, .int .i64 v4, .int .i64 v5] 26) = w6 at *
      generalize w5.heap.size = G5 at *
      refine (HFND.out keep v5 A n c K w6 ((H.out.below HX6.out.bel).more HX6.out.bel.size) HNIL.out HC.out HSM.out HKE.out HMY.out.ok.ep).mono ?_
      rintro e7 w7 ⟨A7, n7, c7, rfl, hr7, hnil7, hnc7, hb7⟩
      rw [HHK.out] at hr7
      rw [HHK.out]
      simp only [Option.isSome_some, Option.getD_some] at hr7 ⊢
      have HX7 := Lib.hid (HX6.out.below hb7)
      have HG7 := Lib.hid (HG6.out.below hb7 (Nat.lt_trans HL5.out HL6.out))
      have HH7 := Lib.hid (HH6.out.below hb7 HL6.out)
      have HL7 : Hid (G5 < w7.heap.size) := Nat.lt_of_lt_of_le HL6.out hb7.size
      have HR7 := Lib.hid hr7
      have HN7 := Lib.hid hnil7
      have HC7 := Lib.hid hnc7
      have HR67 := Lib.hid ((HR6.out.below hb7).more hb7.size)
      clear hr7 hnil7 hnc7 hb7 HX6 HG6 HH6 HL6 HR6 g0 g1 a5
      obtain ⟨a0, a1, a2, a3, a4, a5⟩ := HG7.out
      obtain ⟨b0, b1, b2, b3, b4, b5⟩ := HH7.out
      have hd2 : (((0 : Nat) : Int) == 0) = true := rfl
      go_wp2_with fail
      refine (HFLD.out ⟨v0, v1, v2, v3, v4, v5⟩ w7 HMY.out.ok).mono ?_
      rintro e8 w8 ⟨v8, rfl, ho8, hb8⟩
      have hfl60 := flds_len HMY.out.ok
      have hflb := flds_byt ⟨v0, v1, v2, v3, v4, v5⟩
      obtain ⟨fl, hfe⟩ : ∃ fl, fl = flds ⟨v0, v1, v2, v3, v4, v5⟩ := ⟨_, rfl⟩
      rw [← hfe] at ho8 hfl60 hflb
      have HFE := Lib.hid hfe
      have HF60 := Lib.hid hfl60
      have HFLB := Lib.hid hflb
      clear hfe hfl60 hflb
      obtain ⟨A8, c8, rfl, hnc8, hnil8⟩ := own_slice ho8
      have HX8 := Lib.hid (HX7.out.below hb8)
      have HG8 := Lib.hid (HG7.out.below hb8 (Nat.lt_trans HL5.out HL7.out))
      have HR8 := Lib.hid (Row.of_own ho8)
      have HN8 := Lib.hid hnil8
      have HC8 := Lib.hid hnc8
      have HR78 := Lib.hid ((HR7.out.below hb8).more hb8.size)
      have HR68 := Lib.hid ((HR67.out.below hb8).more hb8.size)
      have HL8 : Hid (G3 < w8.heap.size) := Nat.lt_of_lt_of_le (Nat.lt_trans HL5.out HL7.out) hb8.size
      clear ho8 hb8 hnc8 hnil8 a0 a1 a2 a3 a4 a5 b0 b1 b2 b3 b4 b5 HX7 HG7 HH7 HL7 HR7 HR67
      go_wp2_with fail
      have HX9 : Hid (Rx w keep A n c (w8.alloc (.cells #[.slice A8 fl.length c8] 29))) := HX8.out.below below_new
      have HP9 : Hid (Prs (w8.alloc (.cells #[.slice A8 fl.length c8] 29)) (w8.alloc (.cells #[.slice A8 fl.length c8] 29)).heap.size (some ⟨w8.heap.size, 0, none⟩) 1 [⟨A8, fl.length, c8, fl⟩]) := by
        refine ⟨rfl, fun _ => ⟨w8.heap.size, 0, rfl, by simp, fun j hj => ?_⟩, fun p hp => ?_, fun p hp => ?_⟩
        · obtain rfl : j = 0 := by simp at hj; omega
          exact cell_of_blk (heap_alloc_new w8 _) rfl
        · obtain rfl := List.mem_singleton.1 hp
          exact ⟨(HR8.out.below (below_new (w := w8) (o := .cells #[.slice A8 fl.length c8] 29))).more (below_new (w := w8) (o := .cells #[.slice A8 fl.length c8] 29)).size, HN8.out⟩
        · obtain rfl := List.mem_singleton.1 hp
          exact ⟨HC8.out, HFLB.out⟩
      have HR79 := Lib.hid ((HR78.out.below (below_new (w := w8) (o := .cells #[.slice A8 fl.length c8] 29))).more (below_new (w := w8) (o := .cells #[.slice A8 fl.length c8] 29)).size)
      have HR69 := Lib.hid ((HR68.out.below (below_new (w := w8) (o := .cells #[.slice A8 fl.length c8] 29))).more (below_new (w := w8) (o := .cells #[.slice A8 fl.length c8] 29)).size)
      have HG9 := Lib.hid (HG8.out.below (below_new (w := w8) (o := .cells #[.slice A8 fl.length c8] 29)) HL8.out)
      have HL9 : Hid (G3 < (w8.alloc (.cells #[.slice A8 fl.length c8] 29)).heap.size) := Nat.lt_of_lt_of_le HL8.out (below_new (w := w8) (o := .cells #[.slice A8 fl.length c8] 29)).size
      have hk7 : n7 ≤ 100 := by
        have h1 := HFL.out v5
        rw [HHK.out] at h1
        rw [← HR79.out.len]
        exact h1
      have eW : whole [(⟨A8, fl.length, c8, fl⟩ : Part)] = fl := by simp [whole]
      have eM : mac k (sby ⟨#[116, 111, 107, 101, 110]⟩ ++ 0 :: whole [(⟨A8, fl.length, c8, fl⟩ : Part)]) = og := by
        rw [eW, HHG.out, tagT_eq, ← HFE.out]
        show mac k (sby tokB ++ 0 :: fl) = _
        rw [tokB_sby]
      have EM := Lib.hid eM
      have HK7 := Lib.hid hk7
      clear HG8 HX8 HR8 HN8 HC8 HR78 HR68 HL8 eW eM hk7
      generalize w8.alloc (.cells #[.slice A8 fl.length c8] 29) = w9 at *
      generalize w8.heap.size = G8 at *
      refine (HDER.out A7 _ n7 c7 1 1 k _ _ w9 HR79.out HN7.out HC7.out (HFB.out _ _ HHK.out) HP9.out (fun h => by cases h) (Nat.le_refl _) (by have := HK7.out; omega) (by show 5 ≤ 100000; omega) (by omega) (by have := HF60.out; simp [total]; omega) (HT.out.below HX9.out.bel HT.out.tab.1)).mono ?_
      rintro e10 w10 ⟨v10, rfl, ho10, hb10⟩
      rw [EM.out] at ho10
      obtain ⟨A10, c10, rfl, -, -⟩ := own_slice ho10
      have HX10 := Lib.hid (HX9.out.below hb10)
      have HG10 := Lib.hid (HG9.out.below hb10 HL9.out)
      have HR10 := Lib.hid (Row.of_own ho10)
      have HR610 := Lib.hid ((HR69.out.below hb10).more hb10.size)
      have HL10 : Hid (G3 < w10.heap.size) := Nat.lt_of_lt_of_le HL9.out hb10.size
      clear ho10 hb10 HX9 HP9 HR79 HR69 HG9 HL9
      go_wp2_with fail
      refine (HSAM.out A5 A10 n5 c5 32 c10 og og w10 HR610.out HR10.out (by have h1 := HOLEN.out; have h2 := HR610.out.len; omega) (by omega) HOBY.out HOBY.out).mono ?_
      rintro e11 w11 ⟨he11, hb11⟩
      rw [decide_eq_true rfl] at he11
      subst he11
      have HX11 := Lib.hid (HX10.out.below hb11)
      have HG11 := Lib.hid (HG10.out.below hb11 HL10.out)
      clear hb11 HX10 HG10 HR10 HR610
      obtain ⟨a0, a1, a2, a3, a4, a5⟩ := HG11.out
      have hd3 : decide (v3 ≤ nw) = true := decide_eq_true HLO.out
      have hd4 : decide (nw ≤ v4) = true := decide_eq_true HHI.out
      go_wp2_with fail
      refine (HMAY.out ⟨v0, v1, v2, v3, v4, v5⟩ w11 HMY.out.ok).mono ?_
      rintro e12 w12 ⟨rfl, hb12⟩
      rw [decide_eq_true HMY.out]
      have HX12 := Lib.hid (HX11.out.below hb12)
      clear hb12
      go_wp2
      go_ret
      exact ⟨rfl, HX12.out.bel⟩
    · have hd1 : ((ve : Int) != 0) = true := bne_iff_ne.2 (by omega)
      have hz := HZER.out hve
      simp only [T.zero, T.mk.injEq] at hz
      obtain ⟨rfl, rfl, rfl, rfl, rfl, rfl⟩ := hz
      clear HYES HZER
      go_wp2
      go_ret
      exact ⟨rfl, HX4.out.bel⟩
end Go.Proofs.YtmkdbpdfonpfdaaDoor.Tok

/- Layer 10 (token): there and back, behind rotations: the mathematics. -/
namespace Go.Proofs.YtmkdbpdfonpfdaaDoor.Tok
open Go.RowKit Slc Var Fld Frm Sha Hmc Rg

theorem fnd_some {E : List Kl} {e : Int} {k : List Int} (h : fnd E e = some k) : ∃ (j : Nat) (q : Kl), E[j]? = some q ∧ q.1 = e ∧ q.2 = k := by
  unfold fnd at h
  cases hf : E.find? (fun q => q.1 == e) with
  | none => rw [hf] at h; cases h
  | some q =>
    rw [hf] at h
    obtain ⟨j, hj⟩ := List.getElem?_of_mem (List.mem_of_find?_eq_some hf)
    have h1 : q.1 = e := by simpa using List.find?_some hf
    exact ⟨j, q, hj, h1, by simpa using h⟩
/-- A right ring's epochs, one behind the other. -/
theorem rt_first {keep : Int} {E : List Kl} (h : RtP keep E) : ∃ q, E[0]? = some q ∧ now E = q.1 + (E.length : Int) - 1 := by
  have hl := h.2.2.1
  obtain ⟨q, hq⟩ : ∃ q, E[0]? = some q := ⟨E[0]'(by omega), List.getElem?_eq_getElem _⟩
  obtain ⟨k, hk⟩ : ∃ k, E[E.length - 1]? = some k := ⟨E[E.length - 1]'(by omega), List.getElem?_eq_getElem _⟩
  refine ⟨q, hq, ?_⟩
  rw [now_at hk, rt_at h hk hq]
  omega
theorem rt_has {keep : Int} {E : List Kl} (h : RtP keep E) {q : Kl} (hq : E[0]? = some q) {e : Int} (h1 : q.1 ≤ e) (h2 : e ≤ now E) : ∃ k, fnd E e = some k := by
  obtain ⟨q', hq', hn⟩ := rt_first h
  rw [hq] at hq'
  obtain rfl : q = q' := by injection hq'
  have hj : (e - q.1).toNat < E.length := by omega
  have hk : E[(e - q.1).toNat]? = some E[(e - q.1).toNat] := List.getElem?_eq_getElem hj
  have h3 := rt_at h hk hq
  have h4 := fnd_at h hk
  rw [h3, show q.1 + (((e - q.1).toNat : Nat) : Int) = e by omega] at h4
  exact ⟨_, h4⟩
/-- Behind a rotation a key is kept, or too old. -/
theorem tok_keeps {keep : Int} {E : List Kl} (h : RtP keep E) (hn : now E < 1048576) (d : List Int) {e : Int} {k0 : List Int} (he : e ≤ now E) (hf : fnd E e = some k0) :
    fnd (rot keep E d) e = some k0 ∨ (fnd (rot keep E d) e = none ∧ keep ≤ now (rot keep E d) - e) := by
  have hR := rt_rot h hn d
  have hnow := now_rot keep E d
  have hlen := rot_len keep E d
  obtain ⟨q0, hq0, hN⟩ := rt_first hR
  cases hc : fnd (rot keep E d) e with
  | some k =>
    left
    obtain ⟨j, q, hj, h1, h2⟩ := fnd_some hc
    have hjl := (List.getElem?_eq_some_iff.1 hj).1
    have h3 := rt_at hR hj hq0
    have h4 := rot_keeps h d (j := j) (k := q) (by omega) hj
    rw [h1, hf] at h4
    rw [h4, h2]
  | none =>
    right
    refine ⟨rfl, ?_⟩
    have hlt : e < q0.1 := by
      by_cases hx : q0.1 ≤ e
      · obtain ⟨k, hk⟩ := rt_has hR hq0 hx (by omega)
        rw [hk] at hc; cases hc
      · omega
    obtain ⟨p0, hp0, hM⟩ := rt_first h
    obtain ⟨j, q, hj, h1, -⟩ := fnd_some hf
    have h3 := rt_at h hj hp0
    have hl := h.2.2.2.1
    by_cases hk : (E.length : Int) + 1 ≤ keep
    · omega
    · omega
/-- While a token is carried behind rotations. -/
structure Carry (keep : Int) (E : List Kl) (ep : Int) (k0 : List Int) : Prop where
  right : RtP keep E
  late : ep ≤ now E
  key : fnd E ep = some k0 ∨ (fnd E ep = none ∧ keep ≤ now E - ep)
theorem carry_start {keep : Int} {E : List Kl} (h : RtP keep E) : Carry keep E (now E) (lastK E) := by
  have hl := h.2.2.1
  have hk : E[E.length - 1]? = some (E[E.length - 1]'(by omega)) := List.getElem?_eq_getElem _
  refine ⟨h, Int.le_refl _, .inl ?_⟩
  rw [now_at hk, lastK_at hk]
  exact fnd_at h hk
theorem Carry.rot {keep : Int} {E : List Kl} {ep : Int} {k0 : List Int} (h : Carry keep E ep k0) (hf : fnd E ep = some k0) (hn : now E < 1048576) (d : List Int) : Carry keep (rot keep E d) ep k0 :=
  ⟨rt_rot h.right hn d, by have := now_rot keep E d; have := h.late; omega, tok_keeps h.right hn d h.late hf⟩
theorem at_in {is un : Int} (h : is ≤ un) (i : Nat) : is ≤ is + (i : Int).tmod (un - is + 1) ∧ is + (i : Int).tmod (un - is + 1) ≤ un := by
  have h1 : (i : Int).tmod (un - is + 1) = (i : Int) % (un - is + 1) := Int.tmod_eq_emod_of_nonneg (by omega)
  rw [h1]
  have h2 := Int.emod_nonneg (i : Int) (b := un - is + 1) (by omega)
  have h3 := Int.emod_lt_of_pos (i : Int) (b := un - is + 1) (by omega)
  omega
end Go.Proofs.YtmkdbpdfonpfdaaDoor.Tok

/- Layer 10 (token): the walk of the law on there and back. -/
namespace Go.Proofs.YtmkdbpdfonpfdaaDoor.Tok
open Go.RowKit Slc Var Fld Frm Sha Hmc Rg

/-- While a token is carried behind rotations: the ring's block G, the token's block G + 1, the token's bytes. -/
structure Bk (w0 : World) (keep : Int) (A : Option Addr) (n c : Nat) (K : List Kp) (t : T) (Ab : Option Addr) (nb : Nat) (bs : List Int) (w' : World) : Prop where
  ring : w'.heap[w0.heap.size]? = some (.cells #[.int .i64 keep, .slice A n c] 24 (0, 0))
  tok : w'.heap[w0.heap.size + 1]? = some (.cells t.cells 26 (0, 0))
  keys : KRow w' w'.heap.size A n K
  row : Row .u8 w' w'.heap.size Ab nb bs
  bel : Below w0.heap.size w0 w'
section
variable {w0 w1 w2 : World} {keep : Int} {A Ab : Option Addr} {n c nb : Nat} {K : List Kp} {t : T} {bs : List Int}
theorem Bk.size (h : Bk w0 keep A n c K t Ab nb bs w1) : w0.heap.size + 2 ≤ w1.heap.size := (Array.getElem?_eq_some_iff.1 h.tok).1
theorem Bk.below (h : Bk w0 keep A n c K t Ab nb bs w1) (hb : Below w1.heap.size w1 w2) : Bk w0 keep A n c K t Ab nb bs w2 :=
  have h2 := h.size
  ⟨(hb.block _ (by omega)).trans h.ring, (hb.block _ (by omega)).trans h.tok, (h.keys.below hb).more hb.size, (h.row.below hb).more hb.size, h.bel.trans (hb.mono h.bel.size)⟩
theorem Bk.cells (h : Bk w0 keep A n c K t Ab nb bs w1) : w1.cell? ⟨w0.heap.size, 0, none⟩ = some (.int .i64 keep) ∧ w1.cell? ⟨w0.heap.size, 1, none⟩ = some (.slice A n c) := ⟨cell_of_blk h.ring rfl, cell_of_blk h.ring rfl⟩
theorem Bk.tokAt (h : Bk w0 keep A n c K t Ab nb bs w1) : TokAt w1 (w0.heap.size + 1) t := TokAt.blk h.tok
/-- A row of bytes does not lie in a block that holds none. -/
theorem row_not {B g : Nat} {cs : Array Value} {ty : TypeId} (h : Row .u8 w1 B Ab nb bs) (hg : w1.heap[g]? = some (.cells cs ty (0, 0))) (hx : ∀ (j : Nat) z, cs[j]? ≠ some (.int .u8 z)) : 0 < nb → ∀ b o, Ab = some ⟨b, o, none⟩ → b < B → b ≠ g := by
  intro hn b o e _ hbg
  subst hbg
  obtain ⟨b', o', e', _, hc⟩ := h.cell_at hn
  rw [e] at e'
  injection e' with e'
  injection e' with e1 e2
  subst e1 e2
  rw [cell_of_row w1 b (o + 0) cs ty (0, 0) hg] at hc
  exact hx _ _ hc
theorem two_no {x : Int} {A : Option Addr} {n c : Nat} : ∀ (j : Nat) z, (#[Value.int .i64 x, .slice A n c] : Array Value)[j]? ≠ some (.int .u8 z)
  | 0, z => by simp
  | 1, z => by simp
  | j + 2, z => by simp
theorem tok_no {t : T} : ∀ (j : Nat) z, t.cells[j]? ≠ some (.int .u8 z)
  | 0, z => by simp [T.cells]
  | 1, z => by simp [T.cells]
  | 2, z => by simp [T.cells]
  | 3, z => by simp [T.cells]
  | 4, z => by simp [T.cells]
  | 5, z => by simp [T.cells]
  | j + 6, z => by simp [T.cells]
theorem row_set {g : Nat} {cs : Array Value} {ty : TypeId} (h : Row .u8 w1 w1.heap.size Ab nb bs) (hg : w1.heap[g]? = some (.cells cs ty (0, 0))) (hx : ∀ (j : Nat) z, cs[j]? ≠ some (.int .u8 z)) (hO : Only (fun k => k = g) w1 w2) : Row .u8 w2 w2.heap.size Ab nb bs := by
  rcases Nat.eq_zero_or_pos nb with h0 | h0
  · have := h.len
    subst h0
    exact ⟨this, fun hh => absurd hh (by omega)⟩
  · exact (hO.row h (Nat.le_refl _) (fun b o e hb hm => row_not h hg hx h0 b o e hb hm)).more hO.size
/-- The ring's variable gets another ring. -/
theorem Bk.store {A2 : Option Addr} {n2 c2 : Nat} {K2 : List Kp} (h : Bk w0 keep A n c K t Ab nb bs w1) (hk : KRow w1 w1.heap.size A2 n2 K2) (hni : NotIn w0.heap.size n2 A2 K2) :
    Bk w0 keep A2 n2 c2 K2 t Ab nb bs ((w1.setCell ⟨w0.heap.size, 0, none⟩ (.int .i64 keep)).setCell ⟨w0.heap.size, 1, none⟩ (.slice A2 n2 c2)) := by
  have hO : Only (fun k => k = w0.heap.size) w1 ((w1.setCell ⟨w0.heap.size, 0, none⟩ (.int .i64 keep)).setCell ⟨w0.heap.size, 1, none⟩ (.slice A2 n2 c2)) := (Only.setCell w1 ⟨w0.heap.size, 0, none⟩ _).trans (Only.setCell _ ⟨w0.heap.size, 1, none⟩ _) (fun _ _ h => h)
  refine ⟨set_blk (set_blk h.ring), hO.at h.tok (by omega), (hk.set hni hO (Nat.le_refl _)).more hO.size, row_set h.row h.ring two_no hO, (h.bel.setCell (Nat.le_refl _) _).setCell (Nat.le_refl _) _⟩
/-- The token's variable gets an epoch. -/
theorem Bk.epoch {u : Value} {tr ac st is un ep ep2 : Int} (h : Bk w0 keep A n c K ⟨tr, ac, st, is, un, ep⟩ Ab nb bs w1) (hni : NotIn (w0.heap.size + 1) n A K) (hu : u = .int .i64 ep2) : Bk w0 keep A n c K ⟨tr, ac, st, is, un, ep2⟩ Ab nb bs (w1.setCell ⟨w0.heap.size + 1, 5, none⟩ u) := by
  subst hu
  have hO : Only (fun k => k = w0.heap.size + 1) w1 (w1.setCell ⟨w0.heap.size + 1, 5, none⟩ (.int .i64 ep2)) := Only.setCell w1 ⟨w0.heap.size + 1, 5, none⟩ _
  exact ⟨hO.at h.ring (by omega), set_blk h.tok, (h.keys.set hni hO (Nat.le_refl _)).more hO.size, row_set h.row h.tok tok_no hO, h.bel.setCell (by simp) _⟩
end

/-- Behind a rotation: what was answered lies in block G6. -/
structure Nxt (G : Nat) (wf : World) (keep : Int) (E : List Kl) (d : List Int) (G6 : Nat) (kk : Int) (A5 : Option Addr) (n5 c5 : Nat) (e5 : Int) (w' : World) : Prop where
  blk : w'.heap[G6]? = some (.cells #[.int .i64 kk, .slice A5 n5 c5] 24 (0, 0))
  bel : Below wf.heap.size wf w'
  no : ¬ (RtP keep E ∧ d.length = 32 ∧ now E ≠ 1048576) → e5 ≠ 0
  yes : RtP keep E ∧ d.length = 32 ∧ now E ≠ 1048576 → e5 = 0 ∧ kk = keep ∧ ∃ K5, KRow w' w'.heap.size A5 n5 K5 ∧ ls K5 = rot keep E d ∧ NotIn G n5 A5 K5 ∧ (A5 = none → c5 = 0) ∧ n5 ≤ c5
section
variable {G : Nat} {wf wx w5 : World} {keep : Int} {E : List Kl} {d : List Int} {kk : Int} {A5 : Option Addr} {n5 c5 : Nat} {e5 : Int}
theorem nxt_no (hno : ¬ (RtP keep E ∧ d.length = 32) → e5 = 2 ∧ n5 = 0) (htop : RtP keep E ∧ d.length = 32 → now E = 1048576 → e5 = 3 ∧ n5 = 0) : ¬ (RtP keep E ∧ d.length = 32 ∧ now E ≠ 1048576) → e5 ≠ 0 := fun h => by
  by_cases h1 : RtP keep E ∧ d.length = 32
  · by_cases h2 : now E = 1048576
    · have := (htop h1 h2).1; omega
    · exact absurd ⟨h1.1, h1.2, h2⟩ h
  · have := (hno h1).1; omega
theorem nxt_alloc (hbx : Below wf.heap.size wf wx) (hb5 : Below wx.heap.size wx w5) (hno : ¬ (RtP keep E ∧ d.length = 32) → e5 = 2 ∧ n5 = 0) (htop : RtP keep E ∧ d.length = 32 → now E = 1048576 → e5 = 3 ∧ n5 = 0)
    (hyes : RtP keep E ∧ d.length = 32 → now E ≠ 1048576 → e5 = 0 ∧ kk = keep ∧ ∃ K, KRow w5 w5.heap.size A5 n5 K ∧ ls K = rot keep E d ∧ Small n5 K ∧ Fresh wx.heap.size A5 K ∧ (A5 = none → c5 = 0) ∧ n5 ≤ c5) (hG : G < wf.heap.size) :
    Nxt G wf keep E d w5.heap.size kk A5 n5 c5 e5 (w5.alloc (.cells #[.int .i64 kk, .slice A5 n5 c5] 24)) := by
  have hba : Below w5.heap.size w5 (w5.alloc (.cells #[.int .i64 kk, .slice A5 n5 c5] 24)) := (Below.refl _ _).alloc (Nat.le_refl _) _
  refine ⟨heap_alloc_new w5 _, (hbx.trans (hb5.mono hbx.size)).trans (hba.mono (Nat.le_trans hbx.size hb5.size)), nxt_no hno htop, fun h => ?_⟩
  obtain ⟨h1, h2, K, h3, h4, -, h6, h7, h8⟩ := hyes ⟨h.1, h.2.1⟩ h.2.2
  exact ⟨h1, h2, K, (h3.below hba).more hba.size, h4, h6.notIn (Nat.lt_of_lt_of_le hG hbx.size), h7, h8⟩
theorem nxt_set (hbx : Below wf.heap.size wf wx) (hb5 : Below wx.heap.size wx w5) (hno : ¬ (RtP keep E ∧ d.length = 32) → e5 = 2 ∧ n5 = 0) (htop : RtP keep E ∧ d.length = 32 → now E = 1048576 → e5 = 3 ∧ n5 = 0)
    (hyes : RtP keep E ∧ d.length = 32 → now E ≠ 1048576 → e5 = 0 ∧ kk = keep ∧ ∃ K, KRow w5 w5.heap.size A5 n5 K ∧ ls K = rot keep E d ∧ Small n5 K ∧ Fresh wx.heap.size A5 K ∧ (A5 = none → c5 = 0) ∧ n5 ≤ c5) (hG : G < wf.heap.size) (hx : wf.heap.size < wx.heap.size) {u v : Value} (hblk : w5.heap[wf.heap.size]? = some (.cells #[u, v] 24 (0, 0))) :
    Nxt G wf keep E d wf.heap.size kk A5 n5 c5 e5 ((w5.setCell ⟨wf.heap.size, 0, none⟩ (.int .i64 kk)).setCell ⟨wf.heap.size, 1, none⟩ (.slice A5 n5 c5)) := by
  have hO : Only (fun k => k = wf.heap.size) w5 ((w5.setCell ⟨wf.heap.size, 0, none⟩ (.int .i64 kk)).setCell ⟨wf.heap.size, 1, none⟩ (.slice A5 n5 c5)) := (Only.setCell w5 ⟨wf.heap.size, 0, none⟩ _).trans (Only.setCell _ ⟨wf.heap.size, 1, none⟩ _) (fun _ _ h => h)
  have hb := hbx.trans (hb5.mono hbx.size)
  refine ⟨set_blk (set_blk hblk), hb.trans (hO.below hb.size (fun k hk => Nat.le_of_eq hk.symm)), nxt_no hno htop, fun h => ?_⟩
  obtain ⟨h1, h2, K, h3, h4, -, h6, h7, h8⟩ := hyes ⟨h.1, h.2.1⟩ h.2.2
  exact ⟨h1, h2, K, (h3.set (h6.notIn hx) hO (Nat.le_refl _)).more hO.size, h4, h6.notIn (Nat.lt_of_lt_of_le hG hbx.size), h7, h8⟩
end

set_option maxHeartbeats 3200000 in
set_option maxRecDepth 100000 in
theorem back_walk (hiss : IssueOk) (hver : VerifyOk) (hnew : NewOk) (hnow : NowOk) (hfind : FindOk) (hrot : RotateOk) (keep : Int) (A A' : Option Addr) (n c n' c' : Nat) (K : List Kp) (t : T) (L : List Part) (w : World) (ht : t.ok) (h : KRow w w.heap.size A n K) (hnil : A = none → c = 0) (hc : n ≤ c) (hm : c ≤ maxLen) (hkeep : -9223372036854775808 ≤ keep ∧ keep ≤ 9223372036854775807)
    (hp : Prs w w.heap.size A' n' L) (hL : ∀ p ∈ L, p.n ≤ maxLen) (hT : Lay w) :
    Calls Tryd.prog 5 #[.agg #[.int .i64 keep, .slice A n c], t.val, .slice A' n' c'] w fun x w' => x = .returned (.bool true) ∧ Below w.heap.size w w' := by
  have H := Lib.hid h
  have HP := Lib.hid hp
  have HL := Lib.hid hL
  have HNIL := Lib.hid hnil
  have HT := Lib.hid hT
  have HC := Lib.hid hc
  have HM := Lib.hid (Nat.le_trans hc hm)
  have HKE := Lib.hid hkeep
  have HTO := Lib.hid ht
  have HG0 : Hid (((w.alloc (.cells #[.int .i64 keep, .slice A n c] 24)).alloc (.cells t.cells 26)).heap[w.heap.size]? = some (.cells #[.int .i64 keep, .slice A n c] 24 (0, 0))) := heap_alloc2_old w _ _
  have HG1 : Hid (((w.alloc (.cells #[.int .i64 keep, .slice A n c] 24)).alloc (.cells t.cells 26)).heap[w.heap.size + 1]? = some (.cells t.cells 26 (0, 0))) := heap_alloc2_new w _ _
  have HB0 : Hid (Below w.heap.size w ((w.alloc (.cells #[.int .i64 keep, .slice A n c] 24)).alloc (.cells t.cells 26))) := ((Below.refl _ _).alloc (Nat.le_refl _) _).alloc (by simp) _
  have HISS := Lib.hid hiss
  have HVER := Lib.hid hver
  have HNOW := Lib.hid hnow
  have HFND := Lib.hid hfind
  have HROT := Lib.hid hrot
  clear h hp hL hnil hc hm hkeep hT ht
  obtain ⟨utr, uac, ust, uis, uun, uep⟩ := t
  unfold T.val
  simp only [T.cells] at *
  go_enter Tryd.func5, Tryd.ntmps5
  go_wp2_with fail
  refine (awake_any hnew hiss hver _ (HT.out.below HB0.out HT.out.tab.1)).mono ?_
  rintro e1 w1 ⟨rfl, hb1⟩
  have hbk : Bk w keep A n c K ⟨utr, uac, ust, uis, uun, uep⟩ none 0 [] w1 := ⟨(hb1.block _ (by simp; omega)).trans HG0.out, (hb1.block _ (by simp)).trans HG1.out, (H.out.below (HB0.out.trans (hb1.mono HB0.out.size))).more (Nat.le_trans HB0.out.size hb1.size), Row.none_, HB0.out.trans (hb1.mono HB0.out.size)⟩
  have HX1 := Lib.hid hbk
  clear hb1 hbk HG0 HG1 HB0
  obtain ⟨g0, g1⟩ := HX1.out.cells
  go_wp2_with fail
  refine (few_any keep A n c w1.heap.size K w1 HX1.out.keys (Nat.le_refl _) HM.out).mono ?_
  rintro e2 w2 ⟨⟨b2, rfl, hfew⟩, hb2⟩
  have HX2 := Lib.hid (HX1.out.below hb2)
  clear hb2 HX1 g0 g1
  cases b2 with
  | false =>
    go_wp2
    go_ret
    exact ⟨rfl, HX2.out.bel⟩
  | true =>
    obtain ⟨hn30, hk100⟩ := hfew rfl
    have HSM : Hid (Small n K) := ⟨by omega, fun k hk => by have := hk100 k hk; omega⟩
    clear hfew hk100
    by_cases hbig : 20 < n'
    · have hd : decide ((20 : Int) < (n' : Int)) = true := by simp; omega
      go_wp2
      go_ret
      exact ⟨rfl, HX2.out.bel⟩
    have hd : decide ((20 : Int) < (n' : Int)) = false := by simp; omega
    by_cases hzero : n' = 0
    · have hd2 : ((n' : Int) == 0) = true := by simp; omega
      have hd3 : decide ((n' : Int) = 0) = true := by simp; omega
      go_wp2
      go_ret
      exact ⟨rfl, HX2.out.bel⟩
    have hd2 : ((n' : Int) == 0) = false := by simp; omega
    have hd3 : decide ((n' : Int) = 0) = false := by simp; omega
    obtain ⟨g0, g1⟩ := HX2.out.cells
    obtain ⟨a0, a1, a2, a3, a4, a5⟩ := HX2.out.tokAt
    go_wp2_with fail
    refine (HISS.out keep A n c K ⟨utr, uac, ust, uis, uun, uep⟩ w2 HTO.out HX2.out.keys HNIL.out HC.out HSM.out HKE.out (HT.out.below HX2.out.bel HT.out.tab.1)).mono ?_
    rintro e3 w3 ⟨A3, n3, c3, rfl, hr3, hnil3, hnc3, hcm3, hb3⟩
    have HX3 := Lib.hid (HX2.out.below hb3)
    have HR3 := Lib.hid hr3
    have HN3 := Lib.hid (And.intro hnil3 (And.intro hnc3 hcm3))
    clear hb3 HX2 g0 g1 a0 a1 a2 a3 a4 a5 hr3 hnil3 hnc3 hcm3 hd hd2 hd3
    by_cases hyes : RtP keep (ls K) ∧ (T.may (T.at ⟨utr, uac, ust, uis, uun, uep⟩ (now (ls K))))
    · have hil := issue_len keep (ls K) ⟨utr, uac, ust, uis, uun, uep⟩
      rw [issue_yes hyes] at HR3 hil ⊢
      obtain ⟨hrt, hmy⟩ := hyes
      have hca := carry_start hrt
      obtain ⟨ep, hep⟩ : ∃ ep, now (ls K) = ep := ⟨_, rfl⟩
      obtain ⟨k0, hk0⟩ : ∃ k0, lastK (ls K) = k0 := ⟨_, rfl⟩
      rw [hep, hk0] at HR3 hil
      rw [hep, hk0] at hca
      rw [hep] at hmy
      simp only [T.at] at *
      obtain ⟨bs, hbs⟩ : ∃ bs, frame 2 (body k0 ⟨utr, uac, ust, uis, uun, ep⟩) = bs := ⟨_, rfl⟩
      rw [hbs] at HR3 hil
      have HIL : Hid (bs.length ≤ 1000) := hil
      have HBS := Lib.hid hbs
      have HMY := Lib.hid hmy
      have HCA := Lib.hid hca
      have HEP := Lib.hid hep
      clear hbs hmy hca hrt hep hk0 hil
      obtain ⟨g0, g1⟩ := HX3.out.cells
      go_wp2_with fail
      refine (HNOW.out keep A n c K w3 HX3.out.keys HNIL.out HC.out HSM.out HKE.out).mono ?_
      rintro e4 w4 ⟨rfl, hb4⟩
      rw [HEP.out]
      have hx4 : Bk w keep A n c K ⟨utr, uac, ust, uis, uun, uep⟩ A3 n3 bs w4 := ⟨(HX3.out.below hb4).ring, (HX3.out.below hb4).tok, (HX3.out.below hb4).keys, (HR3.out.below hb4).more hb4.size, (HX3.out.below hb4).bel⟩
      have HX5 := Lib.hid (hx4.epoch (H.out.notIn (Nat.le_succ _)) (ep2 := ep) rfl)
      obtain ⟨-, -, -, -, -, a5⟩ := hx4.tokAt
      have f5 := free_of_blk (j := 5) hx4.tok
      clear hb4 HX3 g0 g1 HR3
      go_wp2_with fail
      generalize w4.setCell ⟨w.heap.size + 1, 5, none⟩ (.int .i64 ep) = w5 at *
      clear a5 f5 hx4
      have hmy := HMY.out
      unfold T.may at hmy
      simp only at hmy
      obtain ⟨-, -, -, hm3, hm4, hm5, hm6⟩ := hmy
      have HVA : Hid (∀ (A1 : Option Addr) (n1 c1 : Nat) (K1 : List Kp) (nw : Int) (wx : World), Bk w keep A1 n1 c1 K1 ⟨utr, uac, ust, uis, uun, ep⟩ A3 n3 bs wx → (A1 = none → c1 = 0) → n1 ≤ c1 → RtP keep (ls K1) → -9223372036854775808 ≤ nw ∧ nw ≤ 9223372036854775807 → Calls Tryd.prog 18 #[.agg #[.int .i64 keep, .slice A1 n1 c1], .slice A3 n3 c3, .int .i64 nw] wx (VerTo wx (verify (ls K1) bs nw))) :=
        fun A1 n1 c1 K1 nw wx hx hnil1 hnc1 hrt1 hnw => HVER.out keep nw A1 A3 n1 c1 n3 c3 K1 bs wx hx.keys hnil1 hnc1 (small_of hx.keys hrt1) HKE.out hnw hx.row HN3.out.1 (by rw [← HBS.out]; exact frame_byt (by omega) (body_byt _ _)) HN3.out.2.1 HN3.out.2.2 (by
          have h1 := hx.row.len
          have h2 := HIL.out
          omega) (HT.out.below hx.bel HT.out.tab.1)
      go_loopw [9, 10, 11, 12, 13, 14, 15, 16, 17, 18, 19, 20, 21, 22, 54] (fun _ _ _ _ _ _ _ _ _ _ _ _ _ _ i wr => ∃ j : Nat, j ≤ n' ∧ i = .int .i64 (j : Int) ∧ ∃ A1 n1 c1 K1, Hid (Bk w keep A1 n1 c1 K1 ⟨utr, uac, ust, uis, uun, ep⟩ A3 n3 bs wr) ∧ Hid (NotIn w.heap.size n1 A1 K1) ∧ Hid (A1 = none → c1 = 0) ∧ Hid (n1 ≤ c1) ∧ Hid (Carry keep (ls K1) ep k0)) (fun _ _ _ _ _ _ _ _ _ _ _ _ _ _ i _ => n' - (intOf i).toNat)
      case atStart => exact ⟨0, Nat.zero_le _, rfl, A, n, c, K, HX5, H.out.notIn (Nat.le_refl _), HNIL, HC, HCA⟩
      case round =>
        obtain ⟨j, hj, rfl, A1, n1, c1, K1, HX, HNI, HNIL1, HNC1, HCR⟩ := hrel
        by_cases hlt : j < n'
        · have hlt' : (j : Int) < (n' : Int) := by omega
          obtain ⟨-, -, -, a3, a4, -⟩ := HX.out.tokAt
          have m1 : IntKind.i64.wrap (uun - uis) = uun - uis := IntWalk.i64_in _ ⟨by omega, by omega⟩
          have m2 : IntKind.i64.wrap (uun - uis + 1) = uun - uis + 1 := IntWalk.i64_in _ ⟨by omega, by omega⟩
          have m3 : ¬ (uun - uis + 1 = 0) := by omega
          obtain ⟨hat1, hat2⟩ := at_in hm5 j
          rw [Int.tmod_eq_emod_of_nonneg (by omega)] at hat1 hat2
          have m4 : IntKind.i64.wrap ((j : Int) % (uun - uis + 1)) = (j : Int) % (uun - uis + 1) := IntWalk.i64_in _ ⟨by omega, by omega⟩
          have m5 : IntKind.i64.wrap (uis + (j : Int) % (uun - uis + 1)) = uis + (j : Int) % (uun - uis + 1) := IntWalk.i64_in _ ⟨by omega, by omega⟩
          obtain ⟨at_, hat⟩ : ∃ at_, uis + (j : Int) % (uun - uis + 1) = at_ := ⟨_, rfl⟩
          rw [hat] at hat1 hat2
          have HAT := Lib.hid (And.intro hat1 hat2)
          have HATE := Lib.hid hat
          clear hat1 hat2 hat
          go_wp2_with fail
          go_quiet (fail)
          rw [HATE.out]
          have HXA : Hid (Bk w keep A1 n1 c1 K1 ⟨utr, uac, ust, uis, uun, ep⟩ A3 n3 bs (wr.drewN nq)) := HX.out.below (below_drewN (Below.refl _ _))
          clear a3 a4 m1 m2 m3 m4 m5 HATE HX
          have m6 : IntKind.i64.wrap (uun + 1) = uun + 1 := IntWalk.i64_in _ ⟨by omega, by omega⟩
          have m7 : IntKind.i64.wrap (uis - 1) = uis - 1 := IntWalk.i64_in _ ⟨by omega, by omega⟩
          generalize wr.drewN nq = wa at *
          obtain ⟨g0, g1⟩ := HXA.out.cells
          obtain ⟨-, -, -, a3, a4, a5⟩ := HXA.out.tokAt
          go_wp2_with fail
          clear g0 g1 a3 a4 a5
          have hvp := HVA.out A1 n1 c1 K1 at_ wa HXA.out HNIL1.out HNC1.out HCR.out.right (by have := HAT.out; omega)
          obtain ⟨vp, hvep⟩ : ∃ v, verify (ls K1) bs at_ = v := ⟨_, rfl⟩
          rw [hvep] at hvp
          have HVEp := Lib.hid hvep
          have HVp := Lib.hid hvp
          clear hvp hvep
          obtain ⟨⟨vp0, vp1, vp2, vp3, vp4, vp5⟩, erp⟩ := vp
          refine HVp.out.mono ?_
          rintro exp wpa ⟨rfl, hbp⟩
          simp only [T.val, T.cells]
          have hxn := HXA.out.below hbp
          have HXp : Hid (Bk w keep A1 n1 c1 K1 ⟨utr, uac, ust, uis, uun, ep⟩ A3 n3 bs (wpa.alloc (.cells #[.int .i64 vp0, .int .i64 vp1, .int .i64 vp2, .int .i64 vp3, .int .i64 vp4, .int .i64 vp5] 26))) := hxn.below below_new
          have HGp : Hid (TokAt (wpa.alloc (.cells #[.int .i64 vp0, .int .i64 vp1, .int .i64 vp2, .int .i64 vp3, .int .i64 vp4, .int .i64 vp5] 26)) wpa.heap.size ⟨vp0, vp1, vp2, vp3, vp4, vp5⟩) := TokAt.blk (heap_alloc_new _ _)
          have HLp : Hid (wpa.heap.size < (wpa.alloc (.cells #[.int .i64 vp0, .int .i64 vp1, .int .i64 vp2, .int .i64 vp3, .int .i64 vp4, .int .i64 vp5] 26)).heap.size) := by unfold Hid; simp
          have HBLp : Hid (Below wa.heap.size wa (wpa.alloc (.cells #[.int .i64 vp0, .int .i64 vp1, .int .i64 vp2, .int .i64 vp3, .int .i64 vp4, .int .i64 vp5] 26))) := hbp.alloc hbp.size _
          clear hxn hbp
          obtain ⟨g0, g1⟩ := HXp.out.cells
          obtain ⟨-, -, -, a3, a4, a5⟩ := HXp.out.tokAt
          go_wp2_with fail
          clear g0 g1 a3 a4 a5
          generalize wpa.alloc (.cells #[.int .i64 vp0, .int .i64 vp1, .int .i64 vp2, .int .i64 vp3, .int .i64 vp4, .int .i64 vp5] 26) = wp at *
          generalize wpa.heap.size = Gp at *
          have hvq := HVA.out A1 n1 c1 K1 uun wp HXp.out HNIL1.out HNC1.out HCR.out.right (by omega)
          obtain ⟨vq, hveq⟩ : ∃ v, verify (ls K1) bs uun = v := ⟨_, rfl⟩
          rw [hveq] at hvq
          have HVEq := Lib.hid hveq
          have HVq := Lib.hid hvq
          clear hvq hveq
          obtain ⟨⟨vq0, vq1, vq2, vq3, vq4, vq5⟩, erq⟩ := vq
          refine HVq.out.mono ?_
          rintro exq wqa ⟨rfl, hbq⟩
          simp only [T.val, T.cells]
          have hxn := HXp.out.below hbq
          have HXq : Hid (Bk w keep A1 n1 c1 K1 ⟨utr, uac, ust, uis, uun, ep⟩ A3 n3 bs (wqa.alloc (.cells #[.int .i64 vq0, .int .i64 vq1, .int .i64 vq2, .int .i64 vq3, .int .i64 vq4, .int .i64 vq5] 26))) := hxn.below below_new
          have HGq : Hid (TokAt (wqa.alloc (.cells #[.int .i64 vq0, .int .i64 vq1, .int .i64 vq2, .int .i64 vq3, .int .i64 vq4, .int .i64 vq5] 26)) wqa.heap.size ⟨vq0, vq1, vq2, vq3, vq4, vq5⟩) := TokAt.blk (heap_alloc_new _ _)
          have HLq : Hid (wqa.heap.size < (wqa.alloc (.cells #[.int .i64 vq0, .int .i64 vq1, .int .i64 vq2, .int .i64 vq3, .int .i64 vq4, .int .i64 vq5] 26)).heap.size) := by unfold Hid; simp
          have HBLq : Hid (Below wp.heap.size wp (wqa.alloc (.cells #[.int .i64 vq0, .int .i64 vq1, .int .i64 vq2, .int .i64 vq3, .int .i64 vq4, .int .i64 vq5] 26))) := hbq.alloc hbq.size _
          clear hxn hbq
          obtain ⟨g0, g1⟩ := HXq.out.cells
          obtain ⟨-, -, -, a3, a4, a5⟩ := HXq.out.tokAt
          go_wp2_with fail
          clear g0 g1 a3 a4 a5
          generalize wqa.alloc (.cells #[.int .i64 vq0, .int .i64 vq1, .int .i64 vq2, .int .i64 vq3, .int .i64 vq4, .int .i64 vq5] 26) = wq at *
          generalize wqa.heap.size = Gq at *
          have hvu := HVA.out A1 n1 c1 K1 (uun + 1) wq HXq.out HNIL1.out HNC1.out HCR.out.right (by omega)
          obtain ⟨vu, hveu⟩ : ∃ v, verify (ls K1) bs (uun + 1) = v := ⟨_, rfl⟩
          rw [hveu] at hvu
          have HVEu := Lib.hid hveu
          have HVu := Lib.hid hvu
          clear hvu hveu
          obtain ⟨⟨vu0, vu1, vu2, vu3, vu4, vu5⟩, eru⟩ := vu
          refine HVu.out.mono ?_
          rintro exu wua ⟨rfl, hbu⟩
          simp only [T.val, T.cells]
          have hxn := HXq.out.below hbu
          have HXu : Hid (Bk w keep A1 n1 c1 K1 ⟨utr, uac, ust, uis, uun, ep⟩ A3 n3 bs (wua.alloc (.cells #[.int .i64 vu0, .int .i64 vu1, .int .i64 vu2, .int .i64 vu3, .int .i64 vu4, .int .i64 vu5] 26))) := hxn.below below_new
          have HGu : Hid (TokAt (wua.alloc (.cells #[.int .i64 vu0, .int .i64 vu1, .int .i64 vu2, .int .i64 vu3, .int .i64 vu4, .int .i64 vu5] 26)) wua.heap.size ⟨vu0, vu1, vu2, vu3, vu4, vu5⟩) := TokAt.blk (heap_alloc_new _ _)
          have HLu : Hid (wua.heap.size < (wua.alloc (.cells #[.int .i64 vu0, .int .i64 vu1, .int .i64 vu2, .int .i64 vu3, .int .i64 vu4, .int .i64 vu5] 26)).heap.size) := by unfold Hid; simp
          have HBLu : Hid (Below wq.heap.size wq (wua.alloc (.cells #[.int .i64 vu0, .int .i64 vu1, .int .i64 vu2, .int .i64 vu3, .int .i64 vu4, .int .i64 vu5] 26))) := hbu.alloc hbu.size _
          clear hxn hbu
          obtain ⟨g0, g1⟩ := HXu.out.cells
          obtain ⟨-, -, -, a3, a4, a5⟩ := HXu.out.tokAt
          go_wp2_with fail
          clear g0 g1 a3 a4 a5
          generalize wua.alloc (.cells #[.int .i64 vu0, .int .i64 vu1, .int .i64 vu2, .int .i64 vu3, .int .i64 vu4, .int .i64 vu5] 26) = wu at *
          generalize wua.heap.size = Gu at *
          have hvs := HVA.out A1 n1 c1 K1 (uis - 1) wu HXu.out HNIL1.out HNC1.out HCR.out.right (by omega)
          obtain ⟨vs, hves⟩ : ∃ v, verify (ls K1) bs (uis - 1) = v := ⟨_, rfl⟩
          rw [hves] at hvs
          have HVEs := Lib.hid hves
          have HVs := Lib.hid hvs
          clear hvs hves
          obtain ⟨⟨vs0, vs1, vs2, vs3, vs4, vs5⟩, ers⟩ := vs
          refine HVs.out.mono ?_
          rintro exs wsa ⟨rfl, hbs⟩
          simp only [T.val, T.cells]
          have hxn := HXu.out.below hbs
          have HXs : Hid (Bk w keep A1 n1 c1 K1 ⟨utr, uac, ust, uis, uun, ep⟩ A3 n3 bs (wsa.alloc (.cells #[.int .i64 vs0, .int .i64 vs1, .int .i64 vs2, .int .i64 vs3, .int .i64 vs4, .int .i64 vs5] 26))) := hxn.below below_new
          have HGs : Hid (TokAt (wsa.alloc (.cells #[.int .i64 vs0, .int .i64 vs1, .int .i64 vs2, .int .i64 vs3, .int .i64 vs4, .int .i64 vs5] 26)) wsa.heap.size ⟨vs0, vs1, vs2, vs3, vs4, vs5⟩) := TokAt.blk (heap_alloc_new _ _)
          have HLs : Hid (wsa.heap.size < (wsa.alloc (.cells #[.int .i64 vs0, .int .i64 vs1, .int .i64 vs2, .int .i64 vs3, .int .i64 vs4, .int .i64 vs5] 26)).heap.size) := by unfold Hid; simp
          have HBLs : Hid (Below wu.heap.size wu (wsa.alloc (.cells #[.int .i64 vs0, .int .i64 vs1, .int .i64 vs2, .int .i64 vs3, .int .i64 vs4, .int .i64 vs5] 26))) := hbs.alloc hbs.size _
          clear hxn hbs
          obtain ⟨g0, g1⟩ := HXs.out.cells
          obtain ⟨-, -, -, a3, a4, a5⟩ := HXs.out.tokAt
          go_wp2_with fail
          clear g0 g1 a3 a4 a5
          generalize wsa.alloc (.cells #[.int .i64 vs0, .int .i64 vs1, .int .i64 vs2, .int .i64 vs3, .int .i64 vs4, .int .i64 vs5] 26) = ws at *
          generalize wsa.heap.size = Gs at *
          have hGq : Gp < wq.heap.size := Nat.lt_of_lt_of_le HLp.out HBLq.out.size
          have hGu : Gp < wu.heap.size := Nat.lt_of_lt_of_le hGq HBLu.out.size
          have hGs : Gp < ws.heap.size := Nat.lt_of_lt_of_le hGu HBLs.out.size
          have hHu : Gq < wu.heap.size := Nat.lt_of_lt_of_le HLq.out HBLu.out.size
          have hHs : Gq < ws.heap.size := Nat.lt_of_lt_of_le hHu HBLs.out.size
          have HGP := Lib.hid (((HGp.out.below HBLq.out HLp.out).below HBLu.out hGq).below HBLs.out hGu)
          have HGQ := Lib.hid ((HGq.out.below HBLu.out HLq.out).below HBLs.out hHu)
          have HLP := Lib.hid hGs
          have HLQ := Lib.hid hHs
          clear hGq hGu hGs hHu hHs HGp HGq HGu HGs HLp HLq HLu HLs HBLp HBLq HBLu HBLs HXp HXq HXu HXA HVp HVq HVu HVs
          refine (HFND.out keep ep A1 n1 c1 K1 ws HXs.out.keys HNIL1.out HNC1.out (small_of HXs.out.keys HCR.out.right) HKE.out (by omega)).mono ?_
          rintro xf wf ⟨Af, nf, cf, rfl, -, -, -, hbf⟩
          have HXF := Lib.hid (HXs.out.below hbf)
          have HGPF := Lib.hid (HGP.out.below hbf HLP.out)
          have HGQF := Lib.hid (HGQ.out.below hbf HLQ.out)
          clear hbf HXs HGP HGQ HLP HLQ
          rcases HCR.out.key with hk | ⟨hk, hk2⟩
          · rw [hk]
            simp only [Option.isSome_some]
            have hvp : ((⟨utr, uac, ust, uis, uun, ep⟩, 0) : T × Nat) = (⟨vp0, vp1, vp2, vp3, vp4, vp5⟩, erp) := by
              rw [← HVEp.out, ← HBS.out, verify_body HMY.out hk, if_neg (by have := HAT.out; simp only; omega)]
            have hvq : ((⟨utr, uac, ust, uis, uun, ep⟩, 0) : T × Nat) = (⟨vq0, vq1, vq2, vq3, vq4, vq5⟩, erq) := by
              rw [← HVEq.out, ← HBS.out, verify_body HMY.out hk, if_neg (by simp only; omega)]
            have hvu : ((T.zero, 22) : T × Nat) = (⟨vu0, vu1, vu2, vu3, vu4, vu5⟩, eru) := by
              rw [← HVEu.out, ← HBS.out, verify_body HMY.out hk, if_pos (by simp only; omega)]
            have hvs : ((T.zero, 22) : T × Nat) = (⟨vs0, vs1, vs2, vs3, vs4, vs5⟩, ers) := by
              rw [← HVEs.out, ← HBS.out, verify_body HMY.out hk, if_pos (by simp only; omega)]
            simp only [T.zero, Prod.mk.injEq, T.mk.injEq] at hvp hvq hvu hvs
            obtain ⟨⟨rfl, rfl, rfl, rfl, rfl, rfl⟩, rfl⟩ := hvp
            obtain ⟨⟨rfl, rfl, rfl, rfl, rfl, rfl⟩, rfl⟩ := hvq
            obtain ⟨-, rfl⟩ := hvu
            obtain ⟨-, rfl⟩ := hvs
            have HFK := Lib.hid hk
            clear hk HVEp HVEq HVEu HVEs
            obtain ⟨g0, g1⟩ := HXF.out.cells
            obtain ⟨a0, a1, a2, a3, a4, a5⟩ := HXF.out.tokAt
            obtain ⟨b0, b1, b2, b3, b4, b5⟩ := HGPF.out
            obtain ⟨d0, d1, d2, d3, d4, d5⟩ := HGQF.out
            go_upto_region 22 with fail
            clear a0 a1 a2 a3 a4 a5 b0 b1 b2 b3 b4 b5 d0 d1 d2 d3 d4 d5 HGPF HGQF
            have hjl : j < L.length := by have := HP.out.len; omega
            obtain ⟨bd, od, rfl, hbd, hcd⟩ := HP.out.at_ (by omega)
            have kt := (HXF.out.bel.cell (p := ⟨bd, od + j, none⟩) hbd).trans (hcd j hjl)
            obtain ⟨q0, hq0⟩ : ∃ p, p = L[j]'hjl := ⟨_, rfl⟩
            rw [← hq0] at kt
            have hmem : q0 ∈ L := by rw [hq0]; exact List.getElem_mem _
            have hrq := ((HP.out.right q0 hmem).1.below HXF.out.bel).more HXF.out.bel.size
            have hnilq := (HP.out.right q0 hmem).2
            have hbyq := HP.out.byt q0 hmem
            have hmlq := HL.out q0 hmem
            unfold Part.v at kt
            have HRO : Hid (∀ wx, Below wf.heap.size wf wx → Calls Tryd.prog 22 #[.agg #[.int .i64 keep, .slice A1 n1 c1], .slice q0.A q0.n q0.c] wx (RotTo keep (ls K1) q0.xs wx.heap.size wx)) := fun wx hbx =>
              HROT.out keep A1 q0.A n1 c1 q0.n q0.c K1 q0.xs wx (HXF.out.below hbx).keys HNIL1.out HNC1.out (small_of HXF.out.keys HCR.out.right) HKE.out ((hrq.below hbx).more hbx.size) hnilq hbyq.1 hmlq hbyq.2 (HT.out.below (HXF.out.below hbx).bel HT.out.tab.1)
            have hqb := hrq.len
            obtain ⟨qA, qn, qc, qxs⟩ := q0
            simp only at kt hqb
            have HQL := Lib.hid hqb
            have hbd1 : Below wf.heap.size wf wf.drew := (Below.refl _ _).drew
            have hbd2 : Below wf.heap.size wf (wf.alloc (.cells #[.int .i64 0, .slice none 0 0] 24)).drew := ((Below.refl _ _).alloc (Nat.le_refl _) _).drew
            have HBD1 := Lib.hid hbd1
            have HBD2 := Lib.hid hbd2
            have hgs := HXF.out.size
            have kt1 : wf.drew.cell? ⟨bd, od + j, none⟩ = some (.slice qA qn qc) := kt
            have g0d : wf.drew.cell? ⟨w.heap.size, 0, none⟩ = some (.int .i64 keep) := g0
            have g1d : wf.drew.cell? ⟨w.heap.size, 1, none⟩ = some (.slice A1 n1 c1) := g1
            have kt2 : (wf.alloc (.cells #[.int .i64 0, .slice none 0 0] 24)).drew.cell? ⟨bd, od + j, none⟩ = some (.slice qA qn qc) := (hbd2.cell (p := ⟨bd, od + j, none⟩) (by have := HXF.out.bel.size; show bd < _; omega)).trans kt
            have g0e : (wf.alloc (.cells #[.int .i64 0, .slice none 0 0] 24)).drew.cell? ⟨w.heap.size, 0, none⟩ = some (.int .i64 keep) := (hbd2.cell (p := ⟨w.heap.size, 0, none⟩) (by show w.heap.size < _; omega)).trans g0
            have g1e : (wf.alloc (.cells #[.int .i64 0, .slice none 0 0] 24)).drew.cell? ⟨w.heap.size, 1, none⟩ = some (.slice A1 n1 c1) := (hbd2.cell (p := ⟨w.heap.size, 1, none⟩) (by show w.heap.size < _; omega)).trans g1
            have HNB : Hid ((wf.alloc (.cells #[.int .i64 0, .slice none 0 0] 24)).drew.heap[wf.heap.size]? = some (.cells #[.int .i64 0, .slice none 0 0] 24 (0, 0))) := heap_alloc_new wf _
            have HNS : Hid ((wf.alloc (.cells #[.int .i64 0, .slice none 0 0] 24)).drew.heap.size = wf.heap.size + 1) := by unfold Hid; show (wf.alloc _).heap.size = _; simp
            clear hmem hrq hnilq hbyq hmlq hq0 hcd hbd hqb
            have HND : Hid (wf.heap.size < (wf.alloc (.cells #[.int .i64 0, .slice none 0 0] 24)).drew.heap.size) := by rw [HNS.out]; exact Nat.lt_succ_self _
            have HGW : Hid (w.heap.size < wf.heap.size) := by unfold Hid; omega
            go_cut [21, 22] (fun pv ev wr => ∃ G6 kk A5 n5 c5 e5, pv = .pointer (some ⟨G6, 0, none⟩) ∧ ev = .int .i64 e5 ∧ Nxt w.heap.size wf keep (ls K1) qxs G6 kk A5 n5 c5 e5 wr)
            case first =>
              go_region_with (first
                | (go_at_call 22; (with_reducible refine (HRO.out wf.drew HBD1.out).mono ?_); rintro x5 w5 hR; obtain ⟨kk, A5, n5, c5, e5, rfl, hb5, hno5, htop5, hyes5⟩ := rotTo_form hR; have HNX := Lib.hid (nxt_alloc (G := w.heap.size) HBD1.out hb5 hno5 htop5 hyes5 HGW.out); clear hR hb5 hno5 htop5 hyes5)
                | (go_at_call 22; (with_reducible refine (HRO.out _ HBD2.out).mono ?_); rintro x5 w5 hR; obtain ⟨kk, A5, n5, c5, e5, rfl, hb5, hno5, htop5, hyes5⟩ := rotTo_form hR; have hblk5 := (hb5.block wf.heap.size HND.out).trans HNB.out; have o0 : w5.cell? ⟨wf.heap.size, 0, none⟩ = some (.int .i64 0) := cell_of_blk hblk5 rfl; have o1 : w5.cell? ⟨wf.heap.size, 1, none⟩ = some (.slice none 0 0) := cell_of_blk hblk5 rfl; have o2 : w5.frozen? ⟨wf.heap.size, 0, none⟩ = false := free_of_blk hblk5; have o3 : w5.frozen? ⟨wf.heap.size, 1, none⟩ = false := free_of_blk hblk5; have HNX := Lib.hid (nxt_set (G := w.heap.size) HBD2.out hb5 hno5 htop5 hyes5 HGW.out HND.out hblk5); clear hR hb5 hno5 htop5 hyes5 hblk5))
              all_goals
                go_wp2_with fail
                go_meet
                exact ⟨_, _, _, _, _, _, rfl, rfl, HNX.out⟩
            case rest =>
              obtain ⟨G6, kk, A5, n5, c5, e5, rfl, rfl, hn⟩ := hcut
              have HX6 := Lib.hid (HXF.out.below hn.bel)
              have HFZ := Lib.hid (And.intro (free_of_blk (j := 0) HX6.out.ring) (free_of_blk (j := 1) HX6.out.ring))
              clear kt1 kt2 g0d g1d g0e g1e g0 g1 kt hbd1 hbd2 HNB HNS HND
              by_cases hyes : RtP keep (ls K1) ∧ qxs.length = 32 ∧ now (ls K1) ≠ 1048576
              · obtain ⟨he5, hkk, K5, hk5, hls5, hni5, hnil5, hnc5⟩ := hn.yes hyes
                subst he5
                have hkk' := hkk.symm
                subst hkk'
                have HST := Lib.hid (HX6.out.store (c2 := c5) hk5 hni5)
                have HNI5 := Lib.hid hni5
                have HNIL5 := Lib.hid hnil5
                have HNC5 := Lib.hid hnc5
                have HCA5 : Hid (Carry keep (ls K5) ep k0) := by
                  have h1 := HCR.out.rot HFK.out (by have := now_le HCR.out.right; have := hyes.2.2; omega) qxs
                  rw [← hls5] at h1
                  exact h1
                have r0 : wc.cell? ⟨G6, 0, none⟩ = some (.int .i64 keep) := cell_of_blk hn.blk rfl
                have r1 : wc.cell? ⟨G6, 1, none⟩ = some (.slice A5 n5 c5) := cell_of_blk hn.blk rfl
                obtain ⟨s0, s1⟩ := HX6.out.cells
                obtain ⟨f0, f1⟩ := HFZ.out
                clear hk5 hls5 hni5 hnil5 hnc5 hn hyes hkk
                go_wp2
                go_roundw
                case rel => exact ⟨j + 1, by omega, by go_num, A5, n5, c5, K5, HST, HNI5, HNIL5, HNC5, HCA5⟩
                case measure => simp [intOf]; omega
              · have hd5 : (e5 == 0) = false := beq_eq_false_iff_ne.2 (hn.no hyes)
                have hd6 : decide (e5 = 0) = false := decide_eq_false (hn.no hyes)
                clear hn hyes
                go_wp2
                go_roundw
                case rel => exact ⟨j + 1, by omega, by go_num, A1, n1, c1, K1, HX6, HNI, HNIL1, HNC1, HCR⟩
                case measure => simp [intOf]; omega
          · rw [hk]
            simp only [Option.isSome_none]
            have hvp : ((T.zero, 20) : T × Nat) = (⟨vp0, vp1, vp2, vp3, vp4, vp5⟩, erp) := by rw [← HVEp.out, ← HBS.out, verify_none HMY.out hk]
            have hvq : ((T.zero, 20) : T × Nat) = (⟨vq0, vq1, vq2, vq3, vq4, vq5⟩, erq) := by rw [← HVEq.out, ← HBS.out, verify_none HMY.out hk]
            have hvu : ((T.zero, 20) : T × Nat) = (⟨vu0, vu1, vu2, vu3, vu4, vu5⟩, eru) := by rw [← HVEu.out, ← HBS.out, verify_none HMY.out hk]
            simp only [T.zero, Prod.mk.injEq] at hvp hvq hvu
            obtain ⟨-, rfl⟩ := hvp
            obtain ⟨-, rfl⟩ := hvq
            obtain ⟨-, rfl⟩ := hvu
            obtain ⟨N, hN⟩ : ∃ N, now (ls K1) = N := ⟨_, rfl⟩
            have hNb := now_le HCR.out.right
            rw [hN] at hk2 hNb
            have hbd1 : Below wf.heap.size wf wf.drew := (Below.refl _ _).drew
            have HNO := Lib.hid (HNOW.out keep A1 n1 c1 K1 wf.drew (HXF.out.keys.below hbd1) HNIL1.out HNC1.out (small_of HXF.out.keys HCR.out.right) HKE.out)
            rw [hN] at HNO
            have HXD := Lib.hid (HXF.out.below hbd1)
            have hkb := HKE.out
            have y1 : IntKind.i64.wrap (N - ep) = N - ep := IntWalk.i64_in _ ⟨by omega, by omega⟩
            have y2 : decide (keep ≤ N - ep) = true := decide_eq_true hk2
            obtain ⟨g0, g1⟩ := HXD.out.cells
            obtain ⟨-, -, -, -, -, a5⟩ := HXD.out.tokAt
            clear hk hk2 hN hNb hbd1 hkb HGPF HGQF
            go_wp2_with fail
            go_region_held3 (fun wx => wx.cell? ⟨w.heap.size, 0, none⟩ = some (.int .i64 keep) ∧ wx.cell? ⟨w.heap.size, 1, none⟩ = some (.slice A1 n1 c1) ∧ wx.cell? ⟨w.heap.size + 1, 5, none⟩ = some (.int .i64 ep)) (first | exact ⟨g0, g1, a5⟩ | exact ⟨q0, q1, q5⟩) (first
              | (go_at_call 20; (refine HNO.out.mono ?_); (rintro x5 w5 ⟨rfl, hb5⟩); have HX5 := Lib.hid (HXD.out.below hb5); have q0 := HX5.out.cells.1; have q1 := HX5.out.cells.2; have q5 := HX5.out.tokAt.2.2.2.2.2; clear hb5))
            go_wp2
            go_ret
            exact ⟨rfl, HX5.out.bel⟩
        · obtain rfl : j = n' := by omega
          have HRR := Lib.hid (refright_any keep A1 n1 c1 wr.heap.size K1 wr HX.out.keys (Nat.le_refl _) (by have := (small_of HX.out.keys HCR.out.right).1; omega))
          rw [rt_yes HCR.out.right] at HRR
          obtain ⟨g0, g1⟩ := HX.out.cells
          go_wp2_with fail
          refine HRR.out.mono ?_
          rintro x6 w6 ⟨rfl, hb6⟩
          have HX6 := Lib.hid (HX.out.below hb6)
          clear hb6 g0 g1
          go_wp2
          go_ret
          exact ⟨rfl, HX6.out.bel⟩
    · rw [issue_no hyes] at HR3 ⊢
      simp only at *
      obtain rfl : n3 = 0 := by have := HR3.out.len; simpa using this.symm
      go_wp2
      go_ret
      exact ⟨rfl, HX3.out.bel⟩
end Go.Proofs.YtmkdbpdfonpfdaaDoor.Tok

/- The last step of a law's row, over any program: a call that returned true and left all old memory as it was meets 'true; the input reads as it did'. -/
namespace Go.Proofs.YtmkdbpdfonpfdaaDoor
open Go.ChangeShapes Go.WideShapes Go.ChangeAt Go.RowKit

section
variable {H : Type} {enc : TypeId × Value → H} {P : Program} {W W' : World}

theorem trodAll_stays (hl : laidOutB P = true) (hb : Below W.heap.size W W') : ∀ {ts : List TypeId} {vs : List Value} {ds : List (DataW H)} {ps : List MemPlace},
    ts.all (fun t => P.readableRec t && decide (t < P.types.size)) = true → DataW.TrodAll enc P W 0 (fun _ => true) true ts vs ds ps → (∀ x ∈ ps, x.block < W.heap.size) →
    DataW.TrodAll enc P W' 0 (fun b => decide (b < W.heap.size)) true ts vs ds ps
  | [], _, _, _, _, h, _ => by
    obtain ⟨rfl, rfl, rfl⟩ := trodAll_nil h
    exact trodAll_mk0
  | t :: ts, _, _, _, ht, h, hp => by
    obtain ⟨v, vs, d, ds, a, b, rfl, rfl, rfl, h1, h2⟩ := trodAll_cons h
    simp only [List.all_cons, Bool.and_eq_true, decide_eq_true_eq] at ht
    exact trodAll_cons_mk (Below.trod hl ht.1.1 ht.1.2 h1 hb (fun x hx => hp x (List.mem_append_left _ hx)))
      (trodAll_stays hl hb (by simpa using ht.2) h2 (fun x hx => hp x (List.mem_append_right _ hx)))

/-- A law's post: true came back, old memory is as it was. -/
theorem law_post {f : Func} {s : ChangeSpec} {tb : TypeId} {args : Array Value} {ds : List (DataW H)} {before : List MemPlace}
    (hl : laidOutB P = true) (hts : f.params.toList.all (fun t => P.readableRec t && decide (t < P.types.size)) = true) (hr : f.resultTypes = #[tb]) (htb : P.underlying tb = some .bool) (hv : s.vars = [])
    (hW : DataW.Whole enc P f.params.toList s.vars false W args.toList ds [] before) (hfn : s.fn H ds = { results := [.lit (.bool true)], args := ds }) (hb : Below W.heap.size W W') :
    s.post enc P f false true false false W args (.bool true) W' := by
  have hW' := hW
  obtain ⟨p, q, hA, hV, rfl, _, _⟩ := hW
  rw [hv] at hV
  obtain ⟨_, rfl⟩ := trodVars_none hV
  refine ⟨ds, [], p ++ [], [], p, [], hW', ?_, ?_, ?_, hb.frame _, fun h => by cases h⟩
  · rw [List.append_nil, hfn, hr]
    exact trodAll_cons_mk (shut_bool htb _) trodAll_mk0
  · rw [List.append_nil, hfn]
    exact trodAll_stays hl hb hts hA (fun x hx => hW'.lt x (List.mem_append_left _ hx))
  · rw [List.append_nil, hfn, hv]
    rfl
end

/-- What opening a slice of integers gives, as 'Row'. -/
theorem row_of_open {k : IntKind} {w : World} {a : Addr} {len : Nat} {zs : List Int} (hl : len ≤ zs.length) (hc : ∀ i, i < zs.length → w.cell? (a.add i) = some (.int k (zs.getD i 0))) : Row k w w.heap.size (some a) len (zs.take len) := by
  refine ⟨by simp; omega, fun hn => ?_⟩
  obtain ⟨b, o, rfl, hcell⟩ := ints_at hc (by omega)
  refine ⟨b, o, rfl, World.block_lt_of_cell? w _ (hcell 0 (by omega)), fun j hj => ?_⟩
  rw [hcell j (by omega)]
  simp [List.getD, hj]
end Go.Proofs.YtmkdbpdfonpfdaaDoor

/- A law's arguments opened, over any program: a slice of integers as 'Row', an array of integers by value. -/
namespace Go.Proofs.YtmkdbpdfonpfdaaDoor
open Go.ChangeShapes Go.WideShapes Go.ChangeAt Go.RowKit

section
variable {H : Type} {enc : TypeId × Value → H} {P : Program} {W : World} {base : Nat}

/-- A slice of integers that came in. -/
theorem open_row {t e : TypeId} {k : IntKind} {v : Value} {d : DataW H} {ps : List MemPlace} (ht : P.underlying t = some (.slice e)) (he : P.underlying e = some (.int k)) (hc : P.cellsOf e = 1)
    (hv : Value.okWide P W .any base t v) (h : DataW.Trod enc P W 0 (fun _ => true) true t v d ps) :
    ∃ A n c xs, v = .slice A n c ∧ Row k W W.heap.size A n xs ∧ (A = none → c = 0) ∧ ∀ x ∈ xs, (Lit.int k x).wf = true := by
  obtain ⟨a0, len, cap, rfl⟩ := okWide_slice ht hv
  obtain ⟨fuel, hf⟩ := h
  rcases open_ints ht he hc hf with ⟨hcs, hx⟩ | ⟨a, len', cap', zs, hcs, _, hl, hm, hz, hx, hcell, hwz⟩
  · simp [Value.cells] at hcs
    obtain ⟨rfl, rfl, rfl⟩ := hcs
    exact ⟨none, 0, 0, [], rfl, Row.none_, fun _ => rfl, by simp⟩
  · simp [Value.cells] at hcs
    obtain ⟨rfl, rfl, rfl⟩ := hcs
    exact ⟨some a, len, cap, zs.take len, rfl, row_of_open (by simp at hz; omega) hcell, (fun h => by cases h), fun x hx => hwz x (List.mem_of_mem_take hx)⟩

/-- The same, with its capacity. -/
theorem open_row2 {t e : TypeId} {k : IntKind} {v : Value} {d : DataW H} {ps : List MemPlace} (ht : P.underlying t = some (.slice e)) (he : P.underlying e = some (.int k)) (hc : P.cellsOf e = 1)
    (hv : Value.okWide P W .any base t v) (h : DataW.Trod enc P W 0 (fun _ => true) true t v d ps) :
    ∃ A n c xs, v = .slice A n c ∧ Row k W W.heap.size A n xs ∧ (A = none → c = 0) ∧ n ≤ c ∧ c ≤ maxLen ∧ ∀ x ∈ xs, (Lit.int k x).wf = true := by
  obtain ⟨a0, len, cap, rfl⟩ := okWide_slice ht hv
  obtain ⟨fuel, hf⟩ := h
  rcases open_ints ht he hc hf with ⟨hcs, hx⟩ | ⟨a, len', cap', zs, hcs, _, hl, hm, hz, hx, hcell, hwz⟩
  · simp [Value.cells] at hcs
    obtain ⟨rfl, rfl, rfl⟩ := hcs
    exact ⟨none, 0, 0, [], rfl, Row.none_, fun _ => rfl, Nat.le_refl _, Nat.zero_le _, by simp⟩
  · simp [Value.cells] at hcs
    obtain ⟨rfl, rfl, rfl⟩ := hcs
    exact ⟨some a, len, cap, zs.take len, rfl, row_of_open (by simp at hz; omega) hcell, (fun h => by cases h), hl, hm, fun x hx => hwz x (List.mem_of_mem_take hx)⟩

/-- The same, with the address's form. -/
theorem open_row3 {t e : TypeId} {k : IntKind} {v : Value} {d : DataW H} {ps : List MemPlace} (ht : P.underlying t = some (.slice e)) (he : P.underlying e = some (.int k)) (hc : P.cellsOf e = 1)
    (hv : Value.okWide P W .any base t v) (h : DataW.Trod enc P W 0 (fun _ => true) true t v d ps) :
    ∃ A n c xs, v = .slice A n c ∧ Row k W W.heap.size A n xs ∧ (A = none → c = 0) ∧ n ≤ c ∧ c ≤ maxLen ∧ (0 < c → ∃ b o, A = some ⟨b, o, none⟩) ∧ ∀ x ∈ xs, (Lit.int k x).wf = true := by
  obtain ⟨a0, len, cap, rfl⟩ := okWide_slice ht hv
  obtain ⟨fuel, hf⟩ := h
  rcases open_ints ht he hc hf with ⟨hcs, hx⟩ | ⟨a, len', cap', zs, hcs, _, hl, hm, hz, hx, hcell, hwz⟩
  · simp [Value.cells] at hcs
    obtain ⟨rfl, rfl, rfl⟩ := hcs
    exact ⟨none, 0, 0, [], rfl, Row.none_, fun _ => rfl, Nat.le_refl _, Nat.zero_le _, fun h => absurd h (by omega), by simp⟩
  · simp [Value.cells] at hcs
    obtain ⟨rfl, rfl, rfl⟩ := hcs
    refine ⟨some a, len, cap, zs.take len, rfl, row_of_open (by simp at hz; omega) hcell, (fun h => by cases h), hl, hm, fun h0 => ?_, fun x hx => hwz x (List.mem_of_mem_take hx)⟩
    obtain ⟨b, o, e, -⟩ := ints_at hcell (by simp at hz; omega)
    exact ⟨b, o, by rw [e]⟩

theorem mapM_mem {α β : Type} {f : α → Option β} : ∀ {L : List α} {ys : List β}, L.mapM f = some ys → ∀ i ∈ L, ∃ y, f i = some y
  | [], _, _, i, hi => by simp at hi
  | a :: L, ys, h, i, hi => by
    rw [List.mapM_cons] at h
    simp only [bind, Option.bind_eq_some_iff, pure, Option.some.injEq] at h
    obtain ⟨y, hy, ys', hys, _⟩ := h
    rcases List.mem_cons.1 hi with rfl | hi
    · exact ⟨y, hy⟩
    · exact mapM_mem hys i hi

/-- An array of integers that came in, by value. -/
theorem open_arr {t e : TypeId} {k : IntKind} {m : Nat} {v : Value} {d : DataW H} {ps : List MemPlace} (ht : P.underlying t = some (.array m e)) (he : P.underlying e = some (.int k)) (hc : P.cellsOf e = 1) (hct : P.cellsOf t = m)
    (hv : Value.okWide P W .any base t v) (h : DataW.Trod enc P W 0 (fun _ => true) true t v d ps) :
    ∃ xs : List Int, v = .agg (xs.map (Value.int k)).toArray ∧ xs.length = m ∧ ∀ x ∈ xs, (Lit.int k x).wf = true := by
  simp only [Value.okWide, ht] at hv
  obtain ⟨cs, rfl, hsz, _⟩ := hv
  rw [hct] at hsz
  obtain ⟨fuel, hf⟩ := h
  cases fuel with
  | zero => simp [DataW.trod] at hf
  | succ q =>
    rw [DataW.trod_step] at hf
    unfold DataW.trodStep at hf
    simp only [ht, Value.cells] at hf
    rw [if_pos (by rw [hct]; simpa using hsz)] at hf
    simp only [Option.map_eq_some_iff] at hf
    obtain ⟨ys, hy, _⟩ := hf
    have hall : ∀ i, i < m → ∃ a, cs.toList[i]? = some (.int k a) ∧ (Lit.int k a).wf = true := fun i hi => by
      obtain ⟨y, h1⟩ := mapM_mem hy i (by simpa using hi)
      obtain ⟨a, h2, _, h3⟩ := DataW.trod_int he h1
      refine ⟨a, ?_, h3⟩
      rw [hc, Nat.mul_one] at h2
      have h4 : i < cs.toList.length := by simpa [hsz] using hi
      rw [List.drop_eq_getElem_cons h4] at h2
      simp only [List.take_succ_cons, List.take_zero, List.cons.injEq, and_true] at h2
      rw [List.getElem?_eq_getElem h4, h2]
    have hl : cs.toList.length = m := by simpa using hsz
    have hxs : ∀ (L : List Value) (m : Nat), L.length = m → (∀ i, i < m → ∃ a, L[i]? = some (.int k a) ∧ (Lit.int k a).wf = true) → ∃ xs : List Int, L = xs.map (Value.int k) ∧ ∀ x ∈ xs, (Lit.int k x).wf = true := by
      intro L
      induction L with
      | nil => intro _ _ _; exact ⟨[], rfl, by simp⟩
      | cons u L ih =>
        intro m hm hA
        obtain ⟨a, h1, h2⟩ := hA 0 (by simp at hm; omega)
        obtain ⟨xs, h3, h4⟩ := ih (m - 1) (by simp at hm; omega) (fun i hi => by simpa using hA (i + 1) (by omega))
        simp at h1
        refine ⟨a :: xs, by simp [h1, h3], fun x hx => ?_⟩
        rcases List.mem_cons.1 hx with rfl | hx
        · exact h2
        · exact h4 x hx
    obtain ⟨xs, h1, h2⟩ := hxs _ _ hl hall
    refine ⟨xs, ?_, by rw [h1] at hl; simpa using hl, h2⟩
    rw [← h1]
theorem two_of {xs : List Int} (h : xs.length = 2) : ∃ x y, xs = [x, y] := by
  match xs, h with
  | [x, y], _ => exact ⟨x, y, rfl⟩
end
end Go.Proofs.YtmkdbpdfonpfdaaDoor

/- Layer 7 (sha): the package's two tables, out of a row's condition on what they hold. -/
namespace Go.Proofs.YtmkdbpdfonpfdaaDoor.Sha
open Go.ChangeShapes Go.WideShapes Go.ChangeAt Go.RowKit

def laid2 : List (String × DataW Unit) := [("viaticum/sha.initial", Rows.laid_viaticum_sha_initial), ("viaticum/sha.constants", Rows.laid_viaticum_sha_constants)]
theorem gIni : Tryd.prog.globalNamed "viaticum/sha.initial" = some 0 := by kernel_rfl
theorem gCon : Tryd.prog.globalNamed "viaticum/sha.constants" = some 1 := by kernel_rfl
theorem tIni : (Tryd.prog.globals[0]?).map (·.type) = some 122 := by kernel_rfl
theorem tCon : (Tryd.prog.globals[1]?).map (·.type) = some 134 := by kernel_rfl

/-- The door's own heap meets the condition. -/
theorem door_met (os : Os) (args : Array Value) : laidMetH Tryd.prog laid2 ((World.doorLaid Tryd.prog 400 os).forCall (fun _ _ => 0) ⟨#[], args, []⟩).memory :=
  laidMetH_of_parts3 (fuel := 8) (laidMet_of_run' 8 (by kernel_rfl) (by kernel_rfl)) (by kernel_rfl) (by kernel_rfl)

/-- An array of integers, read as a datum that is known: its cells. -/
theorem arr_of_trod {H : Type} {enc : TypeId × Value → H} {P : Program} {W : World} {base : Nat} {sp : Nat → Bool} {held : Bool} {fuel : Nat} {t e : TypeId} {k : IntKind} {m : Nat} {cs : List Value} {p : List MemPlace} {zs : List Int}
    (ht : P.underlying t = some (.array m e)) (he : P.underlying e = some (.int k)) (hc : P.cellsOf e = 1) (h : DataW.trod enc P W base sp held fuel t cs = some (.agg (zs.map fun z => .lit (.int k z)), p)) :
    ∀ j, j < zs.length → cs[j]? = some (.int k (zs.getD j 0)) := by
  obtain ⟨xs, f, rfl, hx, hl, hn, hel⟩ := DataW.trod_array ht h
  intro j hj
  simp only [Prod.mk.injEq, DataW.agg.injEq] at hx
  have hlen : xs.length = zs.length := by
    have := congrArg List.length hx.1
    simpa using this.symm
  have h1 := hel j (by omega)
  rw [List.getElem?_eq_getElem (by omega), hc, Nat.mul_one] at h1
  obtain ⟨z, h2, h3, -⟩ := DataW.trod_int he h1
  have h4 : (zs.map fun z => (DataW.lit (.int k z) : DataW H))[j]? = (xs.map (·.1))[j]? := by rw [hx.1]
  rw [List.getElem?_map, List.getElem?_map, List.getElem?_eq_getElem hj, List.getElem?_eq_getElem (by omega), h3] at h4
  simp only [Option.map_some, Option.some.injEq, DataW.lit.injEq, Lit.int.injEq, true_and] at h4
  have h5 : j < cs.length := by
    by_cases h6 : j < cs.length
    · exact h6
    · rw [List.drop_of_length_le (by omega)] at h2
      simp at h2
  rw [List.drop_eq_getElem_cons h5] at h2
  simp only [List.take_succ_cons, List.take_zero, List.cons.injEq, and_true] at h2
  rw [List.getElem?_eq_getElem h5, h2, ← h4]
  simp [List.getD, hj]

theorem ini_eq : (Rows.laid_viaticum_sha_initial : DataW Unit) = .agg ((hs.map wi).map fun z => .lit (.int .u32 z)) := by rfl
set_option maxRecDepth 100000 in
theorem con_eq : (Rows.laid_viaticum_sha_constants : DataW Unit) = .agg ((ks.map wi).map fun z => .lit (.int .u32 z)) := by rfl

/-- What the condition gives the walks. -/
theorem lay_of {W : World} (h : laidMetH Tryd.prog laid2 W) : Lay W := by
  rw [MakeChecks.laidMetH_plain _ _ _ (by kernel_rfl)] at h
  obtain ⟨ps, ⟨g0, t0, cs0, f0, p0, q0, hg0, ht0, hv0, hd0, ⟨g1, t1, cs1, f1, p1, q1, hg1, ht1, hv1, hd1, _, _⟩, _⟩, _, _⟩ := h
  obtain rfl := Option.some.inj (gIni.symm.trans hg0)
  obtain rfl := Option.some.inj (gCon.symm.trans hg1)
  obtain rfl := Option.some.inj (tIni.symm.trans ht0)
  obtain rfl := Option.some.inj (tCon.symm.trans ht1)
  rw [ini_eq] at hd0
  rw [con_eq] at hd1
  have h0 := arr_of_trod Tryd.underlying122 Tryd.underlying87 (by kernel_rfl) hd0
  have h1 := arr_of_trod Tryd.underlying134 Tryd.underlying87 (by kernel_rfl) hd1
  have c0 : ∀ j, W.cell? ⟨0, j, none⟩ = cs0[j]? := fun j => World.var?_cell hg0 hv0 j
  have c1 : ∀ j, W.cell? ⟨1, j, none⟩ = cs1[j]? := fun j => World.var?_cell hg1 hv1 j
  have hk : ∀ j, j < 64 → W.cell? ⟨1, j, none⟩ = some (.int .u32 (wi (wat ks j))) := fun j hj => by
    rw [c1, ← Array.getElem?_toList, h1 j (by simpa [ks] using hj)]
    have hl : j < ks.length := hj
    simp [wat, List.getD, List.getElem?_map, List.getElem?_eq_getElem hl]
  have hini : ∀ j v, (wv hs)[j]? = some v → W.cell? ⟨0, 0 + j, none⟩ = some v := by
    intro j v hv
    have hj : j < hs.length := by simpa [wv] using (List.getElem?_eq_some_iff.1 hv).1
    rw [Nat.zero_add, c0, ← Array.getElem?_toList, h0 j (by simpa using hj), ← hv]
    simp [wv, List.getD, List.getElem?_map, List.getElem?_eq_getElem hj]
  refine ⟨⟨?_, hk⟩, hini⟩
  have l1 := block_lt_of_cell (hk 0 (by omega))
  have l0 := block_lt_of_cell (hini 0 _ rfl)
  exact Nat.max_lt.2 ⟨l0, l1⟩
end Go.Proofs.YtmkdbpdfonpfdaaDoor.Sha

/- A slice of structs that came in, over any program: each field of one cell; every element with a reading of each of its fields. -/
namespace Go.Proofs.YtmkdbpdfonpfdaaDoor
open Go.ChangeShapes Go.WideShapes Go.ChangeAt Go.RowKit Go.Deep

section
variable {H : Type} {enc : TypeId × Value → H} {P : Program} {W : World} {base : Nat}

/-- A slice of structs, opened: what each cell of each element holds, and that it reads. -/
theorem open_structs {t e : TypeId} {fs : Array Field} {v : Value} {d : DataW H} {ps : List MemPlace} (ht : P.underlying t = some (.slice e)) (he : P.underlying e = some (.struct fs))
    (hone : ∀ (i : Nat) (f : Field), fs[i]? = some f → f.offset = i ∧ P.cellsOf f.type = 1) (hC : P.cellsOf e = fs.size) (hpos : 0 < fs.size)
    (hv : Value.okWide P W .any base t v) (h : DataW.Trod enc P W 0 (fun _ => true) true t v d ps) :
    ∃ (A : Option Addr) (n c : Nat) (V : Nat → Nat → Value), v = .slice A n c ∧ (A = none → c = 0) ∧ n ≤ maxLen ∧ (0 < n → ∃ b o, A = some ⟨b, o, none⟩ ∧ b < W.heap.size ∧
      ∀ j, j < n → ∀ i f, fs[i]? = some f → W.cell? ⟨b, o + j * fs.size + i, none⟩ = some (V j i) ∧ ∃ fuel y, DataW.trod enc P W 0 (fun _ => true) true fuel f.type [V j i] = some y) := by
  obtain ⟨a0, len, cap, rfl⟩ := okWide_slice ht hv
  obtain ⟨fuel, hf⟩ := h
  rcases open_slice ht hf with ⟨hcs, _⟩ | ⟨a, len', cap', m, n, D, Pl, hcs, hb, hl, hm, hmm, _, hx⟩
  · simp [Value.cells] at hcs
    obtain ⟨rfl, rfl, rfl⟩ := hcs
    exact ⟨none, 0, 0, fun _ _ => undef, rfl, fun _ => rfl, Nat.zero_le _, fun h => absurd h (by omega)⟩
  · simp [Value.cells] at hcs
    obtain ⟨rfl, rfl, rfl⟩ := hcs
    simp only [if_true] at hmm
    subst hmm
    have each : ∀ j, j < m → ∃ cs' : List Value, W.cells? 0 (a.add (j * fs.size)) fs.size = some cs' ∧ DataW.trod enc P W 0 (fun _ => true) true n e cs' = some (D j, Pl j) := by
      intro j hj
      obtain ⟨cs', h1, h2⟩ := hx j hj
      rw [hC] at h1
      exact ⟨cs', h1, h2⟩
    obtain ⟨q, hq⟩ := choose_lt each
    refine ⟨some a, len, m, fun j i => (q j).getD i undef, rfl, (fun h => by cases h), Nat.le_trans hl hm, fun hn => ?_⟩
    obtain ⟨b, o, spot⟩ := a
    have hcell := fun j (hj : j < m) => (World.cells?_some (hq j hj).1).2
    have h0 := (hcell 0 (by omega)).2 0 hpos
    rw [List.getElem?_eq_getElem (by rw [(hcell 0 (by omega)).1]; exact hpos)] at h0
    have hspot : spot = none := by simpa [Addr.add] using World.cell?_spot h0
    subst hspot
    have h0' := World.block_lt_of_cell? W _ h0
    refine ⟨b, o, rfl, by simpa [Addr.add] using h0', fun j hj i f hi => ?_⟩
    have hjm : j < m := by omega
    obtain ⟨hlen, hc⟩ := hcell j hjm
    have hlt : i < fs.size := (Array.getElem?_eq_some_iff.1 hi).1
    obtain ⟨xs, k, _, _, _, hxl, hf'⟩ := DataW.trod_struct he (hq j hjm).2
    obtain ⟨ho, hc1⟩ := hone i f hi
    have g := hf' i f hi
    rw [ho, hc1, take1_drop (q j) i undef (by omega)] at g
    refine ⟨?_, k, ?_⟩
    · have := hc i hlt
      rw [add_add, add_plain, List.getElem?_eq_getElem (by omega)] at this
      rw [Nat.add_assoc, this]
      simp [List.getD, List.getElem?_eq_getElem (show i < (q j).length by omega)]
    · rw [List.getElem?_eq_getElem (show i < xs.length by omega)] at g
      exact ⟨_, g⟩

/-- The same, with its capacity. -/
theorem open_structs2 {t e : TypeId} {fs : Array Field} {v : Value} {d : DataW H} {ps : List MemPlace} (ht : P.underlying t = some (.slice e)) (he : P.underlying e = some (.struct fs))
    (hone : ∀ (i : Nat) (f : Field), fs[i]? = some f → f.offset = i ∧ P.cellsOf f.type = 1) (hC : P.cellsOf e = fs.size) (hpos : 0 < fs.size)
    (hv : Value.okWide P W .any base t v) (h : DataW.Trod enc P W 0 (fun _ => true) true t v d ps) :
    ∃ (A : Option Addr) (n c : Nat) (V : Nat → Nat → Value), v = .slice A n c ∧ (A = none → c = 0) ∧ n ≤ c ∧ c ≤ maxLen ∧ (0 < n → ∃ b o, A = some ⟨b, o, none⟩ ∧ b < W.heap.size ∧
      ∀ j, j < n → ∀ i f, fs[i]? = some f → W.cell? ⟨b, o + j * fs.size + i, none⟩ = some (V j i) ∧ ∃ fuel y, DataW.trod enc P W 0 (fun _ => true) true fuel f.type [V j i] = some y) := by
  obtain ⟨a0, len, cap, rfl⟩ := okWide_slice ht hv
  obtain ⟨fuel, hf⟩ := h
  rcases open_slice ht hf with ⟨hcs, _⟩ | ⟨a, len', cap', m, n, D, Pl, hcs, hb, hl, hm, hmm, _, hx⟩
  · simp [Value.cells] at hcs
    obtain ⟨rfl, rfl, rfl⟩ := hcs
    exact ⟨none, 0, 0, fun _ _ => undef, rfl, fun _ => rfl, Nat.le_refl _, Nat.zero_le _, fun h => absurd h (by omega)⟩
  · simp [Value.cells] at hcs
    obtain ⟨rfl, rfl, rfl⟩ := hcs
    simp only [if_true] at hmm
    subst hmm
    have each : ∀ j, j < m → ∃ cs' : List Value, W.cells? 0 (a.add (j * fs.size)) fs.size = some cs' ∧ DataW.trod enc P W 0 (fun _ => true) true n e cs' = some (D j, Pl j) := by
      intro j hj
      obtain ⟨cs', h1, h2⟩ := hx j hj
      rw [hC] at h1
      exact ⟨cs', h1, h2⟩
    obtain ⟨q, hq⟩ := choose_lt each
    refine ⟨some a, len, m, fun j i => (q j).getD i undef, rfl, (fun h => by cases h), hl, hm, fun hn => ?_⟩
    obtain ⟨b, o, spot⟩ := a
    have hcell := fun j (hj : j < m) => (World.cells?_some (hq j hj).1).2
    have h0 := (hcell 0 (by omega)).2 0 hpos
    rw [List.getElem?_eq_getElem (by rw [(hcell 0 (by omega)).1]; exact hpos)] at h0
    have hspot : spot = none := by simpa [Addr.add] using World.cell?_spot h0
    subst hspot
    have h0' := World.block_lt_of_cell? W _ h0
    refine ⟨b, o, rfl, by simpa [Addr.add] using h0', fun j hj i f hi => ?_⟩
    have hjm : j < m := by omega
    obtain ⟨hlen, hc⟩ := hcell j hjm
    have hlt : i < fs.size := (Array.getElem?_eq_some_iff.1 hi).1
    obtain ⟨xs, k, _, _, _, hxl, hf'⟩ := DataW.trod_struct he (hq j hjm).2
    obtain ⟨ho, hc1⟩ := hone i f hi
    have g := hf' i f hi
    rw [ho, hc1, take1_drop (q j) i undef (by omega)] at g
    refine ⟨?_, k, ?_⟩
    · have := hc i hlt
      rw [add_add, add_plain, List.getElem?_eq_getElem (by omega)] at this
      rw [Nat.add_assoc, this]
      simp [List.getD, List.getElem?_eq_getElem (show i < (q j).length by omega)]
    · rw [List.getElem?_eq_getElem (show i < xs.length by omega)] at g
      exact ⟨_, g⟩

/-- A cell that reads as an integer. -/
theorem cell_int {t : TypeId} {k : IntKind} {v : Value} {fuel : Nat} {y : DataW H × List MemPlace} (ht : P.underlying t = some (.int k)) (h : DataW.trod enc P W 0 (fun _ => true) true fuel t [v] = some y) : ∃ x, v = .int k x ∧ (Lit.int k x).wf = true := by
  obtain ⟨a, h1, _, h2⟩ := DataW.trod_int ht h
  simp at h1
  exact ⟨a, h1, h2⟩

/-- A cell that reads as a slice of integers. -/
theorem cell_row {t e : TypeId} {k : IntKind} {v : Value} {fuel : Nat} {y : DataW H × List MemPlace} (ht : P.underlying t = some (.slice e)) (he : P.underlying e = some (.int k)) (hc : P.cellsOf e = 1) (h : DataW.trod enc P W 0 (fun _ => true) true fuel t [v] = some y) :
    ∃ A n c xs, v = .slice A n c ∧ Row k W W.heap.size A n xs ∧ (A = none → c = 0) ∧ ∀ x ∈ xs, (Lit.int k x).wf = true := by
  rcases open_ints ht he hc h with ⟨hcs, hx⟩ | ⟨a, len', cap', zs, hcs, _, hl, hm, hz, hx, hcell, hwz⟩
  · simp at hcs
    exact ⟨none, 0, 0, [], hcs, Row.none_, fun _ => rfl, by simp⟩
  · simp at hcs
    exact ⟨some a, len', cap', zs.take len', hcs, row_of_open (by simp at hz; omega) hcell, (fun h => by cases h), fun x hx => hwz x (List.mem_of_mem_take hx)⟩
end

/-- A list of what is chosen at each index. -/
theorem list_of {α : Type} [Inhabited α] {n : Nat} {p : Nat → α → Prop} (h : ∀ i, i < n → ∃ x, p i x) : ∃ l : List α, l.length = n ∧ ∀ i x, l[i]? = some x → p i x := by
  obtain ⟨f, hf⟩ := choose_lt h
  refine ⟨(List.range n).map f, by simp, fun i x hx => ?_⟩
  have hi : i < n := by
    have := (List.getElem?_eq_some_iff.1 hx).1
    simpa using this
  simp [hi] at hx
  subst hx
  exact hf i hi
end Go.Proofs.YtmkdbpdfonpfdaaDoor

/- A slice of slices of bytes that came in, over any program. -/
namespace Go.Proofs.YtmkdbpdfonpfdaaDoor
open Go.ChangeShapes Go.WideShapes Go.ChangeAt Go.RowKit Go.Deep Slc

section
variable {H : Type} {enc : TypeId × Value → H} {P : Program} {W : World} {base : Nat}

/-- A cell that reads as a slice of integers, with its capacity. -/
theorem cell_row2 {t e : TypeId} {k : IntKind} {v : Value} {fuel : Nat} {y : DataW H × List MemPlace} (ht : P.underlying t = some (.slice e)) (he : P.underlying e = some (.int k)) (hc : P.cellsOf e = 1) (h : DataW.trod enc P W 0 (fun _ => true) true fuel t [v] = some y) :
    ∃ A n c xs, v = .slice A n c ∧ Row k W W.heap.size A n xs ∧ (A = none → c = 0) ∧ n ≤ c ∧ ∀ x ∈ xs, (Lit.int k x).wf = true := by
  rcases open_ints ht he hc h with ⟨hcs, hx⟩ | ⟨a, len', cap', zs, hcs, _, hl, hm, hz, hx, hcell, hwz⟩
  · simp at hcs
    exact ⟨none, 0, 0, [], hcs, Row.none_, fun _ => rfl, Nat.le_refl _, by simp⟩
  · simp at hcs
    exact ⟨some a, len', cap', zs.take len', hcs, row_of_open (by simp at hz; omega) hcell, (fun h => by cases h), hl, fun x hx => hwz x (List.mem_of_mem_take hx)⟩

/-- The same, with the bound of its capacity. -/
theorem cell_row3 {t e : TypeId} {k : IntKind} {v : Value} {fuel : Nat} {y : DataW H × List MemPlace} (ht : P.underlying t = some (.slice e)) (he : P.underlying e = some (.int k)) (hc : P.cellsOf e = 1) (h : DataW.trod enc P W 0 (fun _ => true) true fuel t [v] = some y) :
    ∃ A n c xs, v = .slice A n c ∧ Row k W W.heap.size A n xs ∧ (A = none → c = 0) ∧ n ≤ c ∧ c ≤ maxLen ∧ ∀ x ∈ xs, (Lit.int k x).wf = true := by
  rcases open_ints ht he hc h with ⟨hcs, hx⟩ | ⟨a, len', cap', zs, hcs, _, hl, hm, hz, hx, hcell, hwz⟩
  · simp at hcs
    exact ⟨none, 0, 0, [], hcs, Row.none_, fun _ => rfl, Nat.le_refl _, Nat.zero_le _, by simp⟩
  · simp at hcs
    exact ⟨some a, len', cap', zs.take len', hcs, row_of_open (by simp at hz; omega) hcell, (fun h => by cases h), hl, hm, fun x hx => hwz x (List.mem_of_mem_take hx)⟩

instance : Inhabited Part := ⟨⟨none, 0, 0, []⟩⟩

theorem open_parts {t e f : TypeId} {v : Value} {d : DataW H} {ps : List MemPlace} (ht : P.underlying t = some (.slice e)) (he : P.underlying e = some (.slice f)) (hff : P.underlying f = some (.int .u8)) (hC : P.cellsOf e = 1) (hc1 : P.cellsOf f = 1)
    (hv : Value.okWide P W .any base t v) (h : DataW.Trod enc P W 0 (fun _ => true) true t v d ps) :
    ∃ A n c L, v = .slice A n c ∧ Prs W W.heap.size A n L ∧ (A = none → c = 0) ∧ n ≤ c ∧ c ≤ maxLen ∧ ∀ p ∈ L, p.n ≤ maxLen := by
  obtain ⟨a0, len, cap, rfl⟩ := okWide_slice ht hv
  obtain ⟨fuel, hf⟩ := h
  rcases open_slice ht hf with ⟨hcs, _⟩ | ⟨a, len', cap', m, n, D, Pl, hcs, hb, hl, hm, hmm, _, hx⟩
  · simp [Value.cells] at hcs
    obtain ⟨rfl, rfl, rfl⟩ := hcs
    exact ⟨none, 0, 0, [], rfl, ⟨rfl, fun h => absurd h (Nat.lt_irrefl 0), by simp, by simp⟩, fun _ => rfl, Nat.le_refl _, Nat.zero_le _, by simp⟩
  · simp [Value.cells] at hcs
    obtain ⟨rfl, rfl, rfl⟩ := hcs
    simp only [if_true] at hmm
    subst hmm
    have each : ∀ j, j < len → ∃ p : Part, W.cell? (a.add j) = some p.v ∧ p.Right W W.heap.size ∧ (p.n ≤ p.c ∧ ∀ x ∈ p.xs, 0 ≤ x ∧ x ≤ 255) ∧ p.n ≤ maxLen := by
      intro j hj
      obtain ⟨cs', h1, h2⟩ := hx j (by omega)
      rw [hC, Nat.mul_one] at h1
      obtain ⟨hlen, hc⟩ := (World.cells?_some h1).2
      match cs', hlen with
      | [u], _ =>
        have hcu := hc 0 (by omega)
        simp only [List.getElem?_cons_zero] at hcu
        obtain ⟨A, n1, c1, xs, rfl, hr, hnil, hnc, hcm, hw⟩ := cell_row3 he hff hc1 h2
        refine ⟨⟨A, n1, c1, xs⟩, ?_, ⟨hr, hnil⟩, ⟨hnc, fun x hx => ?_⟩, Nat.le_trans hnc hcm⟩
        · have e : (a.add j).add 0 = a.add j := by rw [add_add]; simp
          rwa [e] at hcu
        · have := bounds_u8 (hw x hx)
          omega
    obtain ⟨L, hL, hP⟩ := list_of each
    refine ⟨some a, len, m, L, rfl, ⟨hL, fun hn => ?_, fun p hp => ?_, fun p hp => ?_⟩, (fun h => by cases h), hl, hm, fun p hp => ?_⟩
    · obtain ⟨b, o, spot⟩ := a
      have h0 := (hP 0 (L[0]'(by omega)) (List.getElem?_eq_getElem (by omega))).1
      have hspot : spot = none := by simpa [Addr.add] using World.cell?_spot h0
      subst hspot
      have hlt := World.block_lt_of_cell? W _ h0
      refine ⟨b, o, rfl, by simpa [Addr.add] using hlt, fun j hj => ?_⟩
      have := (hP j L[j] (List.getElem?_eq_getElem hj)).1
      rwa [add_plain] at this
    · obtain ⟨j, hj, rfl⟩ := List.getElem_of_mem hp
      exact (hP j _ (List.getElem?_eq_getElem hj)).2.1
    · obtain ⟨j, hj, rfl⟩ := List.getElem_of_mem hp
      exact (hP j _ (List.getElem?_eq_getElem hj)).2.2.1
    · obtain ⟨j, hj, rfl⟩ := List.getElem_of_mem hp
      exact (hP j _ (List.getElem?_eq_getElem hj)).2.2.2
end
end Go.Proofs.YtmkdbpdfonpfdaaDoor

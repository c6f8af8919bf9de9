/- Layer 8 (hmac): the walk of the law on tags. -/
import Derived.Test.YtclidocmfdimiaaDoorHmcL
import Derived.Test.YtclidocmfdimiaaDoorHmcD
import Derived.Test.YtclidocmfdimiaaDoorSameA
namespace Go.Proofs.YtclidocmfdimiaaDoor.Hmc
open Go.RowKit Sha Slc

/-- What a program's Derive must do. -/
def DeriveOk : Prop := ∀ (A A' : Option Addr) (n c n' c' : Nat) (k : List Int) (s : ByteArray) (L : List Part) (w : World), Row .u8 w w.heap.size A n k → (A = none → c = 0) → n ≤ c → (∀ x ∈ k, 0 ≤ x ∧ x ≤ 255) → Prs w w.heap.size A' n' L → (A' = none → c' = 0) → n' ≤ c' → n ≤ 100000 → s.size ≤ 100000 → n' ≤ 100000 → total L ≤ 100000 → Lay w →
  Calls Tryd.prog 9 #[.slice A n c, .string s, .slice A' n' c'] w fun e w' => ∃ v, e = .returned v ∧ w'.ownsRow w.heap.size 5 1 v 32 ((mac k (sby s ++ 0 :: whole L)).map (Value.int .u8)) ∧ Below w.heap.size w w'

theorem total_bound (m : Nat) : ∀ {L : List Part}, (∀ p ∈ L, p.n ≤ m) → total L ≤ m * L.length
  | [], _ => by simp [total]
  | p :: L, h => by
    have h1 := h p (by simp)
    have h2 := total_bound m (L := L) (fun q hq => h q (by simp [hq]))
    simp only [total, List.map_cons, List.sum_cons, List.length_cons] at *
    rw [Nat.mul_add]
    omega

set_option maxHeartbeats 1600000 in
set_option maxRecDepth 100000 in
theorem tags_walk (htag : TagOk) (hder : DeriveOk) (A A' : Option Addr) (n c n' c' : Nat) (k : List Int) (L : List Part) (s : ByteArray) (w : World) (hr : Row .u8 w w.heap.size A n k) (hnil : A = none → c = 0) (hc : n ≤ c) (hk : ∀ x ∈ k, 0 ≤ x ∧ x ≤ 255)
    (hp : Prs w w.heap.size A' n' L) (hnil' : A' = none → c' = 0) (hc' : n' ≤ c') (hT : Lay w) :
    Calls Tryd.prog 3 #[.slice A n c, .slice A' n' c', .string s] w fun e w' => e = .returned (.bool true) ∧ Below w.heap.size w w' := by
  obtain ⟨i0, hi, hz0, hz1, hz2⟩ := parts_of info8
  have HR := Lib.hid hr
  have HP := Lib.hid hp
  have HNIL := Lib.hid hnil
  have HNIL' := Lib.hid hnil'
  have HNC := Lib.hid hc
  have HNC' := Lib.hid hc'
  have HK := Lib.hid hk
  have HT := Lib.hid hT
  clear hr hp hnil hnil' hc hc' hk hT
  go_enter Tryd.func3, Tryd.ntmps3
  go_wp2_with fail
  refine (awake_any htag _ HT.out).mono ?_
  rintro e1 w1 ⟨rfl, hb1⟩
  have HB1 := Lib.hid hb1
  clear hb1
  by_cases hbig : 500 < n ∨ 10 < n' ∨ 100 < s.size
  · rcases hbig with hbig | hbig | hbig
    · have hd : decide ((500 : Int) < (n : Int)) = true := by simp; omega
      go_wp2
      go_ret
      exact ⟨rfl, HB1.out⟩
    · have hd : decide ((10 : Int) < (n' : Int)) = true := by simp; omega
      by_cases h0 : 500 < n
      · have hd : decide ((500 : Int) < (n : Int)) = true := by simp; omega
        go_wp2
        go_ret
        exact ⟨rfl, HB1.out⟩
      · have hd : decide ((500 : Int) < (n : Int)) = false := by simp; omega
        go_wp2
        go_ret
        exact ⟨rfl, HB1.out⟩
    · have hd : decide ((100 : Int) < (s.size : Int)) = true := by simp; omega
      by_cases h0 : 500 < n
      · have hd : decide ((500 : Int) < (n : Int)) = true := by simp; omega
        go_wp2
        go_ret
        exact ⟨rfl, HB1.out⟩
      · have hd : decide ((500 : Int) < (n : Int)) = false := by simp; omega
        by_cases h1 : 10 < n'
        · have hd : decide ((10 : Int) < (n' : Int)) = true := by simp; omega
          go_wp2
          go_ret
          exact ⟨rfl, HB1.out⟩
        · have hd : decide ((10 : Int) < (n' : Int)) = false := by simp; omega
          go_wp2
          go_ret
          exact ⟨rfl, HB1.out⟩
  have hd0 : decide ((500 : Int) < (n : Int)) = false := by simp; omega
  have hd1 : decide ((10 : Int) < (n' : Int)) = false := by simp; omega
  have hd2 : decide ((100 : Int) < (s.size : Int)) = false := by simp; omega
  have hn : n ≤ 500 := by omega
  have hn' : n' ≤ 10 := by omega
  have hs : s.size ≤ 100 := by omega
  clear hbig
  have HO0 : Hid (w1.ownsRow w.heap.size 5 1 (.slice none 0 0) (total (L.take 0)) ((whole (L.take 0)).map (Value.int .u8))) := World.ownsRow_nil _ _ _ _
  have HS0 : Hid (∀ p ∈ L.take 0, p.n ≤ 300) := by refine Lib.hid ?_; simp
  have hlen := Lib.hid HP.out.len
  go_wp2
  go_loopw [27, 7] (fun i v wr => ∃ j : Nat, j ≤ n' ∧ i = .int .i64 (j : Int) ∧ Hid (wr.ownsRow w.heap.size 5 1 v (total (L.take j)) ((whole (L.take j)).map (Value.int .u8))) ∧ Hid (Below w.heap.size w wr) ∧ Hid (∀ p ∈ L.take j, p.n ≤ 300)) (fun i _ _ => n' - (intOf i).toNat)
  case atStart => exact ⟨0, Nat.zero_le _, rfl, HO0, HB1, HS0⟩
  case round =>
    obtain ⟨j, hj, rfl, HO, HB, HS⟩ := hrel
    by_cases hlt : j < n'
    · have hjl : j < L.length := by rw [hlen.out]; exact hlt
      obtain ⟨b, o, hA, hbs, hat⟩ := HP.out.at_ (by omega)
      subst hA
      have hcell := (HB.out.cell (p := ⟨b, o + j, none⟩) hbs).trans (hat j hjl)
      have hri := HP.out.right _ (List.getElem_mem hjl)
      have htn := Lib.hid (total_next hjl)
      have hwn := Lib.hid (whole_next hjl)
      have htk := Lib.hid (List.take_succ_eq_append_getElem hjl)
      clear hat
      unfold Part.v at hcell
      generalize L[j] = p at *
      obtain ⟨A2, n2, c2, xs⟩ := p
      have HR2 := Lib.hid (hri.1.below HB.out)
      have HN2 := Lib.hid hri.2
      clear hri
      by_cases h3 : n2 ≤ 300
      · have hd3 : decide ((300 : Int) < (n2 : Int)) = false := by simp; omega
        have hsm : total (L.take j) ≤ 3000 := by
          have := total_bound 300 HS.out
          have : (L.take j).length ≤ 10 := by simp; omega
          omega
        go_wp2_with (at_builtin; refine cat_own rfl (.tmp 34) (.tmp 35) 22 rfl w.heap.size 5 i0 .u8 1 Tryd.underlying22 hi hz0 hz1 hz2 _ (total (L.take j)) (whole (L.take j)) rfl HO.out w.heap.size A2 n2 c2 xs rfl HN2.out HR2.out (by omega) (by omega) HB.out.size ?_; intro v3 w3 hown3 hb3; have HO3 := Lib.hid hown3; have HB3 := Lib.hid (HB.out.trans hb3); clear hown3 hb3)
        go_roundw
        case rel => exact ⟨j + 1, by omega, by go_num, by unfold Hid; rw [htn.out, hwn.out]; exact HO3.out, HB3, by
          unfold Hid
          rw [htk.out]
          intro q hq
          rcases List.mem_append.1 hq with hq | hq
          · exact HS.out q hq
          · obtain rfl : q = _ := List.mem_singleton.1 hq
            exact h3⟩
        case measure => simp [intOf]; omega
      · have hd3 : decide ((300 : Int) < (n2 : Int)) = true := by simp; omega
        go_wp2
        go_ret
        exact ⟨rfl, HB.out⟩
    · obtain rfl : j = n' := by omega
      rw [List.take_of_length_le (by rw [hlen.out]; exact Nat.le_refl _)] at HO HS
      have htot : total L ≤ 3000 := by
        have := total_bound 300 HS.out
        have := hlen.out
        omega
      have HBY := Lib.hid HP.out.whole_byt
      have HWL := Lib.hid (whole_len HP.out.right)
      obtain ⟨A7, c7, rfl, hc7, hnil7⟩ := own_slice HO.out
      have HN7 := Lib.hid hnil7
      clear hnil7 HS
      go_wp2_with fail
      refine (htag A A' n c j c' k L _ ((HR.out.below HB.out).more HB.out.size) HNIL.out HNC.out HK.out ((HP.out.below HB.out).more HB.out.size) HNIL'.out HNC'.out (by omega) (by omega) (by omega) (HT.out.below HB.out HT.out.tab.1)).mono ?_
      rintro e2 w2 ⟨v2, rfl, hown2, hb2⟩
      obtain ⟨A2, c2, rfl, -, -⟩ := own_slice hown2
      have HO2 := Lib.hid hown2
      have HO7 := Lib.hid (own_below HO.out hb2)
      have HB2 := Lib.hid (HB.out.trans (hb2.mono HB.out.size))
      clear hown2 hb2 HO HB
      go_wp2_with fail
      refine (reftag_any A A7 n c (total L) c7 k (whole L) _ ((HR.out.below HB2.out).more HB2.out.size) (Row.of_own HO7.out) HNIL.out HN7.out (by omega) (by omega) HK.out HBY.out).mono ?_
      rintro e3 w3 ⟨v3, rfl, hown3, hb3⟩
      obtain ⟨A3, c3, rfl, -, -⟩ := own_slice hown3
      have HR2 := Lib.hid ((Row.of_own HO2.out).below hb3)
      have HR3 := Lib.hid (Row.of_own hown3)
      have HO73 := Lib.hid (own_below HO7.out hb3)
      have HB3 := Lib.hid (HB2.out.trans (hb3.mono HB2.out.size))
      clear hown3 hb3 HO2 HO7 HB2
      go_wp2_with fail
      refine (same_yes A2 A3 32 c2 c3 _ _ (mac k (whole L)) _ (by omega) HR2.out HR3.out).mono ?_
      rintro e4 w4 ⟨rfl, q, rfl⟩
      have HB4 : Hid (Below w.heap.size w (w3.drewN q)) := ⟨HB3.out.os, HB3.out.tape, HB3.out.output, HB3.out.size, HB3.out.block⟩
      have HO74 : Hid ((w3.drewN q).ownsRow w.heap.size 5 1 (.slice A7 (total L) c7) (total L) ((whole L).map (Value.int .u8))) := HO73.out
      generalize w3.drewN q = w4 at HB4 HO74 ⊢
      clear HR2 HR3 HB3 HO73
      go_wp2_with fail
      refine (hder A A' n c j c' k s L _ ((HR.out.below HB4.out).more HB4.out.size) HNIL.out HNC.out HK.out ((HP.out.below HB4.out).more HB4.out.size) HNIL'.out HNC'.out (by omega) (by omega) (by omega) (by omega) (HT.out.below HB4.out HT.out.tab.1)).mono ?_
      rintro e5 w5 ⟨v5, rfl, hown5, hb5⟩
      obtain ⟨A5, c5, rfl, -, -⟩ := own_slice hown5
      have HO5 := Lib.hid hown5
      have HO75 := Lib.hid (own_below HO74.out hb5)
      have HB5 := Lib.hid (HB4.out.trans (hb5.mono HB4.out.size))
      clear hown5 hb5 HO74 HB4
      go_wp2_with fail
      refine (refderive_any A A7 n c (total L) c7 k (whole L) s _ ((HR.out.below HB5.out).more HB5.out.size) (Row.of_own HO75.out) HNIL.out HN7.out (by omega) (by omega) (by omega) HK.out HBY.out).mono ?_
      rintro e6 w6 ⟨v6, rfl, hown6, hb6⟩
      obtain ⟨A6, c6, rfl, -, -⟩ := own_slice hown6
      have HR5 := Lib.hid ((Row.of_own HO5.out).below hb6)
      have HR6 := Lib.hid (Row.of_own hown6)
      have HB6 := Lib.hid (HB5.out.trans (hb6.mono HB5.out.size))
      clear hown6 hb6 HO5 HO75 HB5
      go_wp2_with fail
      refine (same_yes A5 A6 32 c5 c6 _ _ (mac k (sby s ++ 0 :: whole L)) _ (by omega) HR5.out HR6.out).mono ?_
      rintro e7 w7 ⟨rfl, q7, rfl⟩
      go_wp2
      go_ret
      exact ⟨rfl, ⟨HB6.out.os, HB6.out.tape, HB6.out.output, HB6.out.size, HB6.out.block⟩⟩
end Go.Proofs.YtclidocmfdimiaaDoor.Hmc

/- Lemmas that the proof stands on, in build order: ShaA ShaB ShaC Cell RgO VarM CrcM. -/
import Derived.StillTailTactics
import Derived.RegionTactic
import Derived.Deep.MidRow
import Derived.OwnWalk
import Derived.Great.BuildSlice
import Derived.WalkKit
import Derived.Laws.BitsAllLaws
import Derived.Test.YtmkdbpdfonpfdaaDoorJ127b64a
import Derived.Test.YtmkdbpdfonpfdaaDoorJ2d18a1d
/- Layer 7 (sha): the program's add (bytes that go into a run), as a contract. -/
namespace Go.Proofs.YtmkdbpdfonpfdaaDoor.Sha
open Go.RowKit

theorem e8t : (Tryd.prog.info? 5).map (·.size) = some 1 := by kernel_rfl
theorem bv_one (l : List Int) : ∀ v ∈ bv l, v.oneCell' = true := fun v hv => by
  unfold bv at hv
  obtain ⟨x, _, rfl⟩ := List.mem_map.1 hv
  rfl
theorem wv_one' (l : List Wd) : ∀ v ∈ wv l, v.oneCell' = true := fun v hv => by
  unfold wv at hv
  obtain ⟨x, _, rfl⟩ := List.mem_map.1 hv
  rfl

set_option maxHeartbeats 3200000 in
set_option maxRecDepth 100000 in
theorem add_any (A : Option Addr) (n c R B : Nat) (xs b0 : List Int) (H0 : List Wd) (L0 : List Int) (w : World) (h : Row .u8 w B A n xs) (hB : B ≤ w.heap.size) (hc : n ≤ c) (hne : 0 < n → ∀ b o, A = some ⟨b, o, none⟩ → b ≠ R) (hb : ∀ x ∈ xs, 0 ≤ x ∧ x ≤ 255)
    (hR : Run w R b0 H0 L0) (hT : Tab w) (hR1 : Glo < R) (hlen : b0.length + n ≤ 4398046511104) :
    Calls Tryd.prog 86 #[.pointer (some ⟨R, 0, none⟩), .slice A n c] w fun e w' => e = .returned (.tuple #[]) ∧ ∃ H L, Run w' R (b0 ++ xs) H L ∧ Only (fun k => k = R) w w' := by
  have HX : Hid (Ad w R B b0 xs A n c [] xs H0 L0 w) := ⟨by rw [List.append_nil]; exact hR, h, hne, hB, hc, rfl, Only.refl _ _, hT⟩
  have HBY := Lib.hid hb
  have HL := Lib.hid hlen
  have HR1 := Lib.hid hR1
  have hxl := h.len
  have HXL := Lib.hid hxl
  clear h hB hc hne hb hR hT hR1 hlen hxl
  go_enter Tryd.func86, Tryd.ntmps86
  go_wp2_with fail
  go_loopw [1, 4] (fun v _ wr => ∃ (A' : Option Addr) (m c' : Nat) (zs ys : List Int) (H : List Wd) (L : List Int), v = .slice A' m c' ∧ Hid (Ad w R B b0 xs A' m c' zs ys H L wr)) (fun v _ _ => lenOf v)
  case atStart => exact ⟨A, n, c, [], xs, H0, L0, rfl, HX⟩
  case round =>
    obtain ⟨A', m, c', zs, ys, H, L, rfl, HA⟩ := hrel
    by_cases hm : 0 < m
    · obtain ⟨bb, oo, rfl, hbb, hcell⟩ := HA.out.row.2 hm
      obtain ⟨N, hN⟩ : ∃ N, (b0 ++ zs).length = N := ⟨_, rfl⟩
      obtain ⟨q, hq⟩ : ∃ q, N % 64 = q := ⟨_, rfl⟩
      have hq64 : q < 64 := by omega
      obtain ⟨j, hj⟩ : ∃ j, min m (64 - q) = j := ⟨_, rfl⟩
      have hj0 : 0 < j := by omega
      have hjm : j ≤ m := by omega
      have hjq : q + j ≤ 64 := by omega
      obtain ⟨kc, kf⟩ := HA.out.run.count
      rw [hN] at kc
      have hq2 : (N : Int).tmod 64 = (q : Int) := by rw [Int.tmod_eq_emod_of_nonneg (by omega)]; omega
      have hq5 : ¬ 64 = q := by omega
      have hq3 : (0 : Int) ≤ (q : Int) := by omega
      have hq4 : (q : Int) ≤ 64 := by omega
      have hNs : N ≤ 4398046511104 := by
        have h1 := HL.out
        have h2 := HXL.out
        rw [HA.out.all, List.length_append] at h2
        rw [List.length_append] at hN
        omega
      have hmc := HA.out.mc
      have hmin : min m (64 - q) = j := hj
      have HJ := Lib.hid hj
      have HM := Lib.hid hm
      clear hj hmin hcell HX
      have HQ := Lib.hid hq
      clear hq
      go_wp2
      go_still_tail 10, (by kernel_rfl)
      change wpList _ _ _ _ _ wr.drew
      have hblk : wr.drew.heap[R]? = some (.cells (rcells H L N).toArray 124 (0, 0)) := by rw [← hN]; exact HA.out.run.blk
      have hrn := HA.out.run.rn
      have hyl : ys.length = m := HA.out.row.len
      have htl : (ys.take j).length = j := by rw [List.length_take]; omega
      have hbl : (bv (ys.take j)).length = j := by rw [bv_len, htl]
      have hcells : ((rcells H L N).toArray.toList.take (8 + q) ++ (bv (ys.take j) ++ (rcells H L N).toArray.toList.drop (8 + q + (bv (ys.take j)).length))).toArray = (rcells H (splice L q (ys.take j)) N).toArray := by
        congr 1
        exact rcells_splice hrn.h8 (by rw [htl, hrn.l64]; omega)
      refine wpList_copy_own rfl (.tmp 16) (.tmp 17) 29 29 rfl 5 Tryd.underlying29 e8t R (8 + q) (64 - q) (64 - q) ⟨bb, oo, none⟩ m c' rfl rfl (rcells H L N).toArray 124 hblk (bv (ys.take j)) ?c2 ?c3 ?c4 (bv_one _) ?_
      case c2 => rw [hbl]; exact HJ.out.symm
      case c3 =>
        intro i v hv
        have hi : i < (bv (ys.take j)).length := (List.getElem?_eq_some_iff.1 hv).1
        rw [hbl] at hi
        have hadd : (⟨bb, oo, none⟩ : Addr).add i = ⟨bb, oo + i, none⟩ := by unfold Addr.add; split <;> simp_all
        obtain ⟨b', o', e, _, hcc⟩ := HA.out.row.cell_at (show i < m by omega)
        injection e with e
        injection e with e1 e2
        subst e1 e2
        rw [hadd]
        refine hcc.trans ?_
        rw [← hv]
        simp [bv, List.getD, hi, List.getElem?_eq_getElem (show i < ys.length by omega)]
      case c4 =>
        rw [hbl]
        have := rcells_len (c := N) hrn.h8 hrn.l64
        rw [List.size_toArray, this]
        omega
      rw [hcells, hbl]
      have hw1 : ∃ w1, wr.drew.setRow R (rcells H (splice L q (ys.take j)) N).toArray = w1 := ⟨_, rfl⟩
      obtain ⟨w1, hw1⟩ := hw1
      rw [hw1]
      have hblk1 : w1.heap[R]? = some (.cells (rcells H (splice L q (ys.take j)) N).toArray 124 (0, 0)) := by rw [← hw1]; exact setRow_heap _ _ _ _ _ _ hblk
      have honly1 : Only (fun k => k = R) wr w1 := by
        rw [← hw1]
        exact (Only.drew (Only.refl _ wr)).trans (Only.setRow _ _ _) (fun _ _ h => h)
      have HB1 := Lib.hid hblk1
      have HO1 := Lib.hid honly1
      have HYL := Lib.hid hyl
      have HTL := Lib.hid htl
      have HRN := Lib.hid hrn
      have HNN := Lib.hid hN
      have hcount : (rcells H (splice L q (ys.take j)) N).toArray.setIfInBounds 72 (.int .u64 ((N + j : Nat) : Int)) = (rcells H (splice L q (ys.take j)) (N + j)).toArray := rcells_count hrn.h8 (by rw [length_splice _ _ _ (by rw [htl, hrn.l64]; omega)]; exact hrn.l64)
      have kc1 : w1.cell? ⟨R, 72, none⟩ = some (.int .u64 (N : Int)) := by
        refine cell_of_blk hblk1 ?_
        have h2 : (splice L q (ys.take j)).length = 64 := by rw [length_splice _ _ _ (by rw [htl, hrn.l64]; omega)]; exact hrn.l64
        rw [List.getElem?_toArray]
        unfold rcells
        rw [List.getElem?_append_right (by rw [wv_len, hrn.h8]; omega), wv_len, List.getElem?_append_right (by rw [bv_len, hrn.h8]; omega), bv_len, hrn.h8, h2]
        rfl
      have kf1 : w1.frozen? ⟨R, 72, none⟩ = false := free_of_blk hblk1
      have HCO := Lib.hid hcount
      have ha1 : IntKind.u64.wrap ((N : Int) + (j : Int)) = ((N + j : Nat) : Int) := by rw [IntWalk.u64_in _ ⟨by omega, by omega⟩]; omega
      clear hblk hrn hyl htl hbl hcells hw1 hblk1 honly1 hN kc kf hq2 hq5 hcount
      have hjc : (j : Int) ≤ (m : Int) := by omega
      have hj1 : (0 : Int) ≤ (j : Int) := by omega
      have e0 : (N : Int) + (j : Int) = ((N + j : Nat) : Int) := by omega
      have hb2 := set_blk (j := 72) (u := .int .u64 ((N + j : Nat) : Int)) HB1.out
      rw [HCO.out, ← e0] at hb2
      have HB2 := Lib.hid hb2
      have HO2 := Lib.hid (HO1.out.trans (Only.setCell w1 ⟨R, 72, none⟩ (.int .u64 ((N : Int) + (j : Int)))) (fun _ _ h => h))
      clear hb2 e0 HB1 HO1 HCO
      have hbyj : ∀ x ∈ ys.take j, 0 ≤ x ∧ x ≤ 255 := fun x hx => HBY.out x (by rw [HA.out.all]; exact List.mem_append_right _ (List.mem_of_mem_take hx))
      have HBJ := Lib.hid hbyj
      clear hbyj
      by_cases hfull : q + j = 64
      · have hf : (((N : Int) + (j : Int)) % 64 == 0) = true := beq_iff_eq.2 (by have := HQ.out; omega)
        have hrf := Rn.full HRN.out HBJ.out (by rw [HNN.out, HQ.out, HTL.out]; exact hfull)
        rw [HNN.out, HQ.out, List.append_assoc] at hrf
        obtain ⟨H', hH⟩ : ∃ H', adds H (rounds ks (sched 48 (words (splice L q (ys.take j)) 0 16)) H 64) 8 = H' := ⟨_, rfl⟩
        rw [hH] at hrf
        have HH := Lib.hid hH
        have HJM := Lib.hid hjm
        have HMC := Lib.hid hmc
        have HRF := Lib.hid hrf
        have hl64 : (splice L q (ys.take j)).length = 64 := hrf.l64
        have HL64 := Lib.hid hl64
        clear hrf hl64 hfull hH
        have hi37 := info8w HRN.out.h8
        have hi38 := info64b HL64.out
        by_cases hcj : c' = j
        · have hmj : m = j := by omega
          have HMJ := Lib.hid hmj
          clear hmj
          go_wp2_with fail
          generalize w1.setCell ⟨R, 72, none⟩ (.int .u64 ((N : Int) + (j : Int))) = w2 at HB2 HO2 ⊢
          have HT2 : Hid (Tab w2.drew) := HA.out.tab.only HO2.out.drew HR1.out
          have HRL : Hid (R < w2.drew.heap.size) := (Array.getElem?_eq_some_iff.1 HB2.out).1
          have r1 : w2.drew.rangeAt R 0 (wv H) := fun i v hv => by
            rw [Nat.zero_add]
            refine cell_of_blk HB2.out ?_
            rw [List.getElem?_toArray]
            unfold rcells
            rw [List.getElem?_append_left (List.getElem?_eq_some_iff.1 hv).1]
            exact hv
          have r2 : w2.drew.rangeAt R 8 (bv (splice L q (ys.take j))) := fun i v hv => by
            refine cell_of_blk HB2.out ?_
            rw [List.getElem?_toArray]
            unfold rcells
            rw [List.getElem?_append_right (by rw [wv_len, HRN.out.h8]; omega), wv_len, HRN.out.h8, show 8 + i - 8 = i by omega, List.getElem?_append_left (List.getElem?_eq_some_iff.1 hv).1]
            exact hv
          have R1 := Lib.hid r1
          have R2 := Lib.hid r2
          have I37 := Lib.hid hi37
          have I38 := Lib.hid hi38
          clear r1 r2 hi37 hi38
          have KS : Hid (∀ w4, Below w2.drew.heap.size w2.drew w4 → (w4.there R 0 (wv H').toArray.size ∧ (Tryd.prog.info? 122).map (·.size) = some (wv H').toArray.size) ∧ (Run (w4.setCells R 0 (wv H')) R (b0 ++ (zs ++ ys.take j)) H' (splice L q (ys.take j)) ∧ Only (fun k => k = R) wr (w4.setCells R 0 (wv H')))) := fun w4 hb => by
            have h4 : w4.heap[R]? = some (.cells (rcells H (splice L q (ys.take j)) (N + j)).toArray 124 (0, 0)) := (hb.block R HRL.out).trans HB2.out
            have h8 := HRN.out.h8
            have h8' : H'.length = 8 := HRF.out.h8
            have hsz : (wv H').toArray.size = 8 := by rw [List.size_toArray, wv_len, h8']
            have hth : w4.there R 0 8 := fun i hi => by
              have hc := cell_of_row w4 R (0 + i) _ _ _ h4
              refine ⟨?_, free_of_blk h4⟩
              rw [hc, List.getElem?_toArray, List.getElem?_eq_getElem (by rw [rcells_len h8 HL64.out]; omega)]
              rfl
            refine ⟨⟨by rw [hsz]; exact hth, info8w h8'⟩, ⟨?_, HRF.out⟩, ?_⟩
            · have hN2 : (b0 ++ (zs ++ ys.take j)).length = N + j := by rw [← List.append_assoc, List.length_append, HNN.out, HTL.out]
              rw [hN2, setCells_blk R (wv H') 0 _ w4 h4 (by rw [wv_len, h8', rcells_len h8 HL64.out]; omega), rcells_words h8 h8']
            · exact (HO2.out.drew.trans (Only.of_below hb) (fun _ _ h => h)).trans (Only.setCells w4 R 0 (wv H')) (fun _ _ h => h)
          refine wp_region_any (by kernel_rfl) ?_
          change wpAny _ _ _ _ _ _ _ (World.drew _)
          refine wpAny_take (i := 0) (oi := ⟨some 37, .move (.tmp 0), 128, _, #[], none⟩) (v := .pointer (some ⟨R, 0, none⟩)) rfl (by kernel_rfl) (by kernel_rfl) (by kernel_rfl) (fun _ _ _ h => h) (Or.inl ⟨by rfl, fun _ => by go_simp⟩) ?_
          simp only [Act.put, List.setIfInBounds_toArray, List.set_cons_zero, List.set_cons_succ]
          refine wpAny_take (i := 1) (oi := ⟨some 38, .move (.tmp 0), 128, _, #[], none⟩) (v := .pointer (some ⟨R, 0, none⟩)) rfl (by kernel_rfl) (by kernel_rfl) (by kernel_rfl) (fun _ _ _ h => h) (Or.inl ⟨by rfl, fun _ => by go_simp⟩) ?_
          simp only [Act.put, List.setIfInBounds_toArray, List.set_cons_zero, List.set_cons_succ]
          refine wpAny_take (i := 2) (oi := ⟨some 39, .nilCheck (.tmp 38), 0, _, #[⟨1, .data⟩], none⟩) (v := .pointer (some ⟨R, 0, none⟩)) rfl (by kernel_rfl) (by kernel_rfl) (by kernel_rfl) (fun _ _ _ h => h) (Or.inl ⟨by rfl, fun _ => by go_simp⟩) ?_
          simp only [Act.put, List.setIfInBounds_toArray, List.set_cons_zero, List.set_cons_succ]
          refine wpAny_take (i := 3) (oi := ⟨some 40, .fieldAddr 124 (.tmp 39) 0, 0, _, #[⟨2, .data⟩], none⟩) (v := .pointer (some ⟨R, 0, none⟩)) rfl (by kernel_rfl) (by kernel_rfl) (by kernel_rfl) (fun _ _ _ h => h) (Or.inl ⟨by rfl, fun _ => by go_simp⟩) ?_
          simp only [Act.put, List.setIfInBounds_toArray, List.set_cons_zero, List.set_cons_succ]
          refine wpAny_take (i := 5) (oi := ⟨some 42, .move (.tmp 0), 128, _, #[], none⟩) (v := .pointer (some ⟨R, 0, none⟩)) rfl (by kernel_rfl) (by kernel_rfl) (by kernel_rfl) (fun _ _ _ h => h) (Or.inl ⟨by rfl, fun _ => by go_simp⟩) ?_
          simp only [Act.put, List.setIfInBounds_toArray, List.set_cons_zero, List.set_cons_succ]
          refine wpAny_take (i := 6) (oi := ⟨some 43, .nilCheck (.tmp 42), 0, _, #[⟨5, .data⟩], none⟩) (v := .pointer (some ⟨R, 0, none⟩)) rfl (by kernel_rfl) (by kernel_rfl) (by kernel_rfl) (fun _ _ _ h => h) (Or.inl ⟨by rfl, fun _ => by go_simp⟩) ?_
          simp only [Act.put, List.setIfInBounds_toArray, List.set_cons_zero, List.set_cons_succ]
          refine wpAny_take (i := 7) (oi := ⟨some 44, .fieldAddr 124 (.tmp 43) 1, 0, _, #[⟨6, .data⟩], none⟩) (v := .pointer (some ⟨R, 8, none⟩)) rfl (by kernel_rfl) (by kernel_rfl) (by kernel_rfl) (fun _ _ _ h => h) (Or.inl ⟨by rfl, fun _ => by go_simp⟩) ?_
          simp only [Act.put, List.setIfInBounds_toArray, List.set_cons_zero, List.set_cons_succ]
          refine wpAny_ready (rs := [4, 8]) (by kernel_rfl) (by simp) ?_
          refine AllReady.cons (o := ⟨some 41, .load 122 (.tmp 40), 122, _, #[⟨3, .data⟩], none⟩) rfl (fun K hK => ?_) (AllReady.cons (o := ⟨some 45, .load 103 (.tmp 44), 103, _, #[⟨7, .data⟩], none⟩) rfl (fun K hK => ?_) AllReady.nil)
          · rw [if_pos (by rfl)]
            refine wp_load_mid _ _ rfl R 0 rfl (wv H) _ R1.out Tryd.underlying122 rfl I37.out ?_
            refine hK _ _ ?_
            clear hK K
            simp only [Act.put, List.setIfInBounds_toArray, List.set_cons_zero, List.set_cons_succ]
            refine wpAny_ready (rs := [8]) (by kernel_rfl) (by simp) ?_
            refine AllReady.cons (o := ⟨some 45, .load 103 (.tmp 44), 103, _, #[⟨7, .data⟩], none⟩) rfl (fun K hK => ?_) AllReady.nil
            rw [if_pos (by rfl)]
            refine wp_load_mid _ _ rfl R 8 rfl (bv (splice L q (ys.take j))) _ R2.out Tryd.underlying103 rfl I38.out ?_
            refine hK _ _ ?_
            clear hK K
            simp only [Act.put, List.setIfInBounds_toArray, List.set_cons_zero, List.set_cons_succ]
            refine wpAny_ready (rs := [9]) (by kernel_rfl) (by simp) ?_
            refine AllReady.cons (o := ⟨some 46, .call { callee := .value (.func 93), args := #[.tmp 41, .tmp 45], argTypes := #[122, 103] }, 122, _, #[⟨4, .data⟩, ⟨8, .data⟩], none⟩) rfl (fun K hK => ?_) AllReady.nil
            go_simp
            refine (through_any H (splice L q (ys.take j)) HRN.out.h8 HL64.out HRF.out.byt _ HT2.out).mono ?_
            rintro e4 w4 ⟨rfl, hb4⟩
            rw [HH.out]
            have HS4 := Lib.hid (KS.out w4 hb4)
            clear hb4
            refine hK _ _ ?_
            clear hK K
            refine wpAny_take (i := 10) (oi := ⟨some 47, .nilCheck (.tmp 37), 0, _, #[⟨0, .data⟩, ⟨0, .phase⟩, ⟨1, .phase⟩, ⟨2, .phase⟩, ⟨3, .phase⟩, ⟨4, .phase⟩, ⟨5, .phase⟩, ⟨6, .phase⟩, ⟨7, .phase⟩, ⟨8, .phase⟩, ⟨9, .phase⟩], none⟩) (v := .pointer (some ⟨R, 0, none⟩)) rfl (by kernel_rfl) (by kernel_rfl) (by kernel_rfl) (fun _ _ _ h => h) (Or.inl ⟨by rfl, fun _ => by go_simp⟩) ?_
            simp only [Act.put, List.setIfInBounds_toArray, List.set_cons_zero, List.set_cons_succ]
            refine wpAny_take (i := 11) (oi := ⟨some 48, .fieldAddr 124 (.tmp 47) 0, 0, _, #[⟨10, .data⟩, ⟨0, .phase⟩, ⟨1, .phase⟩, ⟨2, .phase⟩, ⟨3, .phase⟩, ⟨4, .phase⟩, ⟨5, .phase⟩, ⟨6, .phase⟩, ⟨7, .phase⟩, ⟨8, .phase⟩, ⟨9, .phase⟩], none⟩) (v := .pointer (some ⟨R, 0, none⟩)) rfl (by kernel_rfl) (by kernel_rfl) (by kernel_rfl) (fun _ _ _ h => h) (Or.inl ⟨by rfl, fun _ => by go_simp⟩) ?_
            simp only [Act.put, List.setIfInBounds_toArray, List.set_cons_zero, List.set_cons_succ]
            refine wpAny_ready (rs := [12]) (by kernel_rfl) (by simp) ?_
            refine AllReady.cons (o := ⟨none, .store 122 (.tmp 48) (.tmp 46), 0, _, #[⟨11, .data⟩, ⟨9, .data⟩, ⟨9, .chain⟩, ⟨0, .phase⟩, ⟨1, .phase⟩, ⟨2, .phase⟩, ⟨3, .phase⟩, ⟨4, .phase⟩, ⟨5, .phase⟩, ⟨6, .phase⟩, ⟨7, .phase⟩, ⟨8, .phase⟩, ⟨9, .phase⟩], none⟩) rfl (fun K hK => ?_) AllReady.nil
            rw [if_pos (by rfl)]
            refine wp_store_mid 122 (.tmp 48) (.tmp 46) rfl R 0 (wv H').toArray rfl rfl HS4.out.1.1 HS4.out.1.2 (wv_one _) ?_
            refine hK _ _ ?_
            clear hK K
            simp only [Act.put]
            refine wpAny_done (by kernel_rfl) ?_ _
            go_wp2
            go_roundw
            case rel => exact ⟨_, _, _, _, _, _, _, rfl, HA.out.next HM.out HJM.out HR1.out HS4.out.2.1 HS4.out.2.2 (.inr HMJ.out) (by have := HMJ.out; omega)⟩
            case measure => simp [lenOf]; omega
          · rw [if_pos (by rfl)]
            refine wp_load_mid _ _ rfl R 8 rfl (bv (splice L q (ys.take j))) _ R2.out Tryd.underlying103 rfl I38.out ?_
            refine hK _ _ ?_
            clear hK K
            simp only [Act.put, List.setIfInBounds_toArray, List.set_cons_zero, List.set_cons_succ]
            refine wpAny_ready (rs := [4]) (by kernel_rfl) (by simp) ?_
            refine AllReady.cons (o := ⟨some 41, .load 122 (.tmp 40), 122, _, #[⟨3, .data⟩], none⟩) rfl (fun K hK => ?_) AllReady.nil
            rw [if_pos (by rfl)]
            refine wp_load_mid _ _ rfl R 0 rfl (wv H) _ R1.out Tryd.underlying122 rfl I37.out ?_
            refine hK _ _ ?_
            clear hK K
            simp only [Act.put, List.setIfInBounds_toArray, List.set_cons_zero, List.set_cons_succ]
            refine wpAny_ready (rs := [9]) (by kernel_rfl) (by simp) ?_
            refine AllReady.cons (o := ⟨some 46, .call { callee := .value (.func 93), args := #[.tmp 41, .tmp 45], argTypes := #[122, 103] }, 122, _, #[⟨4, .data⟩, ⟨8, .data⟩], none⟩) rfl (fun K hK => ?_) AllReady.nil
            go_simp
            refine (through_any H (splice L q (ys.take j)) HRN.out.h8 HL64.out HRF.out.byt _ HT2.out).mono ?_
            rintro e4 w4 ⟨rfl, hb4⟩
            rw [HH.out]
            have HS4 := Lib.hid (KS.out w4 hb4)
            clear hb4
            refine hK _ _ ?_
            clear hK K
            refine wpAny_take (i := 10) (oi := ⟨some 47, .nilCheck (.tmp 37), 0, _, #[⟨0, .data⟩, ⟨0, .phase⟩, ⟨1, .phase⟩, ⟨2, .phase⟩, ⟨3, .phase⟩, ⟨4, .phase⟩, ⟨5, .phase⟩, ⟨6, .phase⟩, ⟨7, .phase⟩, ⟨8, .phase⟩, ⟨9, .phase⟩], none⟩) (v := .pointer (some ⟨R, 0, none⟩)) rfl (by kernel_rfl) (by kernel_rfl) (by kernel_rfl) (fun _ _ _ h => h) (Or.inl ⟨by rfl, fun _ => by go_simp⟩) ?_
            simp only [Act.put, List.setIfInBounds_toArray, List.set_cons_zero, List.set_cons_succ]
            refine wpAny_take (i := 11) (oi := ⟨some 48, .fieldAddr 124 (.tmp 47) 0, 0, _, #[⟨10, .data⟩, ⟨0, .phase⟩, ⟨1, .phase⟩, ⟨2, .phase⟩, ⟨3, .phase⟩, ⟨4, .phase⟩, ⟨5, .phase⟩, ⟨6, .phase⟩, ⟨7, .phase⟩, ⟨8, .phase⟩, ⟨9, .phase⟩], none⟩) (v := .pointer (some ⟨R, 0, none⟩)) rfl (by kernel_rfl) (by kernel_rfl) (by kernel_rfl) (fun _ _ _ h => h) (Or.inl ⟨by rfl, fun _ => by go_simp⟩) ?_
            simp only [Act.put, List.setIfInBounds_toArray, List.set_cons_zero, List.set_cons_succ]
            refine wpAny_ready (rs := [12]) (by kernel_rfl) (by simp) ?_
            refine AllReady.cons (o := ⟨none, .store 122 (.tmp 48) (.tmp 46), 0, _, #[⟨11, .data⟩, ⟨9, .data⟩, ⟨9, .chain⟩, ⟨0, .phase⟩, ⟨1, .phase⟩, ⟨2, .phase⟩, ⟨3, .phase⟩, ⟨4, .phase⟩, ⟨5, .phase⟩, ⟨6, .phase⟩, ⟨7, .phase⟩, ⟨8, .phase⟩, ⟨9, .phase⟩], none⟩) rfl (fun K hK => ?_) AllReady.nil
            rw [if_pos (by rfl)]
            refine wp_store_mid 122 (.tmp 48) (.tmp 46) rfl R 0 (wv H').toArray rfl rfl HS4.out.1.1 HS4.out.1.2 (wv_one _) ?_
            refine hK _ _ ?_
            clear hK K
            simp only [Act.put]
            refine wpAny_done (by kernel_rfl) ?_ _
            go_wp2
            go_roundw
            case rel => exact ⟨_, _, _, _, _, _, _, rfl, HA.out.next HM.out HJM.out HR1.out HS4.out.2.1 HS4.out.2.2 (.inr HMJ.out) (by have := HMJ.out; omega)⟩
            case measure => simp [lenOf]; omega
        · go_wp2_with fail
          generalize w1.setCell ⟨R, 72, none⟩ (.int .u64 ((N : Int) + (j : Int))) = w2 at HB2 HO2 ⊢
          have HT2 : Hid (Tab w2.drew) := HA.out.tab.only HO2.out.drew HR1.out
          have HRL : Hid (R < w2.drew.heap.size) := (Array.getElem?_eq_some_iff.1 HB2.out).1
          have r1 : w2.drew.rangeAt R 0 (wv H) := fun i v hv => by
            rw [Nat.zero_add]
            refine cell_of_blk HB2.out ?_
            rw [List.getElem?_toArray]
            unfold rcells
            rw [List.getElem?_append_left (List.getElem?_eq_some_iff.1 hv).1]
            exact hv
          have r2 : w2.drew.rangeAt R 8 (bv (splice L q (ys.take j))) := fun i v hv => by
            refine cell_of_blk HB2.out ?_
            rw [List.getElem?_toArray]
            unfold rcells
            rw [List.getElem?_append_right (by rw [wv_len, HRN.out.h8]; omega), wv_len, HRN.out.h8, show 8 + i - 8 = i by omega, List.getElem?_append_left (List.getElem?_eq_some_iff.1 hv).1]
            exact hv
          have R1 := Lib.hid r1
          have R2 := Lib.hid r2
          have I37 := Lib.hid hi37
          have I38 := Lib.hid hi38
          clear r1 r2 hi37 hi38
          have KS : Hid (∀ w4, Below w2.drew.heap.size w2.drew w4 → (w4.there R 0 (wv H').toArray.size ∧ (Tryd.prog.info? 122).map (·.size) = some (wv H').toArray.size) ∧ (Run (w4.setCells R 0 (wv H')) R (b0 ++ (zs ++ ys.take j)) H' (splice L q (ys.take j)) ∧ Only (fun k => k = R) wr (w4.setCells R 0 (wv H')))) := fun w4 hb => by
            have h4 : w4.heap[R]? = some (.cells (rcells H (splice L q (ys.take j)) (N + j)).toArray 124 (0, 0)) := (hb.block R HRL.out).trans HB2.out
            have h8 := HRN.out.h8
            have h8' : H'.length = 8 := HRF.out.h8
            have hsz : (wv H').toArray.size = 8 := by rw [List.size_toArray, wv_len, h8']
            have hth : w4.there R 0 8 := fun i hi => by
              have hc := cell_of_row w4 R (0 + i) _ _ _ h4
              refine ⟨?_, free_of_blk h4⟩
              rw [hc, List.getElem?_toArray, List.getElem?_eq_getElem (by rw [rcells_len h8 HL64.out]; omega)]
              rfl
            refine ⟨⟨by rw [hsz]; exact hth, info8w h8'⟩, ⟨?_, HRF.out⟩, ?_⟩
            · have hN2 : (b0 ++ (zs ++ ys.take j)).length = N + j := by rw [← List.append_assoc, List.length_append, HNN.out, HTL.out]
              rw [hN2, setCells_blk R (wv H') 0 _ w4 h4 (by rw [wv_len, h8', rcells_len h8 HL64.out]; omega), rcells_words h8 h8']
            · exact (HO2.out.drew.trans (Only.of_below hb) (fun _ _ h => h)).trans (Only.setCells w4 R 0 (wv H')) (fun _ _ h => h)
          refine wp_region_any (by kernel_rfl) ?_
          change wpAny _ _ _ _ _ _ _ (World.drew _)
          refine wpAny_take (i := 0) (oi := ⟨some 37, .move (.tmp 0), 128, _, #[], none⟩) (v := .pointer (some ⟨R, 0, none⟩)) rfl (by kernel_rfl) (by kernel_rfl) (by kernel_rfl) (fun _ _ _ h => h) (Or.inl ⟨by rfl, fun _ => by go_simp⟩) ?_
          simp only [Act.put, List.setIfInBounds_toArray, List.set_cons_zero, List.set_cons_succ]
          refine wpAny_take (i := 1) (oi := ⟨some 38, .move (.tmp 0), 128, _, #[], none⟩) (v := .pointer (some ⟨R, 0, none⟩)) rfl (by kernel_rfl) (by kernel_rfl) (by kernel_rfl) (fun _ _ _ h => h) (Or.inl ⟨by rfl, fun _ => by go_simp⟩) ?_
          simp only [Act.put, List.setIfInBounds_toArray, List.set_cons_zero, List.set_cons_succ]
          refine wpAny_take (i := 2) (oi := ⟨some 39, .nilCheck (.tmp 38), 0, _, #[⟨1, .data⟩], none⟩) (v := .pointer (some ⟨R, 0, none⟩)) rfl (by kernel_rfl) (by kernel_rfl) (by kernel_rfl) (fun _ _ _ h => h) (Or.inl ⟨by rfl, fun _ => by go_simp⟩) ?_
          simp only [Act.put, List.setIfInBounds_toArray, List.set_cons_zero, List.set_cons_succ]
          refine wpAny_take (i := 3) (oi := ⟨some 40, .fieldAddr 124 (.tmp 39) 0, 0, _, #[⟨2, .data⟩], none⟩) (v := .pointer (some ⟨R, 0, none⟩)) rfl (by kernel_rfl) (by kernel_rfl) (by kernel_rfl) (fun _ _ _ h => h) (Or.inl ⟨by rfl, fun _ => by go_simp⟩) ?_
          simp only [Act.put, List.setIfInBounds_toArray, List.set_cons_zero, List.set_cons_succ]
          refine wpAny_take (i := 5) (oi := ⟨some 42, .move (.tmp 0), 128, _, #[], none⟩) (v := .pointer (some ⟨R, 0, none⟩)) rfl (by kernel_rfl) (by kernel_rfl) (by kernel_rfl) (fun _ _ _ h => h) (Or.inl ⟨by rfl, fun _ => by go_simp⟩) ?_
          simp only [Act.put, List.setIfInBounds_toArray, List.set_cons_zero, List.set_cons_succ]
          refine wpAny_take (i := 6) (oi := ⟨some 43, .nilCheck (.tmp 42), 0, _, #[⟨5, .data⟩], none⟩) (v := .pointer (some ⟨R, 0, none⟩)) rfl (by kernel_rfl) (by kernel_rfl) (by kernel_rfl) (fun _ _ _ h => h) (Or.inl ⟨by rfl, fun _ => by go_simp⟩) ?_
          simp only [Act.put, List.setIfInBounds_toArray, List.set_cons_zero, List.set_cons_succ]
          refine wpAny_take (i := 7) (oi := ⟨some 44, .fieldAddr 124 (.tmp 43) 1, 0, _, #[⟨6, .data⟩], none⟩) (v := .pointer (some ⟨R, 8, none⟩)) rfl (by kernel_rfl) (by kernel_rfl) (by kernel_rfl) (fun _ _ _ h => h) (Or.inl ⟨by rfl, fun _ => by go_simp⟩) ?_
          simp only [Act.put, List.setIfInBounds_toArray, List.set_cons_zero, List.set_cons_succ]
          refine wpAny_ready (rs := [4, 8]) (by kernel_rfl) (by simp) ?_
          refine AllReady.cons (o := ⟨some 41, .load 122 (.tmp 40), 122, _, #[⟨3, .data⟩], none⟩) rfl (fun K hK => ?_) (AllReady.cons (o := ⟨some 45, .load 103 (.tmp 44), 103, _, #[⟨7, .data⟩], none⟩) rfl (fun K hK => ?_) AllReady.nil)
          · rw [if_pos (by rfl)]
            refine wp_load_mid _ _ rfl R 0 rfl (wv H) _ R1.out Tryd.underlying122 rfl I37.out ?_
            refine hK _ _ ?_
            clear hK K
            simp only [Act.put, List.setIfInBounds_toArray, List.set_cons_zero, List.set_cons_succ]
            refine wpAny_ready (rs := [8]) (by kernel_rfl) (by simp) ?_
            refine AllReady.cons (o := ⟨some 45, .load 103 (.tmp 44), 103, _, #[⟨7, .data⟩], none⟩) rfl (fun K hK => ?_) AllReady.nil
            rw [if_pos (by rfl)]
            refine wp_load_mid _ _ rfl R 8 rfl (bv (splice L q (ys.take j))) _ R2.out Tryd.underlying103 rfl I38.out ?_
            refine hK _ _ ?_
            clear hK K
            simp only [Act.put, List.setIfInBounds_toArray, List.set_cons_zero, List.set_cons_succ]
            refine wpAny_ready (rs := [9]) (by kernel_rfl) (by simp) ?_
            refine AllReady.cons (o := ⟨some 46, .call { callee := .value (.func 93), args := #[.tmp 41, .tmp 45], argTypes := #[122, 103] }, 122, _, #[⟨4, .data⟩, ⟨8, .data⟩], none⟩) rfl (fun K hK => ?_) AllReady.nil
            go_simp
            refine (through_any H (splice L q (ys.take j)) HRN.out.h8 HL64.out HRF.out.byt _ HT2.out).mono ?_
            rintro e4 w4 ⟨rfl, hb4⟩
            rw [HH.out]
            have HS4 := Lib.hid (KS.out w4 hb4)
            clear hb4
            refine hK _ _ ?_
            clear hK K
            refine wpAny_take (i := 10) (oi := ⟨some 47, .nilCheck (.tmp 37), 0, _, #[⟨0, .data⟩, ⟨0, .phase⟩, ⟨1, .phase⟩, ⟨2, .phase⟩, ⟨3, .phase⟩, ⟨4, .phase⟩, ⟨5, .phase⟩, ⟨6, .phase⟩, ⟨7, .phase⟩, ⟨8, .phase⟩, ⟨9, .phase⟩], none⟩) (v := .pointer (some ⟨R, 0, none⟩)) rfl (by kernel_rfl) (by kernel_rfl) (by kernel_rfl) (fun _ _ _ h => h) (Or.inl ⟨by rfl, fun _ => by go_simp⟩) ?_
            simp only [Act.put, List.setIfInBounds_toArray, List.set_cons_zero, List.set_cons_succ]
            refine wpAny_take (i := 11) (oi := ⟨some 48, .fieldAddr 124 (.tmp 47) 0, 0, _, #[⟨10, .data⟩, ⟨0, .phase⟩, ⟨1, .phase⟩, ⟨2, .phase⟩, ⟨3, .phase⟩, ⟨4, .phase⟩, ⟨5, .phase⟩, ⟨6, .phase⟩, ⟨7, .phase⟩, ⟨8, .phase⟩, ⟨9, .phase⟩], none⟩) (v := .pointer (some ⟨R, 0, none⟩)) rfl (by kernel_rfl) (by kernel_rfl) (by kernel_rfl) (fun _ _ _ h => h) (Or.inl ⟨by rfl, fun _ => by go_simp⟩) ?_
            simp only [Act.put, List.setIfInBounds_toArray, List.set_cons_zero, List.set_cons_succ]
            refine wpAny_ready (rs := [12]) (by kernel_rfl) (by simp) ?_
            refine AllReady.cons (o := ⟨none, .store 122 (.tmp 48) (.tmp 46), 0, _, #[⟨11, .data⟩, ⟨9, .data⟩, ⟨9, .chain⟩, ⟨0, .phase⟩, ⟨1, .phase⟩, ⟨2, .phase⟩, ⟨3, .phase⟩, ⟨4, .phase⟩, ⟨5, .phase⟩, ⟨6, .phase⟩, ⟨7, .phase⟩, ⟨8, .phase⟩, ⟨9, .phase⟩], none⟩) rfl (fun K hK => ?_) AllReady.nil
            rw [if_pos (by rfl)]
            refine wp_store_mid 122 (.tmp 48) (.tmp 46) rfl R 0 (wv H').toArray rfl rfl HS4.out.1.1 HS4.out.1.2 (wv_one _) ?_
            refine hK _ _ ?_
            clear hK K
            simp only [Act.put]
            refine wpAny_done (by kernel_rfl) ?_ _
            go_wp2
            go_roundw
            case rel => exact ⟨_, _, _, _, _, _, _, rfl, HA.out.next HM.out HJM.out HR1.out HS4.out.2.1 HS4.out.2.2 (.inl rfl) (by have := HMC.out; omega)⟩
            case measure => simp [lenOf]; omega
          · rw [if_pos (by rfl)]
            refine wp_load_mid _ _ rfl R 8 rfl (bv (splice L q (ys.take j))) _ R2.out Tryd.underlying103 rfl I38.out ?_
            refine hK _ _ ?_
            clear hK K
            simp only [Act.put, List.setIfInBounds_toArray, List.set_cons_zero, List.set_cons_succ]
            refine wpAny_ready (rs := [4]) (by kernel_rfl) (by simp) ?_
            refine AllReady.cons (o := ⟨some 41, .load 122 (.tmp 40), 122, _, #[⟨3, .data⟩], none⟩) rfl (fun K hK => ?_) AllReady.nil
            rw [if_pos (by rfl)]
            refine wp_load_mid _ _ rfl R 0 rfl (wv H) _ R1.out Tryd.underlying122 rfl I37.out ?_
            refine hK _ _ ?_
            clear hK K
            simp only [Act.put, List.setIfInBounds_toArray, List.set_cons_zero, List.set_cons_succ]
            refine wpAny_ready (rs := [9]) (by kernel_rfl) (by simp) ?_
            refine AllReady.cons (o := ⟨some 46, .call { callee := .value (.func 93), args := #[.tmp 41, .tmp 45], argTypes := #[122, 103] }, 122, _, #[⟨4, .data⟩, ⟨8, .data⟩], none⟩) rfl (fun K hK => ?_) AllReady.nil
            go_simp
            refine (through_any H (splice L q (ys.take j)) HRN.out.h8 HL64.out HRF.out.byt _ HT2.out).mono ?_
            rintro e4 w4 ⟨rfl, hb4⟩
            rw [HH.out]
            have HS4 := Lib.hid (KS.out w4 hb4)
            clear hb4
            refine hK _ _ ?_
            clear hK K
            refine wpAny_take (i := 10) (oi := ⟨some 47, .nilCheck (.tmp 37), 0, _, #[⟨0, .data⟩, ⟨0, .phase⟩, ⟨1, .phase⟩, ⟨2, .phase⟩, ⟨3, .phase⟩, ⟨4, .phase⟩, ⟨5, .phase⟩, ⟨6, .phase⟩, ⟨7, .phase⟩, ⟨8, .phase⟩, ⟨9, .phase⟩], none⟩) (v := .pointer (some ⟨R, 0, none⟩)) rfl (by kernel_rfl) (by kernel_rfl) (by kernel_rfl) (fun _ _ _ h => h) (Or.inl ⟨by rfl, fun _ => by go_simp⟩) ?_
            simp only [Act.put, List.setIfInBounds_toArray, List.set_cons_zero, List.set_cons_succ]
            refine wpAny_take (i := 11) (oi := ⟨some 48, .fieldAddr 124 (.tmp 47) 0, 0, _, #[⟨10, .data⟩, ⟨0, .phase⟩, ⟨1, .phase⟩, ⟨2, .phase⟩, ⟨3, .phase⟩, ⟨4, .phase⟩, ⟨5, .phase⟩, ⟨6, .phase⟩, ⟨7, .phase⟩, ⟨8, .phase⟩, ⟨9, .phase⟩], none⟩) (v := .pointer (some ⟨R, 0, none⟩)) rfl (by kernel_rfl) (by kernel_rfl) (by kernel_rfl) (fun _ _ _ h => h) (Or.inl ⟨by rfl, fun _ => by go_simp⟩) ?_
            simp only [Act.put, List.setIfInBounds_toArray, List.set_cons_zero, List.set_cons_succ]
            refine wpAny_ready (rs := [12]) (by kernel_rfl) (by simp) ?_
            refine AllReady.cons (o := ⟨none, .store 122 (.tmp 48) (.tmp 46), 0, _, #[⟨11, .data⟩, ⟨9, .data⟩, ⟨9, .chain⟩, ⟨0, .phase⟩, ⟨1, .phase⟩, ⟨2, .phase⟩, ⟨3, .phase⟩, ⟨4, .phase⟩, ⟨5, .phase⟩, ⟨6, .phase⟩, ⟨7, .phase⟩, ⟨8, .phase⟩, ⟨9, .phase⟩], none⟩) rfl (fun K hK => ?_) AllReady.nil
            rw [if_pos (by rfl)]
            refine wp_store_mid 122 (.tmp 48) (.tmp 46) rfl R 0 (wv H').toArray rfl rfl HS4.out.1.1 HS4.out.1.2 (wv_one _) ?_
            refine hK _ _ ?_
            clear hK K
            simp only [Act.put]
            refine wpAny_done (by kernel_rfl) ?_ _
            go_wp2
            go_roundw
            case rel => exact ⟨_, _, _, _, _, _, _, rfl, HA.out.next HM.out HJM.out HR1.out HS4.out.2.1 HS4.out.2.2 (.inl rfl) (by have := HMC.out; omega)⟩
            case measure => simp [lenOf]; omega
      · have hf : (((N : Int) + (j : Int)) % 64 == 0) = false := beq_eq_false_iff_ne.2 (by have := HQ.out; omega)
        have hrs := Rn.some HRN.out HBJ.out (by rw [HNN.out, HQ.out, HTL.out]; omega)
        rw [HNN.out, HQ.out, List.append_assoc] at hrs
        have hN2 : (b0 ++ (zs ++ ys.take j)).length = N + j := by rw [← List.append_assoc, List.length_append, HNN.out, HTL.out]
        have HR2 : Hid (Run (w1.setCell ⟨R, 72, none⟩ (.int .u64 ((N : Int) + (j : Int)))) R (b0 ++ (zs ++ ys.take j)) H (splice L q (ys.take j))) := ⟨by rw [hN2]; exact HB2.out, hrs⟩
        have HJM := Lib.hid hjm
        have HMC := Lib.hid hmc
        clear hrs hN2 hfull
        by_cases hcj : c' = j
        · have hmj : m = j := by omega
          have HMJ := Lib.hid hmj
          clear hmj
          go_wp2
          go_roundw
          case rel => exact ⟨_, _, _, _, _, _, _, rfl, HA.out.next HM.out HJM.out HR1.out HR2.out HO2.out (.inr HMJ.out) (by have := HMJ.out; omega)⟩
          case measure => simp [lenOf]; omega
        · go_wp2
          go_roundw
          case rel => exact ⟨_, _, _, _, _, _, _, rfl, HA.out.next HM.out HJM.out HR1.out HR2.out HO2.out (.inl rfl) (by have := HMC.out; omega)⟩
          case measure => simp [lenOf]; omega
    · have hm0 : m = 0 := by omega
      have hys : ys = [] := List.eq_nil_of_length_eq_zero (by rw [HA.out.row.len]; exact hm0)
      have HF : Hid (Run wr R (b0 ++ xs) H L) := by
        have := HA.out.run
        rw [HA.out.all, hys, List.append_nil]
        exact this
      have HO := Lib.hid HA.out.only
      clear hys HA HX
      subst hm0
      go_wp2
      go_end0
      exact ⟨rfl, H, L, HF.out, HO.out⟩
end Go.Proofs.YtmkdbpdfonpfdaaDoor.Sha

/- Layer 7 (sha): the program's behind (what follows the bytes), as a contract. -/
namespace Go.Proofs.YtmkdbpdfonpfdaaDoor.Sha
open Go.RowKit

/-- What follows n bytes. -/
def tail (n : Nat) : List Int := 128 :: List.replicate (zeros n) 0 ++ be 8 (8 * n)
theorem pad_tail (b : List Int) : pad b = b ++ tail b.length := by simp [pad, stem, tail]
theorem tail_len (n : Nat) : (tail n).length = 9 + zeros n := by simp [tail, be_len]; omega
theorem tail_byt (n : Nat) : ∀ x ∈ tail n, 0 ≤ x ∧ x ≤ 255 := by
  intro x hx
  unfold tail at hx
  simp only [List.cons_append, List.mem_append, List.mem_cons, List.mem_replicate] at hx
  rcases hx with rfl | ⟨_, rfl⟩ | hx
  · omega
  · omega
  · exact be_byt _ _ x hx
theorem be_take (m k : Nat) (hk : k < 8) : (be 8 m).take (k + 1) = (be 8 m).take k ++ [((m / 256 ^ (7 - k) % 256 : Nat) : Int)] := by
  obtain rfl | rfl | rfl | rfl | rfl | rfl | rfl | rfl : k = 0 ∨ k = 1 ∨ k = 2 ∨ k = 3 ∨ k = 4 ∨ k = 5 ∨ k = 6 ∨ k = 7 := by omega
  all_goals rfl
theorem pow_256 (j : Nat) : 256 ^ j = 2 ^ (8 * j) := by rw [Nat.pow_mul]

theorem made_zeros (m : Nat) : (madeCells (Value.int .u8 0).cells (m * 1)).toList = (List.replicate m (0 : Int)).map (Value.int .u8) := by
  apply List.ext_getElem
  · simp [madeCells]
  · intro i h1 h2
    simp [madeCells, Value.cells, Nat.mod_one]

set_option maxHeartbeats 1600000 in
set_option maxRecDepth 100000 in
theorem behind_any (n : Nat) (w : World) (hn : n ≤ 1099511627776) :
    Calls Tryd.prog 87 #[.int .u64 (n : Int)] w fun e w' => ∃ v, e = .returned v ∧ w'.ownsRow w.heap.size 5 1 v (9 + zeros n) ((tail n).map (Value.int .u8)) ∧ Below w.heap.size w w' := by
  obtain ⟨i0, hi, hz0, hz1, hz2⟩ := parts_of info8
  obtain ⟨z, hzz⟩ : ∃ z, zeros n = z := ⟨_, rfl⟩
  have hz : z < 64 := by rw [← hzz]; exact zeros_le n
  have a1 : IntKind.u64.wrap (119 - (n : Int) % 64) = 119 - (n : Int) % 64 := IntWalk.u64_in _ ⟨by omega, by omega⟩
  have a2 : (119 - (n : Int) % 64) % 64 = (z : Int) := by rw [← hzz]; unfold zeros; omega
  have a3 : IntKind.u64.wrap (1 + (z : Int)) = ((z + 1 : Nat) : Int) := by rw [IntWalk.u64_in _ ⟨by omega, by omega⟩]; omega
  rw [hzz]
  have HZ := Lib.hid hzz
  clear hzz
  go_enter Tryd.func87, Tryd.ntmps87
  go_wp2_with (first
        | (at_make; refine wpList_make_full _ rfl _ _ 29 rfl w.heap.size 5 i0 (.int .u8 0) 1 Tryd.underlying29 hi hz0 hz1 _ _ _ _ (z + 1) rfl rfl rfl rfl (by rw [hz2]; omega) (by unfold maxLen; omega) (Nat.le_refl _) ?_; intro w1 hown1 hg1; rw [made_zeros] at hown1; have HO1 := Lib.hid (hown1.stored 0 (.int .u8 128)).1; have HB1 := Lib.hid ((Below.refl w.heap.size w).grown hg1 (Nat.le_refl _) (fun j hj => by cases hj)); have k0 := hown1.cellAt 0 (by omega); have k1 := hown1.frozenAt 0; rw [List.replicate_succ] at k0; clear hown1 hg1))
  have HL : Hid (((List.replicate (z + 1) (0 : Int)).map (Value.int .u8)).set 0 (.int .u8 128) = ((128 :: List.replicate z 0) ++ (be 8 (8 * n)).take 0).map (Value.int .u8)) := by
    unfold Hid
    rw [List.replicate_succ]
    simp
  rw [HL.out] at HO1
  have HB2 := Lib.hid (HB1.out.setCell (p := ⟨w.heap.size, 0, none⟩) (Nat.le_refl _) (.int .u8 128))
  generalize w1.setCell ⟨w.heap.size, 0, none⟩ (.int .u8 128) = w2 at HO1 HB2 ⊢
  clear k0 k1 HL HB1 a1 a2 a3
  obtain ⟨Z, hZ⟩ : ∃ Z, 128 :: List.replicate z (0 : Int) = Z := ⟨_, rfl⟩
  rw [hZ] at HO1
  have HZ2 := Lib.hid hZ
  clear hZ
  have m8 : IntKind.u64.wrap (8 * (n : Int)) = 8 * (n : Int) := IntWalk.u64_in _ ⟨by omega, by omega⟩
  go_wp2_with fail
  go_loopw [4, 5] (fun v i wr => ∃ k : Nat, k ≤ 8 ∧ i = .int .i64 (56 - 8 * (k : Int)) ∧ Hid (wr.ownsRow w.heap.size 5 1 v (z + 1 + k) ((Z ++ (be 8 (8 * n)).take k).map (Value.int .u8))) ∧ Hid (Below w.heap.size w wr)) (fun _ i _ => (64 + intOf i).toNat)
  case atStart => exact ⟨0, Nat.zero_le _, rfl, HO1, HB2⟩
  case round =>
    obtain ⟨k, hk, rfl, HO, HB⟩ := hrel
    obtain ⟨A', c', rfl, -, -⟩ := own_slice HO.out
    by_cases hk8 : k < 8
    · obtain ⟨s, hs⟩ : ∃ s, 7 - k = s := ⟨_, rfl⟩
      have e1 : 56 - 8 * (k : Int) = ((8 * s : Nat) : Int) := by omega
      have hbt := be_take (8 * n) k hk8
      rw [hs, pow_256] at hbt
      rw [e1]
      have e2 : IntKind.i64.wrap (((8 * s : Nat) : Int) - 8) = 56 - 8 * ((k + 1 : Nat) : Int) := by rw [IntWalk.i64_in _ ⟨by omega, by omega⟩]; omega
      obtain ⟨T, hT⟩ : ∃ T, 8 * s = T := ⟨_, rfl⟩
      rw [hT] at hbt e2
      rw [hT]
      have hTb : T ≤ 56 := by omega
      have hT1 : (T : Int) ≤ 56 - 8 * (k : Int) := by omega
      have hT2 : 56 - 8 * (k : Int) ≤ (T : Int) := by omega
      have e3 : (0 : Int) ≤ (T : Int) := by omega
      have hv : IntKind.u8.wrap (8 * (n : Int) / 2 ^ T) = ((8 * n / 2 ^ T % 256 : Nat) : Int) := by rw [IntKind.wrap_u8']; norm_cast
      obtain ⟨x, hx⟩ : ∃ x, 8 * n / 2 ^ T % 256 = x := ⟨_, rfl⟩
      rw [hx] at hbt hv
      have HBT := Lib.hid hbt
      have HK := Lib.hid hk8
      clear hbt hs e1 hT hx
      go_wp2_with (at_builtin; refine push_own rfl (.tmp 19) (.tmp 25) 29 rfl w.heap.size 5 i0 .u8 1 Tryd.underlying29 hi hz0 hz1 hz2 _ (z + 1 + k) (Z ++ (be 8 (8 * n)).take k) (x : Int) rfl HO.out rfl (by omega) (by omega) HB.out.size ?_; intro v3 w3 hown3 hb3; have HO3 := Lib.hid hown3; have HB3 := Lib.hid (HB.out.trans hb3); clear hown3 hb3)
      go_roundw
      case rel =>
        refine ⟨k + 1, by omega, congrArg (Value.int .i64) (by omega), ?_, HB3.out⟩
        rw [HBT.out, ← List.append_assoc]
        exact HO3.out
      case measure => simp [intOf]; omega
    · obtain rfl : k = 8 := by omega
      go_wp2
      go_ret
      refine ⟨_, rfl, ?_, HB.out⟩
      have e : tail n = Z ++ (be 8 (8 * n)).take 8 := by
        unfold tail
        rw [HZ.out, HZ2.out]
        rfl
      rw [e, show 9 + z = z + 1 + 8 by omega]
      exact HO.out
end Go.Proofs.YtmkdbpdfonpfdaaDoor.Sha

/- Layer 7 (sha): the program's Parts and Sum, as contracts. -/
namespace Go.Proofs.YtmkdbpdfonpfdaaDoor.Sha
open Go.RowKit

/-- A part: where it lies, and its bytes. -/
structure Prt where
  A : Option Addr
  n : Nat
  c : Nat
  xs : List Int
structure Prt.ok (p : Prt) (w : World) (B : Nat) : Prop where
  row : Row .u8 w B p.A p.n p.xs
  le : p.n ≤ p.c
  byt : ∀ x ∈ p.xs, 0 ≤ x ∧ x ≤ 255
def cats (ps : List Prt) : List Int := (ps.map Prt.xs).flatten
theorem cats_snoc (ps : List Prt) (p : Prt) : cats (ps ++ [p]) = cats ps ++ p.xs := by simp [cats]
/-- A slice of parts. -/
structure PRow (w : World) (B : Nat) (A : Option Addr) (ps : List Prt) : Prop where
  cell : ∀ j p, ps[j]? = some p → ∃ b o, A = some ⟨b, o, none⟩ ∧ b < B ∧ w.cell? ⟨b, o + j, none⟩ = some (.slice p.A p.n p.c)
  ok : ∀ p ∈ ps, p.ok w B
/-- What the package's tables hold. -/
structure Lay (w : World) : Prop where
  tab : Tab w
  ini : w.rangeAt 0 0 (wv hs)
theorem Lay.below {w w' : World} {B : Nat} (h : Lay w) (hb : Below B w w') (hB : Glo < B) : Lay w' :=
  ⟨h.tab.below hb hB, fun j v hv => (hb.cell (p := ⟨0, 0 + j, none⟩) (Glo.ini hB)).trans (h.ini j v hv)⟩

theorem built_run : Tryd.prog.built 124 [(0, .agg (wv hs).toArray)] = some (rcells hs (List.replicate 64 0) 0).toArray := by kernel_rfl
theorem e73 : (Tryd.prog.info? 124).map (·.size) = some 73 := by kernel_rfl
theorem r73 : (rcells hs (List.replicate 64 0) 0).toArray.all (·.oneCell') = true := by kernel_rfl
theorem zero_run (w : World) : (zeroValue 124).run Tryd.prog w = .ok (.agg (rcells (List.replicate 8 0) (List.replicate 64 0) 0).toArray) w := by kernel_rfl
theorem index_wv {H : List Wd} (h : H.length = 8) (i : Nat) (hi : i < 8) (w : World) : (Instr.index 122 (.agg (wv H).toArray) (.int .i64 (i : Int))).run Tryd.prog w = .ok (.int .u32 (wi (wat H i))) w := by
  match H, h with
  | [a0, a1, a2, a3, a4, a5, a6, a7], _ => exact index8 [a0, a1, a2, a3, a4, a5, a6, a7] i hi w

/-- While the parts go in. -/
structure Pa (w : World) (ps : List Prt) (k : Nat) (w' : World) : Prop where
  run : ∃ H L, Run w' w.heap.size (cats (ps.take k)) H L
  bel : Below w.heap.size w w'
theorem cats_take {ps : List Prt} {k : Nat} {p : Prt} (h : ps[k]? = some p) : cats (ps.take (k + 1)) = cats (ps.take k) ++ p.xs := by
  have hk := (List.getElem?_eq_some_iff.1 h).1
  rw [List.take_succ_eq_append_getElem hk, cats_snoc, (List.getElem?_eq_some_iff.1 h).2]
theorem cats_le {ps : List Prt} {k : Nat} {p : Prt} (h : ps[k]? = some p) : (cats (ps.take k)).length + p.xs.length ≤ (cats ps).length := by
  have e : cats ps = cats (ps.take (k + 1)) ++ cats (ps.drop (k + 1)) := by
    unfold cats
    rw [← List.flatten_append, ← List.map_append, List.take_append_drop]
  rw [e, cats_take h]
  simp
theorem rcells_range {w : World} {R c : Nat} {H : List Wd} {L : List Int} {t : TypeId} (h : w.heap[R]? = some (.cells (rcells H L c).toArray t (0, 0))) (_ : H.length = 8) : w.rangeAt R 0 (wv H) := fun j v hv => by
  rw [Nat.zero_add]
  refine cell_of_blk h ?_
  rw [List.getElem?_toArray]
  unfold rcells
  rw [List.getElem?_append_left (List.getElem?_eq_some_iff.1 hv).1]
  exact hv
/-- While the words are written as bytes. -/
structure Wo (w : World) (B : Nat) (H : List Wd) (v : Value) (t : Nat) (w' : World) : Prop where
  own : w'.ownsRow B 5 1 v (4 * t) ((outs H t).map (Value.int .u8))
  bel : Below B w w'
theorem out4_shr (a : Wd) : [wi a / 16777216, wi a / 65536 % 256, wi a / 256 % 256, wi a % 256] = out4 a := by
  have e : wi a = (a.toNat : Int) := rfl
  have := a.isLt
  unfold out4
  rw [e]
  simp only [List.cons.injEq, and_true]
  refine ⟨?_, ?_, ?_, ?_⟩ <;> omega

set_option maxHeartbeats 3200000 in
set_option maxRecDepth 100000 in
theorem parts_any (A : Option Addr) (n c B : Nat) (ps : List Prt) (w : World) (h : PRow w B A ps) (hn : ps.length = n) (hnb : n ≤ 1099511627776) (hB : B ≤ w.heap.size) (hl : (cats ps).length ≤ 1099511627776) (hT : Lay w) :
    Calls Tryd.prog 71 #[.slice A n c] w fun e w' => ∃ v, e = .returned v ∧ w'.ownsRow w.heap.size 5 1 v 32 ((outs (blocks ks hs (pad (cats ps)) ((pad (cats ps)).length / 64)) 8).map (Value.int .u8)) ∧ Below w.heap.size w w' := by
  obtain ⟨i0, hi, hz0, hz1, hz2⟩ := parts_of info8
  have H := Lib.hid h
  have HN := Lib.hid hn
  have HB := Lib.hid hB
  have HL := Lib.hid hl
  have HT := Lib.hid hT
  clear h hn hB hl hT
  have hi37 : (Tryd.prog.info? 122).map (·.size) = some (wv hs).length := info8w hs_len
  have I37 := Lib.hid hi37
  clear hi37
  go_enter Tryd.func71, Tryd.ntmps71
  have hr0 := rcells_len (c := 0) hs_len (show (List.replicate 64 (0 : Int)).length = 64 by rfl)
  have I73 : Hid ((Tryd.prog.info? 124).map (·.size) = some (rcells hs (List.replicate 64 0) 0).toArray.size) := by
    unfold Hid
    rw [List.size_toArray, hr0]
    exact e73
  have O73 : Hid ((rcells hs (List.replicate 64 0) 0).toArray.all (·.oneCell') = true) := r73
  clear hr0
  obtain ⟨C, hC⟩ : ∃ C, (rcells hs (List.replicate 64 0) 0).toArray = C := ⟨_, rfl⟩
  have HBU := Lib.hid built_run
  have hz41 := zero_run
  have hzs : (rcells (List.replicate 8 0) (List.replicate 64 0) 0).toArray.size = C.size := by
    rw [← hC, List.size_toArray, List.size_toArray]
    rfl
  obtain ⟨Z, hZ⟩ : ∃ Z, (rcells (List.replicate 8 0) (List.replicate 64 0) 0).toArray = Z := ⟨_, rfl⟩
  rw [hZ] at hz41 hzs
  have HZS := Lib.hid hzs
  clear hZ hzs
  rw [hC] at I73 O73 HBU
  have HC := Lib.hid hC
  clear hC
  go_wp2_with (first
    | (with_reducible refine wpList_load_mid rfl 122 (.global 0) rfl 0 0 rfl (wv hs) _ HT.out.ini Tryd.underlying122 rfl I37.out ?_)
    | (refine wpList_buildTo rfl 124 #[(0, .tmp 9)] rfl (some 10) rfl C (by simp only [List.map_toArray, List.map_cons, List.map_nil]; exact HBU.out) ?_)
    | (with_reducible refine wpList_store_row rfl 124 (.tmp 3) (.tmp 10) rfl w.heap.size C rfl rfl 124 _ (heap_alloc_new _ _) I73.out HZS.out O73.out ?_))
  have HP0 : Hid (Pa w ps 0 ((w.alloc (.cells Z 124)).setRow w.heap.size C)) :=
    ⟨⟨hs, List.replicate 64 0, ⟨by rw [List.take_zero]; exact (setRow_heap _ _ _ _ _ _ (heap_alloc_new w _)).trans (by rw [← HC.out]; rfl), Rn.start⟩⟩, Sha.below_setRow ((Below.refl _ w).alloc (Nat.le_refl _) _) (Nat.le_refl _) C⟩
  clear hz41 HC HBU HZS I73 O73
  go_loopw [5, 13] (fun _ i wr => ∃ k : Nat, k ≤ n ∧ i = .int .i64 (k : Int) ∧ Hid (Pa w ps k wr)) (fun _ i _ => n - (intOf i).toNat)
  case atStart => exact ⟨0, Nat.zero_le _, rfl, HP0⟩
  case round =>
    obtain ⟨k, hk, rfl, HP⟩ := hrel
    by_cases hlt : k < n
    · obtain ⟨p, hp⟩ : ∃ p, ps[k]? = some p := ⟨_, List.getElem?_eq_getElem (by have := HN.out; omega)⟩
      obtain ⟨bb, oo, rfl, hbb, kcell⟩ := H.out.cell k p hp
      have hok := H.out.ok p (List.mem_of_getElem? hp)
      have kc : wr.cell? ⟨bb, oo + k, none⟩ = some (.slice p.A p.n p.c) := (HP.out.bel.cell (p := ⟨bb, oo + k, none⟩) (by have := HB.out; show bb < _; omega)).trans kcell
      have hct := cats_take hp
      have hle := cats_le hp
      obtain ⟨H1, L1, hrun⟩ := HP.out.run
      have hrow : Row .u8 wr B p.A p.n p.xs := hok.row.below (HP.out.bel.mono HB.out)
      have hne : 0 < p.n → ∀ b o, p.A = some ⟨b, o, none⟩ → b ≠ w.heap.size := fun h0 b o e => by
        obtain ⟨b', o', e', hb', -⟩ := hok.row.2 h0
        rw [e'] at e
        injection e with e
        injection e with e1 e2
        have := HB.out
        omega
      have HROW := Lib.hid hrow
      have HNE := Lib.hid hne
      have HOK := Lib.hid hok
      have HRUN := Lib.hid hrun
      have HCT := Lib.hid hct
      have hlen : (cats (ps.take k)).length + p.n ≤ 4398046511104 := by
        have h1 := hok.row.len
        have h2 := HL.out
        omega
      have HLEN := Lib.hid hlen
      have HTA := Lib.hid (HT.out.tab.below HP.out.bel HT.out.tab.1)
      clear hp hok hct hle hrow hne hrun kcell hlen
      go_wp2_with fail
      refine (add_any p.A p.n p.c w.heap.size B p.xs (cats (ps.take k)) H1 L1 _ HROW.out (Nat.le_trans HB.out HP.out.bel.size) HOK.out.le HNE.out HOK.out.byt HRUN.out HTA.out HT.out.tab.1 HLEN.out).mono ?_
      rintro e2 w2 ⟨rfl, H2, L2, hr2, ho2⟩
      have HP2 : Hid (Pa w ps (k + 1) w2) := ⟨⟨H2, L2, by rw [HCT.out]; exact hr2⟩, HP.out.bel.trans (ho2.below HP.out.bel.size (fun i h => Nat.le_of_eq h.symm))⟩
      clear hr2 ho2
      go_wp2
      go_roundw
      case rel => exact ⟨k + 1, by omega, by go_num, HP2⟩
      case measure => simp [intOf]; omega
    · obtain rfl : k = n := by omega
      obtain ⟨H1, L1, hrun⟩ := HP.out.run
      rw [show ps.take k = ps from List.take_of_length_le (by have h1 : ps.length = k := HN.out; omega)] at hrun
      obtain ⟨kc, kf⟩ := hrun.count
      obtain ⟨N, hN⟩ : ∃ N, (cats ps).length = N := ⟨_, rfl⟩
      rw [hN] at kc
      have HNN := Lib.hid hN
      have HRUN := Lib.hid hrun
      have HBE := Lib.hid HP.out.bel
      clear hN hrun HP HP0 hlt hk
      go_wp2_with fail
      refine (behind_any N _ (by rw [← HNN.out]; exact HL.out)).mono ?_
      rintro e2 w2 ⟨v2, rfl, hown2, hb2⟩
      have HOW2 := Lib.hid hown2
      have HB2 := Lib.hid hb2
      clear hown2 hb2 kc kf
      obtain ⟨A2, c2, rfl, -, -⟩ := own_slice HOW2.out
      have HRL := Lib.hid HRUN.out.lt
      have HRUN2 : Hid (Run w2 w.heap.size (cats ps) H1 L1) := ⟨(HB2.out.block w.heap.size HRL.out).trans HRUN.out.blk, HRUN.out.rn⟩
      have HBE2 := Lib.hid (HBE.out.trans (HB2.out.mono HBE.out.size))
      have HNE : Hid (0 < 9 + zeros N → ∀ b o, A2 = some ⟨b, o, none⟩ → b ≠ w.heap.size) := fun _ b o e => by
        obtain ⟨g, e2, hg⟩ := own_at HOW2.out (by omega)
        rw [e] at e2
        injection e2 with e2
        injection e2 with e2 e3
        have := HRL.out
        omega
      have HC2 : Hid (9 + zeros N ≤ c2) := by
        obtain ⟨A', c', e, h1, -⟩ := own_slice HOW2.out
        injection e with e1 e2 e3
        rw [e3]; exact h1
      have hzn := zeros_le N
      have HLEN : Hid ((cats ps).length + (9 + zeros N) ≤ 4398046511104) := by
        have h1 : (cats ps).length ≤ 1099511627776 := HL.out
        show (cats ps).length + (9 + zeros N) ≤ 4398046511104
        omega
      have HTA := Lib.hid (HT.out.tab.below HBE2.out HT.out.tab.1)
      clear hzn
      go_wp2_with fail
      refine (add_any A2 (9 + zeros N) c2 w.heap.size w2.heap.size (tail N) (cats ps) H1 L1 _ (Row.of_own HOW2.out) (Nat.le_refl _) HC2.out HNE.out (tail_byt N) HRUN2.out HTA.out HT.out.tab.1 HLEN.out).mono ?_
      rintro e3 w3 ⟨rfl, H3, L3, hr3, ho3⟩
      have hpad : cats ps ++ tail N = pad (cats ps) := by rw [pad_tail, HNN.out]
      rw [hpad] at hr3
      have HBE3 := Lib.hid (HBE2.out.trans (ho3.below HBE2.out.size (fun i h => Nat.le_of_eq h.symm)))
      have HR3 := Lib.hid hr3
      clear hpad hr3 ho3 HRUN HBE HOW2 HB2 HRUN2 HBE2 HNE HC2 HLEN HTA HRL
      have I37b : Hid ((Tryd.prog.info? 122).map (·.size) = some (wv H3).length) := info8w HR3.out.rn.h8
      go_wp2_with (first
        | (at_make; refine wpList_make_own _ rfl _ _ 29 rfl w3.heap.size 5 i0 (.int .u8 0) 1 Tryd.underlying29 hi hz0 hz1 _ _ _ 32 rfl rfl rfl (by rw [hz2]; omega) (by unfold maxLen; omega) (Nat.le_refl _) ?_; intro w4 hown4 hg4; have HO4 := Lib.hid hown4; have HB4 := Lib.hid ((Below.refl w3.heap.size w3).grown hg4 (Nat.le_refl _) (fun j hj => by cases hj)); clear hown4 hg4; have k4 := (HB4.out.block w.heap.size HR3.out.lt).trans HR3.out.blk; have HK4 := Lib.hid k4; clear k4)
        | (with_reducible refine wpList_load_mid rfl 122 (.tmp 25) rfl w.heap.size 0 rfl (wv H3) _ (rcells_range HK4.out HR3.out.rn.h8) Tryd.underlying122 rfl I37b.out ?_))
      have h8 := HR3.out.rn.h8
      have HIX := Lib.hid (fun (i : Nat) (hi : i < 8) (w : World) => index_wv h8 i hi w)
      have HW0 : Hid (Wo w3 w3.heap.size H3 (.slice (some ⟨w3.heap.size, 0, none⟩) 0 32) 0 w4) := ⟨HO4.out, HB4.out⟩
      clear h8 HO4 HB4 HK4 I37b
      go_loopw [6, 8, 27] (fun v _ i wr => ∃ t : Nat, t ≤ 8 ∧ i = .int .i64 (t : Int) ∧ Hid (Wo w3 w3.heap.size H3 v t wr)) (fun _ _ i _ => 8 - (intOf i).toNat)
      case atStart => exact ⟨0, Nat.zero_le _, rfl, HW0⟩
      case round =>
        obtain ⟨t, ht, rfl, HW⟩ := hrel
        by_cases hlt : t < 8
        · have hix := HIX.out t hlt
          obtain ⟨a, ha⟩ : ∃ a, wat H3 t = a := ⟨_, rfl⟩
          rw [ha] at hix
          have hab := wi_bd a
          have HAA := Lib.hid ha
          have hlt2 : (t : Int) < 8 := by omega
          have hown := HW.out.own
          have HOW := Lib.hid hown
          have HBW := Lib.hid HW.out.bel
          clear ha hown
          go_wp2_with (at_builtin; refine lit_own rfl (.tmp 30) (.tmp 42) 29 rfl w3.heap.size 5 i0 .u8 1 Tryd.underlying29 hi hz0 hz1 hz2 _ (4 * t) (outs H3 t) rfl HOW.out 4 [_, _, _, _] rfl rfl rfl (by omega) (by omega) HBW.out.size ?_; intro v4 w4 hown4 hb4; have HOW4 := Lib.hid hown4; have HB4 := Lib.hid (HBW.out.trans hb4); clear hown4 hb4)
          rw [out4_shr, ← HAA.out] at HOW4
          have HW5 : Hid (Wo w3 w3.heap.size H3 v4 (t + 1) w4) := ⟨HOW4.out, HB4.out⟩
          go_roundw
          case rel => exact ⟨t + 1, by omega, by go_num, HW5⟩
          case measure => simp [intOf]; omega
        · obtain rfl : t = 8 := by omega
          go_wp2
          go_ret
          refine ⟨_, rfl, ?_, HBE3.out.trans (HW.out.bel.mono HBE3.out.size)⟩
          rw [← HR3.out.rn.hash]
          exact own_low HW.out.own HBE3.out.size

/-- What a part reads as, behind a block that was made. -/
theorem Prt.ok.below {p : Prt} {w w' : World} {B : Nat} (h : p.ok w B) (hb : Below B w w') : p.ok w' B := ⟨h.row.below hb, h.le, h.byt⟩
theorem Prt.ok.more {p : Prt} {w : World} {B B' : Nat} (h : p.ok w B) (hB : B ≤ B') : p.ok w B' := ⟨h.row.more hB, h.le, h.byt⟩
/-- A slice of parts that was just written out. -/
theorem prow_lit {w : World} {t : TypeId} {B : Nat} (ps : List Prt) (h : ∀ p ∈ ps, p.ok w B) (hB : B ≤ w.heap.size) : PRow (w.alloc (.cells (ps.map fun p => Value.slice p.A p.n p.c).toArray t)) (w.heap.size + 1) (some ⟨w.heap.size, 0, none⟩) ps := by
  refine ⟨fun j p hp => ⟨w.heap.size, 0, rfl, by omega, ?_⟩, fun p hp => ((h p hp).below ((Below.refl _ _).alloc hB _)).more (by omega)⟩
  rw [Nat.zero_add]
  refine cell_of_blk (heap_alloc_new w _) ?_
  rw [List.getElem?_toArray, List.getElem?_map, hp]
  rfl

set_option maxHeartbeats 800000 in
set_option maxRecDepth 100000 in
theorem sum_any (A : Option Addr) (n c B : Nat) (b : List Int) (w : World) (h : Row .u8 w B A n b) (hB : B ≤ w.heap.size) (hc : n ≤ c) (hb : ∀ x ∈ b, 0 ≤ x ∧ x ≤ 255) (hn : n ≤ 1099511627776) (hT : Lay w) :
    Calls Tryd.prog 85 #[.slice A n c] w fun e w' => ∃ v, e = .returned v ∧ w'.ownsRow w.heap.size 5 1 v 32 ((outs (blocks ks hs (pad b) ((pad b).length / 64)) 8).map (Value.int .u8)) ∧ Below w.heap.size w w' := by
  have hp := prow_lit (t := 29) (w := w) (B := B) [⟨A, n, c, b⟩] (by intro p hp; rw [List.mem_singleton] at hp; subst hp; exact ⟨h, hc, hb⟩) hB
  have hcat : cats [⟨A, n, c, b⟩] = b := by simp [cats]
  have hl := h.len
  have HP := Lib.hid hp
  have HC := Lib.hid hcat
  have HT := Lib.hid (hT.below ((Below.refl w.heap.size w).alloc (Nat.le_refl _) (.cells #[.slice A n c] 29)) hT.tab.1)
  have HL : Hid ((cats [⟨A, n, c, b⟩]).length ≤ 1099511627776) := by
    unfold Hid
    rw [hcat]
    omega
  clear h hB hc hb hn hT hp hcat hl
  go_enter Tryd.func85, Tryd.ntmps85
  go_wp2_with fail
  refine (parts_any (some ⟨w.heap.size, 0, none⟩) 1 1 (w.heap.size + 1) [⟨A, n, c, b⟩] _ HP.out rfl (by omega) (by simp) HL.out HT.out).mono ?_
  rintro e2 w2 ⟨v2, rfl, hown2, hb2⟩
  rw [HC.out] at hown2
  have HO2 := Lib.hid hown2
  have HB2 := Lib.hid hb2
  clear hown2 hb2
  go_wp2
  go_ret
  exact ⟨_, rfl, own_low HO2.out (by simp), ((Below.refl w.heap.size w).alloc (Nat.le_refl _) _).trans (HB2.out.mono (by simp))⟩
end Go.Proofs.YtmkdbpdfonpfdaaDoor.Sha

/- The cells of a row of one's own, over any program. -/
namespace Go.Proofs.YtmkdbpdfonpfdaaDoor
open Go.RowKit

theorem own_cell {w : World} {base n : Nat} {v : Value} {xs : List Int} {e : TypeId} (h : w.ownsRow base e 1 v n (xs.map (Value.int .u8))) (hn : 0 < n) : ∃ g c, v = .slice (some ⟨g, 0, none⟩) n c ∧ ∀ j, j < n → w.cell? ⟨g, j, none⟩ = some (.int .u8 (xs.getD j 0)) := by
  obtain ⟨A, c, rfl, -, -⟩ := own_slice h
  obtain ⟨g, rfl, -⟩ := own_at h hn
  have hr : Row .u8 w w.heap.size (some ⟨g, 0, none⟩) n xs := Row.of_own h
  refine ⟨g, c, rfl, fun j hj => ?_⟩
  obtain ⟨b, o, e, -, hc⟩ := hr.cell_at hj
  injection e with e
  injection e with e1 e2
  subst e1 e2
  rwa [Nat.zero_add] at hc
end Go.Proofs.YtmkdbpdfonpfdaaDoor

/- Layer 9 (ring): what the program's functions must do. -/
namespace Go.Proofs.YtmkdbpdfonpfdaaDoor.Rg
open Go.RowKit Slc Sha

/-- Keys of few bytes. -/
def Small (n : Nat) (K : List Kp) : Prop := n ≤ 1000 ∧ ∀ k ∈ K, k.p.n ≤ 1000
/-- What a program's functions must do. -/
def RightOk : Prop := ∀ (keep : Int) (A : Option Addr) (n c : Nat) (K : List Kp) (w : World), KRow w w.heap.size A n K → (A = none → c = 0) → n ≤ c → Small n K → -9223372036854775808 ≤ keep ∧ keep ≤ 9223372036854775807 →
  Calls Tryd.prog 27 #[.agg #[.int .i64 keep, .slice A n c]] w fun x w' => x = .returned (.bool (rt keep (ls K))) ∧ Below w.heap.size w w'
def NowOk : Prop := ∀ (keep : Int) (A : Option Addr) (n c : Nat) (K : List Kp) (w : World), KRow w w.heap.size A n K → (A = none → c = 0) → n ≤ c → Small n K → -9223372036854775808 ≤ keep ∧ keep ≤ 9223372036854775807 →
  Calls Tryd.prog 20 #[.agg #[.int .i64 keep, .slice A n c]] w fun x w' => x = .returned (.int .i64 (now (ls K))) ∧ Below w.heap.size w w'
def FindOk : Prop := ∀ (keep e : Int) (A : Option Addr) (n c : Nat) (K : List Kp) (w : World), KRow w w.heap.size A n K → (A = none → c = 0) → n ≤ c → Small n K → -9223372036854775808 ≤ keep ∧ keep ≤ 9223372036854775807 → -9223372036854775808 ≤ e ∧ e ≤ 9223372036854775807 →
  Calls Tryd.prog 21 #[.agg #[.int .i64 keep, .slice A n c], .int .i64 e] w (FindTo w.heap.size w K e)
/-- A ring that was not made. -/
def NoRing (B : Nat) (w0 : World) (e : Int) (x : Ending) (w' : World) : Prop := ∃ kk A c, x = .returned (.tuple #[.agg #[.int .i64 kk, .slice A 0 c], .int .i64 e]) ∧ Below B w0 w'
/-- A ring that was made. -/
def ARing (B : Nat) (w0 : World) (keep : Int) (E : List Kl) (x : Ending) (w' : World) : Prop :=
  ∃ A n c K, x = .returned (.tuple #[.agg #[.int .i64 keep, .slice A n c], .int .i64 0]) ∧ KRow w' w'.heap.size A n K ∧ ls K = E ∧ Fresh B A K ∧ (A = none → c = 0) ∧ n ≤ c ∧ Below B w0 w'
structure NewTo (keep : Int) (d : List Int) (B : Nat) (w0 : World) (x : Ending) (w' : World) : Prop where
  no : ¬ ((1 ≤ keep ∧ keep ≤ 16) ∧ d.length = 32) → NoRing B w0 2 x w'
  yes : (1 ≤ keep ∧ keep ≤ 16) ∧ d.length = 32 → ARing B w0 keep [(1, keyOf d 1)] x w'
structure RotTo (keep : Int) (E : List Kl) (d : List Int) (B : Nat) (w0 : World) (x : Ending) (w' : World) : Prop where
  no : ¬ (RtP keep E ∧ d.length = 32) → NoRing B w0 2 x w'
  top : RtP keep E ∧ d.length = 32 → now E = 1048576 → NoRing B w0 3 x w'
  yes : RtP keep E ∧ d.length = 32 → now E ≠ 1048576 → ARing B w0 keep (rot keep E d) x w'
def NewOk : Prop := ∀ (keep : Int) (A : Option Addr) (n c : Nat) (d : List Int) (w : World), Row .u8 w w.heap.size A n d → (A = none → c = 0) → n ≤ c → n ≤ maxLen → (∀ x ∈ d, 0 ≤ x ∧ x ≤ 255) → -9223372036854775808 ≤ keep ∧ keep ≤ 9223372036854775807 → Lay w →
  Calls Tryd.prog 26 #[.int .i64 keep, .slice A n c] w (NewTo keep d w.heap.size w)
def RotateOk : Prop := ∀ (keep : Int) (A A' : Option Addr) (n c n' c' : Nat) (K : List Kp) (d : List Int) (w : World), KRow w w.heap.size A n K → (A = none → c = 0) → n ≤ c → Small n K → -9223372036854775808 ≤ keep ∧ keep ≤ 9223372036854775807 → Row .u8 w w.heap.size A' n' d → (A' = none → c' = 0) → n' ≤ c' → n' ≤ maxLen → (∀ x ∈ d, 0 ≤ x ∧ x ≤ 255) → Lay w →
  Calls Tryd.prog 22 #[.agg #[.int .i64 keep, .slice A n c], .slice A' n' c'] w (RotTo keep (ls K) d w.heap.size w)

theorem small_of {keep : Int} {w : World} {B n : Nat} {A : Option Addr} {K : List Kp} (h : KRow w B A n K) (hr : RtP keep (ls K)) : Small n K := by
  have h1 := hr.2.2.2.1
  have h2 := hr.2.1
  rw [ls_len, h.len] at h1
  refine ⟨by omega, fun k hk => ?_⟩
  obtain ⟨j, hj⟩ := List.getElem?_of_mem hk
  have h3 := (hr.2.2.2.2 j _ (ls_at hj)).1
  have h4 := (h.ok k hk).len
  simp only at h3
  omega

/-- What a call that rotates a ring answers, in one form. -/
theorem rotTo_form {keep : Int} {E : List Kl} {d : List Int} {B : Nat} {w0 w' : World} {x : Ending} (h : RotTo keep E d B w0 x w') : ∃ kk A n c ee, x = .returned (.tuple #[.agg #[.int .i64 kk, .slice A n c], .int .i64 ee]) ∧ Below B w0 w' ∧
    (¬ (RtP keep E ∧ d.length = 32) → ee = 2 ∧ n = 0) ∧ (RtP keep E ∧ d.length = 32 → now E = 1048576 → ee = 3 ∧ n = 0) ∧
    (RtP keep E ∧ d.length = 32 → now E ≠ 1048576 → ee = 0 ∧ kk = keep ∧ ∃ K, KRow w' w'.heap.size A n K ∧ ls K = rot keep E d ∧ Small n K ∧ Fresh B A K ∧ (A = none → c = 0) ∧ n ≤ c) := by
  by_cases hc : RtP keep E ∧ d.length = 32
  · by_cases ht : now E = 1048576
    · obtain ⟨kk, A, c, rfl, hb⟩ := h.top hc ht
      exact ⟨kk, A, 0, c, 3, rfl, hb, fun h => absurd hc h, fun _ _ => ⟨rfl, rfl⟩, fun _ h => absurd ht h⟩
    · obtain ⟨A, n, c, K, rfl, hk, hls, hfr, hnil, hnc, hb⟩ := h.yes hc ht
      refine ⟨keep, A, n, c, 0, rfl, hb, fun h => absurd hc h, fun _ h => absurd h ht, fun _ _ => ⟨rfl, rfl, K, hk, hls, ?_, hfr, hnil, hnc⟩⟩
      exact small_of (keep := keep) hk (by rw [hls]; exact rt_rot hc.1 (by have := now_le hc.1; omega) d)
  · obtain ⟨kk, A, c, rfl, hb⟩ := h.no hc
    exact ⟨kk, A, 0, c, 2, rfl, hb, fun _ => ⟨rfl, rfl⟩, fun h => absurd h hc, fun h => absurd h hc⟩
theorem fnd_len {w : World} {B n : Nat} {A : Option Addr} {K : List Kp} (h : KRow w B A n K) (hk : ∀ k ∈ K, k.p.n ≤ 100) (e : Int) : ((fnd (ls K) e).getD []).length ≤ 100 := by
  unfold fnd
  cases hf : (ls K).find? (fun k => k.1 == e) with
  | none => simp
  | some q =>
    obtain ⟨k, hk', rfl⟩ := List.mem_map.1 (List.mem_of_find?_eq_some hf)
    have h1 := hk k hk'
    have h2 := (h.ok k hk').len
    simp only [Option.map_some, Option.getD_some, Kp.l]
    omega

/-- What a call that makes a ring answers, in one form. -/
theorem newTo_form {keep : Int} {d : List Int} {B : Nat} {w0 w' : World} {x : Ending} (h : NewTo keep d B w0 x w') : ∃ kk A n c ee, x = .returned (.tuple #[.agg #[.int .i64 kk, .slice A n c], .int .i64 ee]) ∧ Below B w0 w' ∧
    (¬ ((1 ≤ keep ∧ keep ≤ 16) ∧ d.length = 32) → ee = 2 ∧ n = 0) ∧ ((1 ≤ keep ∧ keep ≤ 16) ∧ d.length = 32 → ee = 0 ∧ kk = keep ∧ ∃ K, KRow w' w'.heap.size A n K ∧ ls K = [(1, keyOf d 1)]) := by
  by_cases hc : (1 ≤ keep ∧ keep ≤ 16) ∧ d.length = 32
  · obtain ⟨A, n, c, K, rfl, hk, hls, -, -, -, hb⟩ := h.yes hc
    exact ⟨keep, A, n, c, 0, rfl, hb, fun h => absurd hc h, fun _ => ⟨rfl, rfl, K, hk, hls⟩⟩
  · obtain ⟨kk, A, c, rfl, hb⟩ := h.no hc
    exact ⟨kk, A, 0, c, 2, rfl, hb, fun _ => ⟨rfl, rfl⟩, fun h => absurd h hc⟩
end Go.Proofs.YtmkdbpdfonpfdaaDoor.Rg

/- Plain mathematics of layer 1 (varint): a number's bytes, what bytes begin with, and that the two are inverse; no program is named here. -/
namespace Go.Proofs.YtmkdbpdfonpfdaaDoor.Var

/-- A number's bytes, least significant seven bits first. -/
def put (n : Nat) : List Int := if n < 128 then [(n : Int)] else (((n % 128 : Nat) : Int) + 128) :: put (n / 128)
  termination_by n
  decreasing_by omega

theorem put_last {n : Nat} (h : n < 128) : put n = [(n : Int)] := by rw [put, if_pos h]
theorem put_more {n : Nat} (h : ¬ n < 128) : put n = (((n % 128 : Nat) : Int) + 128) :: put (n / 128) := by rw [put, if_neg h]

theorem put_pos (n : Nat) : 1 ≤ (put n).length := by
  rw [put]; split <;> simp

theorem put_len : ∀ (k n : Nat), n < 128 ^ (k + 1) → (put n).length ≤ k + 1
  | 0, n, h => by rw [put_last (by simpa using h)]; simp
  | k + 1, n, h => by
    by_cases hn : n < 128
    · rw [put_last hn]; simp
    · rw [put_more hn]
      have : n / 128 < 128 ^ (k + 1) := by
        rw [Nat.pow_succ] at h
        exact Nat.div_lt_of_lt_mul (by rw [Nat.mul_comm]; exact h)
      have := put_len k (n / 128) this
      simp; omega

theorem put_len10 {n : Nat} (h : n < 18446744073709551616) : (put n).length ≤ 10 := put_len 9 n (by omega)

theorem put_byte : ∀ (n : Nat) (x : Int), x ∈ put n → 0 ≤ x ∧ x ≤ 255 := by
  intro n
  induction n using Nat.strongRecOn with
  | ind n ih =>
    intro x hx
    by_cases hn : n < 128
    · rw [put_last hn] at hx
      simp at hx
      omega
    · rw [put_more hn] at hx
      rcases List.mem_cons.1 hx with rfl | hx
      · omega
      · exact ih (n / 128) (by omega) x hx

/-- What bytes begin with, from the i-th byte on, X being what was read: the number, how many bytes, the error. -/
def take (X i : Nat) : List Int → Nat × Nat × Nat
  | [] => (0, 0, 10)
  | c :: cs =>
    if i = 9 ∧ 1 < c then (0, 0, 11)
    else if c < 128 then (if c = 0 ∧ 0 < i then (0, 0, 11) else (X + c.toNat % 128 * 128 ^ i, i + 1, 0))
    else take (X + c.toNat % 128 * 128 ^ i) (i + 1) cs

theorem take_put : ∀ (m i X : Nat) (b : List Int), m * 128 ^ i < 18446744073709551616 → i ≤ 9 → (m ≠ 0 ∨ i = 0) →
    take X i (put m ++ b) = (X + m * 128 ^ i, i + (put m).length, 0) := by
  intro m
  induction m using Nat.strongRecOn with
  | ind m ih =>
    intro i X b h hi h0
    have h9 : i = 9 → m < 2 := by
      rintro rfl
      have : m * 128 ^ 9 < 2 * 128 ^ 9 := by omega
      exact Nat.lt_of_mul_lt_mul_right this
    by_cases hm : m < 128
    · rw [put_last hm]
      have e1 : ¬ (i = 9 ∧ (1 : Int) < (m : Int)) := by
        rintro ⟨a, b⟩
        have := h9 a
        omega
      have e2 : (m : Int) < 128 := by omega
      have e3 : ¬ ((m : Int) = 0 ∧ 0 < i) := by omega
      have e4 : (m : Int).toNat % 128 = m := by omega
      simp only [List.cons_append, List.nil_append, take, if_neg e1, if_pos e2, if_neg e3, e4, List.length_singleton]
    · have hi9 : i ≠ 9 := fun h => by have := h9 h; omega
      rw [put_more hm]
      have e1 : ¬ (i = 9 ∧ (1 : Int) < ((m % 128 : Nat) : Int) + 128) := fun h => hi9 h.1
      have e2 : ¬ (((m % 128 : Nat) : Int) + 128 < 128) := by omega
      have e4 : (((m % 128 : Nat) : Int) + 128).toNat % 128 = m % 128 := by omega
      have hd : m / 128 * 128 ^ (i + 1) ≤ m * 128 ^ i := by
        rw [Nat.pow_succ, Nat.mul_comm (128 ^ i), ← Nat.mul_assoc]
        exact Nat.mul_le_mul_right _ (Nat.div_mul_le_self m 128)
      have hr := ih (m / 128) (by omega) (i + 1) (X + m % 128 * 128 ^ i) b (by omega) (by omega) (Or.inl (by omega))
      simp only [List.cons_append, take, if_neg e1, if_neg e2, e4, hr, List.length_cons, Prod.mk.injEq, and_true]
      refine ⟨?_, by omega⟩
      have hs : m % 128 * 128 ^ i + m / 128 * 128 ^ (i + 1) = m * 128 ^ i := by
        rw [Nat.pow_succ, Nat.mul_comm (128 ^ i), ← Nat.mul_assoc, ← Nat.add_mul]
        congr 1
        omega
      omega

/-- What is taken is put so again. -/
theorem put_take : ∀ (b : List Int) (i X : Nat), (∀ x ∈ b, 0 ≤ x ∧ x ≤ 255) → (take X i b).2.2 = 0 →
    ∃ m, (take X i b).1 = X + m * 128 ^ i ∧ (m ≠ 0 ∨ i = 0) ∧ i < (take X i b).2.1 ∧ (take X i b).2.1 ≤ i + b.length ∧ put m = b.take ((take X i b).2.1 - i)
  | [], i, X, _, h => by simp [take] at h
  | c :: cs, i, X, hb, h => by
    have hc := hb c (by simp)
    have hcs : ∀ x ∈ cs, 0 ≤ x ∧ x ≤ 255 := fun x hx => hb x (by simp [hx])
    by_cases e1 : i = 9 ∧ 1 < c
    · simp [take, if_pos e1] at h
    by_cases e2 : c < 128
    · by_cases e3 : c = 0 ∧ 0 < i
      · simp [take, if_pos e2, if_pos e3] at h
      · have hv : take X i (c :: cs) = (X + c.toNat % 128 * 128 ^ i, i + 1, 0) := by simp [take, if_neg e1, if_pos e2, if_neg e3]
        rw [hv]
        refine ⟨c.toNat, ?_, by omega, by simp, by simp, ?_⟩
        · simp [Nat.mod_eq_of_lt (show c.toNat < 128 by omega)]
        · rw [put_last (by omega)]
          simp
          omega
    · have hv : take X i (c :: cs) = take (X + c.toNat % 128 * 128 ^ i) (i + 1) cs := by simp [take, if_neg e1, if_neg e2]
      rw [hv] at h ⊢
      obtain ⟨m, h1, h2, h3, h4, h5⟩ := put_take cs (i + 1) (X + c.toNat % 128 * 128 ^ i) hcs h
      have hm : m ≠ 0 := by omega
      refine ⟨c.toNat % 128 + 128 * m, ?_, by omega, by omega, by simp; omega, ?_⟩
      · rw [h1, Nat.add_mul, Nat.pow_succ, Nat.mul_comm (128 ^ i), ← Nat.mul_assoc, Nat.mul_comm m 128]
        omega
      · rw [put_more (by omega)]
        have a1 : (c.toNat % 128 + 128 * m) / 128 = m := by omega
        have a2 : (((c.toNat % 128 + 128 * m) % 128 : Nat) : Int) + 128 = c := by omega
        rw [a1, a2, h5]
        obtain ⟨d, hd⟩ : ∃ d, (take (X + c.toNat % 128 * 128 ^ i) (i + 1) cs).2.1 - i = d + 1 := ⟨(take (X + c.toNat % 128 * 128 ^ i) (i + 1) cs).2.1 - i - 1, by omega⟩
        rw [hd, List.take_succ_cons]
        congr 2
        omega

theorem take_fails : ∀ (b : List Int) (i X : Nat), (take X i b).2.2 ≠ 0 → (take X i b).1 = 0 ∧ (take X i b).2.1 = 0
  | [], _, _, _ => by simp [take]
  | c :: cs, i, X, h => by
    by_cases e1 : i = 9 ∧ 1 < c
    · simp [take, if_pos e1]
    by_cases e2 : c < 128
    · by_cases e3 : c = 0 ∧ 0 < i
      · simp [take, if_pos e2, if_pos e3]
      · simp [take, if_neg e1, if_pos e2, if_neg e3] at h
    · have hv : take X i (c :: cs) = take (X + c.toNat % 128 * 128 ^ i) (i + 1) cs := by simp [take, if_neg e1, if_neg e2]
      rw [hv] at h ⊢
      exact take_fails cs _ _ h

/-- The code of a signed number, and back. -/
def turn (n : Int) : Int := if n < 0 then -(n + 1) * 2 + 1 else n * 2
def back (m : Int) : Int := if m % 2 = 1 then -(m / 2) - 1 else m / 2
theorem back_turn (n : Int) : back (turn n) = n := by unfold back turn; split <;> split <;> omega
theorem turn_back {m : Int} (h : 0 ≤ m) : turn (back m) = m := by unfold back turn; split <;> split <;> omega
theorem turn_bd {n : Int} (h1 : -9223372036854775808 ≤ n) (h2 : n ≤ 9223372036854775807) : 0 ≤ turn n ∧ turn n ≤ 18446744073709551615 := by unfold turn; split <;> omega
theorem back_bd {m : Int} (h1 : 0 ≤ m) (h2 : m ≤ 18446744073709551615) : -9223372036854775808 ≤ back m ∧ back m ≤ 9223372036854775807 := by unfold back; split <;> omega

/-- A number below 128^i and a seven-bit group at place i, joined bit by bit, are their sum. -/
theorem or_group (X c i : Nat) (hX : X < 2 ^ (7 * i)) : X ||| c * 2 ^ (7 * i) = X + c * 2 ^ (7 * i) := by
  rw [Nat.or_comm, nat_join (7 * i) (c * 2 ^ (7 * i)) X (Nat.mul_mod_left _ _) hX, Nat.add_comm]
theorem pow7 (i : Nat) : 2 ^ (7 * i) = 128 ^ i := by rw [Nat.pow_mul]
end Go.Proofs.YtmkdbpdfonpfdaaDoor.Var

/- Mathematics of layer 2 (crc): the register's step, steps at once by a table, the checksum of a list of bytes, its pieces, one byte turned; a checksum's bytes. -/
namespace Go.Proofs.YtmkdbpdfonpfdaaDoor.Crc

def step (r : Nat) : Nat := if r % 2 = 1 then r / 2 ^^^ 3988292384 else r / 2
def steps : Nat → Nat → Nat
  | 0, r => r
  | k + 1, r => step (steps k r)

theorem step_lt {r : Nat} (h : r < 4294967296) : step r < 4294967296 := by
  unfold step
  split
  · exact Nat.xor_lt_two_pow (n := 32) (by omega) (by omega)
  · omega
theorem steps_lt {r : Nat} (h : r < 4294967296) : ∀ k, steps k r < 4294967296
  | 0 => h
  | k + 1 => step_lt (steps_lt h k)
theorem xor_xor_self (a b c : Nat) : (a ^^^ c) ^^^ (b ^^^ c) = a ^^^ b := by
  rw [Nat.xor_comm b c, Nat.xor_assoc, ← Nat.xor_assoc c c b, Nat.xor_self, Nat.zero_xor]
theorem step_xor (a b : Nat) : step (a ^^^ b) = step a ^^^ step b := by
  have h1 : (a ^^^ b) / 2 = a / 2 ^^^ b / 2 := Nat.xor_div_two
  have h2 := Nat.xor_mod_two_eq_one (a := a) (b := b)
  unfold step
  rw [h1]
  by_cases ha : a % 2 = 1 <;> by_cases hb : b % 2 = 1 <;> simp only [ha, hb, h2, iff_true, iff_false, not_true, not_false_iff, if_true, if_false]
  · exact (xor_xor_self _ _ _).symm
  · rw [Nat.xor_assoc, Nat.xor_comm (b / 2), ← Nat.xor_assoc]
  · rw [Nat.xor_assoc]
theorem steps_xor (a b : Nat) : ∀ k, steps k (a ^^^ b) = steps k a ^^^ steps k b
  | 0 => rfl
  | k + 1 => by rw [steps, steps_xor a b k, step_xor]; rfl
theorem step_split (r : Nat) : step r = r / 2 ^^^ step (r % 2) := by
  unfold step
  rcases Nat.mod_two_eq_zero_or_one r with h | h <;> simp [h]
theorem steps_split (k : Nat) : ∀ r, steps k r = r / 2 ^ k ^^^ steps k (r % 2 ^ k) := by
  induction k with
  | zero => intro r; simp [steps, Nat.mod_one]
  | succ k ih =>
    have key : ∀ r, steps (k + 1) r = r / 2 ^ (k + 1) ^^^ (step (r / 2 ^ k % 2) ^^^ steps (k + 1) (r % 2 ^ k)) := fun r => by
      show step (steps k r) = _
      rw [ih r, step_xor, step_split (r / 2 ^ k), Nat.div_div_eq_div_mul, ← Nat.pow_succ, Nat.xor_assoc]
      rfl
    intro r
    rw [key r]
    have h := key (r % 2 ^ (k + 1))
    have h1 : r % 2 ^ (k + 1) / 2 ^ (k + 1) = 0 := Nat.div_eq_of_lt (Nat.mod_lt _ (Nat.two_pow_pos _))
    have h2 : r % 2 ^ (k + 1) / 2 ^ k % 2 = r / 2 ^ k % 2 := by
      rw [Nat.pow_succ, Nat.mod_mul_right_div_self, Nat.mod_mod]
    have h3 : r % 2 ^ (k + 1) % 2 ^ k = r % 2 ^ k := Nat.mod_mod_of_dvd _ ⟨2, Nat.pow_succ _ _⟩
    rw [h1, h2, h3, Nat.zero_xor] at h
    rw [h]
theorem steps4 (r : Nat) : r / 16 ^^^ steps 4 (r % 16) = steps 4 r := (steps_split 4 r).symm
theorem steps8 (r : Nat) : steps 4 (steps 4 r) = steps 8 r := rfl

/-- The document's step: the register's lowest bit against the byte's. -/
def rstep (r x : Nat) : Nat := if r % 2 = x % 2 then r / 2 else r / 2 ^^^ 3988292384
theorem rstep_lt {r x : Nat} (h : r < 4294967296) : rstep r x < 4294967296 := by
  unfold rstep
  split
  · omega
  · exact Nat.xor_lt_two_pow (n := 32) (by omega) (by omega)
theorem step_rstep (r x : Nat) : rstep r x ^^^ (x / 2) = step (r ^^^ x) := by
  have h1 : (r ^^^ x) / 2 = r / 2 ^^^ x / 2 := Nat.xor_div_two
  have h2 := Nat.xor_mod_two_eq_one (a := r) (b := x)
  unfold step rstep
  rw [h1]
  rcases Nat.mod_two_eq_zero_or_one r with ha | ha <;> rcases Nat.mod_two_eq_zero_or_one x with hb | hb <;> simp [ha, hb, h2] <;> rw [Nat.xor_assoc, Nat.xor_comm 3988292384, ← Nat.xor_assoc]

/-- All are bytes. -/
def Bytes (xs : List Int) : Prop := ∀ x ∈ xs, 0 ≤ x ∧ x < 256
theorem Bytes.getD {xs : List Int} (h : Bytes xs) {i : Nat} (hi : i < xs.length) : 0 ≤ xs.getD i 0 ∧ xs.getD i 0 < 256 := by
  rw [List.getD_eq_getElem?_getD, List.getElem?_eq_getElem hi]
  exact h _ (List.getElem_mem hi)

def upd (r : Nat) (x : Int) : Nat := steps 8 (r ^^^ x.toNat)
theorem upd_eq (r : Nat) (x : Int) : upd r x = steps 8 (r ^^^ x.toNat) := by unfold upd; exact Eq.refl _
attribute [irreducible] upd
def crc (r : Nat) (xs : List Int) : Nat := xs.foldl upd r
theorem crc_cons (r : Nat) (x : Int) (xs : List Int) : crc r (x :: xs) = crc (upd r x) xs := by unfold crc; exact List.foldl_cons ..
theorem crc_append (xs ys : List Int) (r : Nat) : crc r (xs ++ ys) = crc (crc r xs) ys := List.foldl_append
theorem upd_lt {r : Nat} {x : Int} (hr : r < 4294967296) (h1 : 0 ≤ x) (h2 : x < 256) : upd r x < 4294967296 := by
  rw [upd_eq]
  exact steps_lt (Nat.xor_lt_two_pow (n := 32) hr (by omega)) 8
theorem crc_lt : ∀ {xs : List Int} {r : Nat}, r < 4294967296 → Bytes xs → crc r xs < 4294967296
  | [], _, hr, _ => hr
  | x :: xs, _, hr, hb => crc_lt (xs := xs) (upd_lt hr (hb x (by simp)).1 (hb x (by simp)).2) (fun y hy => hb y (by simp [hy]))
theorem crc_drop {xs : List Int} {i : Nat} (hi : i < xs.length) (r : Nat) : crc r (xs.drop i) = crc (upd r (xs.getD i 0)) (xs.drop (i + 1)) := by
  have h : xs.getD i 0 = xs[i] := by simp [List.getD, hi]
  have h2 : xs.drop i = xs.getD i 0 :: xs.drop (i + 1) := by rw [h]; exact List.drop_eq_getElem_cons hi
  generalize xs.getD i 0 = x at *
  generalize xs.drop (i + 1) = ys at *
  rw [h2]
  exact crc_cons _ _ _

theorem step_inj {a b : Nat} (ha : a < 4294967296) (hb : b < 4294967296) (h : step a = step b) : a = b := by
  have no : ∀ x y : Nat, x < 2147483648 → y < 2147483648 → x ^^^ 3988292384 = y → False := fun x y hx hy e => by
    have h1 : x ^^^ y = 3988292384 := by rw [← e, ← Nat.xor_assoc, Nat.xor_self, Nat.zero_xor]
    have h2 : x ^^^ y < 2 ^ 31 := Nat.xor_lt_two_pow (by omega) (by omega)
    omega
  unfold step at h
  split at h <;> split at h
  · have h2 := congrArg (· ^^^ 3988292384) h
    simp only [Nat.xor_assoc, Nat.xor_self, Nat.xor_zero] at h2
    omega
  · exact (no _ _ (by omega) (by omega) h).elim
  · exact (no _ _ (by omega) (by omega) h.symm).elim
  · omega
theorem steps_inj {a b : Nat} (ha : a < 4294967296) (hb : b < 4294967296) : ∀ k, steps k a = steps k b → a = b
  | 0, h => h
  | k + 1, h => steps_inj ha hb k (step_inj (steps_lt ha k) (steps_lt hb k) h)
theorem xor_right_inj {a b c : Nat} (h : a ^^^ c = b ^^^ c) : a = b := by
  have h2 := congrArg (· ^^^ c) h
  simpa only [Nat.xor_assoc, Nat.xor_self, Nat.xor_zero] using h2
theorem xor_left_inj {a b c : Nat} (h : c ^^^ a = c ^^^ b) : a = b := xor_right_inj (c := c) (by rw [Nat.xor_comm a, Nat.xor_comm b, h])
theorem upd_inj {a b : Nat} {x y : Int} (ha : a < 4294967296) (hb : b < 4294967296) (hx : 0 ≤ x ∧ x < 256) (hy : 0 ≤ y ∧ y < 256) (h : upd a x = upd b y) : a ^^^ x.toNat = b ^^^ y.toNat := by
  rw [upd_eq, upd_eq] at h
  exact steps_inj (Nat.xor_lt_two_pow (n := 32) ha (by omega)) (Nat.xor_lt_two_pow (n := 32) hb (by omega)) 8 h
theorem crc_inj : ∀ {xs : List Int} {a b : Nat}, a < 4294967296 → b < 4294967296 → Bytes xs → crc a xs = crc b xs → a = b
  | [], _, _, _, _, _, h => h
  | x :: xs, a, b, ha, hb, hx, h => by
    have h0 := hx x (by simp)
    exact xor_right_inj (upd_inj ha hb h0 h0 (crc_inj (xs := xs) (upd_lt ha h0.1 h0.2) (upd_lt hb h0.1 h0.2) (fun y hy => hx y (by simp [hy])) h))
/-- One byte turned: another checksum. -/
theorem crc_turn : ∀ {xs : List Int} {i r : Nat} {y : Int}, r < 4294967296 → Bytes xs → i < xs.length → 0 ≤ y ∧ y < 256 → y ≠ xs.getD i 0 → crc r (xs.set i y) ≠ crc r xs
  | [], _, _, _, _, _, hi, _, _, _ => absurd hi (by simp)
  | x :: xs, 0, r, y, hr, hx, _, hy, hne, h => by
    have h0 := hx x (by simp)
    have e := crc_inj (xs := xs) (upd_lt hr hy.1 hy.2) (upd_lt hr h0.1 h0.2) (fun y hy => hx y (by simp [hy])) h
    have e2 := xor_left_inj (upd_inj hr hr hy h0 e)
    exact hne (by simp; omega)
  | x :: xs, i + 1, r, y, hr, hx, hi, hy, hne, h => by
    have h0 := hx x (by simp)
    exact crc_turn (xs := xs) (i := i) (upd_lt hr h0.1 h0.2) (fun y hy => hx y (by simp [hy])) (by simpa using hi) hy (by simpa using hne) h

def inv (r : Nat) : Nat := 4294967295 - r
theorem inv_lt (r : Nat) : inv r < 4294967296 := by unfold inv; omega
theorem inv_inv {r : Nat} (h : r < 4294967296) : inv (inv r) = r := by unfold inv; omega
theorem inv_xor {r : Nat} (h : r < 4294967296) : 4294967295 ^^^ r = inv r := by
  have h1 : (BitVec.allOnes 32 ^^^ BitVec.ofNat 32 r).toNat = (~~~ BitVec.ofNat 32 r).toNat := by rw [BitVec.allOnes_xor]
  rw [BitVec.toNat_xor, BitVec.toNat_not, BitVec.toNat_allOnes, BitVec.toNat_ofNat, Nat.mod_eq_of_lt h] at h1
  unfold inv
  omega
theorem not_u32 {r : Nat} (h : r < 4294967296) : bits .xor .u32 IntKind.u32.max (r : Int) = ((inv r : Nat) : Int) := by
  rw [← inv_xor h]
  show bits .xor .u32 4294967295 (r : Int) = _
  exact u32_xor_nat 4294967295 r (by omega) h

/-- The checksum. -/
def sum (xs : List Int) : Nat := inv (crc 4294967295 xs)
def more (s : Nat) (xs : List Int) : Nat := inv (crc (inv s) xs)
theorem sum_more (xs : List Int) : more 0 xs = sum xs := rfl
theorem sum_lt (xs : List Int) : sum xs < 4294967296 := inv_lt _
theorem more_sum {xs ys : List Int} (hx : Bytes xs) : more (sum xs) ys = sum (xs ++ ys) := by
  unfold more sum
  rw [inv_inv (crc_lt (by omega) hx), crc_append]
theorem Bytes.append {xs ys : List Int} (h : Bytes xs) (h' : Bytes ys) : Bytes (xs ++ ys) := fun x hx => by
  rcases List.mem_append.1 hx with h1 | h1
  · exact h x h1
  · exact h' x h1
theorem Bytes.set {xs : List Int} (h : Bytes xs) (i : Nat) {y : Int} (hy : 0 ≤ y ∧ y < 256) : Bytes (xs.set i y) := fun x hx => by
  rcases List.mem_or_eq_of_mem_set hx with h1 | h1
  · exact h x h1
  · subst h1; exact hy
theorem sum_turn {xs : List Int} {i : Nat} {y : Int} (hx : Bytes xs) (hi : i < xs.length) (hy : 0 ≤ y ∧ y < 256) (hne : y ≠ xs.getD i 0) : sum (xs.set i y) ≠ sum xs := fun h => by
  have h1 := crc_lt (r := 4294967295) (by omega) hx
  have h2 := crc_lt (r := 4294967295) (by omega) (hx.set i hy)
  refine crc_turn (r := 4294967295) (by omega) hx hi hy hne ?_
  unfold sum inv at h
  omega
theorem sum_known : sum [49, 50, 51, 52, 53, 54, 55, 56, 57] = 3421780262 := by decide +kernel

/-- A number's lowest bytes. -/
def byts : Nat → Nat → List Int
  | 0, _ => []
  | k + 1, n => ((n % 256 : Nat) : Int) :: byts k (n / 256)
theorem byts_len : ∀ k n, (byts k n).length = k
  | 0, _ => rfl
  | k + 1, n => by simp [byts, byts_len k]
theorem byts_bytes : ∀ k n, Bytes (byts k n)
  | 0, _ => fun x hx => by simp [byts] at hx
  | k + 1, n => fun x hx => by
    rcases List.mem_cons.1 hx with rfl | h
    · omega
    · exact byts_bytes k _ x h

/-- The table: what four steps make of each value of the lowest four bits. -/
def tab (i : Nat) : List Int := (List.range 16).map fun j => if j < i then ((steps 4 j : Nat) : Int) else 0
end Go.Proofs.YtmkdbpdfonpfdaaDoor.Crc

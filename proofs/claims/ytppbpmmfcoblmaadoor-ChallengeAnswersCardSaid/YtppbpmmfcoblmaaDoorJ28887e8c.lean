/- Lemmas that the proof stands on, in build order: ShaA. -/
import Derived.StillTailTactics
import Derived.RegionTactic
import Derived.Deep.MidRow
import Derived.Test.YtppbpmmfcoblmaaDoorJ24e72b8
import Derived.Test.YtppbpmmfcoblmaaDoorJ2722e1c2
/- Layer 7 (sha): the program's add (bytes that go into a run), as a contract. -/
namespace Go.Proofs.YtppbpmmfcoblmaaDoor.Sha
open Go.RowKit

theorem e8t : (Tryd.prog.info? 5).map (·.size) = some 1 := by kernel_rfl
theorem bv_one (l : List Int) : ∀ v ∈ bv l, v.oneCell' = true := fun v hv => by
  unfold bv at hv
  obtain ⟨x, _, rfl⟩ := List.mem_map.1 hv
  rfl
theorem wv_one' (l : List Wd) : ∀ v ∈ wv l, v.oneCell' = true := fun v hv => by
  unfold wv at hv
  obtain ⟨x, _, rfl⟩ := List.mem_map.1 hv
  rfl

set_option maxHeartbeats 3200000 in
set_option maxRecDepth 100000 in
theorem add_any (A : Option Addr) (n c R B : Nat) (xs b0 : List Int) (H0 : List Wd) (L0 : List Int) (w : World) (h : Row .u8 w B A n xs) (hB : B ≤ w.heap.size) (hc : n ≤ c) (hne : 0 < n → ∀ b o, A = some ⟨b, o, none⟩ → b ≠ R) (hb : ∀ x ∈ xs, 0 ≤ x ∧ x ≤ 255)
    (hR : Run w R b0 H0 L0) (hT : Tab w) (hR1 : Glo < R) (hlen : b0.length + n ≤ 4398046511104) :
    Calls Tryd.prog 104 #[.pointer (some ⟨R, 0, none⟩), .slice A n c] w fun e w' => e = .returned (.tuple #[]) ∧ ∃ H L, Run w' R (b0 ++ xs) H L ∧ Only (fun k => k = R) w w' := by
  have HX : Hid (Ad w R B b0 xs A n c [] xs H0 L0 w) := ⟨by rw [List.append_nil]; exact hR, h, hne, hB, hc, rfl, Only.refl _ _, hT⟩
  have HBY := Lib.hid hb
  have HL := Lib.hid hlen
  have HR1 := Lib.hid hR1
  have hxl := h.len
  have HXL := Lib.hid hxl
  clear h hB hc hne hb hR hT hR1 hlen hxl
  go_enter Tryd.func104, Tryd.ntmps104
  go_wp2_with fail
  go_loopw [1, 4] (fun v _ wr => ∃ (A' : Option Addr) (m c' : Nat) (zs ys : List Int) (H : List Wd) (L : List Int), v = .slice A' m c' ∧ Hid (Ad w R B b0 xs A' m c' zs ys H L wr)) (fun v _ _ => lenOf v)
  case atStart => exact ⟨A, n, c, [], xs, H0, L0, rfl, HX⟩
  case round =>
    obtain ⟨A', m, c', zs, ys, H, L, rfl, HA⟩ := hrel
    by_cases hm : 0 < m
    · obtain ⟨bb, oo, rfl, hbb, hcell⟩ := HA.out.row.2 hm
      obtain ⟨N, hN⟩ : ∃ N, (b0 ++ zs).length = N := ⟨_, rfl⟩
      obtain ⟨q, hq⟩ : ∃ q, N % 64 = q := ⟨_, rfl⟩
      have hq64 : q < 64 := by omega
      obtain ⟨j, hj⟩ : ∃ j, min m (64 - q) = j := ⟨_, rfl⟩
      have hj0 : 0 < j := by omega
      have hjm : j ≤ m := by omega
      have hjq : q + j ≤ 64 := by omega
      obtain ⟨kc, kf⟩ := HA.out.run.count
      rw [hN] at kc
      have hq2 : (N : Int).tmod 64 = (q : Int) := by rw [Int.tmod_eq_emod_of_nonneg (by omega)]; omega
      have hq5 : ¬ 64 = q := by omega
      have hq3 : (0 : Int) ≤ (q : Int) := by omega
      have hq4 : (q : Int) ≤ 64 := by omega
      have hNs : N ≤ 4398046511104 := by
        have h1 := HL.out
        have h2 := HXL.out
        rw [HA.out.all, List.length_append] at h2
        rw [List.length_append] at hN
        omega
      have hmc := HA.out.mc
      have hmin : min m (64 - q) = j := hj
      have HJ := Lib.hid hj
      have HM := Lib.hid hm
      clear hj hmin hcell HX
      have HQ := Lib.hid hq
      clear hq
      go_wp2
      go_still_tail 10, (by kernel_rfl)
      change wpList _ _ _ _ _ wr.drew
      have hblk : wr.drew.heap[R]? = some (.cells (rcells H L N).toArray 145 (0, 0)) := by rw [← hN]; exact HA.out.run.blk
      have hrn := HA.out.run.rn
      have hyl : ys.length = m := HA.out.row.len
      have htl : (ys.take j).length = j := by rw [List.length_take]; omega
      have hbl : (bv (ys.take j)).length = j := by rw [bv_len, htl]
      have hcells : ((rcells H L N).toArray.toList.take (8 + q) ++ (bv (ys.take j) ++ (rcells H L N).toArray.toList.drop (8 + q + (bv (ys.take j)).length))).toArray = (rcells H (splice L q (ys.take j)) N).toArray := by
        congr 1
        exact rcells_splice hrn.h8 (by rw [htl, hrn.l64]; omega)
      refine wpList_copy_own rfl (.tmp 16) (.tmp 17) 25 25 rfl 5 Tryd.underlying25 e8t R (8 + q) (64 - q) (64 - q) ⟨bb, oo, none⟩ m c' rfl rfl (rcells H L N).toArray 145 hblk (bv (ys.take j)) ?c2 ?c3 ?c4 (bv_one _) ?_
      case c2 => rw [hbl]; exact HJ.out.symm
      case c3 =>
        intro i v hv
        have hi : i < (bv (ys.take j)).length := (List.getElem?_eq_some_iff.1 hv).1
        rw [hbl] at hi
        have hadd : (⟨bb, oo, none⟩ : Addr).add i = ⟨bb, oo + i, none⟩ := by unfold Addr.add; split <;> simp_all
        obtain ⟨b', o', e, _, hcc⟩ := HA.out.row.cell_at (show i < m by omega)
        injection e with e
        injection e with e1 e2
        subst e1 e2
        rw [hadd]
        refine hcc.trans ?_
        rw [← hv]
        simp [bv, List.getD, hi, List.getElem?_eq_getElem (show i < ys.length by omega)]
      case c4 =>
        rw [hbl]
        have := rcells_len (c := N) hrn.h8 hrn.l64
        rw [List.size_toArray, this]
        omega
      rw [hcells, hbl]
      have hw1 : ∃ w1, wr.drew.setRow R (rcells H (splice L q (ys.take j)) N).toArray = w1 := ⟨_, rfl⟩
      obtain ⟨w1, hw1⟩ := hw1
      rw [hw1]
      have hblk1 : w1.heap[R]? = some (.cells (rcells H (splice L q (ys.take j)) N).toArray 145 (0, 0)) := by rw [← hw1]; exact setRow_heap _ _ _ _ _ _ hblk
      have honly1 : Only (fun k => k = R) wr w1 := by
        rw [← hw1]
        exact (Only.drew (Only.refl _ wr)).trans (Only.setRow _ _ _) (fun _ _ h => h)
      have HB1 := Lib.hid hblk1
      have HO1 := Lib.hid honly1
      have HYL := Lib.hid hyl
      have HTL := Lib.hid htl
      have HRN := Lib.hid hrn
      have HNN := Lib.hid hN
      have hcount : (rcells H (splice L q (ys.take j)) N).toArray.setIfInBounds 72 (.int .u64 ((N + j : Nat) : Int)) = (rcells H (splice L q (ys.take j)) (N + j)).toArray := rcells_count hrn.h8 (by rw [length_splice _ _ _ (by rw [htl, hrn.l64]; omega)]; exact hrn.l64)
      have kc1 : w1.cell? ⟨R, 72, none⟩ = some (.int .u64 (N : Int)) := by
        refine cell_of_blk hblk1 ?_
        have h2 : (splice L q (ys.take j)).length = 64 := by rw [length_splice _ _ _ (by rw [htl, hrn.l64]; omega)]; exact hrn.l64
        rw [List.getElem?_toArray]
        unfold rcells
        rw [List.getElem?_append_right (by rw [wv_len, hrn.h8]; omega), wv_len, List.getElem?_append_right (by rw [bv_len, hrn.h8]; omega), bv_len, hrn.h8, h2]
        rfl
      have kf1 : w1.frozen? ⟨R, 72, none⟩ = false := free_of_blk hblk1
      have HCO := Lib.hid hcount
      have ha1 : IntKind.u64.wrap ((N : Int) + (j : Int)) = ((N + j : Nat) : Int) := by rw [IntWalk.u64_in _ ⟨by omega, by omega⟩]; omega
      clear hblk hrn hyl htl hbl hcells hw1 hblk1 honly1 hN kc kf hq2 hq5 hcount
      have hjc : (j : Int) ≤ (m : Int) := by omega
      have hj1 : (0 : Int) ≤ (j : Int) := by omega
      have e0 : (N : Int) + (j : Int) = ((N + j : Nat) : Int) := by omega
      have hb2 := set_blk (j := 72) (u := .int .u64 ((N + j : Nat) : Int)) HB1.out
      rw [HCO.out, ← e0] at hb2
      have HB2 := Lib.hid hb2
      have HO2 := Lib.hid (HO1.out.trans (Only.setCell w1 ⟨R, 72, none⟩ (.int .u64 ((N : Int) + (j : Int)))) (fun _ _ h => h))
      clear hb2 e0 HB1 HO1 HCO
      have hbyj : ∀ x ∈ ys.take j, 0 ≤ x ∧ x ≤ 255 := fun x hx => HBY.out x (by rw [HA.out.all]; exact List.mem_append_right _ (List.mem_of_mem_take hx))
      have HBJ := Lib.hid hbyj
      clear hbyj
      by_cases hfull : q + j = 64
      · have hf : (((N : Int) + (j : Int)) % 64 == 0) = true := beq_iff_eq.2 (by have := HQ.out; omega)
        have hrf := Rn.full HRN.out HBJ.out (by rw [HNN.out, HQ.out, HTL.out]; exact hfull)
        rw [HNN.out, HQ.out, List.append_assoc] at hrf
        obtain ⟨H', hH⟩ : ∃ H', adds H (rounds ks (sched 48 (words (splice L q (ys.take j)) 0 16)) H 64) 8 = H' := ⟨_, rfl⟩
        rw [hH] at hrf
        have HH := Lib.hid hH
        have HJM := Lib.hid hjm
        have HMC := Lib.hid hmc
        have HRF := Lib.hid hrf
        have hl64 : (splice L q (ys.take j)).length = 64 := hrf.l64
        have HL64 := Lib.hid hl64
        clear hrf hl64 hfull hH
        have hi37 := info8w HRN.out.h8
        have hi38 := info64b HL64.out
        by_cases hcj : c' = j
        · have hmj : m = j := by omega
          have HMJ := Lib.hid hmj
          clear hmj
          go_wp2_with fail
          generalize w1.setCell ⟨R, 72, none⟩ (.int .u64 ((N : Int) + (j : Int))) = w2 at HB2 HO2 ⊢
          have HT2 : Hid (Tab w2.drew) := HA.out.tab.only HO2.out.drew HR1.out
          have HRL : Hid (R < w2.drew.heap.size) := (Array.getElem?_eq_some_iff.1 HB2.out).1
          have r1 : w2.drew.rangeAt R 0 (wv H) := fun i v hv => by
            rw [Nat.zero_add]
            refine cell_of_blk HB2.out ?_
            rw [List.getElem?_toArray]
            unfold rcells
            rw [List.getElem?_append_left (List.getElem?_eq_some_iff.1 hv).1]
            exact hv
          have r2 : w2.drew.rangeAt R 8 (bv (splice L q (ys.take j))) := fun i v hv => by
            refine cell_of_blk HB2.out ?_
            rw [List.getElem?_toArray]
            unfold rcells
            rw [List.getElem?_append_right (by rw [wv_len, HRN.out.h8]; omega), wv_len, HRN.out.h8, show 8 + i - 8 = i by omega, List.getElem?_append_left (List.getElem?_eq_some_iff.1 hv).1]
            exact hv
          have R1 := Lib.hid r1
          have R2 := Lib.hid r2
          have I37 := Lib.hid hi37
          have I38 := Lib.hid hi38
          clear r1 r2 hi37 hi38
          have KS : Hid (∀ w4, Below w2.drew.heap.size w2.drew w4 → (w4.there R 0 (wv H').toArray.size ∧ (Tryd.prog.info? 143).map (·.size) = some (wv H').toArray.size) ∧ (Run (w4.setCells R 0 (wv H')) R (b0 ++ (zs ++ ys.take j)) H' (splice L q (ys.take j)) ∧ Only (fun k => k = R) wr (w4.setCells R 0 (wv H')))) := fun w4 hb => by
            have h4 : w4.heap[R]? = some (.cells (rcells H (splice L q (ys.take j)) (N + j)).toArray 145 (0, 0)) := (hb.block R HRL.out).trans HB2.out
            have h8 := HRN.out.h8
            have h8' : H'.length = 8 := HRF.out.h8
            have hsz : (wv H').toArray.size = 8 := by rw [List.size_toArray, wv_len, h8']
            have hth : w4.there R 0 8 := fun i hi => by
              have hc := cell_of_row w4 R (0 + i) _ _ _ h4
              refine ⟨?_, free_of_blk h4⟩
              rw [hc, List.getElem?_toArray, List.getElem?_eq_getElem (by rw [rcells_len h8 HL64.out]; omega)]
              rfl
            refine ⟨⟨by rw [hsz]; exact hth, info8w h8'⟩, ⟨?_, HRF.out⟩, ?_⟩
            · have hN2 : (b0 ++ (zs ++ ys.take j)).length = N + j := by rw [← List.append_assoc, List.length_append, HNN.out, HTL.out]
              rw [hN2, setCells_blk R (wv H') 0 _ w4 h4 (by rw [wv_len, h8', rcells_len h8 HL64.out]; omega), rcells_words h8 h8']
            · exact (HO2.out.drew.trans (Only.of_below hb) (fun _ _ h => h)).trans (Only.setCells w4 R 0 (wv H')) (fun _ _ h => h)
          refine wp_region_any (by kernel_rfl) ?_
          change wpAny _ _ _ _ _ _ _ (World.drew _)
          refine wpAny_take (i := 0) (oi := ⟨some 37, .move (.tmp 0), 148, _, #[], none⟩) (v := .pointer (some ⟨R, 0, none⟩)) rfl (by kernel_rfl) (by kernel_rfl) (by kernel_rfl) (fun _ _ _ h => h) (Or.inl ⟨by rfl, fun _ => by go_simp⟩) ?_
          simp only [Act.put, List.setIfInBounds_toArray, List.set_cons_zero, List.set_cons_succ]
          refine wpAny_take (i := 1) (oi := ⟨some 38, .move (.tmp 0), 148, _, #[], none⟩) (v := .pointer (some ⟨R, 0, none⟩)) rfl (by kernel_rfl) (by kernel_rfl) (by kernel_rfl) (fun _ _ _ h => h) (Or.inl ⟨by rfl, fun _ => by go_simp⟩) ?_
          simp only [Act.put, List.setIfInBounds_toArray, List.set_cons_zero, List.set_cons_succ]
          refine wpAny_take (i := 2) (oi := ⟨some 39, .nilCheck (.tmp 38), 0, _, #[⟨1, .data⟩], none⟩) (v := .pointer (some ⟨R, 0, none⟩)) rfl (by kernel_rfl) (by kernel_rfl) (by kernel_rfl) (fun _ _ _ h => h) (Or.inl ⟨by rfl, fun _ => by go_simp⟩) ?_
          simp only [Act.put, List.setIfInBounds_toArray, List.set_cons_zero, List.set_cons_succ]
          refine wpAny_take (i := 3) (oi := ⟨some 40, .fieldAddr 145 (.tmp 39) 0, 0, _, #[⟨2, .data⟩], none⟩) (v := .pointer (some ⟨R, 0, none⟩)) rfl (by kernel_rfl) (by kernel_rfl) (by kernel_rfl) (fun _ _ _ h => h) (Or.inl ⟨by rfl, fun _ => by go_simp⟩) ?_
          simp only [Act.put, List.setIfInBounds_toArray, List.set_cons_zero, List.set_cons_succ]
          refine wpAny_take (i := 5) (oi := ⟨some 42, .move (.tmp 0), 148, _, #[], none⟩) (v := .pointer (some ⟨R, 0, none⟩)) rfl (by kernel_rfl) (by kernel_rfl) (by kernel_rfl) (fun _ _ _ h => h) (Or.inl ⟨by rfl, fun _ => by go_simp⟩) ?_
          simp only [Act.put, List.setIfInBounds_toArray, List.set_cons_zero, List.set_cons_succ]
          refine wpAny_take (i := 6) (oi := ⟨some 43, .nilCheck (.tmp 42), 0, _, #[⟨5, .data⟩], none⟩) (v := .pointer (some ⟨R, 0, none⟩)) rfl (by kernel_rfl) (by kernel_rfl) (by kernel_rfl) (fun _ _ _ h => h) (Or.inl ⟨by rfl, fun _ => by go_simp⟩) ?_
          simp only [Act.put, List.setIfInBounds_toArray, List.set_cons_zero, List.set_cons_succ]
          refine wpAny_take (i := 7) (oi := ⟨some 44, .fieldAddr 145 (.tmp 43) 1, 0, _, #[⟨6, .data⟩], none⟩) (v := .pointer (some ⟨R, 8, none⟩)) rfl (by kernel_rfl) (by kernel_rfl) (by kernel_rfl) (fun _ _ _ h => h) (Or.inl ⟨by rfl, fun _ => by go_simp⟩) ?_
          simp only [Act.put, List.setIfInBounds_toArray, List.set_cons_zero, List.set_cons_succ]
          refine wpAny_ready (rs := [4, 8]) (by kernel_rfl) (by simp) ?_
          refine AllReady.cons (o := ⟨some 41, .load 143 (.tmp 40), 143, _, #[⟨3, .data⟩], none⟩) rfl (fun K hK => ?_) (AllReady.cons (o := ⟨some 45, .load 135 (.tmp 44), 135, _, #[⟨7, .data⟩], none⟩) rfl (fun K hK => ?_) AllReady.nil)
          · rw [if_pos (by rfl)]
            refine wp_load_mid _ _ rfl R 0 rfl (wv H) _ R1.out Tryd.underlying143 rfl I37.out ?_
            refine hK _ _ ?_
            clear hK K
            simp only [Act.put, List.setIfInBounds_toArray, List.set_cons_zero, List.set_cons_succ]
            refine wpAny_ready (rs := [8]) (by kernel_rfl) (by simp) ?_
            refine AllReady.cons (o := ⟨some 45, .load 135 (.tmp 44), 135, _, #[⟨7, .data⟩], none⟩) rfl (fun K hK => ?_) AllReady.nil
            rw [if_pos (by rfl)]
            refine wp_load_mid _ _ rfl R 8 rfl (bv (splice L q (ys.take j))) _ R2.out Tryd.underlying135 rfl I38.out ?_
            refine hK _ _ ?_
            clear hK K
            simp only [Act.put, List.setIfInBounds_toArray, List.set_cons_zero, List.set_cons_succ]
            refine wpAny_ready (rs := [9]) (by kernel_rfl) (by simp) ?_
            refine AllReady.cons (o := ⟨some 46, .call { callee := .value (.func 107), args := #[.tmp 41, .tmp 45], argTypes := #[143, 135] }, 143, _, #[⟨4, .data⟩, ⟨8, .data⟩], none⟩) rfl (fun K hK => ?_) AllReady.nil
            go_simp
            refine (through_any H (splice L q (ys.take j)) HRN.out.h8 HL64.out HRF.out.byt _ HT2.out).mono ?_
            rintro e4 w4 ⟨rfl, hb4⟩
            rw [HH.out]
            have HS4 := Lib.hid (KS.out w4 hb4)
            clear hb4
            refine hK _ _ ?_
            clear hK K
            refine wpAny_take (i := 10) (oi := ⟨some 47, .nilCheck (.tmp 37), 0, _, #[⟨0, .data⟩, ⟨0, .phase⟩, ⟨1, .phase⟩, ⟨2, .phase⟩, ⟨3, .phase⟩, ⟨4, .phase⟩, ⟨5, .phase⟩, ⟨6, .phase⟩, ⟨7, .phase⟩, ⟨8, .phase⟩, ⟨9, .phase⟩], none⟩) (v := .pointer (some ⟨R, 0, none⟩)) rfl (by kernel_rfl) (by kernel_rfl) (by kernel_rfl) (fun _ _ _ h => h) (Or.inl ⟨by rfl, fun _ => by go_simp⟩) ?_
            simp only [Act.put, List.setIfInBounds_toArray, List.set_cons_zero, List.set_cons_succ]
            refine wpAny_take (i := 11) (oi := ⟨some 48, .fieldAddr 145 (.tmp 47) 0, 0, _, #[⟨10, .data⟩, ⟨0, .phase⟩, ⟨1, .phase⟩, ⟨2, .phase⟩, ⟨3, .phase⟩, ⟨4, .phase⟩, ⟨5, .phase⟩, ⟨6, .phase⟩, ⟨7, .phase⟩, ⟨8, .phase⟩, ⟨9, .phase⟩], none⟩) (v := .pointer (some ⟨R, 0, none⟩)) rfl (by kernel_rfl) (by kernel_rfl) (by kernel_rfl) (fun _ _ _ h => h) (Or.inl ⟨by rfl, fun _ => by go_simp⟩) ?_
            simp only [Act.put, List.setIfInBounds_toArray, List.set_cons_zero, List.set_cons_succ]
            refine wpAny_ready (rs := [12]) (by kernel_rfl) (by simp) ?_
            refine AllReady.cons (o := ⟨none, .store 143 (.tmp 48) (.tmp 46), 0, _, #[⟨11, .data⟩, ⟨9, .data⟩, ⟨9, .chain⟩, ⟨0, .phase⟩, ⟨1, .phase⟩, ⟨2, .phase⟩, ⟨3, .phase⟩, ⟨4, .phase⟩, ⟨5, .phase⟩, ⟨6, .phase⟩, ⟨7, .phase⟩, ⟨8, .phase⟩, ⟨9, .phase⟩], none⟩) rfl (fun K hK => ?_) AllReady.nil
            rw [if_pos (by rfl)]
            refine wp_store_mid 143 (.tmp 48) (.tmp 46) rfl R 0 (wv H').toArray rfl rfl HS4.out.1.1 HS4.out.1.2 (wv_one _) ?_
            refine hK _ _ ?_
            clear hK K
            simp only [Act.put]
            refine wpAny_done (by kernel_rfl) ?_ _
            go_wp2
            go_roundw
            case rel => exact ⟨_, _, _, _, _, _, _, rfl, HA.out.next HM.out HJM.out HR1.out HS4.out.2.1 HS4.out.2.2 (.inr HMJ.out) (by have := HMJ.out; omega)⟩
            case measure => simp [lenOf]; omega
          · rw [if_pos (by rfl)]
            refine wp_load_mid _ _ rfl R 8 rfl (bv (splice L q (ys.take j))) _ R2.out Tryd.underlying135 rfl I38.out ?_
            refine hK _ _ ?_
            clear hK K
            simp only [Act.put, List.setIfInBounds_toArray, List.set_cons_zero, List.set_cons_succ]
            refine wpAny_ready (rs := [4]) (by kernel_rfl) (by simp) ?_
            refine AllReady.cons (o := ⟨some 41, .load 143 (.tmp 40), 143, _, #[⟨3, .data⟩], none⟩) rfl (fun K hK => ?_) AllReady.nil
            rw [if_pos (by rfl)]
            refine wp_load_mid _ _ rfl R 0 rfl (wv H) _ R1.out Tryd.underlying143 rfl I37.out ?_
            refine hK _ _ ?_
            clear hK K
            simp only [Act.put, List.setIfInBounds_toArray, List.set_cons_zero, List.set_cons_succ]
            refine wpAny_ready (rs := [9]) (by kernel_rfl) (by simp) ?_
            refine AllReady.cons (o := ⟨some 46, .call { callee := .value (.func 107), args := #[.tmp 41, .tmp 45], argTypes := #[143, 135] }, 143, _, #[⟨4, .data⟩, ⟨8, .data⟩], none⟩) rfl (fun K hK => ?_) AllReady.nil
            go_simp
            refine (through_any H (splice L q (ys.take j)) HRN.out.h8 HL64.out HRF.out.byt _ HT2.out).mono ?_
            rintro e4 w4 ⟨rfl, hb4⟩
            rw [HH.out]
            have HS4 := Lib.hid (KS.out w4 hb4)
            clear hb4
            refine hK _ _ ?_
            clear hK K
            refine wpAny_take (i := 10) (oi := ⟨some 47, .nilCheck (.tmp 37), 0, _, #[⟨0, .data⟩, ⟨0, .phase⟩, ⟨1, .phase⟩, ⟨2, .phase⟩, ⟨3, .phase⟩, ⟨4, .phase⟩, ⟨5, .phase⟩, ⟨6, .phase⟩, ⟨7, .phase⟩, ⟨8, .phase⟩, ⟨9, .phase⟩], none⟩) (v := .pointer (some ⟨R, 0, none⟩)) rfl (by kernel_rfl) (by kernel_rfl) (by kernel_rfl) (fun _ _ _ h => h) (Or.inl ⟨by rfl, fun _ => by go_simp⟩) ?_
            simp only [Act.put, List.setIfInBounds_toArray, List.set_cons_zero, List.set_cons_succ]
            refine wpAny_take (i := 11) (oi := ⟨some 48, .fieldAddr 145 (.tmp 47) 0, 0, _, #[⟨10, .data⟩, ⟨0, .phase⟩, ⟨1, .phase⟩, ⟨2, .phase⟩, ⟨3, .phase⟩, ⟨4, .phase⟩, ⟨5, .phase⟩, ⟨6, .phase⟩, ⟨7, .phase⟩, ⟨8, .phase⟩, ⟨9, .phase⟩], none⟩) (v := .pointer (some ⟨R, 0, none⟩)) rfl (by kernel_rfl) (by kernel_rfl) (by kernel_rfl) (fun _ _ _ h => h) (Or.inl ⟨by rfl, fun _ => by go_simp⟩) ?_
            simp only [Act.put, List.setIfInBounds_toArray, List.set_cons_zero, List.set_cons_succ]
            refine wpAny_ready (rs := [12]) (by kernel_rfl) (by simp) ?_
            refine AllReady.cons (o := ⟨none, .store 143 (.tmp 48) (.tmp 46), 0, _, #[⟨11, .data⟩, ⟨9, .data⟩, ⟨9, .chain⟩, ⟨0, .phase⟩, ⟨1, .phase⟩, ⟨2, .phase⟩, ⟨3, .phase⟩, ⟨4, .phase⟩, ⟨5, .phase⟩, ⟨6, .phase⟩, ⟨7, .phase⟩, ⟨8, .phase⟩, ⟨9, .phase⟩], none⟩) rfl (fun K hK => ?_) AllReady.nil
            rw [if_pos (by rfl)]
            refine wp_store_mid 143 (.tmp 48) (.tmp 46) rfl R 0 (wv H').toArray rfl rfl HS4.out.1.1 HS4.out.1.2 (wv_one _) ?_
            refine hK _ _ ?_
            clear hK K
            simp only [Act.put]
            refine wpAny_done (by kernel_rfl) ?_ _
            go_wp2
            go_roundw
            case rel => exact ⟨_, _, _, _, _, _, _, rfl, HA.out.next HM.out HJM.out HR1.out HS4.out.2.1 HS4.out.2.2 (.inr HMJ.out) (by have := HMJ.out; omega)⟩
            case measure => simp [lenOf]; omega
        · go_wp2_with fail
          generalize w1.setCell ⟨R, 72, none⟩ (.int .u64 ((N : Int) + (j : Int))) = w2 at HB2 HO2 ⊢
          have HT2 : Hid (Tab w2.drew) := HA.out.tab.only HO2.out.drew HR1.out
          have HRL : Hid (R < w2.drew.heap.size) := (Array.getElem?_eq_some_iff.1 HB2.out).1
          have r1 : w2.drew.rangeAt R 0 (wv H) := fun i v hv => by
            rw [Nat.zero_add]
            refine cell_of_blk HB2.out ?_
            rw [List.getElem?_toArray]
            unfold rcells
            rw [List.getElem?_append_left (List.getElem?_eq_some_iff.1 hv).1]
            exact hv
          have r2 : w2.drew.rangeAt R 8 (bv (splice L q (ys.take j))) := fun i v hv => by
            refine cell_of_blk HB2.out ?_
            rw [List.getElem?_toArray]
            unfold rcells
            rw [List.getElem?_append_right (by rw [wv_len, HRN.out.h8]; omega), wv_len, HRN.out.h8, show 8 + i - 8 = i by omega, List.getElem?_append_left (List.getElem?_eq_some_iff.1 hv).1]
            exact hv
          have R1 := Lib.hid r1
          have R2 := Lib.hid r2
          have I37 := Lib.hid hi37
          have I38 := Lib.hid hi38
          clear r1 r2 hi37 hi38
          have KS : Hid (∀ w4, Below w2.drew.heap.size w2.drew w4 → (w4.there R 0 (wv H').toArray.size ∧ (Tryd.prog.info? 143).map (·.size) = some (wv H').toArray.size) ∧ (Run (w4.setCells R 0 (wv H')) R (b0 ++ (zs ++ ys.take j)) H' (splice L q (ys.take j)) ∧ Only (fun k => k = R) wr (w4.setCells R 0 (wv H')))) := fun w4 hb => by
            have h4 : w4.heap[R]? = some (.cells (rcells H (splice L q (ys.take j)) (N + j)).toArray 145 (0, 0)) := (hb.block R HRL.out).trans HB2.out
            have h8 := HRN.out.h8
            have h8' : H'.length = 8 := HRF.out.h8
            have hsz : (wv H').toArray.size = 8 := by rw [List.size_toArray, wv_len, h8']
            have hth : w4.there R 0 8 := fun i hi => by
              have hc := cell_of_row w4 R (0 + i) _ _ _ h4
              refine ⟨?_, free_of_blk h4⟩
              rw [hc, List.getElem?_toArray, List.getElem?_eq_getElem (by rw [rcells_len h8 HL64.out]; omega)]
              rfl
            refine ⟨⟨by rw [hsz]; exact hth, info8w h8'⟩, ⟨?_, HRF.out⟩, ?_⟩
            · have hN2 : (b0 ++ (zs ++ ys.take j)).length = N + j := by rw [← List.append_assoc, List.length_append, HNN.out, HTL.out]
              rw [hN2, setCells_blk R (wv H') 0 _ w4 h4 (by rw [wv_len, h8', rcells_len h8 HL64.out]; omega), rcells_words h8 h8']
            · exact (HO2.out.drew.trans (Only.of_below hb) (fun _ _ h => h)).trans (Only.setCells w4 R 0 (wv H')) (fun _ _ h => h)
          refine wp_region_any (by kernel_rfl) ?_
          change wpAny _ _ _ _ _ _ _ (World.drew _)
          refine wpAny_take (i := 0) (oi := ⟨some 37, .move (.tmp 0), 148, _, #[], none⟩) (v := .pointer (some ⟨R, 0, none⟩)) rfl (by kernel_rfl) (by kernel_rfl) (by kernel_rfl) (fun _ _ _ h => h) (Or.inl ⟨by rfl, fun _ => by go_simp⟩) ?_
          simp only [Act.put, List.setIfInBounds_toArray, List.set_cons_zero, List.set_cons_succ]
          refine wpAny_take (i := 1) (oi := ⟨some 38, .move (.tmp 0), 148, _, #[], none⟩) (v := .pointer (some ⟨R, 0, none⟩)) rfl (by kernel_rfl) (by kernel_rfl) (by kernel_rfl) (fun _ _ _ h => h) (Or.inl ⟨by rfl, fun _ => by go_simp⟩) ?_
          simp only [Act.put, List.setIfInBounds_toArray, List.set_cons_zero, List.set_cons_succ]
          refine wpAny_take (i := 2) (oi := ⟨some 39, .nilCheck (.tmp 38), 0, _, #[⟨1, .data⟩], none⟩) (v := .pointer (some ⟨R, 0, none⟩)) rfl (by kernel_rfl) (by kernel_rfl) (by kernel_rfl) (fun _ _ _ h => h) (Or.inl ⟨by rfl, fun _ => by go_simp⟩) ?_
          simp only [Act.put, List.setIfInBounds_toArray, List.set_cons_zero, List.set_cons_succ]
          refine wpAny_take (i := 3) (oi := ⟨some 40, .fieldAddr 145 (.tmp 39) 0, 0, _, #[⟨2, .data⟩], none⟩) (v := .pointer (some ⟨R, 0, none⟩)) rfl (by kernel_rfl) (by kernel_rfl) (by kernel_rfl) (fun _ _ _ h => h) (Or.inl ⟨by rfl, fun _ => by go_simp⟩) ?_
          simp only [Act.put, List.setIfInBounds_toArray, List.set_cons_zero, List.set_cons_succ]
          refine wpAny_take (i := 5) (oi := ⟨some 42, .move (.tmp 0), 148, _, #[], none⟩) (v := .pointer (some ⟨R, 0, none⟩)) rfl (by kernel_rfl) (by kernel_rfl) (by kernel_rfl) (fun _ _ _ h => h) (Or.inl ⟨by rfl, fun _ => by go_simp⟩) ?_
          simp only [Act.put, List.setIfInBounds_toArray, List.set_cons_zero, List.set_cons_succ]
          refine wpAny_take (i := 6) (oi := ⟨some 43, .nilCheck (.tmp 42), 0, _, #[⟨5, .data⟩], none⟩) (v := .pointer (some ⟨R, 0, none⟩)) rfl (by kernel_rfl) (by kernel_rfl) (by kernel_rfl) (fun _ _ _ h => h) (Or.inl ⟨by rfl, fun _ => by go_simp⟩) ?_
          simp only [Act.put, List.setIfInBounds_toArray, List.set_cons_zero, List.set_cons_succ]
          refine wpAny_take (i := 7) (oi := ⟨some 44, .fieldAddr 145 (.tmp 43) 1, 0, _, #[⟨6, .data⟩], none⟩) (v := .pointer (some ⟨R, 8, none⟩)) rfl (by kernel_rfl) (by kernel_rfl) (by kernel_rfl) (fun _ _ _ h => h) (Or.inl ⟨by rfl, fun _ => by go_simp⟩) ?_
          simp only [Act.put, List.setIfInBounds_toArray, List.set_cons_zero, List.set_cons_succ]
          refine wpAny_ready (rs := [4, 8]) (by kernel_rfl) (by simp) ?_
          refine AllReady.cons (o := ⟨some 41, .load 143 (.tmp 40), 143, _, #[⟨3, .data⟩], none⟩) rfl (fun K hK => ?_) (AllReady.cons (o := ⟨some 45, .load 135 (.tmp 44), 135, _, #[⟨7, .data⟩], none⟩) rfl (fun K hK => ?_) AllReady.nil)
          · rw [if_pos (by rfl)]
            refine wp_load_mid _ _ rfl R 0 rfl (wv H) _ R1.out Tryd.underlying143 rfl I37.out ?_
            refine hK _ _ ?_
            clear hK K
            simp only [Act.put, List.setIfInBounds_toArray, List.set_cons_zero, List.set_cons_succ]
            refine wpAny_ready (rs := [8]) (by kernel_rfl) (by simp) ?_
            refine AllReady.cons (o := ⟨some 45, .load 135 (.tmp 44), 135, _, #[⟨7, .data⟩], none⟩) rfl (fun K hK => ?_) AllReady.nil
            rw [if_pos (by rfl)]
            refine wp_load_mid _ _ rfl R 8 rfl (bv (splice L q (ys.take j))) _ R2.out Tryd.underlying135 rfl I38.out ?_
            refine hK _ _ ?_
            clear hK K
            simp only [Act.put, List.setIfInBounds_toArray, List.set_cons_zero, List.set_cons_succ]
            refine wpAny_ready (rs := [9]) (by kernel_rfl) (by simp) ?_
            refine AllReady.cons (o := ⟨some 46, .call { callee := .value (.func 107), args := #[.tmp 41, .tmp 45], argTypes := #[143, 135] }, 143, _, #[⟨4, .data⟩, ⟨8, .data⟩], none⟩) rfl (fun K hK => ?_) AllReady.nil
            go_simp
            refine (through_any H (splice L q (ys.take j)) HRN.out.h8 HL64.out HRF.out.byt _ HT2.out).mono ?_
            rintro e4 w4 ⟨rfl, hb4⟩
            rw [HH.out]
            have HS4 := Lib.hid (KS.out w4 hb4)
            clear hb4
            refine hK _ _ ?_
            clear hK K
            refine wpAny_take (i := 10) (oi := ⟨some 47, .nilCheck (.tmp 37), 0, _, #[⟨0, .data⟩, ⟨0, .phase⟩, ⟨1, .phase⟩, ⟨2, .phase⟩, ⟨3, .phase⟩, ⟨4, .phase⟩, ⟨5, .phase⟩, ⟨6, .phase⟩, ⟨7, .phase⟩, ⟨8, .phase⟩, ⟨9, .phase⟩], none⟩) (v := .pointer (some ⟨R, 0, none⟩)) rfl (by kernel_rfl) (by kernel_rfl) (by kernel_rfl) (fun _ _ _ h => h) (Or.inl ⟨by rfl, fun _ => by go_simp⟩) ?_
            simp only [Act.put, List.setIfInBounds_toArray, List.set_cons_zero, List.set_cons_succ]
            refine wpAny_take (i := 11) (oi := ⟨some 48, .fieldAddr 145 (.tmp 47) 0, 0, _, #[⟨10, .data⟩, ⟨0, .phase⟩, ⟨1, .phase⟩, ⟨2, .phase⟩, ⟨3, .phase⟩, ⟨4, .phase⟩, ⟨5, .phase⟩, ⟨6, .phase⟩, ⟨7, .phase⟩, ⟨8, .phase⟩, ⟨9, .phase⟩], none⟩) (v := .pointer (some ⟨R, 0, none⟩)) rfl (by kernel_rfl) (by kernel_rfl) (by kernel_rfl) (fun _ _ _ h => h) (Or.inl ⟨by rfl, fun _ => by go_simp⟩) ?_
            simp only [Act.put, List.setIfInBounds_toArray, List.set_cons_zero, List.set_cons_succ]
            refine wpAny_ready (rs := [12]) (by kernel_rfl) (by simp) ?_
            refine AllReady.cons (o := ⟨none, .store 143 (.tmp 48) (.tmp 46), 0, _, #[⟨11, .data⟩, ⟨9, .data⟩, ⟨9, .chain⟩, ⟨0, .phase⟩, ⟨1, .phase⟩, ⟨2, .phase⟩, ⟨3, .phase⟩, ⟨4, .phase⟩, ⟨5, .phase⟩, ⟨6, .phase⟩, ⟨7, .phase⟩, ⟨8, .phase⟩, ⟨9, .phase⟩], none⟩) rfl (fun K hK => ?_) AllReady.nil
            rw [if_pos (by rfl)]
            refine wp_store_mid 143 (.tmp 48) (.tmp 46) rfl R 0 (wv H').toArray rfl rfl HS4.out.1.1 HS4.out.1.2 (wv_one _) ?_
            refine hK _ _ ?_
            clear hK K
            simp only [Act.put]
            refine wpAny_done (by kernel_rfl) ?_ _
            go_wp2
            go_roundw
            case rel => exact ⟨_, _, _, _, _, _, _, rfl, HA.out.next HM.out HJM.out HR1.out HS4.out.2.1 HS4.out.2.2 (.inl rfl) (by have := HMC.out; omega)⟩
            case measure => simp [lenOf]; omega
          · rw [if_pos (by rfl)]
            refine wp_load_mid _ _ rfl R 8 rfl (bv (splice L q (ys.take j))) _ R2.out Tryd.underlying135 rfl I38.out ?_
            refine hK _ _ ?_
            clear hK K
            simp only [Act.put, List.setIfInBounds_toArray, List.set_cons_zero, List.set_cons_succ]
            refine wpAny_ready (rs := [4]) (by kernel_rfl) (by simp) ?_
            refine AllReady.cons (o := ⟨some 41, .load 143 (.tmp 40), 143, _, #[⟨3, .data⟩], none⟩) rfl (fun K hK => ?_) AllReady.nil
            rw [if_pos (by rfl)]
            refine wp_load_mid _ _ rfl R 0 rfl (wv H) _ R1.out Tryd.underlying143 rfl I37.out ?_
            refine hK _ _ ?_
            clear hK K
            simp only [Act.put, List.setIfInBounds_toArray, List.set_cons_zero, List.set_cons_succ]
            refine wpAny_ready (rs := [9]) (by kernel_rfl) (by simp) ?_
            refine AllReady.cons (o := ⟨some 46, .call { callee := .value (.func 107), args := #[.tmp 41, .tmp 45], argTypes := #[143, 135] }, 143, _, #[⟨4, .data⟩, ⟨8, .data⟩], none⟩) rfl (fun K hK => ?_) AllReady.nil
            go_simp
            refine (through_any H (splice L q (ys.take j)) HRN.out.h8 HL64.out HRF.out.byt _ HT2.out).mono ?_
            rintro e4 w4 ⟨rfl, hb4⟩
            rw [HH.out]
            have HS4 := Lib.hid (KS.out w4 hb4)
            clear hb4
            refine hK _ _ ?_
            clear hK K
            refine wpAny_take (i := 10) (oi := ⟨some 47, .nilCheck (.tmp 37), 0, _, #[⟨0, .data⟩, ⟨0, .phase⟩, ⟨1, .phase⟩, ⟨2, .phase⟩, ⟨3, .phase⟩, ⟨4, .phase⟩, ⟨5, .phase⟩, ⟨6, .phase⟩, ⟨7, .phase⟩, ⟨8, .phase⟩, ⟨9, .phase⟩], none⟩) (v := .pointer (some ⟨R, 0, none⟩)) rfl (by kernel_rfl) (by kernel_rfl) (by kernel_rfl) (fun _ _ _ h => h) (Or.inl ⟨by rfl, fun _ => by go_simp⟩) ?_
            simp only [Act.put, List.setIfInBounds_toArray, List.set_cons_zero, List.set_cons_succ]
            refine wpAny_take (i := 11) (oi := ⟨some 48, .fieldAddr 145 (.tmp 47) 0, 0, _, #[⟨10, .data⟩, ⟨0, .phase⟩, ⟨1, .phase⟩, ⟨2, .phase⟩, ⟨3, .phase⟩, ⟨4, .phase⟩, ⟨5, .phase⟩, ⟨6, .phase⟩, ⟨7, .phase⟩, ⟨8, .phase⟩, ⟨9, .phase⟩], none⟩) (v := .pointer (some ⟨R, 0, none⟩)) rfl (by kernel_rfl) (by kernel_rfl) (by kernel_rfl) (fun _ _ _ h => h) (Or.inl ⟨by rfl, fun _ => by go_simp⟩) ?_
            simp only [Act.put, List.setIfInBounds_toArray, List.set_cons_zero, List.set_cons_succ]
            refine wpAny_ready (rs := [12]) (by kernel_rfl) (by simp) ?_
            refine AllReady.cons (o := ⟨none, .store 143 (.tmp 48) (.tmp 46), 0, _, #[⟨11, .data⟩, ⟨9, .data⟩, ⟨9, .chain⟩, ⟨0, .phase⟩, ⟨1, .phase⟩, ⟨2, .phase⟩, ⟨3, .phase⟩, ⟨4, .phase⟩, ⟨5, .phase⟩, ⟨6, .phase⟩, ⟨7, .phase⟩, ⟨8, .phase⟩, ⟨9, .phase⟩], none⟩) rfl (fun K hK => ?_) AllReady.nil
            rw [if_pos (by rfl)]
            refine wp_store_mid 143 (.tmp 48) (.tmp 46) rfl R 0 (wv H').toArray rfl rfl HS4.out.1.1 HS4.out.1.2 (wv_one _) ?_
            refine hK _ _ ?_
            clear hK K
            simp only [Act.put]
            refine wpAny_done (by kernel_rfl) ?_ _
            go_wp2
            go_roundw
            case rel => exact ⟨_, _, _, _, _, _, _, rfl, HA.out.next HM.out HJM.out HR1.out HS4.out.2.1 HS4.out.2.2 (.inl rfl) (by have := HMC.out; omega)⟩
            case measure => simp [lenOf]; omega
      · have hf : (((N : Int) + (j : Int)) % 64 == 0) = false := beq_eq_false_iff_ne.2 (by have := HQ.out; omega)
        have hrs := Rn.some HRN.out HBJ.out (by rw [HNN.out, HQ.out, HTL.out]; omega)
        rw [HNN.out, HQ.out, List.append_assoc] at hrs
        have hN2 : (b0 ++ (zs ++ ys.take j)).length = N + j := by rw [← List.append_assoc, List.length_append, HNN.out, HTL.out]
        have HR2 : Hid (Run (w1.setCell ⟨R, 72, none⟩ (.int .u64 ((N : Int) + (j : Int)))) R (b0 ++ (zs ++ ys.take j)) H (splice L q (ys.take j))) := ⟨by rw [hN2]; exact HB2.out, hrs⟩
        have HJM := Lib.hid hjm
        have HMC := Lib.hid hmc
        clear hrs hN2 hfull
        by_cases hcj : c' = j
        · have hmj : m = j := by omega
          have HMJ := Lib.hid hmj
          clear hmj
          go_wp2
          go_roundw
          case rel => exact ⟨_, _, _, _, _, _, _, rfl, HA.out.next HM.out HJM.out HR1.out HR2.out HO2.out (.inr HMJ.out) (by have := HMJ.out; omega)⟩
          case measure => simp [lenOf]; omega
        · go_wp2
          go_roundw
          case rel => exact ⟨_, _, _, _, _, _, _, rfl, HA.out.next HM.out HJM.out HR1.out HR2.out HO2.out (.inl rfl) (by have := HMC.out; omega)⟩
          case measure => simp [lenOf]; omega
    · have hm0 : m = 0 := by omega
      have hys : ys = [] := List.eq_nil_of_length_eq_zero (by rw [HA.out.row.len]; exact hm0)
      have HF : Hid (Run wr R (b0 ++ xs) H L) := by
        have := HA.out.run
        rw [HA.out.all, hys, List.append_nil]
        exact this
      have HO := Lib.hid HA.out.only
      clear hys HA HX
      subst hm0
      go_wp2
      go_end0
      exact ⟨rfl, H, L, HF.out, HO.out⟩
end Go.Proofs.YtppbpmmfcoblmaaDoor.Sha

/- Layer 8 (hmac): the program's padded and combined, as contracts. -/
import Derived.Test.YtclidocmfdimiaaDoorHmcM
import Derived.Test.YtclidocmfdimiaaDoorShaC
import Derived.Test.YtclidocmfdimiaaDoorShaG
import Derived.Test.YtclidocmfdimiaaDoorCell
import Derived.Laws.CopyOwn
namespace Go.Proofs.YtclidocmfdimiaaDoor.Hmc
open Go.RowKit Sha

/-- A key, filled up to 64 bytes. -/
def fil (k : List Int) : List Int := k ++ List.replicate (64 - k.length) 0
theorem fil_len {k : List Int} (h : k.length ≤ 64) : (fil k).length = 64 := by simp [fil]; omega
theorem pre_take (k : List Int) (m : Int) : ∀ n, n ≤ k.length → pre k m n = (k.take n).map (fun x => xr x m)
  | 0, _ => rfl
  | n + 1, h => by
    rw [pre, pre_take k m n (by omega), List.take_succ_eq_append_getElem (by omega), List.map_append]
    congr 1
    simp [List.getD, show n < k.length by omega]
theorem blk_fil (k : List Int) (m : Int) : blk k m = (fil (ky k)).map (fun x => xr x m) := by
  have h1 := ky_len k
  have h2 := fil_len h1
  unfold blk
  rw [← pre_noughts (ky k) m (64 - (ky k).length) 64]
  show pre (fil (ky k)) m 64 = _
  rw [pre_take _ _ _ (by omega), List.take_of_length_le (by omega)]
theorem fil_byt {k : List Int} (hk : ∀ x ∈ k, 0 ≤ x ∧ x ≤ 255) : ∀ x ∈ fil k, 0 ≤ x ∧ x ≤ 255 := by
  intro x hx
  rw [fil, List.mem_append] at hx
  rcases hx with hx | hx
  · exact hk x hx
  · rw [(List.mem_replicate.1 hx).2]
    omega

theorem zero64 (w : World) : (zeroValue 33).run Tryd.prog w = .ok (.agg (bv (List.replicate 64 0)).toArray) w := by kernel_rfl
theorem info64b : (Tryd.prog.info? 33).map (·.size) = some 64 := by kernel_rfl
theorem info8s : (Tryd.prog.info? 5).map (·.size) = some 1 := by kernel_rfl
theorem fil_splice {k : List Int} (_ : k.length ≤ 64) : splice (bv (List.replicate 64 0)) 0 (bv k) = bv (fil k) := by
  unfold splice fil bv
  rw [List.take_zero, List.nil_append, List.map_append, ← List.map_drop, List.drop_replicate]
  simp
theorem bv_len (l : List Int) : (bv l).length = l.length := by simp [bv]
theorem bv_one (l : List Int) : ∀ v ∈ bv l, v.oneCell' = true := fun v hv => by
  unfold bv at hv
  obtain ⟨x, _, rfl⟩ := List.mem_map.1 hv
  rfl

/-- What a copy of a row needs to know of it. -/
theorem row_cells {w : World} {B n : Nat} {A : Option Addr} {k : List Int} (h : Row .u8 w B A n k) (hn : 0 < k.length) : ∃ ad, A = some ad ∧ ∀ (j : Nat) v, (bv k)[j]? = some v → w.cell? (ad.add j) = some v := by
  have hl := h.len
  obtain ⟨b, o, he, _, hc⟩ := h.2 (by omega)
  refine ⟨_, he, fun j v hj => ?_⟩
  have hjl : j < k.length := by
    have := (List.getElem?_eq_some_iff.1 hj).1
    simpa [bv] using this
  have hadd : (⟨b, o, none⟩ : Addr).add j = ⟨b, o + j, none⟩ := by unfold Addr.add; split <;> simp_all
  rw [hadd, hc j (by omega), ← hj]
  simp [bv, List.getD, hjl]

set_option maxHeartbeats 800000 in
set_option maxRecDepth 100000 in
theorem padded_any (A : Option Addr) (n c B : Nat) (k : List Int) (w : World) (h : Row .u8 w B A n k) (hB : B ≤ w.heap.size) (hc : n ≤ c) (hk : ∀ x ∈ k, 0 ≤ x ∧ x ≤ 255) (hn : n ≤ 1000000) (hT : Lay w) :
    Calls Tryd.prog 13 #[.slice A n c] w fun e w' => e = .returned (.agg (bv (fil (ky k))).toArray) ∧ Below w.heap.size w w' := by
  have H := Lib.hid h
  have HK := Lib.hid hk
  have HB := Lib.hid hB
  have HNC := Lib.hid hc
  have HT := Lib.hid hT
  have hz := zero64
  obtain ⟨Z, hZ⟩ : ∃ Z, bv (List.replicate 64 0) = Z := ⟨_, rfl⟩
  rw [hZ] at hz
  have HZ := Lib.hid hZ
  have HZL : Hid (Z.length = 64) := by unfold Hid; rw [← hZ]; rfl
  obtain ⟨K, hK⟩ : ∃ K, K = ky k := ⟨_, rfl⟩
  have HKL : Hid (K.length ≤ 64) := by unfold Hid; rw [hK]; exact ky_len k
  obtain ⟨C, hC⟩ : ∃ C, C = bv K := ⟨_, rfl⟩
  obtain ⟨F, hF⟩ : ∃ F, F = bv (fil K) := ⟨_, rfl⟩
  have HFL : Hid (F.length = 64) := by unfold Hid; rw [hF, bv_len]; exact fil_len HKL.out
  have HSP : Hid (splice Z 0 C = F) := by unfold Hid; rw [← hZ, hC, hF]; exact fil_splice HKL.out
  have HF1 : Hid (F.toArray.all (·.oneCell') = true) := by unfold Hid; rw [hF]; exact all_oneCell_toArray (bv_one _)
  have HSZ : Hid (Z.toArray.size = F.toArray.size) := by unfold Hid; rw [List.size_toArray, List.size_toArray, HFL.out, HZL.out]
  have HC1 : Hid (∀ v ∈ C, v.oneCell' = true) := by unfold Hid; rw [hC]; exact bv_one _
  have HCL : Hid (C.length = K.length) := by unfold Hid; rw [hC]; exact bv_len _
  have HI : Hid ((Tryd.prog.info? 33).map (·.size) = some F.toArray.size) := by unfold Hid; rw [List.size_toArray, HFL.out]; exact info64b
  have HI2 : Hid ((Tryd.prog.info? 33).map (·.size) = some F.length) := by unfold Hid; rw [HFL.out]; exact info64b
  rw [show (Value.agg (bv (fil (ky k))).toArray) = .agg F.toArray by rw [hF, hK]]
  have HKK := Lib.hid hK
  have HBV := Lib.hid hC
  have hb0 : Below w.heap.size w (w.alloc (.cells Z.toArray 33)) := (Below.refl _ _).alloc (Nat.le_refl _) _
  have HB0 := Lib.hid hb0
  have H1 := Lib.hid (H.out.below (hb0.mono HB.out))
  have HT1 := Lib.hid (HT.out.below hb0 HT.out.tab.1)
  have hs1 : w.heap.size ≤ (w.alloc (.cells Z.toArray 33)).heap.size := hb0.size
  have HS1 := Lib.hid hs1
  have hblk : (w.alloc (.cells Z.toArray 33)).heap[w.heap.size]? = some (.cells Z.toArray 33 (0, 0)) := heap_alloc_new _ _
  have HBLK := Lib.hid hblk
  clear h hB hc hk hT hZ hK hC hF hb0 hs1 hblk
  by_cases hb : 64 < n
  · have hd : decide ((64 : Int) < (n : Int)) = true := by simp; omega
    have hky : Hid (K = sum256 k) := by
      unfold Hid
      rw [HKK.out]
      unfold ky
      rw [if_pos (by have := H.out.len; omega)]
    go_enter Tryd.func13, Tryd.ntmps13
    go_wp2_with fail
    refine (sum_any A n c B k _ H1.out (Nat.le_trans HB.out HS1.out) HNC.out HK.out (by omega) HT1.out).mono ?_
    rintro e2 w2 ⟨v2, rfl, hown2, hb2⟩
    rw [show outs (blocks ks hs (pad k) ((pad k).length / 64)) 8 = sum256 k from rfl, ← hky.out] at hown2
    obtain ⟨A2, c2, rfl, -, -⟩ := own_slice hown2
    have HR2 : Hid (Row .u8 w2 w2.heap.size A2 32 K) := Row.of_own hown2
    have HG2 : Hid (w2.heap[w.heap.size]? = some (.cells Z.toArray 33 (0, 0))) := (hb2.block w.heap.size (by simp)).trans HBLK.out
    have HBE2 : Hid (Below w.heap.size w w2) := HB0.out.trans (hb2.mono HS1.out)
    have HL2 : Hid (w.heap.size < w2.heap.size) := by have := hb2.size; unfold Hid; simp at this; omega
    have HCN : Hid (C.length = Nat.min 32 64) := by unfold Hid; rw [HCL.out, HR2.out.len]; decide
    clear hown2 hb2
    go_wp2_with (first
      | ((with_reducible show wpList _ _ _ _ _ _); refine wpList_copy_splice rfl (.tmp 9) (.tmp 10) 22 22 rfl 5 Tryd.underlying22 info8s _ _ 64 64 32 c2 rfl rfl w2.heap.size 0 Z 33 (heap_alloc_new w2 _) C HCN.out (fun h0 => ⟨rfl, by rw [HCL.out] at h0; rw [HBV.out]; exact row_cells (HR2.out.below ((Below.refl _ _).alloc (Nat.le_refl _) _)) h0⟩) (by rw [HCL.out, HZL.out]; have := HKL.out; omega) HC1.out w2.heap.size w2 ((Below.refl _ _).alloc (Nat.le_refl _) _) (Nat.le_refl _) ?_; intro w3 hG3 hb3; rw [HSP.out] at hG3; have HG3 := Lib.hid hG3.out; have HR3 : Hid (w3.heap[w.heap.size]? = some (.cells Z.toArray 33 (0, 0))) := (hb3.block w.heap.size HL2.out).trans HG2.out; have HB3 := Lib.hid (HBE2.out.trans (hb3.mono HBE2.out.size)); clear hG3 hb3)
      | (with_reducible refine wpList_load_row rfl 33 (.tmp 3) rfl w2.heap.size rfl 33 F.toArray (0, 0) _ HG3.out Tryd.underlying33 rfl HI.out ?_)
      | (with_reducible refine wpList_store_row rfl 33 (.tmp 2) (.tmp 12) rfl w.heap.size F.toArray rfl rfl 33 _ HR3.out HI.out HSZ.out HF1.out ?_))

    refine bodyPost_ret (results_cell_row (g := w.heap.size) rfl _ _ _ _ _ _ rfl (setRow_heap _ _ _ _ _ _ HR3.out) Tryd.underlying33 rfl HI.out) rfl ⟨rfl, ?_⟩
    exact Sha.below_setRow HB3.out (Nat.le_refl _) _
  · have hd : decide ((64 : Int) < (n : Int)) = false := by simp; omega
    have hky : Hid (K = k) := by
      unfold Hid
      rw [HKK.out]
      unfold ky
      rw [if_neg (by have := H.out.len; omega)]
    have hb2 : Below w.heap.size w ((w.alloc (.cells Z.toArray 33)).alloc (.cells Z.toArray 33)) := HB0.out.alloc HS1.out _
    have HBE2 := Lib.hid hb2
    have HG2 : Hid (((w.alloc (.cells Z.toArray 33)).alloc (.cells Z.toArray 33)).heap[w.heap.size]? = some (.cells Z.toArray 33 (0, 0))) := heap_alloc2_old w _ _
    have HN2 : Hid (((w.alloc (.cells Z.toArray 33)).alloc (.cells Z.toArray 33)).heap[w.heap.size + 1]? = some (.cells Z.toArray 33 (0, 0))) := heap_alloc2_new w _ _
    have HR2 : Hid (Row .u8 ((w.alloc (.cells Z.toArray 33)).alloc (.cells Z.toArray 33)) B A n K) := by unfold Hid; rw [hky.out]; exact H.out.below (hb2.mono HB.out)
    have HCN : Hid (C.length = Nat.min n 64) := by unfold Hid; rw [HCL.out, HR2.out.len]; exact (Nat.min_eq_left (by omega)).symm
    clear hb2
    go_enter Tryd.func13, Tryd.ntmps13
    go_wp2_with (first
      | ((with_reducible show wpList _ _ _ _ _ _); refine wpList_copy_splice rfl (.tmp 9) (.tmp 10) 22 22 rfl 5 Tryd.underlying22 info8s _ _ 64 64 n c rfl rfl (w.heap.size + 1) 0 Z 33 HN2.out C HCN.out (fun h0 => ⟨rfl, by rw [HCL.out] at h0; rw [HBV.out]; exact row_cells HR2.out h0⟩) (by rw [HCL.out, HZL.out]; have := HKL.out; omega) HC1.out (w.heap.size + 1) _ (Below.refl _ _) (Nat.le_refl _) ?_; intro w3 hG3 hb3; rw [HSP.out] at hG3; have HG3 := Lib.hid hG3.out; have HR3 : Hid (w3.heap[w.heap.size]? = some (.cells Z.toArray 33 (0, 0))) := (hb3.block w.heap.size (by omega)).trans HG2.out; have HB3 := Lib.hid (HBE2.out.trans (hb3.mono (by omega))); clear hG3 hb3)
      | (with_reducible refine wpList_load_row rfl 33 (.tmp 3) rfl (w.heap.size + 1) rfl 33 F.toArray (0, 0) _ HG3.out Tryd.underlying33 rfl HI.out ?_)
      | (with_reducible refine wpList_store_row rfl 33 (.tmp 2) (.tmp 12) rfl w.heap.size F.toArray rfl rfl 33 _ HR3.out HI.out HSZ.out HF1.out ?_))
    refine bodyPost_ret (results_cell_row (g := w.heap.size) rfl _ _ _ _ _ _ rfl (setRow_heap _ _ _ _ _ _ HR3.out) Tryd.underlying33 rfl HI.out) rfl ⟨rfl, ?_⟩
    exact Sha.below_setRow HB3.out (Nat.le_refl _) _

/-- A key of which the first t bytes are combined with m. -/
def mix (k : List Int) (m : Int) (t : Nat) : List Int := (k.take t).map (fun x => xr x m) ++ k.drop t
theorem mix_len (k : List Int) (m : Int) (t : Nat) : (mix k m t).length = k.length := by simp [mix]; omega
theorem mix_at {k : List Int} {m : Int} {t : Nat} (h : t < k.length) : (bv (mix k m t))[t]? = some (.int .u8 (k.getD t 0)) := by
  unfold mix bv
  rw [List.map_append, List.getElem?_append_right (by simp; omega)]
  simp [List.getD, h, show min t k.length = t by omega]
theorem mix_next {k : List Int} {m : Int} {t : Nat} (h : t < k.length) : ((bv (mix k m t)).toArray).setIfInBounds t (.int .u8 (xr (k.getD t 0) m)) = (bv (mix k m (t + 1))).toArray := by
  have h1 : (bv ((k.take t).map (fun x => xr x m))).length = t := by simp [bv]; omega
  have e1 : bv (mix k m t) = bv ((k.take t).map (fun x => xr x m)) ++ .int .u8 k[t] :: bv (k.drop (t + 1)) := by
    unfold mix bv
    rw [List.drop_eq_getElem_cons h, List.map_append, List.map_cons]
  have e2 : bv (mix k m (t + 1)) = bv ((k.take t).map (fun x => xr x m)) ++ .int .u8 (xr k[t] m) :: bv (k.drop (t + 1)) := by
    unfold mix bv
    rw [List.take_succ_eq_append_getElem h]
    simp only [List.map_append, List.map_cons, List.map_nil, List.append_assoc, List.cons_append, List.nil_append]
  rw [List.setIfInBounds_toArray, e1, e2, List.set_append_right _ _ (by omega), h1, Nat.sub_self, List.set_cons_zero]
  simp only [List.getD, List.getElem?_eq_getElem h, Option.getD_some]
theorem mix_all {k : List Int} {m : Int} (h : k.length = 64) : mix k m 64 = k.map (fun x => xr x m) := by
  unfold mix
  rw [List.take_of_length_le (by omega), List.drop_of_length_le (by omega), List.append_nil]
/-- While a key is combined. -/
structure Cm (w : World) (k : List Int) (m : Int) (t : Nat) (w' : World) : Prop where
  blk : w'.heap[w.heap.size]? = some (.cells (bv (mix k m t)).toArray 33 (0, 0))
  bel : Below w.heap.size w w'

set_option maxHeartbeats 800000 in
set_option maxRecDepth 100000 in
theorem combined_any (k : List Int) (m : Int) (w : World) (hl : k.length = 64) (hk : ∀ x ∈ k, 0 ≤ x ∧ x ≤ 255) (hm : 0 ≤ m ∧ m ≤ 255) :
    Calls Tryd.prog 15 #[.agg (bv k).toArray, .int .u8 m] w fun e w' => e = .returned (.slice (some ⟨w.heap.size, 0, none⟩) 64 64) ∧ Row .u8 w' w'.heap.size (some ⟨w.heap.size, 0, none⟩) 64 (k.map (fun x => xr x m)) ∧ Below w.heap.size w w' := by
  have HL := Lib.hid hl
  have HK := Lib.hid hk
  have HM := Lib.hid hm
  have H0 : Hid (Cm w k m 0 (w.alloc (.cells (bv k).toArray 33))) := ⟨by rw [show mix k m 0 = k by simp [mix]]; exact heap_alloc_new _ _, (Below.refl _ _).alloc (Nat.le_refl _) _⟩
  clear hl hk hm
  go_enter Tryd.func15, Tryd.ntmps15
  go_wp2_with fail
  go_loopw [5, 6] (fun _ i wr => ∃ t : Nat, t ≤ 64 ∧ i = .int .i64 (t : Int) ∧ Hid (Cm w k m t wr)) (fun _ i _ => 64 - (intOf i).toNat)
  case atStart => exact ⟨0, Nat.zero_le _, rfl, H0⟩
  case round =>
    obtain ⟨t, ht, rfl, HC⟩ := hrel
    by_cases hlt : t < 64
    · have hkl : t < k.length := by have := HL.out; omega
      have k0 : wr.cell? ⟨w.heap.size, t, none⟩ = some (.int .u8 (k.getD t 0)) := cell_of_blk HC.out.blk (by rw [List.getElem?_toArray]; exact mix_at hkl)
      have k1 : wr.frozen? ⟨w.heap.size, t, none⟩ = false := free_of_blk HC.out.blk
      have hb := getD_byt HK.out t
      have HX : Hid (bits .xor .u8 (k.getD t 0) m = xr (k.getD t 0) m) := xr_bits _ _ hb HM.out
      have HS : Hid (Cm w k m (t + 1) (wr.setCell ⟨w.heap.size, t, none⟩ (.int .u8 (xr (k.getD t 0) m)))) := ⟨by rw [set_blk HC.out.blk, mix_next hkl], HC.out.bel.setCell (Nat.le_refl _) _⟩
      have ht64 : (t : Int) < 64 := by omega
      generalize k.getD t 0 = x at *
      clear hkl
      go_wp2
      refine ⟨⟨t + 1, by omega, by go_num, by rw [HX.out]; exact HS⟩, by simp [intOf]; omega⟩
    · obtain rfl : t = 64 := by omega
      have HB : Hid (Below w.heap.size w wr) := HC.out.bel
      have HR : Hid (Row .u8 wr wr.heap.size (some ⟨w.heap.size, 0, none⟩) 64 (k.map (fun x => xr x m))) := by
        have hb := HC.out.blk
        rw [mix_all HL.out] at hb
        have h64 := HL.out
        refine ⟨by simp [h64], fun _ => ⟨w.heap.size, 0, rfl, (Array.getElem?_eq_some_iff.1 hb).1, fun j hj => ?_⟩⟩
        rw [Nat.zero_add]
        refine cell_of_blk hb ?_
        rw [List.getElem?_toArray]
        simp [bv, List.getD, show j < k.length by omega]
      clear HC H0
      go_wp2
      go_ret
      exact ⟨rfl, HR.out, HB.out⟩
end Go.Proofs.YtclidocmfdimiaaDoor.Hmc

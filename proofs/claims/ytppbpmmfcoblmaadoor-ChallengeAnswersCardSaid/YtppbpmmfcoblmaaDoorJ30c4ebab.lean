/- Lemmas that the proof stands on, in build order: HmcK Vct Cnc. -/
import Derived.Laws.CopyOwn
import Derived.Laws.Rows
import Derived.Test.YtppbpmmfcoblmaaDoorProg
import Derived.WalkKit
import Derived.KernelRfl
import Derived.WalkMore
import Derived.Lib.Walk
import Derived.Lib.SliceRun
import Derived.Lib.AppendZerosOnto
import Derived.Test.YtppbpmmfcoblmaaDoorJ1ef7bc1
import Derived.Test.YtppbpmmfcoblmaaDoorJ24e72b8
import Derived.Test.YtppbpmmfcoblmaaDoorJ25bc339c
import Derived.Test.YtppbpmmfcoblmaaDoorJ294d73c3
/- Layer 8 (hmac): the program's padded and combined, as contracts. -/
namespace Go.Proofs.YtppbpmmfcoblmaaDoor.Hmc
open Go.RowKit Sha

/-- A key, filled up to 64 bytes. -/
def fil (k : List Int) : List Int := k ++ List.replicate (64 - k.length) 0
theorem fil_len {k : List Int} (h : k.length ≤ 64) : (fil k).length = 64 := by simp [fil]; omega
theorem pre_take (k : List Int) (m : Int) : ∀ n, n ≤ k.length → pre k m n = (k.take n).map (fun x => xr x m)
  | 0, _ => rfl
  | n + 1, h => by
    rw [pre, pre_take k m n (by omega), List.take_succ_eq_append_getElem (by omega), List.map_append]
    congr 1
    simp [List.getD, show n < k.length by omega]
theorem blk_fil (k : List Int) (m : Int) : blk k m = (fil (ky k)).map (fun x => xr x m) := by
  have h1 := ky_len k
  have h2 := fil_len h1
  unfold blk
  rw [← pre_noughts (ky k) m (64 - (ky k).length) 64]
  show pre (fil (ky k)) m 64 = _
  rw [pre_take _ _ _ (by omega), List.take_of_length_le (by omega)]
theorem fil_byt {k : List Int} (hk : ∀ x ∈ k, 0 ≤ x ∧ x ≤ 255) : ∀ x ∈ fil k, 0 ≤ x ∧ x ≤ 255 := by
  intro x hx
  rw [fil, List.mem_append] at hx
  rcases hx with hx | hx
  · exact hk x hx
  · rw [(List.mem_replicate.1 hx).2]
    omega

theorem zero64 (w : World) : (zeroValue 135).run Tryd.prog w = .ok (.agg (bv (List.replicate 64 0)).toArray) w := by kernel_rfl
theorem info64b : (Tryd.prog.info? 135).map (·.size) = some 64 := by kernel_rfl
theorem info8s : (Tryd.prog.info? 5).map (·.size) = some 1 := by kernel_rfl
theorem fil_splice {k : List Int} (_ : k.length ≤ 64) : splice (bv (List.replicate 64 0)) 0 (bv k) = bv (fil k) := by
  unfold splice fil bv
  rw [List.take_zero, List.nil_append, List.map_append, ← List.map_drop, List.drop_replicate]
  simp
theorem bv_len (l : List Int) : (bv l).length = l.length := by simp [bv]
theorem bv_one (l : List Int) : ∀ v ∈ bv l, v.oneCell' = true := fun v hv => by
  unfold bv at hv
  obtain ⟨x, _, rfl⟩ := List.mem_map.1 hv
  rfl

/-- What a copy of a row needs to know of it. -/
theorem row_cells {w : World} {B n : Nat} {A : Option Addr} {k : List Int} (h : Row .u8 w B A n k) (hn : 0 < k.length) : ∃ ad, A = some ad ∧ ∀ (j : Nat) v, (bv k)[j]? = some v → w.cell? (ad.add j) = some v := by
  have hl := h.len
  obtain ⟨b, o, he, _, hc⟩ := h.2 (by omega)
  refine ⟨_, he, fun j v hj => ?_⟩
  have hjl : j < k.length := by
    have := (List.getElem?_eq_some_iff.1 hj).1
    simpa [bv] using this
  have hadd : (⟨b, o, none⟩ : Addr).add j = ⟨b, o + j, none⟩ := by unfold Addr.add; split <;> simp_all
  rw [hadd, hc j (by omega), ← hj]
  simp [bv, List.getD, hjl]

set_option maxHeartbeats 800000 in
set_option maxRecDepth 100000 in
theorem padded_any (A : Option Addr) (n c B : Nat) (k : List Int) (w : World) (h : Row .u8 w B A n k) (hB : B ≤ w.heap.size) (hc : n ≤ c) (hk : ∀ x ∈ k, 0 ≤ x ∧ x ≤ 255) (hn : n ≤ 1000000) (hT : Lay w) :
    Calls Tryd.prog 97 #[.slice A n c] w fun e w' => e = .returned (.agg (bv (fil (ky k))).toArray) ∧ Below w.heap.size w w' := by
  have H := Lib.hid h
  have HK := Lib.hid hk
  have HB := Lib.hid hB
  have HNC := Lib.hid hc
  have HT := Lib.hid hT
  have hz := zero64
  obtain ⟨Z, hZ⟩ : ∃ Z, bv (List.replicate 64 0) = Z := ⟨_, rfl⟩
  rw [hZ] at hz
  have HZ := Lib.hid hZ
  have HZL : Hid (Z.length = 64) := by unfold Hid; rw [← hZ]; rfl
  obtain ⟨K, hK⟩ : ∃ K, K = ky k := ⟨_, rfl⟩
  have HKL : Hid (K.length ≤ 64) := by unfold Hid; rw [hK]; exact ky_len k
  obtain ⟨C, hC⟩ : ∃ C, C = bv K := ⟨_, rfl⟩
  obtain ⟨F, hF⟩ : ∃ F, F = bv (fil K) := ⟨_, rfl⟩
  have HFL : Hid (F.length = 64) := by unfold Hid; rw [hF, bv_len]; exact fil_len HKL.out
  have HSP : Hid (splice Z 0 C = F) := by unfold Hid; rw [← hZ, hC, hF]; exact fil_splice HKL.out
  have HF1 : Hid (F.toArray.all (·.oneCell') = true) := by unfold Hid; rw [hF]; exact all_oneCell_toArray (bv_one _)
  have HSZ : Hid (Z.toArray.size = F.toArray.size) := by unfold Hid; rw [List.size_toArray, List.size_toArray, HFL.out, HZL.out]
  have HC1 : Hid (∀ v ∈ C, v.oneCell' = true) := by unfold Hid; rw [hC]; exact bv_one _
  have HCL : Hid (C.length = K.length) := by unfold Hid; rw [hC]; exact bv_len _
  have HI : Hid ((Tryd.prog.info? 135).map (·.size) = some F.toArray.size) := by unfold Hid; rw [List.size_toArray, HFL.out]; exact info64b
  have HI2 : Hid ((Tryd.prog.info? 135).map (·.size) = some F.length) := by unfold Hid; rw [HFL.out]; exact info64b
  rw [show (Value.agg (bv (fil (ky k))).toArray) = .agg F.toArray by rw [hF, hK]]
  have HKK := Lib.hid hK
  have HBV := Lib.hid hC
  have hb0 : Below w.heap.size w (w.alloc (.cells Z.toArray 135)) := (Below.refl _ _).alloc (Nat.le_refl _) _
  have HB0 := Lib.hid hb0
  have H1 := Lib.hid (H.out.below (hb0.mono HB.out))
  have HT1 := Lib.hid (HT.out.below hb0 HT.out.tab.1)
  have hs1 : w.heap.size ≤ (w.alloc (.cells Z.toArray 135)).heap.size := hb0.size
  have HS1 := Lib.hid hs1
  have hblk : (w.alloc (.cells Z.toArray 135)).heap[w.heap.size]? = some (.cells Z.toArray 135 (0, 0)) := heap_alloc_new _ _
  have HBLK := Lib.hid hblk
  clear h hB hc hk hT hZ hK hC hF hb0 hs1 hblk
  by_cases hb : 64 < n
  · have hd : decide ((64 : Int) < (n : Int)) = true := by simp; omega
    have hky : Hid (K = sum256 k) := by
      unfold Hid
      rw [HKK.out]
      unfold ky
      rw [if_pos (by have := H.out.len; omega)]
    go_enter Tryd.func97, Tryd.ntmps97
    go_wp2_with fail
    refine (sum_any A n c B k _ H1.out (Nat.le_trans HB.out HS1.out) HNC.out HK.out (by omega) HT1.out).mono ?_
    rintro e2 w2 ⟨v2, rfl, hown2, hb2⟩
    rw [show outs (blocks ks hs (pad k) ((pad k).length / 64)) 8 = sum256 k from rfl, ← hky.out] at hown2
    obtain ⟨A2, c2, rfl, -, -⟩ := own_slice hown2
    have HR2 : Hid (Row .u8 w2 w2.heap.size A2 32 K) := Row.of_own hown2
    have HG2 : Hid (w2.heap[w.heap.size]? = some (.cells Z.toArray 135 (0, 0))) := (hb2.block w.heap.size (by simp)).trans HBLK.out
    have HBE2 : Hid (Below w.heap.size w w2) := HB0.out.trans (hb2.mono HS1.out)
    have HL2 : Hid (w.heap.size < w2.heap.size) := by have := hb2.size; unfold Hid; simp at this; omega
    have HCN : Hid (C.length = Nat.min 32 64) := by unfold Hid; rw [HCL.out, HR2.out.len]; decide
    clear hown2 hb2
    go_wp2_with (first
      | ((with_reducible show wpList _ _ _ _ _ _); refine wpList_copy_splice rfl (.tmp 9) (.tmp 10) 25 25 rfl 5 Tryd.underlying25 info8s _ _ 64 64 32 c2 rfl rfl w2.heap.size 0 Z 135 (heap_alloc_new w2 _) C HCN.out (fun h0 => ⟨rfl, by rw [HCL.out] at h0; rw [HBV.out]; exact row_cells (HR2.out.below ((Below.refl _ _).alloc (Nat.le_refl _) _)) h0⟩) (by rw [HCL.out, HZL.out]; have := HKL.out; omega) HC1.out w2.heap.size w2 ((Below.refl _ _).alloc (Nat.le_refl _) _) (Nat.le_refl _) ?_; intro w3 hG3 hb3; rw [HSP.out] at hG3; have HG3 := Lib.hid hG3.out; have HR3 : Hid (w3.heap[w.heap.size]? = some (.cells Z.toArray 135 (0, 0))) := (hb3.block w.heap.size HL2.out).trans HG2.out; have HB3 := Lib.hid (HBE2.out.trans (hb3.mono HBE2.out.size)); clear hG3 hb3)
      | (with_reducible refine wpList_load_row rfl 135 (.tmp 3) rfl w2.heap.size rfl 135 F.toArray (0, 0) _ HG3.out Tryd.underlying135 rfl HI.out ?_)
      | (with_reducible refine wpList_store_row rfl 135 (.tmp 2) (.tmp 12) rfl w.heap.size F.toArray rfl rfl 135 _ HR3.out HI.out HSZ.out HF1.out ?_))

    refine bodyPost_ret (results_cell_row (g := w.heap.size) rfl _ _ _ _ _ _ rfl (setRow_heap _ _ _ _ _ _ HR3.out) Tryd.underlying135 rfl HI.out) rfl ⟨rfl, ?_⟩
    exact Sha.below_setRow HB3.out (Nat.le_refl _) _
  · have hd : decide ((64 : Int) < (n : Int)) = false := by simp; omega
    have hky : Hid (K = k) := by
      unfold Hid
      rw [HKK.out]
      unfold ky
      rw [if_neg (by have := H.out.len; omega)]
    have hb2 : Below w.heap.size w ((w.alloc (.cells Z.toArray 135)).alloc (.cells Z.toArray 135)) := HB0.out.alloc HS1.out _
    have HBE2 := Lib.hid hb2
    have HG2 : Hid (((w.alloc (.cells Z.toArray 135)).alloc (.cells Z.toArray 135)).heap[w.heap.size]? = some (.cells Z.toArray 135 (0, 0))) := heap_alloc2_old w _ _
    have HN2 : Hid (((w.alloc (.cells Z.toArray 135)).alloc (.cells Z.toArray 135)).heap[w.heap.size + 1]? = some (.cells Z.toArray 135 (0, 0))) := heap_alloc2_new w _ _
    have HR2 : Hid (Row .u8 ((w.alloc (.cells Z.toArray 135)).alloc (.cells Z.toArray 135)) B A n K) := by unfold Hid; rw [hky.out]; exact H.out.below (hb2.mono HB.out)
    have HCN : Hid (C.length = Nat.min n 64) := by unfold Hid; rw [HCL.out, HR2.out.len]; exact (Nat.min_eq_left (by omega)).symm
    clear hb2
    go_enter Tryd.func97, Tryd.ntmps97
    go_wp2_with (first
      | ((with_reducible show wpList _ _ _ _ _ _); refine wpList_copy_splice rfl (.tmp 9) (.tmp 10) 25 25 rfl 5 Tryd.underlying25 info8s _ _ 64 64 n c rfl rfl (w.heap.size + 1) 0 Z 135 HN2.out C HCN.out (fun h0 => ⟨rfl, by rw [HCL.out] at h0; rw [HBV.out]; exact row_cells HR2.out h0⟩) (by rw [HCL.out, HZL.out]; have := HKL.out; omega) HC1.out (w.heap.size + 1) _ (Below.refl _ _) (Nat.le_refl _) ?_; intro w3 hG3 hb3; rw [HSP.out] at hG3; have HG3 := Lib.hid hG3.out; have HR3 : Hid (w3.heap[w.heap.size]? = some (.cells Z.toArray 135 (0, 0))) := (hb3.block w.heap.size (by omega)).trans HG2.out; have HB3 := Lib.hid (HBE2.out.trans (hb3.mono (by omega))); clear hG3 hb3)
      | (with_reducible refine wpList_load_row rfl 135 (.tmp 3) rfl (w.heap.size + 1) rfl 135 F.toArray (0, 0) _ HG3.out Tryd.underlying135 rfl HI.out ?_)
      | (with_reducible refine wpList_store_row rfl 135 (.tmp 2) (.tmp 12) rfl w.heap.size F.toArray rfl rfl 135 _ HR3.out HI.out HSZ.out HF1.out ?_))
    refine bodyPost_ret (results_cell_row (g := w.heap.size) rfl _ _ _ _ _ _ rfl (setRow_heap _ _ _ _ _ _ HR3.out) Tryd.underlying135 rfl HI.out) rfl ⟨rfl, ?_⟩
    exact Sha.below_setRow HB3.out (Nat.le_refl _) _

/-- A key of which the first t bytes are combined with m. -/
def mix (k : List Int) (m : Int) (t : Nat) : List Int := (k.take t).map (fun x => xr x m) ++ k.drop t
theorem mix_len (k : List Int) (m : Int) (t : Nat) : (mix k m t).length = k.length := by simp [mix]; omega
theorem mix_at {k : List Int} {m : Int} {t : Nat} (h : t < k.length) : (bv (mix k m t))[t]? = some (.int .u8 (k.getD t 0)) := by
  unfold mix bv
  rw [List.map_append, List.getElem?_append_right (by simp; omega)]
  simp [List.getD, h, show min t k.length = t by omega]
theorem mix_next {k : List Int} {m : Int} {t : Nat} (h : t < k.length) : ((bv (mix k m t)).toArray).setIfInBounds t (.int .u8 (xr (k.getD t 0) m)) = (bv (mix k m (t + 1))).toArray := by
  have h1 : (bv ((k.take t).map (fun x => xr x m))).length = t := by simp [bv]; omega
  have e1 : bv (mix k m t) = bv ((k.take t).map (fun x => xr x m)) ++ .int .u8 k[t] :: bv (k.drop (t + 1)) := by
    unfold mix bv
    rw [List.drop_eq_getElem_cons h, List.map_append, List.map_cons]
  have e2 : bv (mix k m (t + 1)) = bv ((k.take t).map (fun x => xr x m)) ++ .int .u8 (xr k[t] m) :: bv (k.drop (t + 1)) := by
    unfold mix bv
    rw [List.take_succ_eq_append_getElem h]
    simp only [List.map_append, List.map_cons, List.map_nil, List.append_assoc, List.cons_append, List.nil_append]
  rw [List.setIfInBounds_toArray, e1, e2, List.set_append_right _ _ (by omega), h1, Nat.sub_self, List.set_cons_zero]
  simp only [List.getD, List.getElem?_eq_getElem h, Option.getD_some]
theorem mix_all {k : List Int} {m : Int} (h : k.length = 64) : mix k m 64 = k.map (fun x => xr x m) := by
  unfold mix
  rw [List.take_of_length_le (by omega), List.drop_of_length_le (by omega), List.append_nil]
/-- While a key is combined. -/
structure Cm (w : World) (k : List Int) (m : Int) (t : Nat) (w' : World) : Prop where
  blk : w'.heap[w.heap.size]? = some (.cells (bv (mix k m t)).toArray 135 (0, 0))
  bel : Below w.heap.size w w'

set_option maxHeartbeats 800000 in
set_option maxRecDepth 100000 in
theorem combined_any (k : List Int) (m : Int) (w : World) (hl : k.length = 64) (hk : ∀ x ∈ k, 0 ≤ x ∧ x ≤ 255) (hm : 0 ≤ m ∧ m ≤ 255) :
    Calls Tryd.prog 98 #[.agg (bv k).toArray, .int .u8 m] w fun e w' => e = .returned (.slice (some ⟨w.heap.size, 0, none⟩) 64 64) ∧ Row .u8 w' w'.heap.size (some ⟨w.heap.size, 0, none⟩) 64 (k.map (fun x => xr x m)) ∧ Below w.heap.size w w' := by
  have HL := Lib.hid hl
  have HK := Lib.hid hk
  have HM := Lib.hid hm
  have H0 : Hid (Cm w k m 0 (w.alloc (.cells (bv k).toArray 135))) := ⟨by rw [show mix k m 0 = k by simp [mix]]; exact heap_alloc_new _ _, (Below.refl _ _).alloc (Nat.le_refl _) _⟩
  clear hl hk hm
  go_enter Tryd.func98, Tryd.ntmps98
  go_wp2_with fail
  go_loopw [5, 6] (fun _ i wr => ∃ t : Nat, t ≤ 64 ∧ i = .int .i64 (t : Int) ∧ Hid (Cm w k m t wr)) (fun _ i _ => 64 - (intOf i).toNat)
  case atStart => exact ⟨0, Nat.zero_le _, rfl, H0⟩
  case round =>
    obtain ⟨t, ht, rfl, HC⟩ := hrel
    by_cases hlt : t < 64
    · have hkl : t < k.length := by have := HL.out; omega
      have k0 : wr.cell? ⟨w.heap.size, t, none⟩ = some (.int .u8 (k.getD t 0)) := cell_of_blk HC.out.blk (by rw [List.getElem?_toArray]; exact mix_at hkl)
      have k1 : wr.frozen? ⟨w.heap.size, t, none⟩ = false := free_of_blk HC.out.blk
      have hb := getD_byt HK.out t
      have HX : Hid (bits .xor .u8 (k.getD t 0) m = xr (k.getD t 0) m) := xr_bits _ _ hb HM.out
      have HS : Hid (Cm w k m (t + 1) (wr.setCell ⟨w.heap.size, t, none⟩ (.int .u8 (xr (k.getD t 0) m)))) := ⟨by rw [set_blk HC.out.blk, mix_next hkl], HC.out.bel.setCell (Nat.le_refl _) _⟩
      have ht64 : (t : Int) < 64 := by omega
      generalize k.getD t 0 = x at *
      clear hkl
      go_wp2
      refine ⟨⟨t + 1, by omega, by go_num, by rw [HX.out]; exact HS⟩, by simp [intOf]; omega⟩
    · obtain rfl : t = 64 := by omega
      have HB : Hid (Below w.heap.size w wr) := HC.out.bel
      have HR : Hid (Row .u8 wr wr.heap.size (some ⟨w.heap.size, 0, none⟩) 64 (k.map (fun x => xr x m))) := by
        have hb := HC.out.blk
        rw [mix_all HL.out] at hb
        have h64 := HL.out
        refine ⟨by simp [h64], fun _ => ⟨w.heap.size, 0, rfl, (Array.getElem?_eq_some_iff.1 hb).1, fun j hj => ?_⟩⟩
        rw [Nat.zero_add]
        refine cell_of_blk hb ?_
        rw [List.getElem?_toArray]
        simp [bv, List.getD, show j < k.length by omega]
      clear HC H0
      go_wp2
      go_ret
      exact ⟨rfl, HR.out, HB.out⟩
end Go.Proofs.YtppbpmmfcoblmaaDoor.Hmc

/- Slices of values of one cell each (slices of slices among them), over any program: what such a slice reads as, and the append of one onto a row of one's own. -/
namespace Go.Proofs.YtppbpmmfcoblmaaDoor.Vct
open Go.RowKit

/-- The slice '.slice A n c' reads as the values vs; it lies below block B; nil is let in. -/
structure VRow (w : World) (B : Nat) (A : Option Addr) (n : Nat) (vs : List Value) : Prop where
  len : vs.length = n
  at_ : 0 < n → ∃ b o, A = some ⟨b, o, none⟩ ∧ b < B ∧ ∀ j v, vs[j]? = some v → w.cell? ⟨b, o + j, none⟩ = some v
  one : ∀ v ∈ vs, v.oneCell' = true
section
variable {w w' : World} {B B' n : Nat} {A : Option Addr} {vs : List Value}
theorem VRow.below (h : VRow w B A n vs) (hb : Below B w w') : VRow w' B A n vs :=
  ⟨h.len, fun hn => by
    obtain ⟨b, o, e, h1, h2⟩ := h.at_ hn
    exact ⟨b, o, e, h1, fun j v hj => (hb.cell (p := ⟨b, o + j, none⟩) h1).trans (h2 j v hj)⟩, h.one⟩
theorem VRow.more (h : VRow w B A n vs) (hB : B ≤ B') : VRow w B' A n vs :=
  ⟨h.len, fun hn => by
    obtain ⟨b, o, e, h1, h2⟩ := h.at_ hn
    exact ⟨b, o, e, by omega, h2⟩, h.one⟩
/-- A block made of values. -/
theorem VRow.of_blk {g : Nat} {cs : Array Value} {t : TypeId} {fr : Nat × Nat} (hg : w.heap[g]? = some (.cells cs t fr)) (hB : g < B) (hcs : cs.toList = vs) (h1 : ∀ v ∈ vs, v.oneCell' = true) : VRow w B (some ⟨g, 0, none⟩) vs.length vs :=
  ⟨rfl, fun _ => ⟨g, 0, rfl, hB, fun j v hj => by
    rw [Nat.zero_add, cell_of_row w g j cs t fr hg, ← hj, ← hcs]
    simp⟩, h1⟩
/-- A row of one's own. -/
theorem VRow.of_own {base c : Nat} {e : TypeId} (h : w.ownsRow base e 1 (.slice A n c) n vs) (h1 : ∀ v ∈ vs, v.oneCell' = true) : VRow w w.heap.size A n vs := by
  refine ⟨by simpa using h.1, fun hn => ?_, h1⟩
  rcases h.2 with ⟨h0, _⟩ | ⟨g, cap, cur, h2, h3, h4, h5, h6, h7, h8⟩
  · injection h0 with h0 h0'
    omega
  · injection h2 with h2 h2'
    subst h2
    refine ⟨g, 0, rfl, (Array.getElem?_eq_some_iff.1 h4).1, fun j v hj => ?_⟩
    rw [Nat.zero_add, cell_of_row w g j cur e (0, 0) h4]
    have hjl : j < n := by
      have := (List.getElem?_eq_some_iff.1 hj).1
      have h9 := h.1
      omega
    rw [← h8, List.getElem?_take_of_lt (by omega)] at hj
    simpa using hj
end

/-- 'append(out, ys...)' onto a row of one's own; ys reads as a row of values, nil let in. -/
theorem cat_vals {P : Program} {ops : Array Oper} {rest : List Oper} {o : Oper} {a : Act} {Q : Exit → Act → World → Prop} {w : World} (hgd : o.guard = none) (s x : Operand) (t : TypeId)
    (ho : o.op = .call { callee := .builtin .append, args := #[s, x], argTypes := #[t, t] })
    (base : Nat) (e : TypeId) (i : TypeInfo) (z : Value) (bytes : Nat) (ht : P.underlying t = some (.slice e)) (hi : P.info? e = some i) (hz : i.zero = some z) (hz1 : z.cells.size = 1) (hsize : i.size = 1) (hby : i.bytes = bytes)
    (v : Value) (n : Nat) (xs : List Value) (hs : a.eval s = v) (hown : w.ownsRow base e 1 v n xs) (B : Nat) (A : Option Addr) (m c : Nat) (ys : List Value) (hx : a.eval x = .slice A m c) (hnil : A = none → c = 0) (hr : VRow w B A m ys)
    (hn : n + m ≤ 1099511627776) (hb8 : bytes ≤ 100) (hbase : base ≤ w.heap.size)
    (h : ∀ v' w', w'.ownsRow base e 1 v' (n + m) (xs ++ ys) → Below base w w' → wpList P ops Q rest (a.put o.dst v') w') :
    wpList P ops Q (o :: rest) a w := by
  rcases A with _ | ad
  · have hm : m = 0 := by
      rcases Nat.eq_zero_or_pos m with h0 | h0
      · exact h0
      · obtain ⟨_, _, h1, _⟩ := hr.at_ h0
        cases h1
    subst hm
    have hy : ys = [] := List.eq_nil_of_length_eq_zero hr.len
    subst hy
    rw [hnil rfl] at hx
    exact wpList_append_own_none hgd s x t ho base e i 1 ht hi v n _ hs hown hx (h v w (by simpa using hown) (Below.refl _ _))
  · refine wpList_append_own _ hgd s x t ho base e i z 1 bytes ht hi hz hsize hby hz1 (by omega) v n xs hs hown ad m c ys hx (by simp [hr.len]) ?_ hr.one ?_ ?_ hbase ?_
    · intro j u hj
      have hjl := (List.getElem?_eq_some_iff.1 hj).1
      have hl := hr.len
      obtain ⟨b, o, he, _, hc⟩ := hr.at_ (by omega)
      injection he with he
      subst he
      have hadd : (⟨b, o, none⟩ : Addr).add j = ⟨b, o + j, none⟩ := by unfold Addr.add; split <;> simp_all
      rw [hadd]
      exact hc j u hj
    · unfold maxLen; omega
    · have := Nat.mul_le_mul hn hb8
      omega
    · intro v' w' hown' hgrow _
      exact h v' w' (by simpa using hown') ((Below.refl _ _).grown hgrow hbase (fun j hj => (hown.lt j hj).1))

/-- A slice among others: where it lies, its length, its capacity, what it reads as. -/
structure VPart where
  A : Option Addr
  n : Nat
  c : Nat
  vs : List Value
def VPart.v (p : VPart) : Value := .slice p.A p.n p.c
def VPart.Right (w : World) (B : Nat) (p : VPart) : Prop := VRow w B p.A p.n p.vs ∧ (p.A = none → p.c = 0)
def vtotal (L : List VPart) : Nat := (L.map (·.n)).sum
def vwhole (L : List VPart) : List Value := L.flatMap (·.vs)
theorem vtotal_next {L : List VPart} {i : Nat} (h : i < L.length) : vtotal (L.take (i + 1)) = vtotal (L.take i) + (L[i]).n := by
  unfold vtotal; rw [List.take_succ_eq_append_getElem h, List.map_append, List.sum_append]; simp only [List.map_cons, List.map_nil, List.sum_cons, List.sum_nil, Nat.add_zero]
theorem vwhole_next {L : List VPart} {i : Nat} (h : i < L.length) : vwhole (L.take (i + 1)) = vwhole (L.take i) ++ (L[i]).vs := by
  unfold vwhole; rw [List.take_succ_eq_append_getElem h, List.flatMap_append]; simp only [List.flatMap_cons, List.flatMap_nil, List.append_nil]
theorem vtotal_le (L : List VPart) (i : Nat) : vtotal (L.take i) ≤ vtotal L := by
  have : vtotal L = vtotal (L.take i) + vtotal (L.drop i) := by
    unfold vtotal; rw [← List.sum_append, ← List.map_append, List.take_append_drop]
  omega
end Go.Proofs.YtppbpmmfcoblmaaDoor.Vct

/- Go's library on slices of slices of bytes, as contracts over the program: slices.Grow of nil, slices.Concat. -/
namespace Go.Proofs.YtppbpmmfcoblmaaDoor.Vct
open Go.RowKit

theorem info_sl : (Tryd.prog.info? 25).map (fun i => (i.zero, i.size, i.bytes)) = some (some (.slice none 0 0), 1, 24) := by kernel_rfl

set_option maxHeartbeats 800000 in
set_option maxRecDepth 100000 in
/-- slices.Grow of nil: no elements, room for n. -/
theorem vgrow_nil (n : Nat) (hn : n ≤ 1099511627776) (w : World) :
    Calls Tryd.prog 100 #[.slice none 0 0, .int .i64 (n : Int)] w fun e w' =>
      ∃ v, e = .returned v ∧ w'.ownsRow w.heap.size 25 1 v 0 ([] : List Value) ∧ Below w.heap.size w w' := by
  obtain ⟨i0, hi, hz0, hz1, hz2⟩ := Sha.parts_of info_sl
  by_cases h0 : n = 0
  · subst h0
    go_enter Tryd.func100, Tryd.ntmps100
    go_wp2
    go_ret
    exact ⟨_, rfl, World.ownsRow_nil _ _ _ _, Below.refl _ _⟩
  · have hold : (Builtin.firstCells i0.size 0 (.slice none 0 0)).run Tryd.prog w.drew = .ok ([] : List Value).toArray w.drew := run_firstCells_none w.drew i0.size 0 0 0
    have hrz : ∀ ty, (Builtin.append_ #[55, 3] ty #[.slice none 0 0, .int .i64 (n : Int)]).run Tryd.prog w = _ := fun ty =>
      Lib.run_append_grow_zeros w 55 3 ty 25 i0 (.slice none 0 0) .i64 .i64 Tryd.underlying55 Tryd.underlying3 hi hz0 none 0 0 [] hold n (by omega) (by omega) (by omega) (by omega) (by rw [hz2]; omega) (growslice_fits (by omega) (by rw [hz2]; omega))
    have hge := grownCap_ge w (0 + n) 0 25
    have hle := grownCap_le_maxLen w (0 + n) 0 25 (by unfold maxLen; omega)
    generalize grownCap w (0 + n) 0 25 = G at *
    have hle' : G ≤ 9223372036854775807 := by unfold maxLen at hle; omega
    go_enter Tryd.func100, Tryd.ntmps100
    go_wp2_with (at_builtin; refine Lib.wpList_append_run _ rfl _ _ _ _ rfl _ _ rfl rfl _ _ (hrz _) ?_)
    go_ret
    refine ⟨_, rfl, ⟨rfl, .inr ⟨w.heap.size, G, _, rfl, Nat.le_refl _, Array.getElem?_push_size, Nat.zero_le _, hle, ?_, by simp⟩⟩, (Below.refl w.heap.size w).drew.alloc (Nat.le_refl _) _⟩
    simp [size_zeroCells]
    have : (Value.slice none 0 0).cells.size = 1 := rfl
    omega

set_option maxHeartbeats 1600000 in
set_option maxRecDepth 100000 in
/-- slices.Concat: all parts, one behind the other, in a row of its own. -/
theorem vconcat_any (L : List VPart) (g c B : Nat) (w : World) (hc : ∀ j (h : j < L.length), w.cell? ⟨g, j, none⟩ = some (L[j]).v) (hL : ∀ p ∈ L, p.Right w B) (hB : B ≤ w.heap.size) (hg : g < w.heap.size) (ht : vtotal L ≤ 1099511627776) (hl : L.length ≤ 1000000) :
    Calls Tryd.prog 79 #[.slice (some ⟨g, 0, none⟩) L.length c] w fun e w' =>
      ∃ v, e = .returned v ∧ w'.ownsRow w.heap.size 25 1 v (vtotal L) (vwhole L) ∧ Below w.heap.size w w' := by
  obtain ⟨i0, hi, hz0, hz1, hz2⟩ := Sha.parts_of info_sl
  have HC := Lib.hid hc
  have HL := Lib.hid hL
  clear hc hL
  go_enter Tryd.func79, Tryd.ntmps79
  go_wp2
  go_loop [11, 3] (fun a s => ∃ i : Nat, i ≤ L.length ∧ a = .int .i64 (i : Int) ∧ s = .int .i64 (vtotal (L.take i) : Int)) (fun a _ => L.length - (intOf a).toNat)
  case atStart => exact ⟨0, Nat.zero_le _, rfl, by simp [vtotal]⟩
  case round =>
    obtain ⟨i, hle, rfl, rfl⟩ := hrel
    by_cases hlt : i < L.length
    · have h1 := HC.out i hlt
      have h2 := vtotal_next hlt
      have h3 := vtotal_le L (i + 1)
      unfold VPart.v at h1
      generalize L[i] = p at *
      obtain ⟨A, n, c1, xs⟩ := p
      generalize vtotal (L.take i) = t at *
      have h4 : vtotal (L.take (i + 1)) ≤ 1099511627776 := by omega
      obtain ⟨t1, H1⟩ : ∃ t1, Hid (t1 = vtotal (L.take (i + 1))) := ⟨_, Lib.hid rfl⟩
      rw [← H1.out] at h2 h4
      have h5 : t1 = t + n := h2
      have hw : IntKind.i64.wrap ((t : Int) + (n : Int)) = (t1 : Int) := by rw [IntWalk.i64_in _ ⟨by omega, by omega⟩]; omega
      clear h2 h3 h4 h5
      go_wp2
      go_round
      case rel => exact ⟨i + 1, by omega, by go_num, by rw [H1.out]⟩
      case measure => simp [intOf]; omega
    · obtain rfl : i = L.length := by omega
      rw [List.take_length]
      go_wp2_with fail
      refine (vgrow_nil (vtotal L) ht w).mono ?_
      rintro e1 w1 ⟨v1, rfl, hown1, hb1⟩
      have HB1 := Lib.hid hb1
      have HO1 := Lib.hid hown1
      clear hb1 hown1
      go_wp2_with fail
      go_loopw [27, 6] (fun a v wr => ∃ i : Nat, i ≤ L.length ∧ a = .int .i64 (i : Int) ∧ Hid (wr.ownsRow w.heap.size 25 1 v (vtotal (L.take i)) (vwhole (L.take i))) ∧ Hid (Below w.heap.size w wr)) (fun a _ _ => L.length - (intOf a).toNat)
      case atStart => exact ⟨0, Nat.zero_le _, rfl, by simpa [vtotal, vwhole] using HO1, HB1⟩
      case round =>
        obtain ⟨i, hle, rfl, HO, HB⟩ := hrel
        by_cases hlt : i < L.length
        · have h1 := (HB.out.cell (p := ⟨g, i, none⟩) hg).trans (HC.out i hlt)
          have h2 := Lib.hid (vtotal_next hlt)
          have h2' := Lib.hid (vwhole_next hlt)
          have h3 := vtotal_le L (i + 1)
          obtain ⟨hr, hnil⟩ := HL.out _ (List.getElem_mem hlt)
          have hsum := vtotal_next hlt
          unfold VPart.v at h1
          generalize L[i] = p at *
          obtain ⟨A, n, c1, xs⟩ := p
          have hrow : Hid (VRow wr B A n xs) := hr.below (HB.out.mono hB)
          have hsz := HB.out.size
          have hsm : vtotal (L.take i) + n ≤ 1099511627776 := by simp only at hsum; omega
          have HN := Lib.hid hnil
          clear hr hnil hsum h3
          go_wp2_with (at_builtin; refine cat_vals rfl (.tmp 31) (.tmp 32) 55 rfl w.heap.size 25 i0 (.slice none 0 0) 24 Tryd.underlying55 hi hz0 rfl hz1 hz2 _ (vtotal (L.take i)) (vwhole (L.take i)) rfl HO.out B A n c1 xs rfl HN.out hrow.out hsm (by omega) hsz ?_; intro v2 w2 hown2 hb2; have HO2 := Lib.hid hown2; have HB2 := Lib.hid (HB.out.trans hb2); clear hown2 hb2)
          go_roundw
          case rel => exact ⟨i + 1, by omega, by go_num, by unfold Hid; rw [h2.out, h2'.out]; exact HO2.out, HB2⟩
          case measure => simp [intOf]; omega
        · obtain rfl : i = L.length := by omega
          rw [List.take_length] at HO
          go_wp2
          go_ret
          exact ⟨_, rfl, HO.out, HB.out⟩
end Go.Proofs.YtppbpmmfcoblmaaDoor.Vct

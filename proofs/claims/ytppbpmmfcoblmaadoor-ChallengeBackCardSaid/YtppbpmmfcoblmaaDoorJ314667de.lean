/- Lemmas that the proof stands on, in build order: HmcT. -/
import Derived.Test.YtppbpmmfcoblmaaDoorJ13efd6d0
import Derived.Test.YtppbpmmfcoblmaaDoorJ14e35fe5
import Derived.Test.YtppbpmmfcoblmaaDoorJ30c4ebab
/- Layer 8 (hmac): the program's Tag and Derive, as contracts. -/
namespace Go.Proofs.YtppbpmmfcoblmaaDoor.Hmc
open Go.RowKit Sha Slc Vct

/-- Parts, as layer 7 has them. -/
def prt (p : Part) : Prt := ⟨p.A, p.n, p.c, p.xs⟩
theorem cats_prt : ∀ L : List Part, cats (L.map prt) = whole L
  | [] => rfl
  | p :: L => by
    have := cats_prt L
    unfold cats whole at *
    simp only [List.map_cons, List.flatten_cons, List.flatMap_cons, this]
    rfl
theorem Prs.ok {w : World} {B n : Nat} {A : Option Addr} {L : List Part} (h : Prs w B A n L) : ∀ p ∈ L.map prt, p.ok w B := fun p hp => by
  obtain ⟨q, hq, rfl⟩ := List.mem_map.1 hp
  exact ⟨(h.right q hq).1, (h.byt q hq).1, (h.byt q hq).2⟩
def pv (p : Prt) : Value := .slice p.A p.n p.c
theorem pv_one (ps : List Prt) : ∀ v ∈ ps.map pv, v.oneCell' = true := fun v hv => by
  obtain ⟨p, _, rfl⟩ := List.mem_map.1 hv
  rfl
/-- A slice that came in, as a row of values. -/
theorem vrow_prs {w : World} {B n : Nat} {A : Option Addr} {L : List Part} (h : Prs w B A n L) : VRow w B A n ((L.map prt).map pv) := by
  refine ⟨by simp [h.len], fun hn => ?_, pv_one _⟩
  obtain ⟨b, o, e, h1, h2⟩ := h.at_ hn
  refine ⟨b, o, e, h1, fun j v hj => ?_⟩
  have hjl : j < L.length := by
    have := (List.getElem?_eq_some_iff.1 hj).1
    simpa using this
  rw [h2 j hjl, ← hj]
  simp [hjl, pv, prt, Part.v]
/-- A row of slices, as layer 7 has it. -/
theorem prow_vrow {w : World} {B n : Nat} {A : Option Addr} {ps : List Prt} (h : VRow w B A n (ps.map pv)) (hok : ∀ p ∈ ps, p.ok w B) : PRow w B A ps := by
  refine ⟨fun j p hp => ?_, hok⟩
  have hjl := (List.getElem?_eq_some_iff.1 hp).1
  have hl := h.len
  rw [List.length_map] at hl
  obtain ⟨b, o, e, h1, h2⟩ := h.at_ (by omega)
  exact ⟨b, o, e, h1, h2 j _ (by rw [List.getElem?_map, hp]; rfl)⟩

theorem pown_below {w w' : World} {B : Nat} {A : Option Addr} {ps : List Prt} {n : Nat} (h : VRow w w.heap.size A n (ps.map pv)) (hok : ∀ p ∈ ps, p.ok w B) (hB : B ≤ w.heap.size) (hb : Below w.heap.size w w') : PRow w' w'.heap.size A ps :=
  prow_vrow ((h.below hb).more hb.size) (fun p hp => (((hok p hp).more hB).below hb).more hb.size)

set_option maxHeartbeats 1600000 in
set_option maxRecDepth 100000 in
theorem tag_any (A A' : Option Addr) (n c n' c' : Nat) (k : List Int) (L : List Part) (w : World) (h : Row .u8 w w.heap.size A n k) (hc : n ≤ c) (hk : ∀ x ∈ k, 0 ≤ x ∧ x ≤ 255) (hp : Prs w w.heap.size A' n' L) (hnil' : A' = none → c' = 0) (hn : n ≤ 1000000) (hn' : n' ≤ 1000000) (ht : total L ≤ 1000000) (hT : Lay w) :
    Calls Tryd.prog 78 #[.slice A n c, .slice A' n' c'] w fun e w' => ∃ v, e = .returned v ∧ w'.ownsRow w.heap.size 5 1 v 32 ((mac k (whole L)).map (Value.int .u8)) ∧ Below w.heap.size w w' := by
  have H := Lib.hid h
  have HK := Lib.hid hk
  have HNC := Lib.hid hc
  have HP := Lib.hid hp
  have HNIL := Lib.hid hnil'
  have HTO := Lib.hid ht
  have HT := Lib.hid hT
  have hz := zero64
  obtain ⟨Z, hZ⟩ : ∃ Z, bv (List.replicate 64 0) = Z := ⟨_, rfl⟩
  rw [hZ] at hz
  have HZL : Hid (Z.length = 64) := by unfold Hid; rw [← hZ]; rfl
  have hpad := padded_any A n c w.heap.size k w h (Nat.le_refl _) hc hk hn hT
  obtain ⟨F, hF⟩ : ∃ F, F = fil (ky k) := ⟨_, rfl⟩
  rw [← hF] at hpad
  have HPAD := Lib.hid hpad
  have HFL : Hid (F.length = 64) := by unfold Hid; rw [hF]; exact fil_len (ky_len k)
  have HFB : Hid (∀ x ∈ F, 0 ≤ x ∧ x ≤ 255) := by unfold Hid; rw [hF]; exact fil_byt (ky_byt hk)
  have HF1 : Hid ((bv F).toArray.all (·.oneCell') = true) := all_oneCell_toArray (bv_one _)
  have HFS : Hid ((bv F).toArray.size = 64) := by unfold Hid; rw [List.size_toArray, bv_len]; exact HFL.out
  have HSZ : Hid (Z.toArray.size = (bv F).toArray.size) := by unfold Hid; rw [HFS.out, List.size_toArray, HZL.out]
  have HI : Hid ((Tryd.prog.info? 135).map (·.size) = some (bv F).toArray.size) := by unfold Hid; rw [HFS.out]; exact info64b
  have HB54 : Hid (F.map (fun x => xr x 54) = blk k 54) := by unfold Hid; rw [hF]; exact (blk_fil k 54).symm
  have HB92 : Hid (F.map (fun x => xr x 92) = blk k 92) := by unfold Hid; rw [hF]; exact (blk_fil k 92).symm
  clear h hc hk hp hnil' ht hT hZ hpad hF
  go_enter Tryd.func78, Tryd.ntmps78
  go_wp2_with fail
  refine HPAD.out.mono ?_
  rintro e1 w1 ⟨rfl, hb1⟩
  have HB1 : Hid (Below w.heap.size w ((w1.alloc (.cells Z.toArray 135)).setRow w1.heap.size (bv F).toArray)) := Sha.below_setRow (hb1.alloc hb1.size _) hb1.size _
  have HK1 : Hid (((w1.alloc (.cells Z.toArray 135)).setRow w1.heap.size (bv F).toArray).heap[w1.heap.size]? = some (.cells (bv F).toArray 135 (0, 0))) := setRow_heap _ _ _ _ _ _ (heap_alloc_new w1 _)
  go_wp2_with (first
    | (with_reducible refine wpList_store_row rfl 135 (.tmp 5) (.tmp 8) rfl w1.heap.size (bv F).toArray rfl rfl 135 _ (heap_alloc_new w1 _) HI.out HSZ.out HF1.out ?_)
    | (with_reducible refine wpList_load_row rfl 135 (.tmp 5) rfl w1.heap.size rfl 135 (bv F).toArray (0, 0) _ HK1.out Tryd.underlying135 rfl HI.out ?_))
  generalize (w1.alloc (.cells Z.toArray 135)).setRow w1.heap.size (bv F).toArray = w2 at *
  have HG1 : Hid (w1.heap.size < w2.heap.size) := (Array.getElem?_eq_some_iff.1 HK1.out).1
  generalize w1.heap.size = G1 at *
  clear hb1
  refine (combined_any F 54 w2 HFL.out HFB.out (by omega)).mono ?_
  rintro e3 w3 ⟨rfl, hr3, hb3⟩
  rw [HB54.out] at hr3
  have HR3 := Lib.hid hr3
  have HB3 := Lib.hid hb3
  have HB03 := Lib.hid (HB1.out.trans (hb3.mono HB1.out.size))
  have HG23 : Hid (w2.heap.size ≤ w3.heap.size) := hb3.size
  generalize w2.heap.size = G2 at *
  clear hr3 hb3
  obtain ⟨w4, hw4⟩ : ∃ w4, (w3.alloc (.cells #[.slice (some ⟨G2, 0, none⟩) 64 64] 25)).alloc (.cells #[.slice (some ⟨w3.heap.size, 0, none⟩) 1 1, .slice A' n' c'] 55) = w4 := ⟨_, rfl⟩
  have HB34 : Hid (Below w3.heap.size w3 w4) := by unfold Hid; rw [← hw4]; exact ((Below.refl _ _).alloc (Nat.le_refl _) _).alloc (by simp) _
  have HS4 : Hid (w4.heap.size = w3.heap.size + 1 + 1) := by unfold Hid; rw [← hw4]; simp
  have HC4 : Hid (w4.heap[w3.heap.size]? = some (.cells #[.slice (some ⟨G2, 0, none⟩) 64 64] 25 (0, 0))) := by unfold Hid; rw [← hw4]; exact heap_alloc2_old w3 _ _
  have HD4 : Hid (w4.heap[w3.heap.size + 1]? = some (.cells #[.slice (some ⟨w3.heap.size, 0, none⟩) 1 1, .slice A' n' c'] 55 (0, 0))) := by unfold Hid; rw [← hw4]; exact heap_alloc2_new w3 _ _
  have HW4 := Lib.hid hw4
  clear hw4
  obtain ⟨ps, hps⟩ : ∃ ps, ps = (⟨some ⟨G2, 0, none⟩, 64, 64, blk k 54⟩ : Prt) :: L.map prt := ⟨_, rfl⟩
  obtain ⟨VL, hVL⟩ : ∃ VL, VL = [(⟨some ⟨w3.heap.size, 0, none⟩, 1, 1, [.slice (some ⟨G2, 0, none⟩) 64 64]⟩ : VPart), ⟨A', n', c', (L.map prt).map pv⟩] := ⟨_, rfl⟩
  have HVT : Hid (vtotal VL = 1 + n') := by unfold Hid; rw [hVL]; simp [vtotal]
  have HVW : Hid (vwhole VL = ps.map pv) := by unfold Hid; rw [hVL, hps]; simp [vwhole, pv]
  have HOK : Hid (∀ p ∈ ps, p.ok w3 w3.heap.size) := by
    unfold Hid
    rw [hps]
    intro p hp
    rcases List.mem_cons.1 hp with rfl | hp
    · exact ⟨HR3.out, Nat.le_refl _, blk_byt HK.out (by omega)⟩
    · exact ((Prs.ok HP.out p hp).below HB03.out).more HB03.out.size
  have HCAT : Hid (cats ps = blk k 54 ++ whole L) := by unfold Hid; rw [hps, ← cats_prt]; simp [cats]
  have HCL : Hid ((cats ps).length ≤ 1099511627776) := by
    unfold Hid
    rw [HCAT.out, List.length_append, blk_len, whole_len HP.out.right]
    have := HTO.out
    omega
  have HPN : Hid (ps.length = 1 + n') := by unfold Hid; rw [hps]; have := HP.out.len; simp; omega
  have HCON := Lib.hid (vconcat_any VL (w3.heap.size + 1) 2 w4.heap.size w4 (by
      rw [hVL]
      intro j hj
      refine cell_of_blk HD4.out ?_
      match j, hj with
      | 0, _ => rfl
      | 1, _ => rfl) (by
      rw [hVL]
      intro p hp
      rcases List.mem_cons.1 hp with rfl | hp
      · exact ⟨(VRow.of_blk (vs := [.slice (some ⟨G2, 0, none⟩) 64 64]) (B := w4.heap.size) HC4.out (by have := HS4.out; omega) rfl (by simp [Value.oneCell'])), fun h => by cases h⟩
      · obtain rfl := List.mem_singleton.1 hp
        exact ⟨(((vrow_prs HP.out).below HB03.out).below (HB34.out.mono HB03.out.size)).more (by have h1 := HB03.out.size; have h2 := HB34.out.size; omega), HNIL.out⟩) (Nat.le_refl _) (by have := HS4.out; omega) (by rw [HVT.out]; omega) (by rw [hVL]; simp))
  rw [HVT.out, HVW.out, show VL.length = 2 by rw [hVL]; rfl] at HCON
  clear hps hVL
  go_wp2_with fail
  rw [HW4.out]
  refine HCON.out.mono ?_
  rintro e5 w5 ⟨v5, rfl, hown5, hb5⟩
  obtain ⟨A5, c5, rfl, -, -⟩ := own_slice hown5
  have HV5 := Lib.hid (VRow.of_own hown5 (pv_one ps))
  have HB35 := Lib.hid (HB34.out.trans (hb5.mono HB34.out.size))
  have HB05 := Lib.hid (HB03.out.trans (HB35.out.mono HB03.out.size))
  have HK5 : Hid (w5.heap[G1]? = some (.cells (bv F).toArray 135 (0, 0))) := (HB35.out.block G1 (by have h1 := HG1.out; have h2 := HG23.out; omega)).trans ((HB3.out.block G1 HG1.out).trans HK1.out)
  have HOK5 : Hid (∀ p ∈ ps, p.ok w5 w3.heap.size) := fun p hp => (HOK.out p hp).below HB35.out
  have HL35 := Lib.hid HB35.out.size
  clear hown5 hb5
  go_wp2_with (with_reducible refine wpList_load_row rfl 135 (.tmp 5) rfl G1 rfl 135 (bv F).toArray (0, 0) _ HK5.out Tryd.underlying135 rfl HI.out ?_)
  refine (combined_any F 92 w5 HFL.out HFB.out (by omega)).mono ?_
  rintro e6 w6 ⟨rfl, hr6, hb6⟩
  rw [HB92.out] at hr6
  have HR6 := Lib.hid hr6
  have HB6 := Lib.hid hb6
  have HB06 := Lib.hid (HB05.out.trans (hb6.mono HB05.out.size))
  have HP6 := Lib.hid (pown_below HV5.out HOK5.out HL35.out hb6)
  have HT6 := Lib.hid (HT.out.below HB06.out HT.out.tab.1)
  clear hr6 hb6
  go_wp2_with fail
  refine (parts_any A5 (1 + n') c5 w6.heap.size ps w6 HP6.out HPN.out (by omega) (Nat.le_refl _) HCL.out HT6.out).mono ?_
  rintro e7 w7 ⟨v7, rfl, hown7, hb7⟩
  rw [show outs (blocks ks hs (pad (cats ps)) ((pad (cats ps)).length / 64)) 8 = sum256 (cats ps) from rfl, HCAT.out] at hown7
  obtain ⟨A7, c7, rfl, hc7, -⟩ := own_slice hown7
  have HR7 : Hid (Row .u8 w7 w7.heap.size A7 32 (sum256 (blk k 54 ++ whole L))) := Row.of_own hown7
  have HB07 := Lib.hid (HB06.out.trans (hb7.mono HB06.out.size))
  have HP8 := Lib.hid (prow_lit (t := 25) (w := w7) (B := w7.heap.size) [⟨some ⟨w5.heap.size, 0, none⟩, 64, 64, blk k 92⟩, ⟨A7, 32, c7, sum256 (blk k 54 ++ whole L)⟩] (by
    intro p hp
    rcases List.mem_cons.1 hp with rfl | hp
    · exact ⟨(HR6.out.below hb7).more hb7.size, Nat.le_refl _, blk_byt HK.out (by omega)⟩
    · obtain rfl := List.mem_singleton.1 hp
      exact ⟨HR7.out, hc7, sum256_byt _⟩) (Nat.le_refl _))
  have HB78 : Hid (Below w.heap.size w (w7.alloc (.cells #[.slice (some ⟨w5.heap.size, 0, none⟩) 64 64, .slice A7 32 c7] 25))) := HB07.out.alloc HB07.out.size _
  have HT8 := Lib.hid (HT.out.below HB78.out HT.out.tab.1)
  have HCAT8 : Hid (cats [⟨some ⟨w5.heap.size, 0, none⟩, 64, 64, blk k 92⟩, ⟨A7, 32, c7, sum256 (blk k 54 ++ whole L)⟩] = blk k 92 ++ sum256 (blk k 54 ++ whole L)) := by unfold Hid; simp [cats]
  have HCL8 : Hid ((cats [⟨some ⟨w5.heap.size, 0, none⟩, 64, 64, blk k 92⟩, ⟨A7, 32, c7, sum256 (blk k 54 ++ whole L)⟩]).length ≤ 1099511627776) := by
    unfold Hid
    rw [HCAT8.out, List.length_append, blk_len, sum256_len]
    omega
  have HMAC : Hid (sum256 (blk k 92 ++ sum256 (blk k 54 ++ whole L)) = mac k (whole L)) := rfl
  clear hown7 hb7 hc7
  go_wp2_with fail
  refine (parts_any (some ⟨w7.heap.size, 0, none⟩) 2 2 (w7.heap.size + 1) [⟨some ⟨w5.heap.size, 0, none⟩, 64, 64, blk k 92⟩, ⟨A7, 32, c7, sum256 (blk k 54 ++ whole L)⟩] _ HP8.out rfl (by omega) (by simp) HCL8.out HT8.out).mono ?_
  rintro e9 w9 ⟨v9, rfl, hown9, hb9⟩
  rw [HCAT8.out] at hown9
  rw [show outs (blocks ks hs (pad (blk k 92 ++ sum256 (blk k 54 ++ whole L))) ((pad (blk k 92 ++ sum256 (blk k 54 ++ whole L))).length / 64)) 8 = mac k (whole L) from rfl] at hown9
  have HO9 := Lib.hid (own_low hown9 HB78.out.size)
  have HB9 := Lib.hid (HB78.out.trans (hb9.mono HB78.out.size))
  clear hown9 hb9
  go_wp2
  go_ret
  exact ⟨_, rfl, HO9.out, HB9.out⟩

/-- A row of slices as parts. -/
theorem prs_vrow {w : World} {B n : Nat} {A : Option Addr} {L : List Part} (h : VRow w B A n ((L.map prt).map pv)) (hr : ∀ p ∈ L, p.Right w B) (hb : ∀ p ∈ L, p.n ≤ p.c ∧ ∀ x ∈ p.xs, 0 ≤ x ∧ x ≤ 255) : Prs w B A n L := by
  have hl := h.len
  rw [List.length_map, List.length_map] at hl
  refine ⟨hl, fun hn => ?_, hr, hb⟩
  obtain ⟨b, o, e, h1, h2⟩ := h.at_ hn
  refine ⟨b, o, e, h1, fun j hj => h2 j _ ?_⟩
  simp [hj, pv, prt, Part.v]

set_option maxHeartbeats 1600000 in
set_option maxRecDepth 100000 in
theorem derive_any (A A' : Option Addr) (n c n' c' : Nat) (k : List Int) (s : ByteArray) (L : List Part) (w : World) (h : Row .u8 w w.heap.size A n k) (hc : n ≤ c) (hk : ∀ x ∈ k, 0 ≤ x ∧ x ≤ 255) (hp : Prs w w.heap.size A' n' L) (hnil' : A' = none → c' = 0) (hn : n ≤ 100000) (hs : s.size ≤ 100000) (hn' : n' ≤ 100000) (ht : total L ≤ 100000) (hT : Lay w) :
    Calls Tryd.prog 56 #[.slice A n c, .string s, .slice A' n' c'] w fun e w' => ∃ v, e = .returned v ∧ w'.ownsRow w.heap.size 5 1 v 32 ((mac k (sby s ++ 0 :: whole L)).map (Value.int .u8)) ∧ Below w.heap.size w w' := by
  have H := Lib.hid h
  have HK := Lib.hid hk
  have HNC := Lib.hid hc
  have HP := Lib.hid hp
  have HNIL := Lib.hid hnil'
  have HTO := Lib.hid ht
  have HT := Lib.hid hT
  have kc := fun (w : World) => run_bytes_of_string (P := Tryd.prog) w 9 25 5 s Tryd.underlying9 Tryd.underlying25 Tryd.underlying5
  have hm0 := mine_bytes w 5 s (by omega)
  have hb0 := (Below.refl w.heap.size w).drew.alloc (Nat.le_refl _) (.cells (bytesRow s (grownCap w s.size 0 5)) 5 ((bytesRow s (grownCap w s.size 0 5)).size, (bytesRow s (grownCap w s.size 0 5)).size + 1))
  obtain ⟨cap, hcap⟩ : ∃ cap, grownCap w s.size 0 5 = cap := ⟨_, rfl⟩
  have kc0 := kc w
  rw [hcap] at hm0 hb0 kc0
  obtain ⟨O, hO⟩ : ∃ O, Obj.cells (bytesRow s cap) 5 ((bytesRow s cap).size, (bytesRow s cap).size + 1) = O := ⟨_, rfl⟩
  rw [hO] at hm0 hb0 kc0
  obtain ⟨w4, hw4⟩ : ∃ w4, ((((w.alloc O).alloc (.cells #[.int .u8 0] 5)).alloc (.cells #[.slice (some ⟨w.heap.size, 0, none⟩) s.size cap, .slice (some ⟨w.heap.size + 1, 0, none⟩) 1 1] 25)).alloc (.cells #[.slice (some ⟨w.heap.size + 1 + 1, 0, none⟩) 2 2, .slice A' n' c'] 55)).drew = w4 := ⟨_, rfl⟩
  have HS4 : Hid (w4.heap.size = w.heap.size + 1 + 1 + 1 + 1) := by unfold Hid; rw [← hw4]; simp
  have HB4 : Hid (Below w.heap.size w w4) := by unfold Hid; rw [← hw4]; exact (((hb0.alloc (by simp) _).alloc (by simp; omega) _).alloc (by simp; omega) _)
  have HN4 : Hid (Row .u8 w4 w4.heap.size (some ⟨w.heap.size, 0, none⟩) s.size (sby s)) := by
    unfold Hid
    rw [← hw4]
    have hb1 : Below (w.drew.alloc O).heap.size (w.drew.alloc O) ((((w.drew.alloc O).alloc (.cells #[.int .u8 0] 5)).alloc (.cells #[.slice (some ⟨w.heap.size, 0, none⟩) s.size cap, .slice (some ⟨w.heap.size + 1, 0, none⟩) 1 1] 25)).alloc (.cells #[.slice (some ⟨w.heap.size + 1 + 1, 0, none⟩) 2 2, .slice A' n' c'] 55)) := (((Below.refl _ _).alloc (Nat.le_refl _) _).alloc (by simp) _).alloc (by simp <;> omega) _
    exact (hm0.row.below hb1).more hb1.size
  have HZ4 : Hid (w4.heap[w.heap.size + 1]? = some (.cells #[.int .u8 0] 5 (0, 0))) := by
    unfold Hid
    rw [← hw4]
    show ((((w.alloc O).alloc (.cells #[.int .u8 0] 5)).alloc _).alloc _).heap[w.heap.size + 1]? = _
    rw [heap_alloc_old _ _ (by simp <;> omega), heap_alloc_old _ _ (by simp <;> omega)]
    exact heap_alloc2_new w O _
  have HC4 : Hid (w4.heap[w.heap.size + 1 + 1]? = some (.cells #[.slice (some ⟨w.heap.size, 0, none⟩) s.size cap, .slice (some ⟨w.heap.size + 1, 0, none⟩) 1 1] 25 (0, 0))) := by
    unfold Hid
    rw [← hw4]
    show ((((w.alloc O).alloc (.cells #[.int .u8 0] 5)).alloc _).alloc _).heap[w.heap.size + 1 + 1]? = _
    rw [heap_alloc_old _ _ (by simp)]
    exact Sha.heap3 w _ _ _
  have HD4 : Hid (w4.heap[w.heap.size + 1 + 1 + 1]? = some (.cells #[.slice (some ⟨w.heap.size + 1 + 1, 0, none⟩) 2 2, .slice A' n' c'] 55 (0, 0))) := by
    unfold Hid
    rw [← hw4]
    have e : (((w.alloc O).alloc (.cells #[.int .u8 0] 5)).alloc (.cells #[.slice (some ⟨w.heap.size, 0, none⟩) s.size cap, .slice (some ⟨w.heap.size + 1, 0, none⟩) 1 1] 25)).heap.size = w.heap.size + 1 + 1 + 1 := by simp
    rw [← e]
    exact heap_alloc_new _ _
  have HCAP : Hid (s.size ≤ cap) := by unfold Hid; rw [← hcap]; exact grownCap_ge w s.size 0 5
  obtain ⟨LL, hLL⟩ : ∃ LL, LL = (⟨some ⟨w.heap.size, 0, none⟩, s.size, cap, sby s⟩ : Part) :: ⟨some ⟨w.heap.size + 1, 0, none⟩, 1, 1, [0]⟩ :: L := ⟨_, rfl⟩
  obtain ⟨VL, hVL⟩ : ∃ VL, VL = [(⟨some ⟨w.heap.size + 1 + 1, 0, none⟩, 2, 2, [.slice (some ⟨w.heap.size, 0, none⟩) s.size cap, .slice (some ⟨w.heap.size + 1, 0, none⟩) 1 1]⟩ : VPart), ⟨A', n', c', (L.map prt).map pv⟩] := ⟨_, rfl⟩
  have HVT : Hid (vtotal VL = 2 + n') := by unfold Hid; rw [hVL]; simp [vtotal]
  have HVW : Hid (vwhole VL = (LL.map prt).map pv) := by unfold Hid; rw [hVL, hLL]; simp [vwhole, pv, prt]
  have HRI : Hid (∀ p ∈ LL, p.Right w4 w4.heap.size) := by
    unfold Hid
    rw [hLL]
    intro p hp
    rcases List.mem_cons.1 hp with rfl | hp
    · exact ⟨HN4.out, fun h => by cases h⟩
    · rcases List.mem_cons.1 hp with rfl | hp
      · refine ⟨⟨rfl, fun _ => ⟨w.heap.size + 1, 0, rfl, by have := HS4.out; omega, fun j hj => ?_⟩⟩, fun h => by cases h⟩
        obtain rfl : j = 0 := by simp at hj; omega
        exact cell_of_blk HZ4.out rfl
      · exact ⟨((HP.out.right p hp).1.below HB4.out).more HB4.out.size, (HP.out.right p hp).2⟩
  have HBY : Hid (∀ p ∈ LL, p.n ≤ p.c ∧ ∀ x ∈ p.xs, 0 ≤ x ∧ x ≤ 255) := by
    unfold Hid
    rw [hLL]
    intro p hp
    rcases List.mem_cons.1 hp with rfl | hp
    · exact ⟨HCAP.out, sby_byt s⟩
    · rcases List.mem_cons.1 hp with rfl | hp
      · exact ⟨Nat.le_refl _, by simp⟩
      · exact HP.out.byt p hp
  have HWH : Hid (whole LL = sby s ++ 0 :: whole L) := by unfold Hid; rw [hLL]; simp [whole]
  have HTL : Hid (total LL ≤ 1000000) := by
    unfold Hid
    rw [hLL]
    have h1 := HTO.out
    unfold total at *
    simp only [List.map_cons, List.sum_cons]
    omega
  have HCON := Lib.hid (vconcat_any VL (w.heap.size + 1 + 1 + 1) 2 w4.heap.size w4 (by
      rw [hVL]
      intro j hj
      refine cell_of_blk HD4.out ?_
      match j, hj with
      | 0, _ => rfl
      | 1, _ => rfl) (by
      rw [hVL]
      intro p hp
      rcases List.mem_cons.1 hp with rfl | hp
      · exact ⟨(VRow.of_blk (vs := [.slice (some ⟨w.heap.size, 0, none⟩) s.size cap, .slice (some ⟨w.heap.size + 1, 0, none⟩) 1 1]) (B := w4.heap.size) HC4.out (by have := HS4.out; omega) rfl (by simp [Value.oneCell'])), fun h => by cases h⟩
      · obtain rfl := List.mem_singleton.1 hp
        exact ⟨((vrow_prs HP.out).below HB4.out).more HB4.out.size, HNIL.out⟩) (Nat.le_refl _) (by have := HS4.out; omega) (by rw [HVT.out]; omega) (by rw [hVL]; simp))
  rw [HVT.out, HVW.out, show VL.length = 2 by rw [hVL]; rfl] at HCON
  have HW4 := Lib.hid hw4
  clear kc hcap hO h hc hk hp hnil' ht hT hm0 hb0 hw4 hLL hVL
  go_enter Tryd.func56, Tryd.ntmps56
  go_wp2_with fail
  rw [HW4.out]
  refine HCON.out.mono ?_
  rintro e5 w5 ⟨v5, rfl, hown5, hb5⟩
  obtain ⟨A5, c5, rfl, -, hnil5⟩ := own_slice hown5
  have HP5 : Hid (Prs w5 w5.heap.size A5 (2 + n') LL) := prs_vrow (VRow.of_own hown5 (pv_one _)) (fun p hp => ⟨((HRI.out p hp).1.below hb5).more hb5.size, (HRI.out p hp).2⟩) HBY.out
  have HB5 := Lib.hid (HB4.out.trans (hb5.mono HB4.out.size))
  have HNIL5 := Lib.hid hnil5
  have H5 := Lib.hid ((H.out.below HB5.out).more HB5.out.size)
  have HT5 := Lib.hid (HT.out.below HB5.out HT.out.tab.1)
  clear hown5 hb5 hnil5
  go_wp2_with fail
  refine (tag_any A A5 n c (2 + n') c5 k LL w5 H5.out HNC.out HK.out HP5.out HNIL5.out (by omega) (by omega) HTL.out HT5.out).mono ?_
  rintro e6 w6 ⟨v6, rfl, hown6, hb6⟩
  rw [HWH.out] at hown6
  have HO6 := Lib.hid (own_low hown6 HB5.out.size)
  have HB6 := Lib.hid (HB5.out.trans (hb6.mono HB5.out.size))
  clear hown6 hb6
  go_wp2
  go_ret
  exact ⟨_, rfl, HO6.out, HB6.out⟩
end Go.Proofs.YtppbpmmfcoblmaaDoor.Hmc

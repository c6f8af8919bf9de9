/- Lemmas that the proof stands on, in build order: ChC. -/
import Derived.RegionTactic
import Derived.Test.YtppbpmmfcoblmaaDoorJ217febdc
/- Layer 11 (challenge): the reference's Check, as a contract. -/
namespace Go.Proofs.YtppbpmmfcoblmaaDoor.Chl
open Go.RowKit Var Fld Frm Sha Hmc Rg Tok

theorem aAt_range (C : List Int) : 0 ≤ aAt C ∧ aAt C ≤ 1099511627776 := by
  unfold aAt rv1 val nxt
  simp only
  by_cases h1 : (take 0 0 C).2.2 ≠ 0
  · rw [if_pos h1]; simp [h1]
  · rw [if_neg h1]
    by_cases h2 : abv (take 0 0 C).1 1099511627776 = true
    · rw [if_pos h2]; simp
    · rw [if_neg h2]
      have h3 := abv_no (by simpa using h2)
      simp
      omega
theorem aTag_len {C : List Int} {m : Nat} (h : C.length ≤ m) : (aTag C).length ≤ m := by
  have h1 : (a1 C).1.length ≤ C.length := by
    unfold a1 rd1 after
    repeat' split
    all_goals first
      | exact Nat.le_refl _
      | (simp only [List.length_drop]; omega)
  unfold aTag vals
  split
  · exact Nat.zero_le _
  · unfold nxl
    repeat' split
    all_goals first
      | exact Nat.zero_le _
      | (simp only [List.length_take, List.length_drop]; omega)
theorem device_fst (E : List Kl) (b : List Int) : (device E b).1.length ≤ 32 ∧ ∀ x ∈ (device E b).1, 0 ≤ x ∧ x ≤ 255 := by
  unfold device
  split
  · simp
  · split
    · simp
    · split
      · simp
      · exact ⟨Nat.le_of_eq (devK_len _ _), devK_byt _ _⟩
section
variable {v : T × Nat} {er dn : Nat} {at_ nw sl : Int} {same : Bool}
theorem chkF_1 : chkF false v er dn at_ same nw sl = (T.zero, 2) := by simp [chkF]
theorem chkF_2 (h : v.2 ≠ 0) : chkF true v er dn at_ same nw sl = (T.zero, v.2) := by simp [chkF, h]
theorem chkF_3 (h0 : v.2 = 0) (h : er ≠ 0) : chkF true v er dn at_ same nw sl = (T.zero, er) := by simp [chkF, h0, h]
theorem chkF_4 (h0 : v.2 = 0) (h : dn ≠ 0) : chkF true v 0 dn at_ same nw sl = (T.zero, dn) := by simp [chkF, h0, h]
theorem chkF_5 (h0 : v.2 = 0) (h : sl < at_ - nw ∨ sl < nw - at_) : chkF true v 0 0 at_ same nw sl = (T.zero, 22) := by simp [chkF, h0, h]
theorem chkF_6 (h0 : v.2 = 0) (h : ¬ (sl < at_ - nw ∨ sl < nw - at_)) : chkF true v 0 0 at_ false nw sl = (T.zero, 21) := by simp [chkF, h0, h]
theorem chkF_7 (h0 : v.2 = 0) (h : ¬ (sl < at_ - nw ∨ sl < nw - at_)) : chkF true v 0 0 at_ true nw sl = (v.1, 0) := by simp [chkF, h0, h]
end

/-- In the reference's Check: the ring's block, the result's, the block of no token. -/
structure Cx (w0 : World) (keep : Int) (A : Option Addr) (n c : Nat) (w' : World) : Prop where
  ring : w'.heap[w0.heap.size]? = some (.cells #[.int .i64 keep, .slice A n c] 24 (0, 0))
  res : w'.heap[w0.heap.size + 1]? = some (.cells T.zero.cells 41 (0, 0))
  non : w'.heap[w0.heap.size + 1 + 1]? = some (.cells T.zero.cells 41 (0, 0))
  bel : Below w0.heap.size w0 w'
section
variable {w0 w1 w2 : World} {keep : Int} {A : Option Addr} {n c : Nat}
theorem Cx.lt (h : Cx w0 keep A n c w1) : w0.heap.size + 1 + 1 < w1.heap.size := (Array.getElem?_eq_some_iff.1 h.non).1
theorem Cx.below (h : Cx w0 keep A n c w1) (hb : Below w1.heap.size w1 w2) : Cx w0 keep A n c w2 :=
  have hl := h.lt
  ⟨(hb.block _ (by omega)).trans h.ring, (hb.block _ (by omega)).trans h.res, (hb.block _ hl).trans h.non, h.bel.trans (hb.mono h.bel.size)⟩
theorem Cx.only {M : Nat → Prop} (h : Cx w0 keep A n c w1) (ho : Only M w1 w2) (hM : ∀ k, k ≤ w0.heap.size + 1 + 1 → ¬ M k) : Cx w0 keep A n c w2 :=
  ⟨ho.at h.ring (hM _ (by omega)), ho.at h.res (hM _ (by omega)), ho.at h.non (hM _ (Nat.le_refl _)), h.bel.trans (ho.below h.bel.size (fun k hk => by
    rcases Nat.lt_or_ge k w0.heap.size with h3 | h3
    · exact absurd hk (hM k (by omega))
    · exact h3))⟩
theorem Cx.like (h : Cx w0 keep A n c w1) (hl : Like w1 w2) : Cx w0 keep A n c w2 :=
  ⟨by rw [hl.heap]; exact h.ring, by rw [hl.heap]; exact h.res, by rw [hl.heap]; exact h.non, h.bel.trans ⟨hl.os, hl.tape, hl.output, by rw [hl.heap]; exact Nat.le_refl _, fun k _ => by rw [hl.heap]⟩⟩
theorem Cx.new : Cx w0 keep A n c (((w0.alloc (.cells #[.int .i64 keep, .slice A n c] 24)).alloc (.cells T.zero.cells 41)).alloc (.cells T.zero.cells 41)) := by
  have s1 : (w0.alloc (.cells #[.int .i64 keep, .slice A n c] 24)).heap.size = w0.heap.size + 1 := by simp
  have s2 : ((w0.alloc (.cells #[.int .i64 keep, .slice A n c] 24)).alloc (.cells T.zero.cells 41)).heap.size = w0.heap.size + 1 + 1 := by simp
  have h1 : (w0.alloc (.cells #[.int .i64 keep, .slice A n c] 24)).heap[w0.heap.size]? = some (.cells #[.int .i64 keep, .slice A n c] 24 (0, 0)) := heap_alloc_new w0 _
  have b1 : Below w0.heap.size w0 (w0.alloc (.cells #[.int .i64 keep, .slice A n c] 24)) := (Below.refl _ _).alloc (Nat.le_refl _) _
  generalize w0.alloc (.cells #[.int .i64 keep, .slice A n c] 24) = y1 at *
  have h2 : (y1.alloc (.cells T.zero.cells 41)).heap[y1.heap.size]? = some (.cells T.zero.cells 41 (0, 0)) := heap_alloc_new y1 _
  have b2 : Below y1.heap.size y1 (y1.alloc (.cells T.zero.cells 41)) := (Below.refl _ _).alloc (Nat.le_refl _) _
  generalize y1.alloc (.cells T.zero.cells 41) = y2 at *
  have h3 : (y2.alloc (.cells T.zero.cells 41)).heap[y2.heap.size]? = some (.cells T.zero.cells 41 (0, 0)) := heap_alloc_new y2 _
  have b3 : Below y2.heap.size y2 (y2.alloc (.cells T.zero.cells 41)) := (Below.refl _ _).alloc (Nat.le_refl _) _
  generalize y2.alloc (.cells T.zero.cells 41) = y3 at *
  rw [s1] at h2
  rw [s2] at h3
  exact ⟨(b3.block _ (by omega)).trans ((b2.block _ (by omega)).trans h1), (b3.block _ (by omega)).trans h2, h3, b1.trans ((b2.mono (by omega)).trans (b3.mono (by omega)))⟩
end
theorem rfr_heap {w w' : World} {g N n c at_ e : Nat} {A : Option Addr} {bs : List Int} (h : Rfr w g N A n c bs at_ e) (hx : w'.heap = w.heap) : Rfr w' g N A n c bs at_ e := by
  refine ⟨⟨by rw [hx]; exact h.rf.blk⟩, ?_, h.low, h.nc, h.le, h.nil, h.byt, h.len⟩
  refine ⟨h.row.1, fun h0 => ?_⟩
  obtain ⟨b1, o1, e1, h2, h3⟩ := h.row.2 h0
  exact ⟨b1, o1, e1, h2, fun j hj => (World.cell?_of_block (w := w) (by rw [hx])).trans (h3 j hj)⟩
theorem refnum_from {w : World} {g N n c at_ : Nat} {A : Option Addr} {C : List Int} {s : List Int × Nat} (h : Rfr w g N A n c C at_ s.2) (hd : C.drop at_ = s.1) (most : Int) (h1 : -9223372036854775808 ≤ most) (h2 : most ≤ 9223372036854775807) :
    Calls Tryd.prog 43 #[.pointer (some ⟨g, 0, none⟩), .int .i64 most] w fun r w' => r = .returned (.int .i64 (rv1 s most)) ∧ (∃ at', Rfr w' g N A n c C at' (rd1 s most).2 ∧ C.drop at' = (rd1 s most).1) ∧ Only (fun k => k = g) w w' := by
  refine (refnum_any g N n c at_ s.2 A C most w h h1 h2).mono ?_
  rintro r w' ⟨rfl, ⟨at1, hf, hd1⟩, ho⟩
  rw [hd] at hf hd1 ⊢
  exact ⟨rfl, ⟨at1, hf, hd1⟩, ho⟩
theorem refbytes_from {w : World} {g N n c at_ : Nat} {A : Option Addr} {C : List Int} {s : List Int × Nat} (h : Rfr w g N A n c C at_ s.2) (hd : C.drop at_ = s.1) (most : Int) (h1 : -9223372036854775808 ≤ most) (h2 : most ≤ 9223372036854775807) :
    Calls Tryd.prog 44 #[.pointer (some ⟨g, 0, none⟩), .int .i64 most] w fun r w' => ∃ v, r = .returned v ∧ w'.ownsRow w.heap.size 5 1 v (vals s.2 (nxl s.1 most)).length ((vals s.2 (nxl s.1 most)).map (Value.int .u8)) ∧
      (∃ at', Rfr w' g N A n c C at' (after s.1 s.2 (nxl s.1 most).2.1 (nxl s.1 most).2.2).2 ∧ ((after s.1 s.2 (nxl s.1 most).2.1 (nxl s.1 most).2.2).2 = 0 → C.drop at' = (after s.1 s.2 (nxl s.1 most).2.1 (nxl s.1 most).2.2).1)) ∧ Only (fun k => k = g) w w' := by
  refine (reflist_any g N n c at_ s.2 A C most w h h1 h2).mono ?_
  rintro r w' ⟨v, rfl, hown, ⟨at1, hf, hd1⟩, ho⟩
  rw [hd] at hown hf hd1
  exact ⟨v, rfl, hown, ⟨at1, hf, hd1⟩, ho⟩

set_option maxHeartbeats 6400000 in
set_option maxRecDepth 100000 in
theorem refcheck_any (keep nw sl : Int) (A A' Aq Aa : Option Addr) (n c n' c' nq cq na ca : Nat) (K : List Kp) (b q a : List Int) (w : World) (h : KRow w w.heap.size A n K) (hn : n ≤ 4398046511104) (hk100 : ∀ k ∈ K, k.p.n ≤ 100)
    (h' : Row .u8 w w.heap.size A' n' b) (hnil' : A' = none → c' = 0) (hb : Byt b) (hn' : n' ≤ 1000000) (hc' : n' ≤ c') (hcm' : c' ≤ maxLen)
    (hq : Row .u8 w w.heap.size Aq nq q) (hnilq : Aq = none → cq = 0) (hqb : Byt q) (hnq : nq ≤ 1000000)
    (ha : Row .u8 w w.heap.size Aa na a) (hab : Byt a) (hna : na ≤ 4398046511104) (hca : na ≤ ca) (hcma : ca ≤ maxLen) :
    Calls Tryd.prog 15 #[.agg #[.int .i64 keep, .slice A n c], .slice A' n' c', .slice Aq nq cq, .slice Aa na ca, .int .i64 nw, .int .i64 sl] w (VerTo w (check (ls K) b q a nw sl)) := by
  have H := Lib.hid h
  have HH := Lib.hid h'
  have HQ := Lib.hid hq
  have HA := Lib.hid ha
  have H100 := Lib.hid hk100
  obtain ⟨w2, hw2⟩ : ∃ w2, ((w.alloc (.cells #[.int .i64 keep, .slice A n c] 24)).alloc (.cells T.zero.cells 41)).alloc (.cells T.zero.cells 41) = w2 := ⟨_, rfl⟩
  have hcx : Cx w keep A n c w2 := by rw [← hw2]; exact Cx.new
  have HC2 := Lib.hid hcx
  have HW2 := Lib.hid hw2
  have HNIL := Lib.hid hnil'
  have HNILQ := Lib.hid hnilq
  have HBY := Lib.hid hb
  have HQY := Lib.hid hqb
  have HAY := Lib.hid hab
  have HCM := Lib.hid (And.intro hc' hcm')
  have HCA := Lib.hid (And.intro hca hcma)
  have HMY := Lib.hid (refmay_any Aq nq cq q nw w2 hq.1)
  have HVE := Lib.hid (refverify_any keep nw A A' n c n' c' K b w2 ((h.below hcx.bel).more hcx.bel.size) hn hk100 ((h'.below hcx.bel).more hcx.bel.size) hb (by omega) hc' hcm')
  have HCB := Lib.hid (wholly_byt (k := 6) hab)
  have HCL : Hid ((wholly 6 a).1.length ≤ 4398046511104) := by
    unfold Hid
    have := wholly_len 6 a
    omega
  have HWH := fun wx h1 => Lib.hid (refwhole_any 6 Aa na ca a wx h1 hab hna hca hcma)
  have HDV := fun wx h1 h2 => Lib.hid (refdevice_any keep A A' n c n' c' K b wx h1 hn hk100 h2 hnil' hb hn' hc' hcm')
  have HDF := Lib.hid (device_fst (ls K) b)
  obtain ⟨r, hr⟩ : ∃ r, r = check (ls K) b q a nw sl := ⟨_, rfl⟩
  rw [← hr]
  unfold check at hr
  obtain ⟨v, hv⟩ : ∃ v, v = verify (ls K) b nw := ⟨_, rfl⟩
  obtain ⟨y, hy⟩ : ∃ y, y = wholly 6 a := ⟨_, rfl⟩
  obtain ⟨dv, hdv⟩ : ∃ dv, dv = device (ls K) b := ⟨_, rfl⟩
  rw [← hv, ← hy, ← hdv] at hr
  rw [← hv] at HVE
  rw [← hy] at HCB HCL HWH
  rw [← hdv] at HDF HDV
  obtain ⟨⟨v0, v1, v2, v3, v4, v5⟩, ve⟩ := v
  obtain ⟨C, er⟩ := y
  simp only at hr HCB HCL
  obtain ⟨x, hx⟩ : ∃ x, x = aAt C := ⟨_, rfl⟩
  obtain ⟨tg, htg⟩ : ∃ tg, tg = aTag C := ⟨_, rfl⟩
  obtain ⟨dn, hdn⟩ : ∃ dn, dn = aDn C := ⟨_, rfl⟩
  have HXR : Hid (0 ≤ x ∧ x ≤ 1099511627776) := by rw [hx]; exact aAt_range C
  have HX := Lib.hid hx
  have HTG := Lib.hid htg
  have HDN := Lib.hid hdn
  rw [← hx, ← htg, ← hdn] at hr
  have HR := Lib.hid hr
  have I6 : Hid ((Tryd.prog.info? 41).map (·.size) = some T.zero.cells.size) := infoT
  clear h hk100 hw2 h' hb hc' hcm' hr hv hy hdv hx htg hdn hnil' hcx hq ha hab hqb hnilq hca hcma
  go_enter Tryd.func15, Tryd.ntmps15
  go_wp2_with fail
  refine Calls.mono (by have h1 := HMY.out; rw [← HW2.out] at h1; exact h1) ?_
  rintro e1 w1 ⟨rfl, hw1⟩
  rw [HW2.out] at hw1
  rw [hw1]
  clear hw1 HW2
  by_cases hok : may q nw
  · rw [decide_eq_true hok]
    have HOK := Lib.hid hok
    clear hok
    by_cases hs : sl < 0
    · have hd : decide (sl < 0) = true := decide_eq_true hs
      have HRE : Hid (r = (T.zero, 2)) := by have h1 := HR.out; rw [decide_eq_false (fun hh => by have := hh.2; omega), chkF_1] at h1; exact h1
      clear hs
      go_wp2_with (first
        | ((with_reducible show wpList _ _ _ _ _ _); (refine wpList_load_row rfl 41 (.tmp 14) rfl (w.heap.size + 1 + 1) rfl 41 T.zero.cells (0, 0) _ HC2.out.non Tryd.underlying41 rfl I6.out ?_))
        | ((with_reducible show wpList _ _ _ _ _ _); (refine wpList_store_row rfl 41 (.tmp 12) (.tmp 32) rfl (w.heap.size + 1) T.zero.cells rfl rfl 41 _ HC2.out.res I6.out rfl (cellsT _) ?_)))
      refine bodyPost_ret (results_cell_one rfl _ _ (w.heap.size + 1) T.zero.cells rfl (run_loadVar_row _ _ 41 41 _ (0, 0) _ (setRow_heap _ _ _ _ _ _ HC2.out.res) Tryd.underlying41 rfl I6.out)) rfl ?_
      rw [HRE.out]
      exact ⟨rfl, below_setRow HC2.out.bel (Nat.le_succ _) _⟩
    · have hd : decide (sl < 0) = false := decide_eq_false hs
      have h1 := HR.out
      rw [decide_eq_true ⟨HOK.out, by omega⟩] at h1
      have HR2 := Lib.hid h1
      have g0 : w2.cell? ⟨w.heap.size, 0, none⟩ = some (.int .i64 keep) := cell_of_blk HC2.out.ring rfl
      have g1 : w2.cell? ⟨w.heap.size, 1, none⟩ = some (.slice A n c) := cell_of_blk HC2.out.ring rfl
      clear h1 HR hs
      go_wp2_with fail
      refine HVE.out.mono ?_
      rintro e3 w3 ⟨rfl, hb3⟩
      have HC3 := Lib.hid (HC2.out.below hb3)
      clear hb3 g0 g1 hd HC2 HVE
      unfold T.val
      have eU : (⟨v0, v1, v2, v3, v4, v5⟩ : T).cells = #[.int .i64 v0, .int .i64 v1, .int .i64 v2, .int .i64 v3, .int .i64 v4, .int .i64 v5] := rfl
      rw [eU]
      obtain ⟨w4, hw4⟩ : ∃ w4, w3.alloc (.cells #[.int .i64 v0, .int .i64 v1, .int .i64 v2, .int .i64 v3, .int .i64 v4, .int .i64 v5] 41) = w4 := ⟨_, rfl⟩
      have hal : Below w3.heap.size w3 w4 := by rw [← hw4]; exact (Below.refl _ _).alloc (Nat.le_refl _) _
      have HT4 : Hid (w4.heap[w3.heap.size]? = some (.cells #[.int .i64 v0, .int .i64 v1, .int .i64 v2, .int .i64 v3, .int .i64 v4, .int .i64 v5] 41 (0, 0))) := by unfold Hid; rw [← hw4]; exact heap_alloc_new w3 _
      have HC4 := Lib.hid (HC3.out.below hal)
      have HW4 := Lib.hid hw4
      have HLG : Hid (w.heap.size + 1 + 1 < w3.heap.size) := HC3.out.lt
      clear hal eU hw4
      by_cases hve : ve = 0
      · subst hve
        have HWH4 := HWH w4 ((HA.out.below HC4.out.bel).more HC4.out.bel.size)
        clear HWH
        go_wp2_with fail
        rw [HW4.out]
        refine HWH4.out.mono ?_
        rintro e5 w5 ⟨A1, c1, rfl, hr5, hb5, hfit⟩
        simp only at hr5 hfit
        have HC5 := Lib.hid (HC4.out.below hb5)
        have HT5 : Hid (w5.heap[w3.heap.size]? = some (.cells #[.int .i64 v0, .int .i64 v1, .int .i64 v2, .int .i64 v3, .int .i64 v4, .int .i64 v5] 41 (0, 0))) := (hb5.block _ (Array.getElem?_eq_some_iff.1 HT4.out).1).trans HT4.out
        have HLW : Hid (w3.heap.size < w4.heap.size) := (Array.getElem?_eq_some_iff.1 HT4.out).1
        have HR5 : Hid (Row .u8 w5 w4.heap.size A1 C.length C) := hr5
        have HF := Lib.hid hfit
        have HS5 := Lib.hid hb5.size
        clear hr5 hb5 hfit HWH4 HW4 HC3 HC4 HT4
        generalize w3.heap.size = G at *
        generalize w4.heap.size = N4 at *
        by_cases her : er = 0
        · subst her
          have HRD := Lib.hid (refread_any A1 C.length c1 C N4 w5 HR5.out HS5.out HF.out.2 HF.out.1 HCL.out HCB.out)
          go_wp2_with fail
          refine HRD.out.mono ?_
          rintro e6 w6 ⟨rfl, hrf6, hb6⟩
          have HC6 := Lib.hid (HC5.out.below hb6)
          have HGG : Hid (G < w5.heap.size ∧ N4 ≤ w5.heap.size) := ⟨(Array.getElem?_eq_some_iff.1 HT5.out).1, HS5.out⟩
          have HT6 : Hid (w6.heap[G]? = some (.cells #[.int .i64 v0, .int .i64 v1, .int .i64 v2, .int .i64 v3, .int .i64 v4, .int .i64 v5] 41 (0, 0))) := (hb6.block _ HGG.out.1).trans HT5.out
          have HNX := Lib.hid (refnum_from (s := (C, 0)) hrf6 rfl 1099511627776 (by omega) (by omega))
          clear hrf6 hb6 HRD HC5 HT5 HR5
          generalize w5.heap.size = g at *
          go_wp2_with fail
          refine HNX.out.mono ?_
          rintro e7 w7 ⟨rfl, ⟨at7, hrf7, hd7⟩, ho7⟩
          rw [show rv1 (C, 0) 1099511627776 = x from HX.out.symm]
          have HC7 := Lib.hid (HC6.out.only ho7 (fun k hk e => by have h1 := HGG.out; have h2 := HLG.out; omega))
          have HT7 : Hid (w7.heap[G]? = some (.cells #[.int .i64 v0, .int .i64 v1, .int .i64 v2, .int .i64 v3, .int .i64 v4, .int .i64 v5] 41 (0, 0))) := ho7.at HT6.out (by have := HGG.out.1; omega)
          have HBX := Lib.hid (refbytes_from (s := a1 C) hrf7 hd7 32 (by omega) (by omega))
          clear hrf7 hd7 ho7 HNX HC6 HT6
          go_wp2_with fail
          refine HBX.out.mono ?_
          rintro e8 w8 ⟨v8, rfl, hown8, ⟨at8, hrf8, hd8⟩, ho8⟩
          rw [show vals (a1 C).2 (nxl (a1 C).1 32) = tg from HTG.out.symm] at hown8
          obtain ⟨A8, c8, rfl, -, -⟩ := own_slice hown8
          have HC8 := Lib.hid (HC7.out.only ho8 (fun k hk e => by have h1 := HGG.out; have h2 := HLG.out; omega))
          have HT8 : Hid (w8.heap[G]? = some (.cells #[.int .i64 v0, .int .i64 v1, .int .i64 v2, .int .i64 v3, .int .i64 v4, .int .i64 v5] 41 (0, 0))) := ho8.at HT7.out (by have := HGG.out.1; omega)
          have HR8 : Hid (Row .u8 w8 w8.heap.size A8 tg.length tg) := Row.of_own hown8
          have HD8 : Hid (∀ wx : World, wx.heap = w8.heap → Calls Tryd.prog 45 #[.pointer (some ⟨g, 0, none⟩)] wx fun r w' => r = .returned (.int .i64 (dn : Int)) ∧ Like wx w') := fun wx hx => by
            have h1 := done_next (s := a2 C) (w := wx) (rfr_heap hrf8 hx) hd8
            rw [HDN.out]
            exact h1
          have HTL : Hid (tg.length ≤ 4398046511104) := by
            unfold Hid
            rw [HTG.out]
            exact aTag_len HCL.out
          clear hown8 hrf8 hd8 ho8 HBX HC7 HT7
          go_wp2_with fail
          refine (HD8.out w8 rfl).mono ?_
          rintro e9 w9 ⟨rfl, hl9⟩
          have HC9 := Lib.hid (HC8.out.like hl9)
          have HT9 : Hid (w9.heap[G]? = some (.cells #[.int .i64 v0, .int .i64 v1, .int .i64 v2, .int .i64 v3, .int .i64 v4, .int .i64 v5] 41 (0, 0))) := by unfold Hid; rw [hl9.heap]; exact HT8.out
          have HH9 : Hid (w9.heap = w8.heap) := hl9.heap
          have HR9 : Hid (Row .u8 w9 w9.heap.size A8 tg.length tg) := by
            unfold Hid
            rw [hl9.heap]
            exact ⟨HR8.out.1, fun h0 => by
              obtain ⟨b1, o1, e1, h2, h3⟩ := HR8.out.2 h0
              exact ⟨b1, o1, e1, h2, fun j hj => (World.cell?_of_block (w := w8) (by rw [hl9.heap])).trans (h3 j hj)⟩⟩
          clear hl9 HC8 HT8 HR8
          by_cases hd0 : dn = 0
          · have hdn0 : ((dn : Int) != 0) = false := by rw [hd0]; rfl
            have HR3 : Hid (r = chkF true (⟨v0, v1, v2, v3, v4, v5⟩, 0) 0 0 x (decide (tg = ansT dv.1 q x)) nw sl) := by have h1 := HR2.out; rw [hd0] at h1; exact h1
            have hxr := HXR.out
            have hnr := HOK.out.2
            have m1 : IntKind.i64.wrap (x - nw) = x - nw := IntWalk.i64_in _ ⟨by omega, by omega⟩
            have m2 : IntKind.i64.wrap (nw - x) = nw - x := IntWalk.i64_in _ ⟨by omega, by omega⟩
            clear hd0 HR2
            by_cases hlo : sl < x - nw
            · have hd1 : decide (sl < x - nw) = true := decide_eq_true hlo
              have HRE : Hid (r = (T.zero, 22)) := by have h1 := HR3.out; rw [chkF_5 rfl (.inl hlo)] at h1; exact h1
              clear hlo hxr hnr
              go_wp2_with (first
                | ((with_reducible show wpList _ _ _ _ _ _); (refine wpList_load_row rfl 41 (.tmp 14) rfl (w.heap.size + 1 + 1) rfl 41 T.zero.cells (0, 0) _ HC9.out.non Tryd.underlying41 rfl I6.out ?_))
                | ((with_reducible show wpList _ _ _ _ _ _); (refine wpList_store_row rfl 41 (.tmp 12) (.tmp 77) rfl (w.heap.size + 1) T.zero.cells rfl rfl 41 _ HC9.out.res I6.out rfl (cellsT _) ?_)))
              refine bodyPost_ret (results_cell_one rfl _ _ (w.heap.size + 1) T.zero.cells rfl (run_loadVar_row _ _ 41 41 _ (0, 0) _ (setRow_heap _ _ _ _ _ _ HC9.out.res) Tryd.underlying41 rfl I6.out)) rfl ?_
              rw [HRE.out]
              exact ⟨rfl, below_setRow HC9.out.bel (Nat.le_succ _) _⟩
            by_cases hhi : sl < nw - x
            · have hd1 : decide (sl < x - nw) = false := decide_eq_false hlo
              have hd2 : decide (sl < nw - x) = true := decide_eq_true hhi
              have HRE : Hid (r = (T.zero, 22)) := by have h1 := HR3.out; rw [chkF_5 rfl (.inr hhi)] at h1; exact h1
              clear hlo hhi hxr hnr
              go_wp2_with (first
                | ((with_reducible show wpList _ _ _ _ _ _); (refine wpList_load_row rfl 41 (.tmp 14) rfl (w.heap.size + 1 + 1) rfl 41 T.zero.cells (0, 0) _ HC9.out.non Tryd.underlying41 rfl I6.out ?_))
                | ((with_reducible show wpList _ _ _ _ _ _); (refine wpList_store_row rfl 41 (.tmp 12) (.tmp 77) rfl (w.heap.size + 1) T.zero.cells rfl rfl 41 _ HC9.out.res I6.out rfl (cellsT _) ?_)))
              refine bodyPost_ret (results_cell_one rfl _ _ (w.heap.size + 1) T.zero.cells rfl (run_loadVar_row _ _ 41 41 _ (0, 0) _ (setRow_heap _ _ _ _ _ _ HC9.out.res) Tryd.underlying41 rfl I6.out)) rfl ?_
              rw [HRE.out]
              exact ⟨rfl, below_setRow HC9.out.bel (Nat.le_succ _) _⟩
            have hd1 : decide (sl < x - nw) = false := decide_eq_false hlo
            have hd2 : decide (sl < nw - x) = false := decide_eq_false hhi
            have HNO : Hid (¬ (sl < x - nw ∨ sl < nw - x)) := fun h => Or.elim h hlo hhi
            have g0 : w9.cell? ⟨w.heap.size, 0, none⟩ = some (.int .i64 keep) := cell_of_blk HC9.out.ring rfl
            have g1 : w9.cell? ⟨w.heap.size, 1, none⟩ = some (.slice A n c) := cell_of_blk HC9.out.ring rfl
            have HDD := HDV w9 ((H.out.below HC9.out.bel).more HC9.out.bel.size) ((HH.out.below HC9.out.bel).more HC9.out.bel.size)
            clear hlo hhi hxr hnr HDV
            go_wp2_with fail
            refine HDD.out.mono ?_
            rintro e10 w10 ⟨A10, n10, c10, rfl, hr10, hnil10, hnc10, hcm10, hb10⟩
            have HC10 := Lib.hid (HC9.out.below hb10)
            have HT10 : Hid (w10.heap[G]? = some (.cells #[.int .i64 v0, .int .i64 v1, .int .i64 v2, .int .i64 v3, .int .i64 v4, .int .i64 v5] 41 (0, 0))) := (hb10.block _ (Array.getElem?_eq_some_iff.1 HT9.out).1).trans HT9.out
            have HR10 := Lib.hid ((HR9.out.below hb10).more hb10.size)
            have HTA := Lib.hid (reftag_any A10 Aq n10 c10 nq cq dv.1 q x w10 hr10 ((HQ.out.below HC10.out.bel).more HC10.out.bel.size) hnil10 HNILQ.out (by have h1 := hr10.len; have h2 := HDF.out.1; omega) (by omega) (by have := HXR.out.2; omega) HDF.out.2 HQY.out hnq)
            clear hr10 hnil10 hnc10 hcm10 hb10 g0 g1 hd1 hd2 m1 m2 HDD HC9 HT9 HR9
            go_wp2_with fail
            refine HTA.out.mono ?_
            rintro e11 w11 ⟨v11, rfl, hown11, hb11⟩
            obtain ⟨A11, c11, rfl, -, -⟩ := own_slice hown11
            have HR11' : Hid (Row .u8 w11 w11.heap.size A11 32 (ansT dv.1 q x)) := Row.of_own hown11
            have HR11 := Lib.hid ((HR10.out.below hb11).more hb11.size)
            have HC11 := Lib.hid (HC10.out.below hb11)
            have HT11 : Hid (w11.heap[G]? = some (.cells #[.int .i64 v0, .int .i64 v1, .int .i64 v2, .int .i64 v3, .int .i64 v4, .int .i64 v5] 41 (0, 0))) := (hb11.block _ (Array.getElem?_eq_some_iff.1 HT10.out).1).trans HT10.out
            clear hown11 hb11 HTA HC10 HT10 HR10
            go_wp2_with fail
            refine (same_any A11 A8 32 c11 tg.length c8 _ _ (ansT dv.1 q x) tg w11 (by omega) HTL.out HR11'.out HR11.out).mono ?_
            rintro e12 w12 ⟨rfl, q12, rfl⟩
            have HC12 : Hid (Cx w keep A n c (w11.drewN q12)) := HC11.out.below (Rg.below_drewN (Below.refl _ _))
            have HT12 : Hid ((w11.drewN q12).heap[G]? = some (.cells #[.int .i64 v0, .int .i64 v1, .int .i64 v2, .int .i64 v3, .int .i64 v4, .int .i64 v5] 41 (0, 0))) := HT11.out
            generalize w11.drewN q12 = w12 at *
            by_cases htag : ansT dv.1 q x = tg
            · rw [decide_eq_true htag]
              have HRE : Hid (r = (⟨v0, v1, v2, v3, v4, v5⟩, 0)) := by have h1 := HR3.out; rw [decide_eq_true htag.symm, chkF_7 rfl HNO.out] at h1; exact h1
              have IC : Hid ((Tryd.prog.info? 41).map (·.size) = some (#[.int .i64 v0, .int .i64 v1, .int .i64 v2, .int .i64 v3, .int .i64 v4, .int .i64 v5] : Array Value).size) := infoT
              clear htag
              go_wp2_with (first
                | ((with_reducible show wpList _ _ _ _ _ _); (refine wpList_load_row rfl 41 (.tmp 15) rfl G rfl 41 #[.int .i64 v0, .int .i64 v1, .int .i64 v2, .int .i64 v3, .int .i64 v4, .int .i64 v5] (0, 0) _ HT12.out Tryd.underlying41 rfl IC.out ?_))
                | ((with_reducible show wpList _ _ _ _ _ _); (refine wpList_store_row rfl 41 (.tmp 12) (.tmp 92) rfl (w.heap.size + 1) #[.int .i64 v0, .int .i64 v1, .int .i64 v2, .int .i64 v3, .int .i64 v4, .int .i64 v5] rfl rfl 41 _ HC12.out.res IC.out rfl (cellsT ⟨v0, v1, v2, v3, v4, v5⟩) ?_)))
              refine bodyPost_ret (results_cell_one rfl _ _ (w.heap.size + 1) #[.int .i64 v0, .int .i64 v1, .int .i64 v2, .int .i64 v3, .int .i64 v4, .int .i64 v5] rfl (run_loadVar_row _ _ 41 41 _ (0, 0) _ (setRow_heap _ _ _ _ _ _ HC12.out.res) Tryd.underlying41 rfl infoT)) rfl ?_
              rw [HRE.out]
              exact ⟨rfl, below_setRow HC12.out.bel (Nat.le_succ _) _⟩
            · rw [decide_eq_false htag]
              have HRE : Hid (r = (T.zero, 21)) := by have h1 := HR3.out; rw [decide_eq_false (fun e => htag e.symm), chkF_6 rfl HNO.out] at h1; exact h1
              clear htag
              go_wp2_with (first
                | ((with_reducible show wpList _ _ _ _ _ _); (refine wpList_load_row rfl 41 (.tmp 14) rfl (w.heap.size + 1 + 1) rfl 41 T.zero.cells (0, 0) _ HC12.out.non Tryd.underlying41 rfl I6.out ?_))
                | ((with_reducible show wpList _ _ _ _ _ _); (refine wpList_store_row rfl 41 (.tmp 12) (.tmp 91) rfl (w.heap.size + 1) T.zero.cells rfl rfl 41 _ HC12.out.res I6.out rfl (cellsT _) ?_)))
              refine bodyPost_ret (results_cell_one rfl _ _ (w.heap.size + 1) T.zero.cells rfl (run_loadVar_row _ _ 41 41 _ (0, 0) _ (setRow_heap _ _ _ _ _ _ HC12.out.res) Tryd.underlying41 rfl I6.out)) rfl ?_
              rw [HRE.out]
              exact ⟨rfl, below_setRow HC12.out.bel (Nat.le_succ _) _⟩
          · have hdn0 : ((dn : Int) != 0) = true := bne_iff_ne.2 (by omega)
            have HRE : Hid (r = (T.zero, dn)) := by have h1 := HR2.out; rw [chkF_4 rfl hd0] at h1; exact h1
            have HDX : Hid (Calls Tryd.prog 45 #[.pointer (some ⟨g, 0, none⟩)] w9.drew fun r w' => r = .returned (.int .i64 (dn : Int)) ∧ Like w9.drew w') := HD8.out w9.drew HH9.out
            have n0 : w9.drew.cell? ⟨w.heap.size + 1 + 1, 0, none⟩ = some (.int .i64 0) := cell_of_blk (w := w9) HC9.out.non rfl
            have n1 : w9.drew.cell? ⟨w.heap.size + 1 + 1, 1, none⟩ = some (.int .i64 0) := cell_of_blk (w := w9) HC9.out.non rfl
            have n2 : w9.drew.cell? ⟨w.heap.size + 1 + 1, 2, none⟩ = some (.int .i64 0) := cell_of_blk (w := w9) HC9.out.non rfl
            have n3 : w9.drew.cell? ⟨w.heap.size + 1 + 1, 3, none⟩ = some (.int .i64 0) := cell_of_blk (w := w9) HC9.out.non rfl
            have n4 : w9.drew.cell? ⟨w.heap.size + 1 + 1, 4, none⟩ = some (.int .i64 0) := cell_of_blk (w := w9) HC9.out.non rfl
            have n5 : w9.drew.cell? ⟨w.heap.size + 1 + 1, 5, none⟩ = some (.int .i64 0) := cell_of_blk (w := w9) HC9.out.non rfl
            clear hd0
            go_wp2_with fail
            go_region_with (first | (go_at_call 45; (with_reducible refine HDX.out.mono ?_); go_loud (rintro e10 w10 ⟨rfl, hl10⟩; have HC10 : Hid (Cx w keep A n c w10) := HC9.out.like ⟨hl10.heap, hl10.os, hl10.tape, hl10.output⟩; have p0 : w10.cell? ⟨w.heap.size + 1 + 1, 0, none⟩ = some (.int .i64 0) := cell_of_blk HC10.out.non rfl; have p1 : w10.cell? ⟨w.heap.size + 1 + 1, 1, none⟩ = some (.int .i64 0) := cell_of_blk HC10.out.non rfl; have p2 : w10.cell? ⟨w.heap.size + 1 + 1, 2, none⟩ = some (.int .i64 0) := cell_of_blk HC10.out.non rfl; have p3 : w10.cell? ⟨w.heap.size + 1 + 1, 3, none⟩ = some (.int .i64 0) := cell_of_blk HC10.out.non rfl; have p4 : w10.cell? ⟨w.heap.size + 1 + 1, 4, none⟩ = some (.int .i64 0) := cell_of_blk HC10.out.non rfl; have p5 : w10.cell? ⟨w.heap.size + 1 + 1, 5, none⟩ = some (.int .i64 0) := cell_of_blk HC10.out.non rfl; have z0 : w10.cell? ⟨w.heap.size + 1, 0, none⟩ = some (.int .i64 0) := cell_of_blk HC10.out.res rfl; have z1 : w10.cell? ⟨w.heap.size + 1, 1, none⟩ = some (.int .i64 0) := cell_of_blk HC10.out.res rfl; have z2 : w10.cell? ⟨w.heap.size + 1, 2, none⟩ = some (.int .i64 0) := cell_of_blk HC10.out.res rfl; have z3 : w10.cell? ⟨w.heap.size + 1, 3, none⟩ = some (.int .i64 0) := cell_of_blk HC10.out.res rfl; have z4 : w10.cell? ⟨w.heap.size + 1, 4, none⟩ = some (.int .i64 0) := cell_of_blk HC10.out.res rfl; have z5 : w10.cell? ⟨w.heap.size + 1, 5, none⟩ = some (.int .i64 0) := cell_of_blk HC10.out.res rfl; have f0 : w10.frozen? ⟨w.heap.size + 1, 0, none⟩ = false := free_of_blk HC10.out.res; have f1 : w10.frozen? ⟨w.heap.size + 1, 1, none⟩ = false := free_of_blk HC10.out.res; have f2 : w10.frozen? ⟨w.heap.size + 1, 2, none⟩ = false := free_of_blk HC10.out.res; have f3 : w10.frozen? ⟨w.heap.size + 1, 3, none⟩ = false := free_of_blk HC10.out.res; have f4 : w10.frozen? ⟨w.heap.size + 1, 4, none⟩ = false := free_of_blk HC10.out.res; have f5 : w10.frozen? ⟨w.heap.size + 1, 5, none⟩ = false := free_of_blk HC10.out.res; clear hl10)))
            all_goals
              have hset : ((((((w10.setCell ⟨w.heap.size + 1, 0, none⟩ (.int .i64 0)).setCell ⟨w.heap.size + 1, 1, none⟩ (.int .i64 0)).setCell ⟨w.heap.size + 1, 2, none⟩ (.int .i64 0)).setCell ⟨w.heap.size + 1, 3, none⟩ (.int .i64 0)).setCell ⟨w.heap.size + 1, 4, none⟩ (.int .i64 0)).setCell ⟨w.heap.size + 1, 5, none⟩ (.int .i64 0)).heap[w.heap.size + 1]? = some (.cells T.zero.cells 41 (0, 0)) := set_blk (set_blk (set_blk (set_blk (set_blk (set_blk HC10.out.res)))))
              have hbl : Below w.heap.size w ((((((w10.setCell ⟨w.heap.size + 1, 0, none⟩ (.int .i64 0)).setCell ⟨w.heap.size + 1, 1, none⟩ (.int .i64 0)).setCell ⟨w.heap.size + 1, 2, none⟩ (.int .i64 0)).setCell ⟨w.heap.size + 1, 3, none⟩ (.int .i64 0)).setCell ⟨w.heap.size + 1, 4, none⟩ (.int .i64 0)).setCell ⟨w.heap.size + 1, 5, none⟩ (.int .i64 0)) := (((((HC10.out.bel.setCell (Nat.le_succ _) _).setCell (Nat.le_succ _) _).setCell (Nat.le_succ _) _).setCell (Nat.le_succ _) _).setCell (Nat.le_succ _) _).setCell (Nat.le_succ _) _
              have HSET := Lib.hid hset
              have HBL := Lib.hid hbl
              clear hset hbl
              go_wp2
              refine bodyPost_ret (results_cell_one rfl _ _ (w.heap.size + 1) T.zero.cells rfl (run_loadVar_row _ _ 41 41 _ (0, 0) _ HSET.out Tryd.underlying41 rfl I6.out)) rfl ?_
              rw [HRE.out]
              exact ⟨rfl, HBL.out⟩
        · have hd : ((er : Int) != 0) = true := bne_iff_ne.2 (by omega)
          have HRE : Hid (r = (T.zero, er)) := by have h1 := HR2.out; rw [chkF_3 rfl her] at h1; exact h1
          clear her
          go_wp2_with (first
            | ((with_reducible show wpList _ _ _ _ _ _); (refine wpList_load_row rfl 41 (.tmp 14) rfl (w.heap.size + 1 + 1) rfl 41 T.zero.cells (0, 0) _ HC5.out.non Tryd.underlying41 rfl I6.out ?_))
            | ((with_reducible show wpList _ _ _ _ _ _); (refine wpList_store_row rfl 41 (.tmp 12) (.tmp 51) rfl (w.heap.size + 1) T.zero.cells rfl rfl 41 _ HC5.out.res I6.out rfl (cellsT _) ?_)))
          refine bodyPost_ret (results_cell_one rfl _ _ (w.heap.size + 1) T.zero.cells rfl (run_loadVar_row _ _ 41 41 _ (0, 0) _ (setRow_heap _ _ _ _ _ _ HC5.out.res) Tryd.underlying41 rfl I6.out)) rfl ?_
          rw [HRE.out]
          exact ⟨rfl, below_setRow HC5.out.bel (Nat.le_succ _) _⟩
      · have hd : ((ve : Int) != 0) = true := bne_iff_ne.2 (by omega)
        have HRE : Hid (r = (T.zero, ve)) := by have h1 := HR2.out; rw [chkF_2 hve] at h1; exact h1
        have HC4' : Hid (Cx w keep A n c (w3.alloc (.cells #[.int .i64 v0, .int .i64 v1, .int .i64 v2, .int .i64 v3, .int .i64 v4, .int .i64 v5] 41))) := by unfold Hid; rw [HW4.out]; exact HC4.out
        clear hve HW4
        go_wp2_with (first
          | ((with_reducible show wpList _ _ _ _ _ _); (refine wpList_load_row rfl 41 (.tmp 14) rfl (w.heap.size + 1 + 1) rfl 41 T.zero.cells (0, 0) _ HC4'.out.non Tryd.underlying41 rfl I6.out ?_))
          | ((with_reducible show wpList _ _ _ _ _ _); (refine wpList_store_row rfl 41 (.tmp 12) (.tmp 42) rfl (w.heap.size + 1) T.zero.cells rfl rfl 41 _ HC4'.out.res I6.out rfl (cellsT _) ?_)))
        refine bodyPost_ret (results_cell_one rfl _ _ (w.heap.size + 1) T.zero.cells rfl (run_loadVar_row _ _ 41 41 _ (0, 0) _ (setRow_heap _ _ _ _ _ _ HC4'.out.res) Tryd.underlying41 rfl I6.out)) rfl ?_
        rw [HRE.out]
        exact ⟨rfl, below_setRow HC4'.out.bel (Nat.le_succ _) _⟩
  · rw [decide_eq_false hok]
    have HRE : Hid (r = (T.zero, 2)) := by have h1 := HR.out; rw [decide_eq_false (fun hh => hok hh.1), chkF_1] at h1; exact h1
    clear hok
    go_wp2_with (first
      | ((with_reducible show wpList _ _ _ _ _ _); (refine wpList_load_row rfl 41 (.tmp 14) rfl (w.heap.size + 1 + 1) rfl 41 T.zero.cells (0, 0) _ HC2.out.non Tryd.underlying41 rfl I6.out ?_))
      | ((with_reducible show wpList _ _ _ _ _ _); (refine wpList_store_row rfl 41 (.tmp 12) (.tmp 32) rfl (w.heap.size + 1) T.zero.cells rfl rfl 41 _ HC2.out.res I6.out rfl (cellsT _) ?_)))
    refine bodyPost_ret (results_cell_one rfl _ _ (w.heap.size + 1) T.zero.cells rfl (run_loadVar_row _ _ 41 41 _ (0, 0) _ (setRow_heap _ _ _ _ _ _ HC2.out.res) Tryd.underlying41 rfl I6.out)) rfl ?_
    rw [HRE.out]
    exact ⟨rfl, below_setRow HC2.out.bel (Nat.le_succ _) _⟩
end Go.Proofs.YtppbpmmfcoblmaaDoor.Chl

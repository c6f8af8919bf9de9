/- Lemmas that the proof stands on, in build order: ChB. -/
import Derived.Test.YtppbpmmfcoblmaaDoorJ23e41dcc
import Derived.Test.YtppbpmmfcoblmaaDoorJ34ff7c0a
import Derived.Test.YtppbpmmfcoblmaaDoorJ3534f22a
import Derived.Test.YtppbpmmfcoblmaaDoorJ364097e7
/- Layer 11 (challenge): the program's read, Device and Check, as contracts. -/
namespace Go.Proofs.YtppbpmmfcoblmaaDoor.Chl
open Go.RowKit Slc Var Fld Frm Sha Hmc Rg Tok

/-- What is read of an answer's content. -/
def RdTo (C : List Int) (w : World) (x : Ending) (w' : World) : Prop :=
  ∃ A c, x = .returned (.tuple #[.int .i64 (aAt C), .slice A (aTag C).length c, .int .i64 (aDn C : Int)]) ∧ Row .u8 w' w'.heap.size A (aTag C).length (aTag C) ∧ (A = none → c = 0) ∧ Below w.heap.size w w'
theorem aTag_byt {C : List Int} (h : ∀ x ∈ C, 0 ≤ x ∧ x ≤ 255) : ∀ x ∈ aTag C, 0 ≤ x ∧ x ≤ 255 := by
  have h1 : ∀ x ∈ (a1 C).1, 0 ≤ x ∧ x ≤ 255 := by
    unfold a1 rd1 after
    repeat' split
    all_goals first
      | exact h
      | exact fun x hx => h x (List.mem_of_mem_drop hx)
  intro x hx
  unfold aTag vals nxl at hx
  repeat' split at hx
  all_goals first
    | (simp at hx; done)
    | exact h1 x (List.mem_of_mem_drop (List.mem_of_mem_take hx))
theorem a1_len (C : List Int) : (a1 C).1.length ≤ C.length := by
  unfold a1 rd1 after
  repeat' split
  all_goals first
    | exact Nat.le_refl _
    | (simp only [List.length_drop]; omega)

set_option maxHeartbeats 800000 in
set_option maxRecDepth 100000 in
theorem read_any (A : Option Addr) (n c : Nat) (C : List Int) (w : World) (h : Row .u8 w w.heap.size A n C) (hnil : A = none → c = 0) (hn : n ≤ 4398046511104) (hC : ∀ x ∈ C, 0 ≤ x ∧ x ≤ 255) :
    Calls Tryd.prog 37 #[.slice A n c] w (RdTo C w) := by
  have HRD := Lib.hid (readR A n c w.heap.size C w h (Nat.le_refl _) hnil hn hC)
  have HL : Hid ((a1 C).1.length ≤ 4398046511104) := by unfold Hid; have h1 := a1_len C; have h2 := h.1; omega
  obtain ⟨x, hx⟩ : ∃ x, x = aAt C := ⟨_, rfl⟩
  obtain ⟨tg, htg⟩ : ∃ tg, tg = aTag C := ⟨_, rfl⟩
  obtain ⟨dn, hdn⟩ : ∃ dn, dn = aDn C := ⟨_, rfl⟩
  unfold RdTo
  rw [← hx, ← htg, ← hdn]
  have HX := Lib.hid hx
  have HTG := Lib.hid htg
  have HDN := Lib.hid hdn
  clear h hnil hn hC hx htg hdn
  go_enter Tryd.func37, Tryd.ntmps37
  go_wp2_with fail
  refine HRD.out.mono ?_
  rintro e1 w1 ⟨g, rfl, hg1, hrd1, hb1⟩
  have HB1 := Lib.hid hb1
  have HG := Lib.hid hg1
  have HNU := Lib.hid (number_stp g (C, 0) 1099511627776 w1 hrd1 (by omega) (by omega))
  clear hg1 hrd1 hb1 HRD
  go_wp2_with fail
  refine HNU.out.mono ?_
  rintro e2 w2 ⟨rfl, hrd2, ho2⟩
  rw [show rv1 (C, 0) 1099511627776 = x from HX.out.symm]
  have HB2 : Hid (Below w.heap.size w w2) := HB1.out.trans (ho2.below HB1.out.size (fun k hk => by have h1 := HG.out; omega))
  have HBY := Lib.hid (bytesR g (a1 C).2 (a1 C).1 32 w2 hrd2 (by omega) (by omega) HL.out)
  clear hrd2 ho2 HNU HB1
  go_wp2_with fail
  refine HBY.out.mono ?_
  rintro e3 w3 ⟨v3, rfl, hown3, hrd3, ho3⟩
  rw [show vals (a1 C).2 (nxl (a1 C).1 32) = tg from HTG.out.symm] at hown3
  obtain ⟨A3, c3, rfl, -, hnil3⟩ := own_slice hown3
  have HR3 : Hid (Row .u8 w3 w3.heap.size A3 tg.length tg) := Row.of_own hown3
  have HN3 := Lib.hid hnil3
  have HB3 : Hid (Below w.heap.size w w3) := HB2.out.trans (ho3.below HB2.out.size (fun k hk => by have h1 := HG.out; omega))
  have HDO := Lib.hid (doneR g (a2 C).2 (a2 C).1 w3 hrd3)
  clear hown3 hrd3 ho3 hnil3 HBY HB2
  go_wp2_with fail
  refine HDO.out.mono ?_
  rintro e4 w4 ⟨rfl, rfl⟩
  rw [show done (a2 C).1 (a2 C).2 = dn from HDN.out.symm]
  go_wp2
  go_ret3
  exact ⟨A3, c3, rfl, HR3.out, HN3.out, HB3.out⟩

theorem device_opn {E : List Kl} {b : List Int} (h : (opn b).2.2 ≠ 0) : device E b = ([], (opn b).2.2) := by
  unfold device
  rw [if_pos h]
theorem device_bad {E : List Kl} {b : List Int} (h0 : (opn b).2.2 = 0) (h : (verify E b (opn b).1.is).2 ≠ 0) : device E b = ([], (verify E b (opn b).1.is).2) := by
  have hm := (opn_may h0).1
  unfold verify at h ⊢
  unfold device
  rw [if_neg (by simp [h0])] at h ⊢
  rw [if_neg (by simp [h0])]
  cases hf : fnd E (opn b).1.ep with
  | none => rfl
  | some k =>
    rw [hf] at h
    simp only at h ⊢
    by_cases h1 : tagT k (opn b).1 = (opn b).2.1
    · rw [if_neg (by simp [h1])] at h
      rw [if_neg (by have := hm.2.2.2.2.2.1; omega)] at h
      exact absurd rfl h
    · rw [if_pos h1, if_pos h1]

set_option maxHeartbeats 3200000 in
set_option maxRecDepth 100000 in
theorem device_any (keep : Int) (A A' : Option Addr) (n c n' c' : Nat) (K : List Kp) (b : List Int) (w : World) (h : KRow w w.heap.size A n K) (hs : Small n K)
    (h' : Row .u8 w w.heap.size A' n' b) (hnil' : A' = none → c' = 0) (hb : Byt b) (hn' : n' ≤ 90000) (hc' : n' ≤ c') (hcm' : c' ≤ maxLen) (hT : Lay w) :
    Calls Tryd.prog 8 #[.agg #[.int .i64 keep, .slice A n c], .slice A' n' c'] w (DevTo w (device (ls K) b)) := by
  have H := Lib.hid h
  have HH := Lib.hid h'
  have HSM := Lib.hid hs
  obtain ⟨w2, hw2⟩ : ∃ w2, w.alloc (.cells #[.int .i64 keep, .slice A n c] 24) = w2 := ⟨_, rfl⟩
  have hb2 : Below w.heap.size w w2 := by rw [← hw2]; exact (Below.refl _ _).alloc (Nat.le_refl _) _
  have hs2 : w2.heap.size = w.heap.size + 1 := by rw [← hw2]; simp
  have HG0 : Hid (w2.heap[w.heap.size]? = some (.cells #[.int .i64 keep, .slice A n c] 24 (0, 0))) := by unfold Hid; rw [← hw2]; exact heap_alloc_new w _
  have HB2 := Lib.hid hb2
  have HS2 := Lib.hid hs2
  have HW2 := Lib.hid hw2
  have HNIL := Lib.hid hnil'
  have HBY := Lib.hid hb
  have HCM := Lib.hid (And.intro hc' hcm')
  have HT := Lib.hid hT
  have HO := Lib.hid (open_any A' n' c' b w2 ((h'.below hb2).more hb2.size) hnil' hb hc' hcm' (by omega))
  have HMAY := Lib.hid (fun h => opn_may (b := b) h)
  have HDO := Lib.hid (fun h => device_opn (E := ls K) (b := b) h)
  have HDB := Lib.hid (fun h0 h => device_bad (E := ls K) (b := b) h0 h)
  have HDG := Lib.hid (fun nw h => device_of (E := ls K) (b := b) (nw := nw) h)
  have HVE := fun nw wx h1 h2 h3 => Lib.hid (verify_any keep nw A A' n c n' c' K b wx h1 hs h2 hnil' hb hc' hcm' (by omega) h3)
  obtain ⟨r, hr⟩ : ∃ r, r = device (ls K) b := ⟨_, rfl⟩
  rw [← hr]
  rw [← hr] at HDO HDB HDG
  obtain ⟨q, hq⟩ : ∃ q, q = opn b := ⟨_, rfl⟩
  rw [← hq] at HO HMAY HDO HDB HDG
  obtain ⟨⟨utr, uac, ust, uis, uun, uep⟩, tg, er⟩ := q
  simp only at HMAY HDO HDB HDG
  clear h hs hb2 hs2 hw2 h' hb hc' hcm' hr hq hnil' hT
  go_enter Tryd.func8, Tryd.ntmps8
  go_wp2_with fail
  refine scope_on 0 rfl ?_
  go_wp2_with fail
  refine Calls.mono (by have h1 := HO.out; rw [← HW2.out] at h1; exact h1) ?_
  rintro e3 w3 ⟨A3, n3, c3, rfl, hr3, hnil3, hnc3, hb3⟩
  rw [HW2.out] at hb3
  have HB3 := Lib.hid (HB2.out.trans (hb3.mono HB2.out.size))
  have HG3 : Hid (w3.heap[w.heap.size]? = some (.cells #[.int .i64 keep, .slice A n c] 24 (0, 0))) := (hb3.block _ (by have := HS2.out; omega)).trans HG0.out
  unfold T.val
  have eU : (⟨utr, uac, ust, uis, uun, uep⟩ : T).cells = #[.int .i64 utr, .int .i64 uac, .int .i64 ust, .int .i64 uis, .int .i64 uun, .int .i64 uep] := rfl
  rw [eU]
  obtain ⟨w4, hw4⟩ : ∃ w4, w3.alloc (.cells #[.int .i64 utr, .int .i64 uac, .int .i64 ust, .int .i64 uis, .int .i64 uun, .int .i64 uep] 41) = w4 := ⟨_, rfl⟩
  have hal : Below w3.heap.size w3 w4 := by rw [← hw4]; exact (Below.refl _ _).alloc (Nat.le_refl _) _
  have HT4 : Hid (w4.heap[w3.heap.size]? = some (.cells #[.int .i64 utr, .int .i64 uac, .int .i64 ust, .int .i64 uis, .int .i64 uun, .int .i64 uep] 41 (0, 0))) := by unfold Hid; rw [← hw4]; exact heap_alloc_new w3 _
  have HG4 : Hid (w4.heap[w.heap.size]? = some (.cells #[.int .i64 keep, .slice A n c] 24 (0, 0))) := (hal.block _ (Array.getElem?_eq_some_iff.1 HG3.out).1).trans HG3.out
  have HB4 := Lib.hid (HB3.out.trans (hal.mono HB3.out.size))
  have HW4 := Lib.hid hw4
  clear hr3 hnil3 hnc3 hb3 hal HB3 HG3 HG0 HB2 HO eU
  by_cases her : er = 0
  · subst her
    have HOK := Lib.hid (HMAY.out rfl).1.ok
    have g0 : w4.cell? ⟨w.heap.size, 0, none⟩ = some (.int .i64 keep) := cell_of_blk HG4.out rfl
    have g1 : w4.cell? ⟨w.heap.size, 1, none⟩ = some (.slice A n c) := cell_of_blk HG4.out rfl
    have u3 : w4.cell? ⟨w3.heap.size, 3, none⟩ = some (.int .i64 uis) := cell_of_blk HT4.out rfl
    have HV4 := HVE uis w4 ((H.out.below HB4.out).more HB4.out.size) ((HH.out.below HB4.out).more HB4.out.size) (HT.out.below HB4.out HT.out.tab.1)
    obtain ⟨v, hv⟩ : ∃ v, v = verify (ls K) b uis := ⟨_, rfl⟩
    have HDB2 := HDB.out rfl
    have HDG2 := HDG.out uis
    rw [← hv] at HV4 HDB2 HDG2
    obtain ⟨⟨v0, v1, v2, v3, v4, v5⟩, ve⟩ := v
    simp only at HDB2 HDG2
    have HDBX := Lib.hid HDB2
    have HDGX := Lib.hid HDG2
    rw [← hw4] at g0 g1 u3
    clear hw4 hv HDB HDG HDO HVE HDB2 HDG2 HMAY
    go_wp2_with fail
    rw [HW4.out]
    refine HV4.out.mono ?_
    rintro e5 w5 ⟨rfl, hb5⟩
    have HB5 := Lib.hid (HB4.out.trans (hb5.mono HB4.out.size))
    have HG5 : Hid (w5.heap[w.heap.size]? = some (.cells #[.int .i64 keep, .slice A n c] 24 (0, 0))) := (hb5.block _ (Array.getElem?_eq_some_iff.1 HG4.out).1).trans HG4.out
    have HT5 : Hid (w5.heap[w3.heap.size]? = some (.cells #[.int .i64 utr, .int .i64 uac, .int .i64 ust, .int .i64 uis, .int .i64 uun, .int .i64 uep] 41 (0, 0))) := (hb5.block _ (Array.getElem?_eq_some_iff.1 HT4.out).1).trans HT4.out
    unfold T.val T.cells
    clear hb5 g0 g1 u3 HW4 HV4 HG4 HT4 HB4
    generalize w3.heap.size = G3 at *
    by_cases hve : ve = 0
    · subst hve
      obtain ⟨k, hf, hrr⟩ := HDGX.out rfl
      have HRE := Lib.hid hrr
      have g0 : w5.cell? ⟨w.heap.size, 0, none⟩ = some (.int .i64 keep) := cell_of_blk HG5.out rfl
      have g1 : w5.cell? ⟨w.heap.size, 1, none⟩ = some (.slice A n c) := cell_of_blk HG5.out rfl
      have u5 : w5.cell? ⟨G3, 5, none⟩ = some (.int .i64 uep) := cell_of_blk HT5.out rfl
      have HDK := Lib.hid (deviceKey_any keep uep A A' n c n' c' w.heap.size K b k w5 (H.out.below HB5.out) HB5.out.size HSM.out ((HH.out.below HB5.out).more HB5.out.size) HNIL.out HBY.out HCM.out.1 hn' hf (HT.out.below HB5.out HT.out.tab.1))
      clear hrr hf HDBX HDGX
      go_wp2_with fail
      refine HDK.out.mono ?_
      rintro e6 w6 ⟨v6, rfl, hown6, hb6⟩
      have HO6 : Hid (w6.ownsRow w.heap.size 5 1 v6 32 ((devK k b).map (Value.int .u8))) := own_low hown6 HB5.out.size
      have HB6 := Lib.hid (HB5.out.trans (hb6.mono HB5.out.size))
      clear hown6 hb6 g0 g1 u5 HDK
      go_wp2
      simp only [Exit.jump]
      go_ret2
      rw [HRE.out]
      exact devTo_own HO6.out HB6.out
    · have hd : ((ve : Int) != 0) = true := bne_iff_ne.2 (by omega)
      have HRE := Lib.hid (HDBX.out hve)
      clear hve HDBX HDGX
      go_wp2
      go_step3
      refine ⟨rfl, ?_⟩
      unfold Later
      go_wp2
      simp only [Exit.jump]
      go_ret2
      rw [HRE.out]
      exact devTo_no HB5.out
  · have hd : ((er : Int) != 0) = true := bne_iff_ne.2 (by omega)
    have HRE := Lib.hid (HDO.out her)
    have HB4' : Hid (Below w.heap.size w (w3.alloc (.cells #[.int .i64 utr, .int .i64 uac, .int .i64 ust, .int .i64 uis, .int .i64 uun, .int .i64 uep] 41))) := by unfold Hid; rw [HW4.out]; exact HB4.out
    clear her hw4 HW4 HDO HDB HDG HVE HMAY
    go_wp2
    go_step3
    refine ⟨rfl, ?_⟩
    unfold Later
    go_wp2
    simp only [Exit.jump]
    go_ret2
    rw [HRE.out]
    exact devTo_no HB4'.out

/-- In the program's Check: the ring's block, the result's, the token's. -/
structure Cy (w0 : World) (keep : Int) (A : Option Addr) (n c : Nat) (cs : Array Value) (w' : World) : Prop where
  ring : w'.heap[w0.heap.size]? = some (.cells #[.int .i64 keep, .slice A n c] 24 (0, 0))
  res : w'.heap[w0.heap.size + 1]? = some (.cells T.zero.cells 41 (0, 0))
  tok : w'.heap[w0.heap.size + 1 + 1]? = some (.cells cs 41 (0, 0))
  bel : Below w0.heap.size w0 w'
section
variable {w0 w1 w2 : World} {keep : Int} {A : Option Addr} {n c : Nat} {cs : Array Value}
theorem Cy.below (h : Cy w0 keep A n c cs w1) (hb : Below w1.heap.size w1 w2) : Cy w0 keep A n c cs w2 :=
  have hl : w0.heap.size + 1 + 1 < w1.heap.size := (Array.getElem?_eq_some_iff.1 h.tok).1
  ⟨(hb.block _ (by omega)).trans h.ring, (hb.block _ (by omega)).trans h.res, (hb.block _ hl).trans h.tok, h.bel.trans (hb.mono h.bel.size)⟩
theorem Cy.of (h : Cx w0 keep A n c w1) : Cy w0 keep A n c T.zero.cells w1 := ⟨h.ring, h.res, h.non, h.bel⟩
theorem Cy.set (h : Cy w0 keep A n c cs w1) (cs' : Array Value) : Cy w0 keep A n c cs' (w1.setRow (w0.heap.size + 1 + 1) cs') :=
  ⟨(setRow_other w1 _ _ _ (by omega)).trans h.ring, (setRow_other w1 _ _ _ (by omega)).trans h.res, setRow_heap _ _ _ _ _ _ h.tok, below_setRow h.bel (by omega) _⟩
end

set_option maxHeartbeats 6400000 in
set_option maxRecDepth 100000 in
theorem check_any (keep nw sl : Int) (A A' Aq Aa : Option Addr) (n c n' c' nq cq na ca : Nat) (K : List Kp) (b q a : List Int) (w : World) (h : KRow w w.heap.size A n K) (hsm : Small n K)
    (h' : Row .u8 w w.heap.size A' n' b) (hnil' : A' = none → c' = 0) (hb : Byt b) (hn' : n' ≤ 90000) (hc' : n' ≤ c') (hcm' : c' ≤ maxLen)
    (hq : Row .u8 w w.heap.size Aq nq q) (hnilq : Aq = none → cq = 0) (hqb : Byt q) (hnq : nq ≤ 90000) (hcq : nq ≤ cq)
    (ha : Row .u8 w w.heap.size Aa na a) (hnila : Aa = none → ca = 0) (hab : Byt a) (hna : na ≤ 4398046511104) (hca : na ≤ ca) (hcma : ca ≤ maxLen) (hT : Lay w) :
    Calls Tryd.prog 14 #[.agg #[.int .i64 keep, .slice A n c], .slice A' n' c', .slice Aq nq cq, .slice Aa na ca, .int .i64 nw, .int .i64 sl] w (VerTo w (check (ls K) b q a nw sl)) := by
  have H := Lib.hid h
  have HH := Lib.hid h'
  have HQ := Lib.hid hq
  have HA := Lib.hid ha
  have HSM := Lib.hid hsm
  have HT := Lib.hid hT
  obtain ⟨w2, hw2⟩ : ∃ w2, ((w.alloc (.cells #[.int .i64 keep, .slice A n c] 24)).alloc (.cells T.zero.cells 41)).alloc (.cells T.zero.cells 41) = w2 := ⟨_, rfl⟩
  have hcx : Cx w keep A n c w2 := by rw [← hw2]; exact Cx.new
  have HY2 := Lib.hid (Cy.of hcx)
  have HW2 := Lib.hid hw2
  have HNIL := Lib.hid hnil'
  have HNILQ := Lib.hid hnilq
  have HBY := Lib.hid hb
  have HQY := Lib.hid hqb
  have HCM := Lib.hid (And.intro hc' hcm')
  have HCQ := Lib.hid hcq
  have HMY := Lib.hid (may_any Aq nq cq q nw w2 hq.1)
  have HVE := Lib.hid (verify_any keep nw A A' n c n' c' K b w2 ((h.below hcx.bel).more hcx.bel.size) hsm ((h'.below hcx.bel).more hcx.bel.size) hnil' hb hc' hcm' (by omega) (hT.below hcx.bel hT.tab.1))
  have HCB := Lib.hid (wholly_byt (k := 6) hab)
  have HCL : Hid ((wholly 6 a).1.length ≤ 4398046511104) := by
    unfold Hid
    have := wholly_len 6 a
    omega
  have HWH := fun wx h1 => Lib.hid (whole_any 6 Aa na ca a wx h1 hnila hab hna hca hcma)
  have HDG := Lib.hid (fun h => device_of (E := ls K) (b := b) (nw := nw) h)
  have HVY := Lib.hid (fun h => (verify_yes (E := ls K) (b := b) (nw := nw) h).2.1)
  obtain ⟨r, hr⟩ : ∃ r, r = check (ls K) b q a nw sl := ⟨_, rfl⟩
  rw [← hr]
  unfold check at hr
  obtain ⟨v, hv⟩ : ∃ v, v = verify (ls K) b nw := ⟨_, rfl⟩
  obtain ⟨y, hy⟩ : ∃ y, y = wholly 6 a := ⟨_, rfl⟩
  obtain ⟨dv, hdv⟩ : ∃ dv, dv = device (ls K) b := ⟨_, rfl⟩
  rw [← hv, ← hy, ← hdv] at hr
  rw [← hv] at HVE HDG HVY
  rw [← hy] at HCB HCL HWH
  rw [← hdv] at HDG
  obtain ⟨⟨v0, v1, v2, v3, v4, v5⟩, ve⟩ := v
  obtain ⟨C, er⟩ := y
  simp only at hr HCB HCL HDG HVY
  have HKD : Hid (ve = 0 → ∃ k, fnd (ls K) v5 = some k ∧ dv.1 = devK k b) := fun h0 => by
    obtain ⟨k, h1, h2⟩ := HDG.out h0
    refine ⟨k, ?_, by rw [h2]⟩
    rw [← HVY.out h0] at h1
    exact h1
  obtain ⟨x, hx⟩ : ∃ x, x = aAt C := ⟨_, rfl⟩
  obtain ⟨tg, htg⟩ : ∃ tg, tg = aTag C := ⟨_, rfl⟩
  obtain ⟨dn, hdn⟩ : ∃ dn, dn = aDn C := ⟨_, rfl⟩
  have HXR : Hid (0 ≤ x ∧ x ≤ 1099511627776) := by rw [hx]; exact aAt_range C
  have HTGB : Hid (∀ z ∈ tg, 0 ≤ z ∧ z ≤ 255) := by rw [htg]; exact aTag_byt HCB.out
  have HTL : Hid (tg.length ≤ 1099511627776) := by
    unfold Hid
    rw [htg]
    exact aTag_len (by have := wholly_len 6 a; rw [← hy] at this; exact Nat.le_trans this (by omega))
  have HRD := fun Ax cx wx h1 h2 => Lib.hid (read_any Ax C.length cx C wx h1 h2 HCL.out HCB.out)
  unfold RdTo at HRD
  rw [← hx, ← htg, ← hdn] at hr HRD
  have HR := Lib.hid hr
  have I6 : Hid ((Tryd.prog.info? 41).map (·.size) = some T.zero.cells.size) := infoT
  have IC : Hid ((Tryd.prog.info? 41).map (·.size) = some (#[.int .i64 v0, .int .i64 v1, .int .i64 v2, .int .i64 v3, .int .i64 v4, .int .i64 v5] : Array Value).size) := infoT
  clear h hsm hw2 h' hb hc' hcm' hr hv hy hdv hx htg hdn hnil' hcx hq ha hab hqb hnilq hca hcma hcq hnila hT HDG HVY
  go_enter Tryd.func14, Tryd.ntmps14
  go_wp2_with fail
  refine scope_on 0 rfl ?_
  go_wp2_with fail
  refine Calls.mono (by have h1 := HMY.out; rw [← HW2.out] at h1; exact h1) ?_
  rintro e1 w1 ⟨rfl, hw1⟩
  rw [HW2.out] at hw1
  rw [hw1]
  clear hw1 HW2
  by_cases hok : may q nw
  · rw [decide_eq_true hok]
    have HOK := Lib.hid hok
    clear hok
    by_cases hs : sl < 0
    · have hd : decide (sl < 0) = true := decide_eq_true hs
      have HRE : Hid (r = (T.zero, 2)) := by have h1 := HR.out; rw [decide_eq_false (fun hh => by have := hh.2; omega), chkF_1] at h1; exact h1
      clear hs HRD
      go_wp2
      go_step3
      refine ⟨rfl, ?_⟩
      unfold Later
      go_wp2_with (first
        | ((with_reducible show wpList _ _ _ _ _ _); (refine wpList_store_row rfl 41 (.tmp 12) (.tmp 68) rfl (w.heap.size + 1) T.zero.cells rfl rfl 41 _ HY2.out.res I6.out rfl (cellsT _) ?_)))
      simp only [Exit.jump]
      refine bodyPost_ret (results_cell_one rfl _ _ (w.heap.size + 1) T.zero.cells rfl (run_loadVar_row _ _ 41 41 _ (0, 0) _ (setRow_heap _ _ _ _ _ _ HY2.out.res) Tryd.underlying41 rfl I6.out)) rfl ?_
      rw [HRE.out]
      exact ⟨rfl, below_setRow HY2.out.bel (Nat.le_succ _) _⟩
    · have hd : decide (sl < 0) = false := decide_eq_false hs
      have HSL : Hid (0 ≤ sl) := by unfold Hid; omega
      have h1 := HR.out
      rw [decide_eq_true ⟨HOK.out, HSL.out⟩] at h1
      have HR2 := Lib.hid h1
      have g0 : w2.cell? ⟨w.heap.size, 0, none⟩ = some (.int .i64 keep) := cell_of_blk HY2.out.ring rfl
      have g1 : w2.cell? ⟨w.heap.size, 1, none⟩ = some (.slice A n c) := cell_of_blk HY2.out.ring rfl
      clear h1 HR hs
      go_wp2_with fail
      refine HVE.out.mono ?_
      rintro e3 w3 ⟨rfl, hb3⟩
      have HY3 := Lib.hid (HY2.out.below hb3)
      have HY4 : Hid (Cy w keep A n c #[.int .i64 v0, .int .i64 v1, .int .i64 v2, .int .i64 v3, .int .i64 v4, .int .i64 v5] (w3.setRow (w.heap.size + 1 + 1) #[.int .i64 v0, .int .i64 v1, .int .i64 v2, .int .i64 v3, .int .i64 v4, .int .i64 v5])) := HY3.out.set _
      clear hb3 g0 g1 hd HY2 HVE
      unfold T.val T.cells
      obtain ⟨w4, hw4⟩ : ∃ w4, w3.setRow (w.heap.size + 1 + 1) #[.int .i64 v0, .int .i64 v1, .int .i64 v2, .int .i64 v3, .int .i64 v4, .int .i64 v5] = w4 := ⟨_, rfl⟩
      rw [hw4] at HY4
      have HW4 := Lib.hid hw4
      clear hw4
      by_cases hve : ve = 0
      · subst hve
        obtain ⟨k, hf, hdk⟩ := HKD.out rfl
        have HF := Lib.hid hf
        have HDK := Lib.hid hdk
        have HWH4 := HWH w4 ((HA.out.below HY4.out.bel).more HY4.out.bel.size)
        clear HWH hf hdk HKD
        go_wp2_with (first
          | ((with_reducible show wpList _ _ _ _ _ _); (refine wpList_store_row rfl 41 (.tmp 14) (.tmp 32) rfl (w.heap.size + 1 + 1) #[.int .i64 v0, .int .i64 v1, .int .i64 v2, .int .i64 v3, .int .i64 v4, .int .i64 v5] rfl rfl 41 _ HY3.out.tok IC.out rfl (cellsT ⟨v0, v1, v2, v3, v4, v5⟩) ?_); (rw [HW4.out])))
        refine HWH4.out.mono ?_
        rintro e5 w5 ⟨y5, rfl, hown5, hb5⟩
        simp only at hown5
        obtain ⟨A5, c5, rfl, hc5, hnil5⟩ := own_slice hown5
        have HY5 := Lib.hid (HY4.out.below hb5)
        have HRD5 := HRD A5 c5 w5 (Row.of_own hown5) hnil5
        clear hown5 hc5 hnil5 hb5 HWH4 HW4 HY3 HY4 HRD
        by_cases her : er = 0
        · subst her
          go_wp2_with fail
          refine HRD5.out.mono ?_
          rintro e6 w6 ⟨A6, c6, rfl, hr6, hnil6, hb6⟩
          have HY6 := Lib.hid (HY5.out.below hb6)
          have HR6 := Lib.hid hr6
          clear hr6 hnil6 hb6 HRD5 HY5
          by_cases hd0 : dn = 0
          · have hdn0 : ((dn : Int) != 0) = false := by rw [hd0]; rfl
            have HR3 : Hid (r = chkF true (⟨v0, v1, v2, v3, v4, v5⟩, 0) 0 0 x (decide (tg = ansT (devK k b) q x)) nw sl) := by have h1 := HR2.out; rw [hd0, HDK.out] at h1; exact h1
            have HAP := Lib.hid (apart_any x nw HXR.out HOK.out.2 w6)
            clear hd0 HR2
            go_wp2_with fail
            refine HAP.out.mono ?_
            rintro e7 w7 ⟨rfl, hw7⟩
            rw [hw7]
            clear hw7 HAP
            by_cases hfar : sl < far x nw
            · have hd1 : decide (sl < far x nw) = true := decide_eq_true hfar
              have HRE : Hid (r = (T.zero, 22)) := by have h1 := HR3.out; rw [chkF_5 rfl (by rcases far_le.1 hfar with h | h; exact h; exact absurd h.1 (by have := HSL.out; omega))] at h1; exact h1
              clear hfar
              go_wp2
              go_step3
              refine ⟨rfl, ?_⟩
              unfold Later
              go_wp2_with (first
                | ((with_reducible show wpList _ _ _ _ _ _); (refine wpList_store_row rfl 41 (.tmp 12) (.tmp 68) rfl (w.heap.size + 1) T.zero.cells rfl rfl 41 _ HY6.out.res I6.out rfl (cellsT _) ?_)))
              simp only [Exit.jump]
              refine bodyPost_ret (results_cell_one rfl _ _ (w.heap.size + 1) T.zero.cells rfl (run_loadVar_row _ _ 41 41 _ (0, 0) _ (setRow_heap _ _ _ _ _ _ HY6.out.res) Tryd.underlying41 rfl I6.out)) rfl ?_
              rw [HRE.out]
              exact ⟨rfl, below_setRow HY6.out.bel (Nat.le_succ _) _⟩
            have hd1 : decide (sl < far x nw) = false := decide_eq_false hfar
            have HNO : Hid (¬ (sl < x - nw ∨ sl < nw - x)) := fun h => hfar (far_le.2 (.inl h))
            have g0 : w6.cell? ⟨w.heap.size, 0, none⟩ = some (.int .i64 keep) := cell_of_blk HY6.out.ring rfl
            have g1 : w6.cell? ⟨w.heap.size, 1, none⟩ = some (.slice A n c) := cell_of_blk HY6.out.ring rfl
            have u5 : w6.cell? ⟨w.heap.size + 1 + 1, 5, none⟩ = some (.int .i64 v5) := cell_of_blk HY6.out.tok rfl
            have HDD := Lib.hid (deviceKey_any keep v5 A A' n c n' c' w.heap.size K b k w6 (H.out.below HY6.out.bel) HY6.out.bel.size HSM.out ((HH.out.below HY6.out.bel).more HY6.out.bel.size) HNIL.out HBY.out HCM.out.1 hn' HF.out (HT.out.below HY6.out.bel HT.out.tab.1))
            clear hfar
            go_wp2_with fail
            refine HDD.out.mono ?_
            rintro e8 w8 ⟨v8, rfl, hown8, hb8⟩
            obtain ⟨A8, c8, rfl, hc8, hnil8⟩ := own_slice hown8
            have HY8 := Lib.hid (HY6.out.below hb8)
            have HR8 := Lib.hid ((HR6.out.below hb8).more hb8.size)
            have HTA := Lib.hid (tagged_any A8 Aq 32 c8 nq cq (devK k b) q x w8 (Row.of_own hown8) hc8 (by omega) (devK_byt k b) ((HQ.out.below HY8.out.bel).more HY8.out.bel.size) HNILQ.out HCQ.out hnq HQY.out (by have := HXR.out.2; omega) (HT.out.below HY8.out.bel HT.out.tab.1))
            clear hown8 hc8 hnil8 hb8 g0 g1 u5 hd1 HDD HY6 HR6
            go_wp2_with fail
            refine HTA.out.mono ?_
            rintro e9 w9 ⟨v9, rfl, hown9, hb9⟩
            obtain ⟨A9, c9, rfl, -, -⟩ := own_slice hown9
            have HR9' : Hid (Row .u8 w9 w9.heap.size A9 32 (ansT (devK k b) q x)) := Row.of_own hown9
            have HR9 := Lib.hid ((HR8.out.below hb9).more hb9.size)
            have HY9 := Lib.hid (HY8.out.below hb9)
            clear hown9 hb9 HTA HY8 HR8
            go_wp2_with fail
            refine (psame_any A6 A9 tg.length c6 32 c9 _ _ tg (ansT (devK k b) q x) w9 HR9.out HR9'.out HTL.out (by omega) HTGB.out (ansT_byt _ _ _)).mono ?_
            rintro e10 w10 ⟨rfl, q10, rfl⟩
            have HY10 : Hid (Cy w keep A n c #[.int .i64 v0, .int .i64 v1, .int .i64 v2, .int .i64 v3, .int .i64 v4, .int .i64 v5] (w9.drewN q10)) := HY9.out.below (Rg.below_drewN (Below.refl _ _))
            clear HR9 HR9' HY9
            generalize w9.drewN q10 = w10 at *
            by_cases htag : tg = ansT (devK k b) q x
            · rw [decide_eq_true htag]
              have HRE : Hid (r = (⟨v0, v1, v2, v3, v4, v5⟩, 0)) := by have h1 := HR3.out; rw [decide_eq_true htag, chkF_7 rfl HNO.out] at h1; exact h1
              clear htag
              go_wp2_with (first
                | ((with_reducible show wpList _ _ _ _ _ _); (refine wpList_load_row rfl 41 (.tmp 14) rfl (w.heap.size + 1 + 1) rfl 41 #[.int .i64 v0, .int .i64 v1, .int .i64 v2, .int .i64 v3, .int .i64 v4, .int .i64 v5] (0, 0) _ HY10.out.tok Tryd.underlying41 rfl IC.out ?_))
                | ((with_reducible show wpList _ _ _ _ _ _); (refine wpList_store_row rfl 41 (.tmp 12) (.tmp 67) rfl (w.heap.size + 1) #[.int .i64 v0, .int .i64 v1, .int .i64 v2, .int .i64 v3, .int .i64 v4, .int .i64 v5] rfl rfl 41 _ HY10.out.res IC.out rfl (cellsT ⟨v0, v1, v2, v3, v4, v5⟩) ?_)))
              simp only [Exit.jump]
              refine bodyPost_ret (results_cell_one rfl _ _ (w.heap.size + 1) #[.int .i64 v0, .int .i64 v1, .int .i64 v2, .int .i64 v3, .int .i64 v4, .int .i64 v5] rfl (run_loadVar_row _ _ 41 41 _ (0, 0) _ (setRow_heap _ _ _ _ _ _ HY10.out.res) Tryd.underlying41 rfl infoT)) rfl ?_
              rw [HRE.out]
              exact ⟨rfl, below_setRow HY10.out.bel (Nat.le_succ _) _⟩
            · rw [decide_eq_false htag]
              have HRE : Hid (r = (T.zero, 21)) := by have h1 := HR3.out; rw [decide_eq_false htag, chkF_6 rfl HNO.out] at h1; exact h1
              clear htag
              go_wp2
              go_step3
              refine ⟨rfl, ?_⟩
              unfold Later
              go_wp2_with (first
                | ((with_reducible show wpList _ _ _ _ _ _); (refine wpList_store_row rfl 41 (.tmp 12) (.tmp 68) rfl (w.heap.size + 1) T.zero.cells rfl rfl 41 _ HY10.out.res I6.out rfl (cellsT _) ?_)))
              simp only [Exit.jump]
              refine bodyPost_ret (results_cell_one rfl _ _ (w.heap.size + 1) T.zero.cells rfl (run_loadVar_row _ _ 41 41 _ (0, 0) _ (setRow_heap _ _ _ _ _ _ HY10.out.res) Tryd.underlying41 rfl I6.out)) rfl ?_
              rw [HRE.out]
              exact ⟨rfl, below_setRow HY10.out.bel (Nat.le_succ _) _⟩
          · have hdn0 : ((dn : Int) != 0) = true := bne_iff_ne.2 (by omega)
            have HRE : Hid (r = (T.zero, dn)) := by have h1 := HR2.out; rw [chkF_4 rfl hd0] at h1; exact h1
            clear hd0
            go_wp2
            go_step3
            refine ⟨rfl, ?_⟩
            unfold Later
            go_wp2_with (first
              | ((with_reducible show wpList _ _ _ _ _ _); (refine wpList_store_row rfl 41 (.tmp 12) (.tmp 68) rfl (w.heap.size + 1) T.zero.cells rfl rfl 41 _ HY6.out.res I6.out rfl (cellsT _) ?_)))
            simp only [Exit.jump]
            refine bodyPost_ret (results_cell_one rfl _ _ (w.heap.size + 1) T.zero.cells rfl (run_loadVar_row _ _ 41 41 _ (0, 0) _ (setRow_heap _ _ _ _ _ _ HY6.out.res) Tryd.underlying41 rfl I6.out)) rfl ?_
            rw [HRE.out]
            exact ⟨rfl, below_setRow HY6.out.bel (Nat.le_succ _) _⟩
        · have hd : ((er : Int) != 0) = true := bne_iff_ne.2 (by omega)
          have HRE : Hid (r = (T.zero, er)) := by have h1 := HR2.out; rw [chkF_3 rfl her] at h1; exact h1
          clear her
          go_wp2
          go_step3
          refine ⟨rfl, ?_⟩
          unfold Later
          go_wp2_with (first
            | ((with_reducible show wpList _ _ _ _ _ _); (refine wpList_store_row rfl 41 (.tmp 12) (.tmp 68) rfl (w.heap.size + 1) T.zero.cells rfl rfl 41 _ HY5.out.res I6.out rfl (cellsT _) ?_)))
          simp only [Exit.jump]
          refine bodyPost_ret (results_cell_one rfl _ _ (w.heap.size + 1) T.zero.cells rfl (run_loadVar_row _ _ 41 41 _ (0, 0) _ (setRow_heap _ _ _ _ _ _ HY5.out.res) Tryd.underlying41 rfl I6.out)) rfl ?_
          rw [HRE.out]
          exact ⟨rfl, below_setRow HY5.out.bel (Nat.le_succ _) _⟩
      · have hd : ((ve : Int) != 0) = true := bne_iff_ne.2 (by omega)
        have HRE : Hid (r = (T.zero, ve)) := by have h1 := HR2.out; rw [chkF_2 hve] at h1; exact h1
        clear hve HWH HRD
        go_wp2_with (first
          | ((with_reducible show wpList _ _ _ _ _ _); (refine wpList_store_row rfl 41 (.tmp 14) (.tmp 32) rfl (w.heap.size + 1 + 1) #[.int .i64 v0, .int .i64 v1, .int .i64 v2, .int .i64 v3, .int .i64 v4, .int .i64 v5] rfl rfl 41 _ HY3.out.tok IC.out rfl (cellsT ⟨v0, v1, v2, v3, v4, v5⟩) ?_); (rw [HW4.out])))
        go_step3
        refine ⟨rfl, ?_⟩
        unfold Later
        go_wp2_with (first
          | ((with_reducible show wpList _ _ _ _ _ _); (refine wpList_store_row rfl 41 (.tmp 12) (.tmp 68) rfl (w.heap.size + 1) T.zero.cells rfl rfl 41 _ HY4.out.res I6.out rfl (cellsT _) ?_)))
        simp only [Exit.jump]
        refine bodyPost_ret (results_cell_one rfl _ _ (w.heap.size + 1) T.zero.cells rfl (run_loadVar_row _ _ 41 41 _ (0, 0) _ (setRow_heap _ _ _ _ _ _ HY4.out.res) Tryd.underlying41 rfl I6.out)) rfl ?_
        rw [HRE.out]
        exact ⟨rfl, below_setRow HY4.out.bel (Nat.le_succ _) _⟩
  · rw [decide_eq_false hok]
    have HRE : Hid (r = (T.zero, 2)) := by have h1 := HR.out; rw [decide_eq_false (fun hh => hok hh.1), chkF_1] at h1; exact h1
    clear hok HRD
    go_wp2
    go_step3
    refine ⟨rfl, ?_⟩
    unfold Later
    go_wp2_with (first
      | ((with_reducible show wpList _ _ _ _ _ _); (refine wpList_store_row rfl 41 (.tmp 12) (.tmp 68) rfl (w.heap.size + 1) T.zero.cells rfl rfl 41 _ HY2.out.res I6.out rfl (cellsT _) ?_)))
    simp only [Exit.jump]
    refine bodyPost_ret (results_cell_one rfl _ _ (w.heap.size + 1) T.zero.cells rfl (run_loadVar_row _ _ 41 41 _ (0, 0) _ (setRow_heap _ _ _ _ _ _ HY2.out.res) Tryd.underlying41 rfl I6.out)) rfl ?_
    rw [HRE.out]
    exact ⟨rfl, below_setRow HY2.out.bel (Nat.le_succ _) _⟩
end Go.Proofs.YtppbpmmfcoblmaaDoor.Chl

/- Lemmas that the proof stands on, in build order: TokV ChD. -/
import Derived.Test.YtppbpmmfcoblmaaDoorJ16496690
import Derived.Test.YtppbpmmfcoblmaaDoorJ179ddfcd
import Derived.Test.YtppbpmmfcoblmaaDoorJ20e6aa53
/- Layer 10 (token): the reference's Verify, as a contract. -/
namespace Go.Proofs.YtppbpmmfcoblmaaDoor.Tok
open Go.RowKit Var Fld Frm Sha Hmc Rg

theorem opnF_may {er dn : Nat} {t : T} {tg : List Int} (h : (opnF er dn t tg).2.2 = 0) : (opnF er dn t tg).1.may ∧ (opnF er dn t tg).2.1.length = 32 := by
  unfold opnF at h ⊢
  by_cases h1 : er ≠ 0
  · rw [if_pos h1] at h
    exact absurd h h1
  rw [if_neg h1] at h ⊢
  by_cases h2 : dn ≠ 0
  · rw [if_pos h2] at h
    exact absurd h h2
  rw [if_neg h2] at h ⊢
  by_cases h3 : t.may ∧ tg.length = 32
  · rw [if_pos h3]
    exact h3
  · rw [if_neg h3] at h
    simp at h
theorem opnF_tag (er dn : Nat) (t : T) (tg : List Int) : (opnF er dn t tg).2.1 = [] ∨ (opnF er dn t tg).2.1 = tg := by
  unfold opnF
  by_cases h1 : er ≠ 0
  · rw [if_pos h1]; exact .inl rfl
  rw [if_neg h1]
  by_cases h2 : dn ≠ 0
  · rw [if_pos h2]; exact .inl rfl
  rw [if_neg h2]
  by_cases h3 : t.may ∧ tg.length = 32
  · rw [if_pos h3]; exact .inr rfl
  · rw [if_neg h3]; exact .inl rfl
theorem opn_may {b : List Int} (h : (opn b).2.2 = 0) : (opn b).1.may ∧ (opn b).2.1.length = 32 := opnF_may h
theorem after_byt {xs : List Int} (h : Byt xs) (e s er : Nat) : Byt (after xs e s er).1 := by
  unfold after
  split
  · exact h
  split
  · exact h
  · exact h.drop _
theorem nxl_byt {xs : List Int} (h : Byt xs) (m : Int) : Byt (nxl xs m).1 := by
  unfold nxl
  split
  · intro x hx; simp at hx
  split
  · intro x hx; simp at hx
  · exact (h.drop _).take _
theorem tagOf_byt {b : List Int} (h : Byt b) : Byt (opn b).2.1 := by
  have hC : Byt (wholly 2 b).1 := wholly_byt h
  unfold opn
  rcases opnF_tag (wholly 2 b).2 (done (s7 (wholly 2 b).1).1 (s7 (wholly 2 b).1).2) (tokOf (wholly 2 b).1) (tagOf (wholly 2 b).1) with h1 | h1
  · rw [h1]; intro x hx; simp at hx
  · rw [h1]
    obtain ⟨C, hC'⟩ : ∃ C, C = (wholly 2 b).1 := ⟨_, rfl⟩
    rw [← hC'] at hC ⊢
    have e1 : Byt (s1 C).1 := by unfold s1 rd1; exact after_byt hC _ _ _
    have e2 : Byt (s2 C).1 := by unfold s2 rd1; exact after_byt e1 _ _ _
    have e3 : Byt (s3 C).1 := by unfold s3 rd1; exact after_byt e2 _ _ _
    have e4 : Byt (s4 C).1 := by unfold s4 rd1; exact after_byt e3 _ _ _
    have e5 : Byt (s5 C).1 := by unfold s5 rd1; exact after_byt e4 _ _ _
    have hs : Byt (s6 C).1 := by unfold s6 rd1; exact after_byt e5 _ _ _
    unfold tagOf vals
    split
    · intro x hx; simp at hx
    · exact nxl_byt hs 32
theorem fnd_le {w : World} {B n : Nat} {A : Option Addr} {K : List Kp} (h : KRow w B A n K) (hk : ∀ k ∈ K, k.p.n ≤ 100) (e : Int) : ((fnd (ls K) e).getD []).length ≤ 100 := by
  unfold fnd
  cases hf : (ls K).find? (fun k => k.1 == e) with
  | none => simp
  | some q =>
    obtain ⟨k, hk', rfl⟩ := List.mem_map.1 (List.mem_of_find?_eq_some hf)
    have h1 := hk k hk'
    have h2 := (h.ok k hk').len
    simp only [Option.map_some, Option.getD_some, Kp.l]
    omega
theorem fnd_byt {w : World} {B n : Nat} {A : Option Addr} {K : List Kp} (h : KRow w B A n K) {e : Int} {x : List Int} (hx : fnd (ls K) e = some x) : ∀ y ∈ x, 0 ≤ y ∧ y ≤ 255 := by
  unfold fnd at hx
  cases hf : (ls K).find? (fun k => k.1 == e) with
  | none => rw [hf] at hx; cases hx
  | some q =>
    rw [hf] at hx
    obtain ⟨k, hk', rfl⟩ := List.mem_map.1 (List.mem_of_find?_eq_some hf)
    simp only [Option.map_some, Option.some.injEq] at hx
    subst hx
    exact (h.ok k hk').byt

/-- What a call that verifies answers. -/
def VerTo (w : World) (r : T × Nat) (x : Ending) (w' : World) : Prop := x = .returned (.tuple #[r.1.val, .int .i64 (r.2 : Int)]) ∧ Below w.heap.size w w'

set_option maxHeartbeats 3200000 in
set_option maxRecDepth 100000 in
theorem refverify_any (keep nw : Int) (A A' : Option Addr) (n c n' c' : Nat) (K : List Kp) (b : List Int) (w : World) (h : KRow w w.heap.size A n K) (hn : n ≤ 4398046511104) (hk100 : ∀ k ∈ K, k.p.n ≤ 100) (h' : Row .u8 w w.heap.size A' n' b) (hb : Byt b) (hn' : n' ≤ 4398046511104) (hc' : n' ≤ c') (hcm' : c' ≤ maxLen) :
    Calls Tryd.prog 40 #[.agg #[.int .i64 keep, .slice A n c], .slice A' n' c', .int .i64 nw] w (VerTo w (verify (ls K) b nw)) := by
  have H := Lib.hid h
  have H100 := Lib.hid hk100
  obtain ⟨w2, hw2⟩ : ∃ w2, (w.alloc (.cells #[.int .i64 keep, .slice A n c] 24)).alloc (.cells T.zero.cells 41) = w2 := ⟨_, rfl⟩
  have hb2 : Below w.heap.size w w2 := by rw [← hw2]; exact ((Below.refl _ _).alloc (Nat.le_refl _) _).alloc (by simp) _
  have hs2 : w2.heap.size = w.heap.size + 1 + 1 := by rw [← hw2]; simp
  have HG0 : Hid (w2.heap[w.heap.size]? = some (.cells #[.int .i64 keep, .slice A n c] 24 (0, 0))) := by unfold Hid; rw [← hw2]; exact heap_alloc2_old w _ _
  have HZ0 : Hid (w2.heap[w.heap.size + 1]? = some (.cells T.zero.cells 41 (0, 0))) := by unfold Hid; rw [← hw2]; exact heap_alloc2_new w _ _
  have HB2 := Lib.hid hb2
  have HS2 := Lib.hid hs2
  have HW2 := Lib.hid hw2
  have HO := Lib.hid (refopen_any A' n' c' b w2 ((h'.below hb2).more hb2.size) hb hn' hc' hcm')
  have HMAY := Lib.hid (fun h => opn_may (b := b) h)
  have HTB := Lib.hid (tagOf_byt hb)
  obtain ⟨r, hr⟩ : ∃ r, r = verify (ls K) b nw := ⟨_, rfl⟩
  rw [← hr]
  unfold verify at hr
  obtain ⟨q, hq⟩ : ∃ q, q = opn b := ⟨_, rfl⟩
  rw [← hq] at hr HO HTB
  have HMAY2 : Hid (q.2.2 = 0 → q.1.may ∧ q.2.1.length = 32) := by unfold Hid; rw [hq]; exact HMAY.out
  obtain ⟨U, tg, er⟩ := q
  have HR := Lib.hid hr
  have I6 : Hid ((Tryd.prog.info? 41).map (·.size) = some T.zero.cells.size) := infoT
  clear h hk100 hb2 hs2 hw2 h' hb hn' hc' hcm' hr hq HMAY
  go_enter Tryd.func40, Tryd.ntmps40
  go_wp2_with fail
  refine Calls.mono (by have h1 := HO.out; rw [← HW2.out] at h1; exact h1) ?_
  rintro e3 w3 ⟨A3, n3, c3, rfl, hr3, hnil3, hnc3, hb3⟩
  rw [HW2.out] at hb3
  have HR3 := Lib.hid hr3
  have HB3 := Lib.hid (HB2.out.trans (hb3.mono HB2.out.size))
  have HZ3 : Hid (w3.heap[w.heap.size + 1]? = some (.cells T.zero.cells 41 (0, 0))) := (hb3.block _ (by have := HS2.out; omega)).trans HZ0.out
  have HG3 : Hid (w3.heap[w.heap.size]? = some (.cells #[.int .i64 keep, .slice A n c] 24 (0, 0))) := (hb3.block _ (by have := HS2.out; omega)).trans HG0.out
  unfold T.val
  have hal : Below w3.heap.size w3 (w3.alloc (.cells U.cells 41)) := (Below.refl _ _).alloc (Nat.le_refl _) _
  have HT4 : Hid ((w3.alloc (.cells U.cells 41)).heap[w3.heap.size]? = some (.cells U.cells 41 (0, 0))) := heap_alloc_new w3 _
  have HZ4 : Hid ((w3.alloc (.cells U.cells 41)).heap[w.heap.size + 1]? = some (.cells T.zero.cells 41 (0, 0))) := (hal.block _ (Array.getElem?_eq_some_iff.1 HZ3.out).1).trans HZ3.out
  have HG4 : Hid ((w3.alloc (.cells U.cells 41)).heap[w.heap.size]? = some (.cells #[.int .i64 keep, .slice A n c] 24 (0, 0))) := (hal.block _ (Array.getElem?_eq_some_iff.1 HG3.out).1).trans HG3.out
  have HB4 := Lib.hid (HB3.out.trans (hal.mono HB3.out.size))
  have HR4 := Lib.hid ((HR3.out.below hal).more hal.size)
  have HTOP : Hid (w.heap.size + 1 < w3.heap.size) := (Array.getElem?_eq_some_iff.1 HZ3.out).1
  clear hr3 hnil3 hnc3 hb3 hal HR3 HB3 HZ3 HG3 HG0 HZ0 HB2 HO
  obtain ⟨utr, uac, ust, uis, uun, uep⟩ := U
  have eU : (⟨utr, uac, ust, uis, uun, uep⟩ : T).cells = #[.int .i64 utr, .int .i64 uac, .int .i64 ust, .int .i64 uis, .int .i64 uun, .int .i64 uep] := rfl
  rw [eU] at HT4 HZ4 HG4 HB4 HR4 ⊢
  clear eU
  by_cases her : er = 0
  · subst her
    obtain ⟨hmay, htl⟩ := HMAY2.out rfl
    have hok := hmay.ok
    have HOK := Lib.hid hok
    have HTL : Hid (tg.length = 32) := htl
    have hr2 := HR.out
    rw [if_neg (by simp)] at hr2
    simp only at hr2
    have HR5 := Lib.hid hr2
    have g0 := cell_of_blk (j := 0) HG4.out rfl
    have g1 := cell_of_blk (j := 1) HG4.out rfl
    have u5 := cell_of_blk (j := 5) HT4.out rfl
    have HFI := Lib.hid (reffind_any keep uep A n c w.heap.size K (w3.alloc (.cells #[.int .i64 utr, .int .i64 uac, .int .i64 ust, .int .i64 uis, .int .i64 uun, .int .i64 uep] 41)) (H.out.below HB4.out) HB4.out.size hn)
    clear hmay hok htl hr2 HR HMAY2
    go_wp2_with fail
    refine HFI.out.mono ?_
    rintro e5 w5 ⟨A5, n5, c5, rfl, hr5, hnil5, -, hb5⟩
    have HBR := Lib.hid hr5
    have HN5 := Lib.hid hnil5
    have HB5 := Lib.hid (HB4.out.trans (hb5.mono HB4.out.size))
    have HT5 : Hid (w5.heap[w3.heap.size]? = some (.cells #[.int .i64 utr, .int .i64 uac, .int .i64 ust, .int .i64 uis, .int .i64 uun, .int .i64 uep] 41 (0, 0))) := (hb5.block _ (Array.getElem?_eq_some_iff.1 HT4.out).1).trans HT4.out
    have HZ5 : Hid (w5.heap[w.heap.size + 1]? = some (.cells T.zero.cells 41 (0, 0))) := (hb5.block _ (Array.getElem?_eq_some_iff.1 HZ4.out).1).trans HZ4.out
    have HR45 := Lib.hid ((HR4.out.below hb5).more hb5.size)
    have hx100 := fnd_le H.out H100.out uep
    clear hr5 hnil5 hb5 g0 g1 u5
    generalize w3.heap.size = G3 at *
    cases hfn : fnd (ls K) uep with
    | none =>
      have hrr : r = (T.zero, 20) := by have h1 := HR5.out; rw [hfn] at h1; exact h1
      have HRE := Lib.hid hrr
      clear hrr hfn
      go_wp2_with (with_reducible refine wpList_store_row rfl 41 (.tmp 6) (.tmp 32) rfl (w.heap.size + 1) T.zero.cells rfl rfl 41 _ HZ5.out I6.out rfl (cellsT _) ?_)
      refine bodyPost_ret (results_cell_one rfl _ _ (w.heap.size + 1) T.zero.cells rfl (run_loadVar_row _ _ 41 41 _ (0, 0) _ (setRow_heap _ _ _ _ _ _ HZ5.out) Tryd.underlying41 rfl I6.out)) rfl ?_
      rw [HRE.out]
      exact ⟨rfl, below_setRow HB5.out (Nat.le_succ _) _⟩
    | some k =>
      have hr6 := HR5.out
      have hr7 := HBR.out
      rw [hfn] at hr6 hr7 hx100
      simp only [Option.getD_some] at hr6 hr7 hx100
      have HR6 := Lib.hid hr6
      have HRK := Lib.hid hr7
      have HX1 := Lib.hid hx100
      have hkb := fnd_byt H.out hfn
      have HKB := Lib.hid hkb
      rw [show (some k).isSome = true from rfl]
      clear hr6 hr7 hx100 hfn hkb HBR HR5
      have u0 := cell_of_blk (j := 0) HT5.out rfl
      have u1 := cell_of_blk (j := 1) HT5.out rfl
      have u2 := cell_of_blk (j := 2) HT5.out rfl
      have u3 := cell_of_blk (j := 3) HT5.out rfl
      have u4 := cell_of_blk (j := 4) HT5.out rfl
      have u5 := cell_of_blk (j := 5) HT5.out rfl
      have HTG : Hid (Calls Tryd.prog 24 #[.slice A5 n5 c5, .agg #[.int .i64 utr, .int .i64 uac, .int .i64 ust, .int .i64 uis, .int .i64 uun, .int .i64 uep]] w5 fun e w' => ∃ v, e = .returned v ∧ w'.ownsRow w5.heap.size 5 1 v 32 ((tagT k ⟨utr, uac, ust, uis, uun, uep⟩).map (Value.int .u8)) ∧ Below w5.heap.size w5 w') := reftokentag_any A5 n5 c5 w5.heap.size k ⟨utr, uac, ust, uis, uun, uep⟩ HOK.out w5 HRK.out (Nat.le_refl _) HN5.out (by have h1 := HRK.out.len; have h2 := HX1.out; omega) HKB.out
      go_wp2_with fail
      refine HTG.out.mono ?_
      rintro e6 w6 ⟨v6, rfl, hown6, hb6⟩
      obtain ⟨A6, c6, rfl, -, -⟩ := own_slice hown6
      have HR6' : Hid (Row .u8 w6 w6.heap.size A6 32 (tagT k ⟨utr, uac, ust, uis, uun, uep⟩)) := Row.of_own hown6
      have HRT6 := Lib.hid ((HR45.out.below hb6).more hb6.size)
      have HB6 := Lib.hid (HB5.out.trans (hb6.mono HB5.out.size))
      have HT6 : Hid (w6.heap[G3]? = some (.cells #[.int .i64 utr, .int .i64 uac, .int .i64 ust, .int .i64 uis, .int .i64 uun, .int .i64 uep] 41 (0, 0))) := (hb6.block _ (Array.getElem?_eq_some_iff.1 HT5.out).1).trans HT5.out
      have HZ6 : Hid (w6.heap[w.heap.size + 1]? = some (.cells T.zero.cells 41 (0, 0))) := (hb6.block _ (Array.getElem?_eq_some_iff.1 HZ5.out).1).trans HZ5.out
      have hn3 : n3 ≤ 4398046511104 := by have h1 := HRT6.out.len; have h2 := HTL.out; omega
      clear hown6 hb6 u0 u1 u2 u3 u4 u5
      go_wp2_with fail
      refine (same_any A6 A3 32 c6 n3 c3 _ _ (tagT k ⟨utr, uac, ust, uis, uun, uep⟩) tg w6 (by omega) hn3 HR6'.out HRT6.out).mono ?_
      rintro e7 w7 ⟨rfl, q7, rfl⟩
      have HB7 : Hid (Below w.heap.size w (w6.drewN q7)) := below_drewN HB6.out
      have HT7 : Hid ((w6.drewN q7).heap[G3]? = some (.cells #[.int .i64 utr, .int .i64 uac, .int .i64 ust, .int .i64 uis, .int .i64 uun, .int .i64 uep] 41 (0, 0))) := HT6.out
      have HZ7 : Hid ((w6.drewN q7).heap[w.heap.size + 1]? = some (.cells T.zero.cells 41 (0, 0))) := HZ6.out
      generalize w6.drewN q7 = w7 at *
      by_cases htag : tagT k ⟨utr, uac, ust, uis, uun, uep⟩ = tg
      · rw [decide_eq_true htag]
        have h1 := HR6.out
        rw [if_neg (by simp only [ne_eq, Decidable.not_not]; exact htag)] at h1
        have HR8 := Lib.hid h1
        have k3 := cell_of_blk (j := 3) HT7.out rfl
        have k4 := cell_of_blk (j := 4) HT7.out rfl
        clear h1 htag
        by_cases hlo : nw < uis
        · have hd1 : decide (nw < uis) = true := decide_eq_true hlo
          have hrr : r = (T.zero, 22) := by have h1 := HR8.out; rw [if_pos (.inl hlo)] at h1; exact h1
          have HRE := Lib.hid hrr
          clear hrr hlo
          go_wp2_with (with_reducible refine wpList_store_row rfl 41 (.tmp 6) (.tmp 50) rfl (w.heap.size + 1) T.zero.cells rfl rfl 41 _ HZ7.out I6.out rfl (cellsT _) ?_)
          refine bodyPost_ret (results_cell_one rfl _ _ (w.heap.size + 1) T.zero.cells rfl (run_loadVar_row _ _ 41 41 _ (0, 0) _ (setRow_heap _ _ _ _ _ _ HZ7.out) Tryd.underlying41 rfl I6.out)) rfl ?_
          rw [HRE.out]
          exact ⟨rfl, below_setRow HB7.out (Nat.le_succ _) _⟩
        by_cases hhi : uun < nw
        · have hd1 : decide (nw < uis) = false := decide_eq_false hlo
          have hd2 : decide (uun < nw) = true := decide_eq_true hhi
          have hrr : r = (T.zero, 22) := by have h1 := HR8.out; rw [if_pos (.inr hhi)] at h1; exact h1
          have HRE := Lib.hid hrr
          clear hrr hlo hhi
          go_wp2_with (with_reducible refine wpList_store_row rfl 41 (.tmp 6) (.tmp 50) rfl (w.heap.size + 1) T.zero.cells rfl rfl 41 _ HZ7.out I6.out rfl (cellsT _) ?_)
          refine bodyPost_ret (results_cell_one rfl _ _ (w.heap.size + 1) T.zero.cells rfl (run_loadVar_row _ _ 41 41 _ (0, 0) _ (setRow_heap _ _ _ _ _ _ HZ7.out) Tryd.underlying41 rfl I6.out)) rfl ?_
          rw [HRE.out]
          exact ⟨rfl, below_setRow HB7.out (Nat.le_succ _) _⟩
        · have hd1 : decide (nw < uis) = false := decide_eq_false hlo
          have hd2 : decide (uun < nw) = false := decide_eq_false hhi
          have hrr : r = (⟨utr, uac, ust, uis, uun, uep⟩, 0) := by have h1 := HR8.out; rw [if_neg (fun h => Or.elim h hlo hhi)] at h1; exact h1
          have HRE := Lib.hid hrr
          have IC : Hid ((Tryd.prog.info? 41).map (·.size) = some (#[.int .i64 utr, .int .i64 uac, .int .i64 ust, .int .i64 uis, .int .i64 uun, .int .i64 uep] : Array Value).size) := infoT
          have SC : Hid (T.zero.cells.size = (#[.int .i64 utr, .int .i64 uac, .int .i64 ust, .int .i64 uis, .int .i64 uun, .int .i64 uep] : Array Value).size) := rfl
          clear hrr hlo hhi
          go_wp2_with (first
            | ((with_reducible show wpList _ _ _ _ _ _); (refine wpList_load_row rfl 41 (.tmp 8) rfl G3 rfl 41 #[.int .i64 utr, .int .i64 uac, .int .i64 ust, .int .i64 uis, .int .i64 uun, .int .i64 uep] (0, 0) _ HT7.out Tryd.underlying41 rfl IC.out ?_))
            | ((with_reducible show wpList _ _ _ _ _ _); refine wpList_store_row rfl 41 (.tmp 6) (.tmp 51) rfl (w.heap.size + 1) #[.int .i64 utr, .int .i64 uac, .int .i64 ust, .int .i64 uis, .int .i64 uun, .int .i64 uep] rfl rfl 41 _ HZ7.out IC.out SC.out (cellsT ⟨utr, uac, ust, uis, uun, uep⟩) ?_))
          refine bodyPost_ret (results_cell_one rfl _ _ (w.heap.size + 1) #[.int .i64 utr, .int .i64 uac, .int .i64 ust, .int .i64 uis, .int .i64 uun, .int .i64 uep] rfl (run_loadVar_row _ _ 41 41 _ (0, 0) _ (setRow_heap _ _ _ _ _ _ HZ7.out) Tryd.underlying41 rfl infoT)) rfl ?_
          rw [HRE.out]
          exact ⟨rfl, below_setRow HB7.out (Nat.le_succ _) _⟩
      · rw [decide_eq_false htag]
        have hrr : r = (T.zero, 21) := by have h1 := HR6.out; rw [if_pos htag] at h1; exact h1
        have HRE := Lib.hid hrr
        clear hrr htag
        go_wp2_with (with_reducible refine wpList_store_row rfl 41 (.tmp 6) (.tmp 39) rfl (w.heap.size + 1) T.zero.cells rfl rfl 41 _ HZ7.out I6.out rfl (cellsT _) ?_)
        refine bodyPost_ret (results_cell_one rfl _ _ (w.heap.size + 1) T.zero.cells rfl (run_loadVar_row _ _ 41 41 _ (0, 0) _ (setRow_heap _ _ _ _ _ _ HZ7.out) Tryd.underlying41 rfl I6.out)) rfl ?_
        rw [HRE.out]
        exact ⟨rfl, below_setRow HB7.out (Nat.le_succ _) _⟩
  · have hd : ((er : Int) != 0) = true := bne_iff_ne.2 (by omega)
    have hrr : r = (T.zero, er) := by have h1 := HR.out; rw [if_pos her] at h1; exact h1
    have HRE := Lib.hid hrr
    clear hrr her
    go_wp2_with (with_reducible refine wpList_store_row rfl 41 (.tmp 6) (.tmp 21) rfl (w.heap.size + 1) T.zero.cells rfl rfl 41 _ HZ4.out I6.out rfl (cellsT _) ?_)
    refine bodyPost_ret (results_cell_one rfl _ _ (w.heap.size + 1) T.zero.cells rfl (run_loadVar_row _ _ 41 41 _ (0, 0) _ (setRow_heap _ _ _ _ _ _ HZ4.out) Tryd.underlying41 rfl I6.out)) rfl ?_
    rw [HRE.out]
    exact ⟨rfl, below_setRow HB4.out (Nat.le_succ _) _⟩
end Go.Proofs.YtppbpmmfcoblmaaDoor.Tok

/- Layer 11 (challenge): the reference's Device, as a contract. -/
namespace Go.Proofs.YtppbpmmfcoblmaaDoor.Chl
open Go.RowKit Var Fld Frm Sha Hmc Rg Tok

/-- What a call for a device's key answers. -/
def DevTo (w : World) (r : List Int × Nat) (x : Ending) (w' : World) : Prop :=
  ∃ A n c, x = .returned (.tuple #[.slice A n c, .int .i64 (r.2 : Int)]) ∧ Row .u8 w' w'.heap.size A n r.1 ∧ (A = none → c = 0) ∧ n ≤ c ∧ c ≤ maxLen ∧ Below w.heap.size w w'
theorem own_max {w : World} {base n : Nat} {e : TypeId} {v : Value} {xs : List Value} (h : w.ownsRow base e 1 v n xs) : ∃ A c, v = .slice A n c ∧ n ≤ c ∧ c ≤ maxLen ∧ (A = none → c = 0) := by
  rcases h.2 with ⟨rfl, rfl⟩ | ⟨g, cap, cur, rfl, _, _, hc, hm, _⟩
  · exact ⟨none, 0, rfl, Nat.le_refl _, Nat.zero_le _, fun _ => rfl⟩
  · exact ⟨_, cap, rfl, hc, hm, fun h => by cases h⟩
theorem devTo_no {w w' : World} {e : Nat} (hb : Below w.heap.size w w') : DevTo w ([], e) (.returned (.tuple #[.slice none 0 0, .int .i64 (e : Int)])) w' :=
  ⟨none, 0, 0, rfl, Row.none_, fun _ => rfl, Nat.le_refl _, Nat.zero_le _, hb⟩
theorem devTo_own {w w' : World} {k b : List Int} {v : Value} (h : w'.ownsRow w.heap.size 5 1 v 32 ((devK k b).map (Value.int .u8))) (hb : Below w.heap.size w w') : DevTo w (devK k b, 0) (.returned (.tuple #[v, .int .i64 0])) w' := by
  obtain ⟨A, c, rfl, h1, h2, h3⟩ := own_max h
  exact ⟨A, 32, c, rfl, Row.of_own h, h3, h1, h2, hb⟩

set_option maxHeartbeats 3200000 in
set_option maxRecDepth 100000 in
theorem refdevice_any (keep : Int) (A A' : Option Addr) (n c n' c' : Nat) (K : List Kp) (b : List Int) (w : World) (h : KRow w w.heap.size A n K) (hn : n ≤ 4398046511104) (hk100 : ∀ k ∈ K, k.p.n ≤ 100) (h' : Row .u8 w w.heap.size A' n' b) (hnil' : A' = none → c' = 0) (hb : Byt b) (hn' : n' ≤ 1000000) (hc' : n' ≤ c') (hcm' : c' ≤ maxLen) :
    Calls Tryd.prog 9 #[.agg #[.int .i64 keep, .slice A n c], .slice A' n' c'] w (DevTo w (device (ls K) b)) := by
  have H := Lib.hid h
  have HH := Lib.hid h'
  have H100 := Lib.hid hk100
  obtain ⟨w2, hw2⟩ : ∃ w2, w.alloc (.cells #[.int .i64 keep, .slice A n c] 24) = w2 := ⟨_, rfl⟩
  have hb2 : Below w.heap.size w w2 := by rw [← hw2]; exact (Below.refl _ _).alloc (Nat.le_refl _) _
  have hs2 : w2.heap.size = w.heap.size + 1 := by rw [← hw2]; simp
  have HG0 : Hid (w2.heap[w.heap.size]? = some (.cells #[.int .i64 keep, .slice A n c] 24 (0, 0))) := by unfold Hid; rw [← hw2]; exact heap_alloc_new w _
  have HB2 := Lib.hid hb2
  have HS2 := Lib.hid hs2
  have HW2 := Lib.hid hw2
  have HNIL := Lib.hid hnil'
  have HBY := Lib.hid hb
  have HO := Lib.hid (refopen_any A' n' c' b w2 ((h'.below hb2).more hb2.size) hb (by omega) hc' hcm')
  have HMAY := Lib.hid (fun h => opn_may (b := b) h)
  have HTB := Lib.hid (tagOf_byt hb)
  obtain ⟨r, hr⟩ : ∃ r, r = device (ls K) b := ⟨_, rfl⟩
  rw [← hr]
  unfold device at hr
  obtain ⟨q, hq⟩ : ∃ q, q = opn b := ⟨_, rfl⟩
  rw [← hq] at hr HO HTB
  have HMAY2 : Hid (q.2.2 = 0 → q.1.may ∧ q.2.1.length = 32) := by unfold Hid; rw [hq]; exact HMAY.out
  obtain ⟨U, tg, er⟩ := q
  have HR := Lib.hid hr
  clear h hk100 hb2 hs2 hw2 h' hb hc' hcm' hr hq HMAY hnil'
  go_enter Tryd.func9, Tryd.ntmps9
  go_wp2_with fail
  refine Calls.mono (by have h1 := HO.out; rw [← HW2.out] at h1; exact h1) ?_
  rintro e3 w3 ⟨A3, n3, c3, rfl, hr3, hnil3, hnc3, hb3⟩
  rw [HW2.out] at hb3
  have HR3 := Lib.hid hr3
  have HB3 := Lib.hid (HB2.out.trans (hb3.mono HB2.out.size))
  have HG3 : Hid (w3.heap[w.heap.size]? = some (.cells #[.int .i64 keep, .slice A n c] 24 (0, 0))) := (hb3.block _ (by have := HS2.out; omega)).trans HG0.out
  unfold T.val
  obtain ⟨utr, uac, ust, uis, uun, uep⟩ := U
  have eU : (⟨utr, uac, ust, uis, uun, uep⟩ : T).cells = #[.int .i64 utr, .int .i64 uac, .int .i64 ust, .int .i64 uis, .int .i64 uun, .int .i64 uep] := rfl
  rw [eU]
  obtain ⟨w4, hw4⟩ : ∃ w4, w3.alloc (.cells #[.int .i64 utr, .int .i64 uac, .int .i64 ust, .int .i64 uis, .int .i64 uun, .int .i64 uep] 41) = w4 := ⟨_, rfl⟩
  have hal : Below w3.heap.size w3 w4 := by rw [← hw4]; exact (Below.refl _ _).alloc (Nat.le_refl _) _
  have HT4 : Hid (w4.heap[w3.heap.size]? = some (.cells #[.int .i64 utr, .int .i64 uac, .int .i64 ust, .int .i64 uis, .int .i64 uun, .int .i64 uep] 41 (0, 0))) := by unfold Hid; rw [← hw4]; exact heap_alloc_new w3 _
  have HG4 : Hid (w4.heap[w.heap.size]? = some (.cells #[.int .i64 keep, .slice A n c] 24 (0, 0))) := (hal.block _ (Array.getElem?_eq_some_iff.1 HG3.out).1).trans HG3.out
  have HB4 := Lib.hid (HB3.out.trans (hal.mono HB3.out.size))
  have HR4 : Hid (Row .u8 w4 w4.heap.size A3 n3 tg) := (HR3.out.below hal).more hal.size
  have HW4 := Lib.hid hw4
  clear hr3 hnil3 hnc3 hb3 hal HR3 HB3 HG3 HG0 HB2 HO eU
  by_cases her : er = 0
  · subst her
    obtain ⟨hmay, htl⟩ := HMAY2.out rfl
    have hok := hmay.ok
    have HOK := Lib.hid hok
    have HTL : Hid (tg.length = 32) := htl
    have hr2 := HR.out
    rw [if_neg (by simp)] at hr2
    simp only at hr2
    have HR5 := Lib.hid hr2
    have g0 : w4.cell? ⟨w.heap.size, 0, none⟩ = some (.int .i64 keep) := cell_of_blk HG4.out rfl
    have g1 : w4.cell? ⟨w.heap.size, 1, none⟩ = some (.slice A n c) := cell_of_blk HG4.out rfl
    have u5 : w4.cell? ⟨w3.heap.size, 5, none⟩ = some (.int .i64 uep) := cell_of_blk HT4.out rfl
    have HFI := Lib.hid (reffind_any keep uep A n c w.heap.size K w4 (H.out.below HB4.out) HB4.out.size hn)
    rw [← hw4] at g0 g1 u5
    clear hmay hok htl hr2 HR HMAY2 hw4
    go_wp2_with fail
    rw [HW4.out]
    refine HFI.out.mono ?_
    rintro e5 w5 ⟨A5, n5, c5, rfl, hr5, hnil5, -, hb5⟩
    have HBR := Lib.hid hr5
    have HN5 := Lib.hid hnil5
    have HB5 := Lib.hid (HB4.out.trans (hb5.mono HB4.out.size))
    have HT5 : Hid (w5.heap[w3.heap.size]? = some (.cells #[.int .i64 utr, .int .i64 uac, .int .i64 ust, .int .i64 uis, .int .i64 uun, .int .i64 uep] 41 (0, 0))) := (hb5.block _ (Array.getElem?_eq_some_iff.1 HT4.out).1).trans HT4.out
    have HR45 := Lib.hid ((HR4.out.below hb5).more hb5.size)
    have hx100 := fnd_le H.out H100.out uep
    clear hr5 hnil5 hb5 g0 g1 u5 HW4
    generalize w3.heap.size = G3 at *
    cases hfn : fnd (ls K) uep with
    | none =>
      have hrr : r = ([], 20) := by have h1 := HR5.out; rw [hfn] at h1; exact h1
      have HRE := Lib.hid hrr
      rw [show (none : Option (List Int)).isSome = false from rfl]
      clear hrr hfn
      go_wp2
      go_ret2
      rw [HRE.out]
      exact devTo_no HB5.out
    | some k =>
      have hr6 := HR5.out
      have hr7 := HBR.out
      rw [hfn] at hr6 hr7 hx100
      simp only [Option.getD_some] at hr6 hr7 hx100
      have HR6 := Lib.hid hr6
      have HRK := Lib.hid hr7
      have HX1 := Lib.hid hx100
      have hkb := fnd_byt H.out hfn
      have HKB := Lib.hid hkb
      rw [show (some k).isSome = true from rfl]
      clear hr6 hr7 hx100 hfn hkb HBR HR5
      have u0 := cell_of_blk (j := 0) HT5.out rfl
      have u1 := cell_of_blk (j := 1) HT5.out rfl
      have u2 := cell_of_blk (j := 2) HT5.out rfl
      have u3 := cell_of_blk (j := 3) HT5.out rfl
      have u4 := cell_of_blk (j := 4) HT5.out rfl
      have u5 := cell_of_blk (j := 5) HT5.out rfl
      have HTG : Hid (Calls Tryd.prog 24 #[.slice A5 n5 c5, .agg #[.int .i64 utr, .int .i64 uac, .int .i64 ust, .int .i64 uis, .int .i64 uun, .int .i64 uep]] w5 fun e w' => ∃ v, e = .returned v ∧ w'.ownsRow w5.heap.size 5 1 v 32 ((tagT k ⟨utr, uac, ust, uis, uun, uep⟩).map (Value.int .u8)) ∧ Below w5.heap.size w5 w') := reftokentag_any A5 n5 c5 w5.heap.size k ⟨utr, uac, ust, uis, uun, uep⟩ HOK.out w5 HRK.out (Nat.le_refl _) HN5.out (by have h1 := HRK.out.len; have h2 := HX1.out; omega) HKB.out
      go_wp2_with fail
      refine HTG.out.mono ?_
      rintro e6 w6 ⟨v6, rfl, hown6, hb6⟩
      obtain ⟨A6, c6, rfl, -, -⟩ := own_slice hown6
      have HR6' : Hid (Row .u8 w6 w6.heap.size A6 32 (tagT k ⟨utr, uac, ust, uis, uun, uep⟩)) := Row.of_own hown6
      have HRT6 := Lib.hid ((HR45.out.below hb6).more hb6.size)
      have HRK6 := Lib.hid ((HRK.out.below hb6).more hb6.size)
      have HB6 := Lib.hid (HB5.out.trans (hb6.mono HB5.out.size))
      have hn3 : n3 ≤ 4398046511104 := by have h1 := HRT6.out.len; have h2 := HTL.out; omega
      clear hown6 hb6 u0 u1 u2 u3 u4 u5
      go_wp2_with fail
      refine (same_any A6 A3 32 c6 n3 c3 _ _ (tagT k ⟨utr, uac, ust, uis, uun, uep⟩) tg w6 (by omega) hn3 HR6'.out HRT6.out).mono ?_
      rintro e7 w7 ⟨rfl, q7, rfl⟩
      have HB7 : Hid (Below w.heap.size w (w6.drewN q7)) := Rg.below_drewN HB6.out
      have HRK7 : Hid (Row .u8 (w6.drewN q7) (w6.drewN q7).heap.size A5 n5 k) := HRK6.out.below (Rg.below_drewN (Below.refl _ _))
      generalize w6.drewN q7 = w7 at *
      by_cases htag : tagT k ⟨utr, uac, ust, uis, uun, uep⟩ = tg
      · rw [decide_eq_true htag]
        have hrr : r = (devK k b, 0) := by have h1 := HR6.out; rw [if_neg (by simp only [ne_eq, Decidable.not_not]; exact htag)] at h1; exact h1
        have HRE := Lib.hid hrr
        have HN5L : Hid (n5 ≤ 1099511627776) := by have h1 := HRK.out.len; have h2 := HX1.out; unfold Hid; omega
        clear htag hrr
        go_wp2_with fail
        refine (refderive_any A5 A' n5 c5 n' c' k b devB w7 HRK7.out ((HH.out.below HB7.out).more HB7.out.size) HN5.out HNIL.out HN5L.out (by omega) (by show 6 ≤ 137438953472; omega) HKB.out HBY.out).mono ?_
        rintro e8 w8 ⟨v8, rfl, hown8, hb8⟩
        rw [devB_sby] at hown8
        have HO8 : Hid (w8.ownsRow w.heap.size 5 1 v8 32 ((devK k b).map (Value.int .u8))) := own_low hown8 HB7.out.size
        have HB8 := Lib.hid (HB7.out.trans (hb8.mono HB7.out.size))
        clear hown8 hb8
        go_wp2
        go_ret2
        rw [HRE.out]
        exact devTo_own HO8.out HB8.out
      · rw [decide_eq_false htag]
        have hrr : r = ([], 21) := by have h1 := HR6.out; rw [if_pos htag] at h1; exact h1
        have HRE := Lib.hid hrr
        clear hrr htag
        go_wp2
        go_ret2
        rw [HRE.out]
        exact devTo_no HB7.out
  · have hd : ((er : Int) != 0) = true := bne_iff_ne.2 (by omega)
    have hrr : r = ([], er) := by have h1 := HR.out; rw [if_pos her] at h1; exact h1
    have HRE := Lib.hid hrr
    clear hrr her HR HMAY2
    have HB4' : Hid (Below w.heap.size w (w3.alloc (.cells #[.int .i64 utr, .int .i64 uac, .int .i64 ust, .int .i64 uis, .int .i64 uun, .int .i64 uep] 41))) := by unfold Hid; rw [HW4.out]; exact HB4.out
    clear hw4
    go_wp2
    go_ret2
    rw [HRE.out]
    exact devTo_no HB4'.out
end Go.Proofs.YtppbpmmfcoblmaaDoor.Chl

/- Lemmas that the proof stands on, in build order: GfF. -/
import Derived.Test.YtdgaaghkhkklpaaJ10c82568
import Derived.Test.YtdgaaghkhkklpaaJ19d4310d
import Derived.Test.YtdgaaghkhkklpaaJ28c1113c
import Derived.Test.YtdgaaghkhkklpaaJ34d9563b
/- Layer 15 (graph), the landed program: network and Take, as contracts. -/
namespace Go.Proofs.Ytdgaaghkhkklpaa.Gf
open Go.RowKit Rec Ints Ge Var Fld Frm Nu
theorem infoN : (Try.prog.info? 25).map (·.size) = some 3 := by kernel_rfl
theorem one_three {x : Int} {A A' : Option Addr} {n c m c' : Nat} : (#[.int .i64 x, .slice A n c, .slice A' m c'] : Array Value).all (·.oneCell') = true := all_oneCell_toArray (cs := [.int .i64 x, .slice A n c, .slice A' m c']) (by intro v hv; simp only [List.mem_cons, List.not_mem_nil, or_false] at hv; rcases hv with rfl | rfl | rfl <;> rfl)
/-- A network that was read. -/
def NetTo (g : Nat) (C : List Int) (w : World) (e : Ending) (w' : World) : Prop :=
  ∃ q1 q2, e = .returned (.agg #[.int .i64 (tV C), .slice (some ⟨q1, 0, none⟩) (tK C) (tK C), .slice (some ⟨q2, 0, none⟩) (tM C) (tM C)]) ∧ RRow twoS w' w'.heap.size (some ⟨q1, 0, none⟩) (tK C) (tN C).st ∧ RRow lkS w' w'.heap.size (some ⟨q2, 0, none⟩) (tM C) (tN C).lk ∧
    w.heap.size ≤ q1 ∧ w.heap.size ≤ q2 ∧ Rdr w' g (t5 C).1 (t5 C).2 ∧ Only (fun i => i = g) w w'
set_option maxHeartbeats 1600000 in
set_option maxRecDepth 100000 in
theorem network_any (g : Nat) (C : List Int) (w : World) (h : Rdr w g C 0) : Calls Try.prog 30 #[.pointer (some ⟨g, 0, none⟩)] w (NetTo g C w) := by
  have hmf : ∀ (fn : Fn) (first cap : Array Value) (w : World), (Instr.makeFunc fn first cap).run Try.prog w = .ok (.func fn first cap) w := fun _ _ _ _ => rfl
  have hgl := h.lt
  have HR := Lib.hid h
  have HKK := Lib.hid (tK_le C)
  have HMM := Lib.hid (tM_le C)
  clear h
  go_enter Try.func30, Try.ntmps30
  go_upto_region 1 with fail
  obtain ⟨p, hp⟩ : ∃ p, w.heap.size = p := ⟨_, rfl⟩
  have hb0 : Below w.heap.size w ((w.alloc (.cells #[.pointer (some ⟨g, 0, none⟩)] 62)).alloc (.cells #[.int .i64 0, .slice none 0 0, .slice none 0 0] 25)) := ((Below.refl _ w).alloc (Nat.le_refl _) _).alloc (by simp) _
  have hbx : ((w.alloc (.cells #[.pointer (some ⟨g, 0, none⟩)] 62)).alloc (.cells #[.int .i64 0, .slice none 0 0, .slice none 0 0] 25)).heap[w.heap.size]? = some (.cells #[.pointer (some ⟨g, 0, none⟩)] 62 (0, 0)) := (Below.heap_alloc _ _ _ (by simp)).trans (heap_alloc_new w _)
  have hbz : ((w.alloc (.cells #[.pointer (some ⟨g, 0, none⟩)] 62)).alloc (.cells #[.int .i64 0, .slice none 0 0, .slice none 0 0] 25)).heap[w.heap.size + 1]? = some (.cells #[.int .i64 0, .slice none 0 0, .slice none 0 0] 25 (0, 0)) := by
    have := heap_alloc_new (w.alloc (.cells #[.pointer (some ⟨g, 0, none⟩)] 62)) (.cells #[.int .i64 0, .slice none 0 0, .slice none 0 0] 25)
    rwa [World.size_alloc] at this
  have hR0 := HR.out.below hb0
  have HW : Hid (w.heap.size = p) := hp
  rw [hp] at hbx hbz hgl
  try rw [hp]
  generalize ((w.alloc (.cells #[.pointer (some ⟨g, 0, none⟩)] 62)).alloc (.cells #[.int .i64 0, .slice none 0 0, .slice none 0 0] 25)) = w1 at hb0 hbx hbz hR0 ⊢
  have hR1 : Rdr w1.drew g (C, 0).1 (C, 0).2 := hR0.below (Below.refl _ _).drew
  have hP : Only (fun i => i = g) w w1.drew := (Only.of_below hb0).drew
  have hQ : w1.drew.heap[p + 1]? = some (.cells #[.int .i64 0, .slice none 0 0, .slice none 0 0] 25 (0, 0)) := hbz
  have hne : p ≠ g := by omega
  obtain ⟨ι, hneI, W, i0, h0, hWp, hC⟩ := Ent.fam_sub (fun x => x.heap[p]? = some (.cells #[.pointer (some ⟨g, 0, none⟩)] 62 (0, 0))) w1 hbx
  have d0 : ∀ i, (W i).cell? ⟨p, 0, none⟩ = some (.pointer (some ⟨g, 0, none⟩)) := fun i => cell_of_blk (hWp i) rfl
  rw [h0] at hR1 hP hQ
  have HR1 := Lib.hid hR1
  have HP1 := Lib.hid hP
  have HQ1 := Lib.hid hQ
  clear hb0 hR0 hR1 hP hQ hbx hbz hp
  refine Mix.wp_region_lex (fun w' => ∃ i, w' = W i) (by kernel_rfl) (by kernel_rfl) ⟨i0, h0⟩ ?_
  rw [h0]
  clear h0
  repeat (first | (refine Mix.lex_step rfl ?_; intro K hK; go_big_quiet_step (fail); refine Mix.lex_on hK ?_; clear hK K) | (refine Mix.lex_skip rfl ?_; simp only [Act.put, List.setIfInBounds_toArray, List.set_cons_zero, List.set_cons_succ]))
  refine Mix.lex_call (number_stp g (C, 0) 1048576 (W i0) HR1.out (by omega) (by omega)) rfl rfl rfl (fun _ => rfl) ?_
  rintro e3 w3 ⟨rfl, hr3, ho3⟩
  obtain ⟨j3, rfl⟩ := hC w3 (ho3.at (hWp i0) hne)
  refine ⟨_, rfl, ⟨j3, rfl⟩, ?_⟩
  have HR3 : Hid (Rdr (W j3) g (t1 C).1 (t1 C).2) := hr3
  have HP3 := Lib.hid (HP1.out.trans ho3 (fun _ _ h => h))
  have HQ3 := Lib.hid (ho3.at HQ1.out (show ¬ p + 1 = g by omega))
  obtain ⟨x0, hx0⟩ : ∃ x, x = rv1 (C, 0) 1048576 := ⟨_, rfl⟩
  rw [← hx0]
  have HX0 := Lib.hid hx0
  clear hr3 ho3 hx0 HR1 HP1 HQ1
  simp only [Act.put, List.setIfInBounds_toArray, List.set_cons_zero, List.set_cons_succ]
  repeat (first | (refine Mix.lex_step rfl ?_; intro K hK; go_big_quiet_step (fail); refine Mix.lex_on hK ?_; clear hK K) | (refine Mix.lex_skip rfl ?_; simp only [Act.put, List.setIfInBounds_toArray, List.set_cons_zero, List.set_cons_succ]))
  obtain ⟨K, hK⟩ : ∃ K, tK C = K := ⟨_, rfl⟩
  have HK1 : Hid (K ≤ 4096 ∧ rv1 (t1 C) 4096 = (K : Int)) := by rw [← hK]; exact ⟨HKK.out.1, HKK.out.2.symm⟩
  refine Mix.lex_call (Stops_any g p (t1 C) (W j3) HR3.out (hWp j3) hne K HK1.out.2) rfl rfl rfl (fun _ => rfl) ?_
  rintro e4 w4 ⟨q1, rfl, hL4⟩
  obtain ⟨j4, rfl⟩ := hC w4 hL4.box
  refine ⟨_, rfl, ⟨j4, rfl⟩, ?_⟩
  have HR4 : Hid (Rdr (W j4) g (t3 C).1 (t3 C).2) := by unfold Hid t3; rw [hK]; exact hL4.rd
  have HP4 := Lib.hid (HP3.out.trans hL4.only (fun _ _ h => h))
  have HQ4 := Lib.hid (hL4.only.at HQ3.out (show ¬ p + 1 = g by omega))
  have HO4 : Hid (Hold twoS (W j4) (W j3).heap.size 56 q1 K (tN C).st) := by
    have h1 := hL4.own
    rw [Nat.sub_self, List.replicate_zero, List.append_nil] at h1
    unfold Hid tN t2
    rw [hK]
    exact h1
  have hq1 : p + 1 < q1 := Nat.lt_of_lt_of_le (Array.getElem?_eq_some_iff.1 HQ3.out).1 HO4.out.le
  have HG1 : Hid (w.heap.size ≤ q1) := by have := HW.out; unfold Hid; omega
  clear hL4 HR3 HP3 HQ3
  simp only [Act.put, List.setIfInBounds_toArray, List.set_cons_zero, List.set_cons_succ]
  repeat (first | (refine Mix.lex_step rfl ?_; intro K hK; go_big_quiet_step (fail); refine Mix.lex_on hK ?_; clear hK K) | (refine Mix.lex_skip rfl ?_; simp only [Act.put, List.setIfInBounds_toArray, List.set_cons_zero, List.set_cons_succ]))
  obtain ⟨M, hM⟩ : ∃ M, tM C = M := ⟨_, rfl⟩
  have HM1 : Hid (M ≤ 16384 ∧ rv1 (t3 C) 16384 = (M : Int)) := by rw [← hM]; exact ⟨HMM.out.1, HMM.out.2.symm⟩
  refine Mix.lex_call (Links_any g p (t3 C) (W j4) HR4.out (hWp j4) hne M HM1.out.2) rfl rfl rfl (fun _ => rfl) ?_
  rintro e5 w5 ⟨q2, rfl, hL5⟩
  obtain ⟨j5, rfl⟩ := hC w5 hL5.box
  refine ⟨_, rfl, ⟨j5, rfl⟩, ?_⟩
  have HR5 : Hid (Rdr (W j5) g (t5 C).1 (t5 C).2) := by unfold Hid t5; rw [hM]; exact hL5.rd
  have HP5 := Lib.hid (HP4.out.trans hL5.only (fun _ _ h => h))
  have HQ5 := Lib.hid (hL5.only.at HQ4.out (show ¬ p + 1 = g by omega))
  have HO5 : Hid (Hold lkS (W j5) (W j4).heap.size 50 q2 M (tN C).lk) := by
    have h1 := hL5.own
    rw [Nat.sub_self, List.replicate_zero, List.append_nil] at h1
    unfold Hid tN t4
    rw [hM]
    exact h1
  have HS5 : Hid (Hold twoS (W j5) (W j3).heap.size 56 q1 K (tN C).st) := HO4.out.keep (hL5.only.block q1 HO4.out.lt (show ¬ q1 = g by omega))
  have hq2 : p + 1 < q2 := Nat.lt_of_lt_of_le (Array.getElem?_eq_some_iff.1 HQ4.out).1 HO5.out.le
  have HG2 : Hid (w.heap.size ≤ q2) := by have := HW.out; unfold Hid; omega
  clear hL5 HR4 HP4 HQ4 HO4
  simp only [Act.put, List.setIfInBounds_toArray, List.set_cons_zero, List.set_cons_succ]
  repeat (first | (refine Mix.lex_step rfl ?_; intro K hK; go_big_quiet_step (fail); refine Mix.lex_on hK ?_; clear hK K) | (refine Mix.lex_skip rfl ?_; simp only [Act.put, List.setIfInBounds_toArray, List.set_cons_zero, List.set_cons_succ]))
  have hset := Sto.whole_set (vs := #[.int .i64 x0, .slice (some ⟨q1, 0, none⟩) K K, .slice (some ⟨q2, 0, none⟩) M M]) HQ5.out rfl
  have honl := only_setCells (W j5) (p + 1) 0 (#[.int .i64 x0, .slice (some ⟨q1, 0, none⟩) K K, .slice (some ⟨q2, 0, none⟩) M M] : Array Value).toList
  obtain ⟨j9, hj9⟩ := hC ((W j5).setCells (p + 1) 0 (#[.int .i64 x0, .slice (some ⟨q1, 0, none⟩) K K, .slice (some ⟨q2, 0, none⟩) M M] : Array Value).toList) (honl.at (hWp j5) (show ¬ p = p + 1 by omega))
  have hth : (W j5).there (p + 1) 0 3 := Sto.there_of_blk HQ5.out
  refine Mix.lex_act0 rfl rfl (Sto.exec_store (cells := #[.int .i64 x0, .slice (some ⟨q1, 0, none⟩) K K, .slice (some ⟨q2, 0, none⟩) M M]) rfl (by simp [Act.eval]) (by simp [Act.eval]) hth infoN one_three) ⟨j9, hj9⟩ ?_
  simp only [Act.put]
  refine Mix.lex_nil ?_
  have HF := Lib.hid (HP5.out.trans honl (M := fun i => i = g) (fun i hi h => absurd h (by have := HW.out; omega)))
  have HRF := Lib.hid (HR5.out.only honl (fun i hi => by omega))
  have HSF := Lib.hid (HS5.out.keep (honl.block q1 HS5.out.lt (show ¬ q1 = p + 1 by omega)))
  have HOF := Lib.hid (HO5.out.keep (honl.block q2 HO5.out.lt (show ¬ q2 = p + 1 by omega)))
  have HSET := Lib.hid hset
  clear hj9 hset honl hth
  generalize (W j5).setCells (p + 1) 0 (#[.int .i64 x0, .slice (some ⟨q1, 0, none⟩) K K, .slice (some ⟨q2, 0, none⟩) M M] : Array Value).toList = w9 at *
  have HTS : Hid ((tN C).st.length = K) := by unfold Hid; rw [tN_st, hK]
  have HTL : Hid ((tN C).lk.length = M) := by unfold Hid; rw [tN_lk, hM]
  have HTK : Hid (tK C = K) := hK
  have HTM : Hid (tM C = M) := hM
  clear hK hM
  go_wp2
  refine bodyPost_ret (ResO.results_cell_only rfl _ _ (p + 1) #[.int .i64 x0, .slice (some ⟨q1, 0, none⟩) K K, .slice (some ⟨q2, 0, none⟩) M M] rfl (run_loadVar_row _ _ 25 25 _ (0, 0) _ HSET.out Try.underlying25 rfl infoN)) rfl ?_
  refine ⟨q1, q2, by rw [HX0.out, HTK.out, HTM.out]; rfl, ?_, ?_, HG1.out, HG2.out, HRF.out, HF.out⟩
  · have h1 := HSF.out.row
    rw [HTS.out] at h1
    rw [HTK.out]
    exact h1
  · have h1 := HOF.out.row
    rw [HTL.out] at h1
    rw [HTM.out]
    exact h1

theorem net_zero (w : World) (B : Nat) : NAt w B Nt.zero none 0 0 none 0 0 := ⟨RRow.nil_, RRow.nil_, fun _ => rfl, Nat.le_refl _, Nat.zero_le _, fun _ => rfl, Nat.le_refl _, Nat.zero_le _⟩
def TakeTo (b : List Int) (w : World) (e : Ending) (w' : World) : Prop :=
  ∃ B k d B' m d', e = .returned (.tuple #[.agg #[.int .i64 (take b).1.ver, .slice B k d, .slice B' m d'], .int .i64 ((take b).2 : Int)]) ∧ NAt w' w'.heap.size (take b).1 B k d B' m d' ∧ Below w.heap.size w w'
set_option maxHeartbeats 1600000 in
set_option maxRecDepth 100000 in
theorem take_any (A : Option Addr) (n c : Nat) (b : List Int) (w : World) (hr : Row .u8 w w.heap.size A n b) (hx : Byt b) (hnil : A = none → c = 0) (hcap : n ≤ c) (hc : c ≤ maxLen) (hn : n ≤ 4398046511104) :
    Calls Try.prog 13 #[.slice A n c] w (TakeTo b w) := by
  obtain ⟨w1, hw1⟩ : ∃ w1, w.alloc (.cells #[.int .i64 0, .slice none 0 0, .slice none 0 0] 25) = w1 := ⟨_, rfl⟩
  have hs1 : w1.heap.size = w.heap.size + 1 := by rw [← hw1]; simp
  have hb1 : Below w.heap.size w w1 := by rw [← hw1]; exact (Below.refl _ _).alloc (Nat.le_refl _) _
  have hz1 : w1.heap[w.heap.size]? = some (.cells #[.int .i64 0, .slice none 0 0, .slice none 0 0] 25 (0, 0)) := by rw [← hw1]; exact heap_alloc_new w _
  have HWH := Lib.hid (whole_any 3 A n c b w1 ((hr.below hb1).more hb1.size) hnil hx hn hcap hc)
  have hbl : b.length ≤ 4398046511104 := by rw [hr.len]; exact hn
  have hwl := And.intro (wholly_byt (k := 3) hx) (wholly_len 3 b)
  obtain ⟨C, er, hce⟩ : ∃ C er, wholly 3 b = (C, er) := ⟨_, _, rfl⟩
  have HCE := Lib.hid hce
  rw [hce] at HWH hwl
  have HCB : Hid (Byt C) := hwl.1
  have HCL : Hid (C.length ≤ 1048576) := hwl.2
  have HTK : Hid (take b = takeF er C) := by unfold Hid take; rw [hce]
  obtain ⟨p, hp⟩ : ∃ p, w.heap.size = p := ⟨_, rfl⟩
  rw [hp] at hz1 hs1
  have HP : Hid (w.heap.size = p) := hp
  have HB1 := Lib.hid hb1
  have HZ1 := Lib.hid hz1
  have HW1 := Lib.hid hw1
  clear hr hx hnil hcap hc hn hb1 hz1 hw1 hce hbl hwl
  go_enter Try.func13, Try.ntmps13
  go_wp2_with fail
  try rw [hp]
  rw [HW1.out]
  clear hp
  refine HWH.out.mono ?_
  rintro e2 w2 ⟨v2, rfl, hown2, hb2⟩
  obtain ⟨A2, c2, rfl, -, hnil2⟩ := own_slice hown2
  have HR2 := Lib.hid (Row.of_own hown2)
  have HN2 := Lib.hid hnil2
  have HZ2 : Hid (w2.heap[p]? = some (.cells #[.int .i64 0, .slice none 0 0, .slice none 0 0] 25 (0, 0))) := (hb2.block p (by omega)).trans HZ1.out
  have HB2 := Lib.hid (HB1.out.trans (hb2.mono HB1.out.size))
  have hs2 : p + 1 ≤ w2.heap.size := by have := hb2.size; omega
  clear hown2 hb2 hnil2 HWH HB1 HZ1
  by_cases h0 : er ≠ 0
  · have he : (((er : Nat) : Int) != 0) = true := by simp; omega
    have HT0 : Hid (take b = (.zero, er)) := by unfold Hid; rw [HTK.out]; unfold takeF; rw [if_pos h0]
    have HZ := HZ2
    have c0 : w2.cell? ⟨p, 0, none⟩ = some (.int .i64 0) := cell_of_blk HZ.out rfl
    have f0 : w2.frozen? ⟨p, 0, none⟩ = false := free_of_blk HZ.out
    have c1 : w2.cell? ⟨p, 1, none⟩ = some (.slice none 0 0) := cell_of_blk HZ.out rfl
    have f1 : w2.frozen? ⟨p, 1, none⟩ = false := free_of_blk HZ.out
    have c2 : w2.cell? ⟨p, 2, none⟩ = some (.slice none 0 0) := cell_of_blk HZ.out rfl
    have f2 : w2.frozen? ⟨p, 2, none⟩ = false := free_of_blk HZ.out
    have hset : (((w2.setCell ⟨p, 0, none⟩ (.int .i64 0)).setCell ⟨p, 1, none⟩ (.slice none 0 0)).setCell ⟨p, 2, none⟩ (.slice none 0 0)).heap[p]? = some (.cells #[.int .i64 0, .slice none 0 0, .slice none 0 0] 25 (0, 0)) := Sto.whole_set (vs := #[.int .i64 0, .slice none 0 0, .slice none 0 0]) HZ.out rfl
    have honl : Only (fun i => i = p) w2 (((w2.setCell ⟨p, 0, none⟩ (.int .i64 0)).setCell ⟨p, 1, none⟩ (.slice none 0 0)).setCell ⟨p, 2, none⟩ (.slice none 0 0)) := only_setCells w2 p 0 [.int .i64 0, .slice none 0 0, .slice none 0 0]
    have HSET := Lib.hid hset
    have HONL := Lib.hid honl
    clear hset honl
    go_wp2
    generalize (((w2.setCell ⟨p, 0, none⟩ (.int .i64 0)).setCell ⟨p, 1, none⟩ (.slice none 0 0)).setCell ⟨p, 2, none⟩ (.slice none 0 0)) = wF at *
    refine bodyPost_ret (results_cell_one rfl _ _ p #[.int .i64 0, .slice none 0 0, .slice none 0 0] rfl (run_loadVar_row _ _ 25 25 _ (0, 0) _ HSET.out Try.underlying25 rfl infoN)) rfl ?_
    exact ⟨none, 0, 0, none, 0, 0, by rw [HT0.out]; rfl, by rw [HT0.out]; exact net_zero _ _, HB2.out.trans (HONL.out.below HB2.out.size (fun k hk => by have := HP.out; omega))⟩
  obtain rfl : er = 0 := by omega
  go_wp2_with fail
  refine (readR A2 C.length c2 w2.heap.size C w2 HR2.out (Nat.le_refl _) HN2.out (by have := HCL.out; omega) HCB.out).mono ?_
  rintro e3 w3 ⟨g, rfl, hg3, hrd3, hb3⟩
  have HR3 := Lib.hid hrd3
  have HZ3 : Hid (w3.heap[p]? = some (.cells #[.int .i64 0, .slice none 0 0, .slice none 0 0] 25 (0, 0))) := (hb3.block p (by omega)).trans HZ2.out
  have HB3 := Lib.hid (HB2.out.trans (hb3.mono HB2.out.size))
  have hpg : p < g := by omega
  clear hrd3 hb3 HZ2 HB2 HR2
  go_wp2_with fail
  refine (network_any g C w3 HR3.out).mono ?_
  rintro e4 w4 ⟨q1, q2, rfl, hst4, hlk4, hq1, hq2, hrd4, ho4⟩
  have hg3 := HR3.out.lt
  have HR4 := Lib.hid hrd4
  have HZ4 : Hid (w4.heap[p]? = some (.cells #[.int .i64 0, .slice none 0 0, .slice none 0 0] 25 (0, 0))) := ho4.at HZ3.out (show ¬ p = g by omega)
  have HB4 : Hid (Below w.heap.size w w4) := HB3.out.trans (ho4.below HB3.out.size (fun k hk => by have := HP.out; omega))
  have HNA : Hid (NAt w4 w4.heap.size (tN C) (some ⟨q1, 0, none⟩) (tK C) (tK C) (some ⟨q2, 0, none⟩) (tM C) (tM C)) :=
    ⟨hst4, hlk4, (fun h => by cases h), Nat.le_refl _, by have := (tK_le C).1; unfold maxLen; omega, (fun h => by cases h), Nat.le_refl _, by have := (tM_le C).1; unfold maxLen; omega⟩
  have hqp1 : p < q1 := by omega
  have hqp2 : p < q2 := by omega
  have HKM := Lib.hid (And.intro (tK_le C).1 (tM_le C).1)
  have HVE : Hid ((tN C).ver = tV C) := rfl
  obtain ⟨vr, hvr⟩ : ∃ x, tV C = x := ⟨_, rfl⟩
  obtain ⟨K, hK⟩ : ∃ x, tK C = x := ⟨_, rfl⟩
  obtain ⟨M, hM⟩ : ∃ x, tM C = x := ⟨_, rfl⟩
  rw [hvr] at HVE
  rw [hK, hM] at HNA HKM
  rw [hvr, hK, hM]
  have HNB := Lib.hid (Bx.start HNA.out)
  have HNS : Hid ((tN C).st.length = K ∧ (tN C).lk.length = M) := by unfold Hid; rw [tN_st, tN_lk, hK, hM]; exact ⟨rfl, rfl⟩
  rw [HVE.out] at HNB
  have HR5 := Lib.hid (HR4.out.below ((Below.refl _ _).alloc (Nat.le_refl _) (.cells #[.int .i64 vr, .slice (some ⟨q1, 0, none⟩) K K, .slice (some ⟨q2, 0, none⟩) M M] 25)))
  have HZ5 := Lib.hid ((Below.heap_alloc w4 (.cells #[.int .i64 vr, .slice (some ⟨q1, 0, none⟩) K K, .slice (some ⟨q2, 0, none⟩) M M] 25) p (Array.getElem?_eq_some_iff.1 HZ4.out).1).trans HZ4.out)
  have HB5 := Lib.hid (HB4.out.alloc HB4.out.size (.cells #[.int .i64 vr, .slice (some ⟨q1, 0, none⟩) K K, .slice (some ⟨q2, 0, none⟩) M M] 25))
  clear hst4 hlk4 hrd4 ho4 HZ3 HB3 HR3 HR4 HZ4 HNA hvr hK hM HB4
  go_wp2_with fail
  generalize w4.alloc (.cells #[.int .i64 vr, .slice (some ⟨q1, 0, none⟩) K K, .slice (some ⟨q2, 0, none⟩) M M] 25) = w5 at HNB HR5 HZ5 HB5 ⊢
  refine (doneR g _ _ w5 HR5.out).mono ?_
  rintro e6 w6 ⟨rfl, rfl⟩
  obtain ⟨dn, hdn⟩ : ∃ x, done (t5 C).1 (t5 C).2 = x := ⟨_, rfl⟩
  have HDN := Lib.hid hdn
  rw [hdn]
  clear hdn
  have HZ := HZ5
  by_cases h1 : dn ≠ 0
  · have he : (((dn : Nat) : Int) != 0) = true := by simp; omega
    have HT0 : Hid (take b = (.zero, dn)) := by unfold Hid; rw [HTK.out]; unfold takeF; rw [if_neg (by omega), HDN.out, if_pos h1]
    have c0 : w5.cell? ⟨p, 0, none⟩ = some (.int .i64 0) := cell_of_blk HZ.out rfl
    have f0 : w5.frozen? ⟨p, 0, none⟩ = false := free_of_blk HZ.out
    have c1 : w5.cell? ⟨p, 1, none⟩ = some (.slice none 0 0) := cell_of_blk HZ.out rfl
    have f1 : w5.frozen? ⟨p, 1, none⟩ = false := free_of_blk HZ.out
    have c2 : w5.cell? ⟨p, 2, none⟩ = some (.slice none 0 0) := cell_of_blk HZ.out rfl
    have f2 : w5.frozen? ⟨p, 2, none⟩ = false := free_of_blk HZ.out
    have hset : (((w5.setCell ⟨p, 0, none⟩ (.int .i64 0)).setCell ⟨p, 1, none⟩ (.slice none 0 0)).setCell ⟨p, 2, none⟩ (.slice none 0 0)).heap[p]? = some (.cells #[.int .i64 0, .slice none 0 0, .slice none 0 0] 25 (0, 0)) := Sto.whole_set (vs := #[.int .i64 0, .slice none 0 0, .slice none 0 0]) HZ.out rfl
    have honl : Only (fun i => i = p) w5 (((w5.setCell ⟨p, 0, none⟩ (.int .i64 0)).setCell ⟨p, 1, none⟩ (.slice none 0 0)).setCell ⟨p, 2, none⟩ (.slice none 0 0)) := only_setCells w5 p 0 [.int .i64 0, .slice none 0 0, .slice none 0 0]
    have HSET := Lib.hid hset
    have HONL := Lib.hid honl
    clear hset honl
    go_wp2
    generalize (((w5.setCell ⟨p, 0, none⟩ (.int .i64 0)).setCell ⟨p, 1, none⟩ (.slice none 0 0)).setCell ⟨p, 2, none⟩ (.slice none 0 0)) = wF at *
    refine bodyPost_ret (results_cell_one rfl _ _ p #[.int .i64 0, .slice none 0 0, .slice none 0 0] rfl (run_loadVar_row _ _ 25 25 _ (0, 0) _ HSET.out Try.underlying25 rfl infoN)) rfl ?_
    exact ⟨none, 0, 0, none, 0, 0, by rw [HT0.out]; rfl, by rw [HT0.out]; exact net_zero _ _, HB5.out.trans (HONL.out.below HB5.out.size (fun k hk => by have := HP.out; omega))⟩
  obtain rfl : dn = 0 := by omega
  have z0 : w5.cell? ⟨w4.heap.size, 0, none⟩ = some (.int .i64 vr) := by have h9 : _ = some (Value.int .i64 (tN C).ver) := cell_of_blk (j := 0) HNB.out.blk rfl; rw [HVE.out] at h9; exact h9
  have z1 : w5.cell? ⟨w4.heap.size, 1, none⟩ = some (.slice (some ⟨q1, 0, none⟩) K K) := cell_of_blk HNB.out.blk rfl
  have z2 : w5.cell? ⟨w4.heap.size, 2, none⟩ = some (.slice (some ⟨q2, 0, none⟩) M M) := cell_of_blk HNB.out.blk rfl
  have HCK := Lib.hid (check_any (tN C) (some ⟨q1, 0, none⟩) (some ⟨q2, 0, none⟩) K K M M w5 (HNB.out.at_.more (Nat.le_of_lt HNB.out.lt)) (by have := HKM.out.1; omega) (by have := HKM.out.2; omega))
  rw [HVE.out] at HCK
  have hlt5 := HNB.out.lt
  have hz5 := (Array.getElem?_eq_some_iff.1 HZ5.out).1
  go_wp2_with fail
  refine HCK.out.mono ?_
  rintro e7 w7 ⟨rfl, hb7⟩
  have HN7 := Lib.hid (HNB.out.below hb7)
  have HZ7 := Lib.hid ((hb7.block p hz5).trans HZ5.out)
  have HB7 := Lib.hid (HB5.out.trans (hb7.mono HB5.out.size))
  clear hb7 z0 z1 z2 HNB HZ5 HB5 HCK HZ
  have HZ := HZ7
  by_cases h2 : check (tN C) = 0
  case neg =>
    have hc2 := check_small (N := tN C) (by rw [HNS.out.1]; exact HKM.out.1) (by rw [HNS.out.2]; exact HKM.out.2) h2
    have HT0 : Hid (take b = (.zero, 2)) := by unfold Hid; rw [HTK.out]; unfold takeF; rw [if_neg (by omega), HDN.out, if_neg (by omega), if_pos h2]
    rw [hc2]
    clear hc2
    have c0 : w7.cell? ⟨p, 0, none⟩ = some (.int .i64 0) := cell_of_blk HZ.out rfl
    have f0 : w7.frozen? ⟨p, 0, none⟩ = false := free_of_blk HZ.out
    have c1 : w7.cell? ⟨p, 1, none⟩ = some (.slice none 0 0) := cell_of_blk HZ.out rfl
    have f1 : w7.frozen? ⟨p, 1, none⟩ = false := free_of_blk HZ.out
    have c2 : w7.cell? ⟨p, 2, none⟩ = some (.slice none 0 0) := cell_of_blk HZ.out rfl
    have f2 : w7.frozen? ⟨p, 2, none⟩ = false := free_of_blk HZ.out
    have hset : (((w7.setCell ⟨p, 0, none⟩ (.int .i64 0)).setCell ⟨p, 1, none⟩ (.slice none 0 0)).setCell ⟨p, 2, none⟩ (.slice none 0 0)).heap[p]? = some (.cells #[.int .i64 0, .slice none 0 0, .slice none 0 0] 25 (0, 0)) := Sto.whole_set (vs := #[.int .i64 0, .slice none 0 0, .slice none 0 0]) HZ.out rfl
    have honl : Only (fun i => i = p) w7 (((w7.setCell ⟨p, 0, none⟩ (.int .i64 0)).setCell ⟨p, 1, none⟩ (.slice none 0 0)).setCell ⟨p, 2, none⟩ (.slice none 0 0)) := only_setCells w7 p 0 [.int .i64 0, .slice none 0 0, .slice none 0 0]
    have HSET := Lib.hid hset
    have HONL := Lib.hid honl
    clear hset honl
    go_wp2
    generalize (((w7.setCell ⟨p, 0, none⟩ (.int .i64 0)).setCell ⟨p, 1, none⟩ (.slice none 0 0)).setCell ⟨p, 2, none⟩ (.slice none 0 0)) = wF at *
    refine bodyPost_ret (results_cell_one rfl _ _ p #[.int .i64 0, .slice none 0 0, .slice none 0 0] rfl (run_loadVar_row _ _ 25 25 _ (0, 0) _ HSET.out Try.underlying25 rfl infoN)) rfl ?_
    exact ⟨none, 0, 0, none, 0, 0, by rw [HT0.out]; rfl, by rw [HT0.out]; exact net_zero _ _, HB7.out.trans (HONL.out.below HB7.out.size (fun k hk => by have := HP.out; omega))⟩
  case pos =>
    have HT0 : Hid (take b = (tN C, 0)) := by unfold Hid; rw [HTK.out]; unfold takeF; rw [if_neg (by omega), HDN.out, if_neg (by omega), if_neg (by omega)]
    rw [h2]
    have z0 : w7.cell? ⟨w4.heap.size, 0, none⟩ = some (.int .i64 vr) := by have h9 : _ = some (Value.int .i64 (tN C).ver) := cell_of_blk (j := 0) HN7.out.blk rfl; rw [HVE.out] at h9; exact h9
    have z1 : w7.cell? ⟨w4.heap.size, 1, none⟩ = some (.slice (some ⟨q1, 0, none⟩) K K) := cell_of_blk HN7.out.blk rfl
    have z2 : w7.cell? ⟨w4.heap.size, 2, none⟩ = some (.slice (some ⟨q2, 0, none⟩) M M) := cell_of_blk HN7.out.blk rfl
    have c0 : w7.cell? ⟨p, 0, none⟩ = some (.int .i64 0) := cell_of_blk HZ.out rfl
    have f0 : w7.frozen? ⟨p, 0, none⟩ = false := free_of_blk HZ.out
    have c1 : w7.cell? ⟨p, 1, none⟩ = some (.slice none 0 0) := cell_of_blk HZ.out rfl
    have f1 : w7.frozen? ⟨p, 1, none⟩ = false := free_of_blk HZ.out
    have c2 : w7.cell? ⟨p, 2, none⟩ = some (.slice none 0 0) := cell_of_blk HZ.out rfl
    have f2 : w7.frozen? ⟨p, 2, none⟩ = false := free_of_blk HZ.out
    have hset : (((w7.setCell ⟨p, 0, none⟩ (.int .i64 vr)).setCell ⟨p, 1, none⟩ (.slice (some ⟨q1, 0, none⟩) K K)).setCell ⟨p, 2, none⟩ (.slice (some ⟨q2, 0, none⟩) M M)).heap[p]? = some (.cells #[.int .i64 vr, .slice (some ⟨q1, 0, none⟩) K K, .slice (some ⟨q2, 0, none⟩) M M] 25 (0, 0)) := Sto.whole_set (vs := #[.int .i64 vr, .slice (some ⟨q1, 0, none⟩) K K, .slice (some ⟨q2, 0, none⟩) M M]) HZ.out rfl
    have honl : Only (fun i => i = p) w7 (((w7.setCell ⟨p, 0, none⟩ (.int .i64 vr)).setCell ⟨p, 1, none⟩ (.slice (some ⟨q1, 0, none⟩) K K)).setCell ⟨p, 2, none⟩ (.slice (some ⟨q2, 0, none⟩) M M)) := only_setCells w7 p 0 [.int .i64 vr, .slice (some ⟨q1, 0, none⟩) K K, .slice (some ⟨q2, 0, none⟩) M M]
    have HSET := Lib.hid hset
    have HONL := Lib.hid honl
    clear hset honl
    go_wp2
    generalize (((w7.setCell ⟨p, 0, none⟩ (.int .i64 vr)).setCell ⟨p, 1, none⟩ (.slice (some ⟨q1, 0, none⟩) K K)).setCell ⟨p, 2, none⟩ (.slice (some ⟨q2, 0, none⟩) M M)) = wF at *
    refine bodyPost_ret (results_cell_one rfl _ _ p #[.int .i64 vr, .slice (some ⟨q1, 0, none⟩) K K, .slice (some ⟨q2, 0, none⟩) M M] rfl (run_loadVar_row _ _ 25 25 _ (0, 0) _ HSET.out Try.underlying25 rfl infoN)) rfl ?_
    have hna := HN7.out.at_.more HN7.out.bel.size
    have hst : RRow twoS wF wF.heap.size (some ⟨q1, 0, none⟩) K (tN C).st := (hna.st.only HONL.out (Nat.le_refl _) (fun b o e _ h => by injection e with e; injection e with e; omega)).more HONL.out.size
    have hlk : RRow lkS wF wF.heap.size (some ⟨q2, 0, none⟩) M (tN C).lk := (hna.lk.only HONL.out (Nat.le_refl _) (fun b o e _ h => by injection e with e; injection e with e; omega)).more HONL.out.size
    refine ⟨some ⟨q1, 0, none⟩, K, K, some ⟨q2, 0, none⟩, M, M, by rw [HT0.out]; show _ = Ending.returned (Value.tuple #[.agg #[.int .i64 (tN C).ver, _, _], _]); rw [HVE.out]; rfl, ?_, HB7.out.trans (HONL.out.below HB7.out.size (fun k hk => by have := HP.out; omega))⟩
    rw [HT0.out]
    exact { hna with st := hst, lk := hlk }
end Go.Proofs.Ytdgaaghkhkklpaa.Gf

/- Lemmas that the proof stands on, in build order: ResO GfD. -/
import Derived.WalkKit
import Derived.Deep.QuietTactic
import Derived.BigQuiet
import Derived.WalkMore
import Derived.Deep.DeepCutAuto
import Derived.Test.YtdgaaghkhkklpaaJ10c82568
import Derived.Test.YtdgaaghkhkklpaaJ11c53fdf
import Derived.Test.YtdgaaghkhkklpaaJ12c8aa12
import Derived.Test.YtdgaaghkhkklpaaJ26ddb19d
import Derived.Test.YtdgaaghkhkklpaaJ3014ee10
import Derived.Test.YtdgaaghkhkklpaaJ32491d42
import Derived.Test.YtdgaaghkhkklpaaJ54d248b
/- Over any program: a result of which the only one lies in a block. -/
namespace Go.Proofs.Ytdgaaghkhkklpaa.ResO
open Go Go.RowKit
theorem results_cell_only {fn : Func} {p : Tmp} {ty : TypeId} {P : Program} (h : fn.results = #[.cell p ty]) (tmps : Array Value) (w : World) (g : Nat) (cs : Array Value)
    (hp : tmps.getD p undef = .pointer (some ⟨g, 0, none⟩)) (hl : (loadVar ty ⟨g, 0, none⟩).run P w = .ok (.agg cs) w) :
    (results fn tmps).run P w = .ok (.agg cs) w := by
  have hp' : tmps[p]?.getD undef = .pointer (some ⟨g, 0, none⟩) := by simpa using hp
  simp [results, h, hp', asAddr, hl]
end Go.Proofs.Ytdgaaghkhkklpaa.ResO

/- Layer 15 (graph), the landed program: what reads one stop, one link. -/
namespace Go.Proofs.Ytdgaaghkhkklpaa.Gf
open Go.RowKit Rec Ints Ge Var Fld Frm Nu

theorem number_stp (g : Nat) (s : S2) (most : Int) (w : World) (h : Rdr w g s.1 s.2) (h1 : -9223372036854775808 ≤ most) (h2 : most ≤ 9223372036854775807) :
    Calls Try.prog 52 #[.pointer (some ⟨g, 0, none⟩), .int .i64 most] w fun r w' => r = .returned (.int .i64 (rv1 s most)) ∧ Rdr w' g (rd1 s most).1 (rd1 s most).2 ∧ Only (fun k => k = g) w w' :=
  numberR g s.2 s.1 most w h h1 h2
theorem Rdr_grow {w w' : World} {g e : Nat} {xs : List Int} (h : Rdr w g xs e) (o : Obj) (hw : w' = w.alloc o) : Rdr w' g xs e := by
  subst hw
  exact h.below ((Below.refl _ _).alloc (Nat.le_refl _) o)

set_option maxHeartbeats 1600000 in
set_option maxRecDepth 100000 in
theorem stop_any (g p : Nat) (s : S2) (w : World) (h : Rdr w g s.1 s.2) (hp : w.heap[p]? = some (.cells #[.pointer (some ⟨g, 0, none⟩)] 62 (0, 0))) (hne : p ≠ g) :
    Calls Try.prog 54 #[.pointer (some ⟨p, 0, none⟩)] w fun e w' => e = .returned (.agg #[.int .i64 (rv1 s 67108863), .int .i64 (rv1 (rd1 s 67108863) 67108863)]) ∧ Rdr w' g (rd1 (rd1 s 67108863) 67108863).1 (rd1 (rd1 s 67108863) 67108863).2 ∧ Only (fun i => i = g) w w' := by
  have hpl : p < w.heap.size := (Array.getElem?_eq_some_iff.1 hp).1
  have hgl := h.lt
  have HA : Hid (w.heap[p]? = some (.cells #[.pointer (some ⟨g, 0, none⟩)] 62 (0, 0))) := hp
  have HR := Lib.hid h
  clear h hp
  go_enter Try.func54, Try.ntmps54
  go_upto_region 1 with fail
  have hO1 : Only (fun i => i = g) w (w.alloc (.cells #[.int .i64 0, .int .i64 0] 56)) := Only.alloc w _
  have hR0 := Rdr_grow HR.out (.cells #[.int .i64 0, .int .i64 0] 56) rfl
  have hq1 := heap_alloc_new w (.cells #[.int .i64 0, .int .i64 0] 56)
  obtain ⟨q, hq⟩ : ∃ q, w.heap.size = q := ⟨_, rfl⟩
  rw [hq] at hq1 hpl hgl ⊢
  have hW : ∀ i, i < w.heap.size → i < q := fun i hi => by omega
  have HW := Lib.hid hW
  generalize w.alloc (.cells #[.int .i64 0, .int .i64 0] 56) = w1 at hO1 hq1 hR0 ⊢
  have hp1 := hO1.at HA.out hne
  have hR1 : Rdr w1.drew g s.1 s.2 := hR0.below (Below.refl _ _).drew
  have hP : Only (fun i => i = g) w w1.drew := hO1.drew
  have hQ : w1.drew.heap[q]? = some (.cells #[.int .i64 0, .int .i64 0] 56 (0, 0)) := hq1
  have hS : w1.drew.heap.size = w1.heap.size := rfl
  obtain ⟨ι, hneI, W, i0, h0, hWp, hC⟩ := Ent.fam_sub (fun x => x.heap[p]? = some (.cells #[.pointer (some ⟨g, 0, none⟩)] 62 (0, 0))) w1 hp1
  have d0 : ∀ i, (W i).cell? ⟨p, 0, none⟩ = some (.pointer (some ⟨g, 0, none⟩)) := fun i => cell_of_blk (hWp i) rfl
  rw [h0] at hR1 hP hQ
  have HR1 := Lib.hid hR1
  have HP1 := Lib.hid hP
  have HQ1 := Lib.hid hQ
  clear hO1 hR0 hq1 hp1 hR1 hP hQ hS hW
  refine Mix.wp_region_lex (fun w' => ∃ i, w' = W i) (by kernel_rfl) (by kernel_rfl) ⟨i0, h0⟩ ?_
  rw [h0]
  clear h0
  repeat (first | (refine Mix.lex_step rfl ?_; intro K hK; go_big_quiet_step (fail); refine Mix.lex_on hK ?_; clear hK K) | (refine Mix.lex_skip rfl ?_; simp only [Act.put, List.setIfInBounds_toArray, List.set_cons_zero, List.set_cons_succ]))
  refine Mix.lex_call (number_stp g s 67108863 (W i0) HR1.out (by omega) (by omega)) rfl rfl rfl (fun _ => rfl) ?_
  rintro e3 w3 ⟨rfl, hr3, ho3⟩
  obtain ⟨j3, rfl⟩ := hC w3 (ho3.at (hWp i0) hne)
  refine ⟨_, rfl, ⟨j3, rfl⟩, ?_⟩
  have HR3 := Lib.hid hr3
  have HP3 := Lib.hid (HP1.out.trans ho3 (fun _ _ h => h))
  have HQ3 := Lib.hid (ho3.at HQ1.out (show ¬ q = g by omega))
  obtain ⟨x0, hx0⟩ : ∃ x, x = rv1 s 67108863 := ⟨_, rfl⟩
  rw [← hx0]
  have HX0 := Lib.hid hx0
  clear hr3 ho3 hx0 HR1 HP1 HQ1
  simp only [Act.put, List.setIfInBounds_toArray, List.set_cons_zero, List.set_cons_succ]
  repeat (first | (refine Mix.lex_step rfl ?_; intro K hK; go_big_quiet_step (fail); refine Mix.lex_on hK ?_; clear hK K) | (refine Mix.lex_skip rfl ?_; simp only [Act.put, List.setIfInBounds_toArray, List.set_cons_zero, List.set_cons_succ]))
  refine Mix.lex_call (number_stp g (rd1 s 67108863) 67108863 (W j3) HR3.out (by omega) (by omega)) rfl rfl rfl (fun _ => rfl) ?_
  rintro e4 w4 ⟨rfl, hr4, ho4⟩
  obtain ⟨j4, rfl⟩ := hC w4 (ho4.at (hWp j3) hne)
  refine ⟨_, rfl, ⟨j4, rfl⟩, ?_⟩
  have HR4 := Lib.hid hr4
  have HP4 := Lib.hid (HP3.out.trans ho4 (fun _ _ h => h))
  have HQ4 := Lib.hid (ho4.at HQ3.out (show ¬ q = g by omega))
  obtain ⟨x1, hx1⟩ : ∃ x, x = rv1 (rd1 s 67108863) 67108863 := ⟨_, rfl⟩
  rw [← hx1]
  have HX1 := Lib.hid hx1
  clear hr4 ho4 hx1 HR3 HP3 HQ3
  simp only [Act.put, List.setIfInBounds_toArray, List.set_cons_zero, List.set_cons_succ]
  repeat (first | (refine Mix.lex_step rfl ?_; intro K hK; go_big_quiet_step (fail); refine Mix.lex_on hK ?_; clear hK K) | (refine Mix.lex_skip rfl ?_; simp only [Act.put, List.setIfInBounds_toArray, List.set_cons_zero, List.set_cons_succ]))
  have hset := Sto.whole_set (vs := #[.int .i64 x0, .int .i64 x1]) HQ4.out rfl
  have honl := only_setCells (W j4) q 0 (#[.int .i64 x0, .int .i64 x1] : Array Value).toList
  obtain ⟨j9, hj9⟩ := hC ((W j4).setCells q 0 (#[.int .i64 x0, .int .i64 x1] : Array Value).toList) (honl.at (hWp j4) (show ¬ p = q by omega))
  have hth : (W j4).there q 0 2 := Sto.there_of_blk HQ4.out
  refine Mix.lex_act0 rfl rfl (Sto.exec_store (cells := #[.int .i64 x0, .int .i64 x1]) rfl (by simp [Act.eval]) (by simp [Act.eval]) hth (by kernel_rfl) (all_oneCell_toArray (twoS.one (x0, x1)))) ⟨j9, hj9⟩ ?_
  simp only [Act.put]
  refine Mix.lex_nil ?_
  have HF := Lib.hid (HP4.out.trans honl (M := fun i => i = g) (fun i hi h => absurd h (by have := HW.out i hi; omega)))
  have HRF := Lib.hid (HR4.out.only honl (fun i hi => by have := hgl; omega))
  have HSET := Lib.hid hset
  clear hj9 hset honl hth
  generalize (W j4).setCells q 0 (#[.int .i64 x0, .int .i64 x1] : Array Value).toList = w9 at *
  clear hWp hC d0
  go_wp2
  refine bodyPost_ret (ResO.results_cell_only rfl _ _ q #[.int .i64 x0, .int .i64 x1] rfl (run_loadVar_row _ _ 56 56 _ (0, 0) _ HSET.out Try.underlying56 rfl (by kernel_rfl))) rfl ?_
  exact ⟨by rw [HX0.out, HX1.out], HRF.out, HF.out⟩

set_option maxHeartbeats 1600000 in
set_option maxRecDepth 100000 in
theorem link_any (g p : Nat) (s : S2) (w : World) (h : Rdr w g s.1 s.2) (hp : w.heap[p]? = some (.cells #[.pointer (some ⟨g, 0, none⟩)] 62 (0, 0))) (hne : p ≠ g) :
    Calls Try.prog 56 #[.pointer (some ⟨p, 0, none⟩)] w fun e w' => e = .returned (.agg #[.int .i64 (rv1 s 4095), .int .i64 (rv1 (rd1 s 4095) 4095), .int .i64 (rv1 (rd1 (rd1 s 4095) 4095) 1048575)]) ∧ Rdr w' g (rd1 (rd1 (rd1 s 4095) 4095) 1048575).1 (rd1 (rd1 (rd1 s 4095) 4095) 1048575).2 ∧ Only (fun i => i = g) w w' := by
  have hpl : p < w.heap.size := (Array.getElem?_eq_some_iff.1 hp).1
  have hgl := h.lt
  have HA : Hid (w.heap[p]? = some (.cells #[.pointer (some ⟨g, 0, none⟩)] 62 (0, 0))) := hp
  have HR := Lib.hid h
  clear h hp
  go_enter Try.func56, Try.ntmps56
  go_upto_region 1 with fail
  have hO1 : Only (fun i => i = g) w (w.alloc (.cells #[.int .i64 0, .int .i64 0, .int .i64 0] 50)) := Only.alloc w _
  have hR0 := Rdr_grow HR.out (.cells #[.int .i64 0, .int .i64 0, .int .i64 0] 50) rfl
  have hq1 := heap_alloc_new w (.cells #[.int .i64 0, .int .i64 0, .int .i64 0] 50)
  obtain ⟨q, hq⟩ : ∃ q, w.heap.size = q := ⟨_, rfl⟩
  rw [hq] at hq1 hpl hgl ⊢
  have hW : ∀ i, i < w.heap.size → i < q := fun i hi => by omega
  have HW := Lib.hid hW
  generalize w.alloc (.cells #[.int .i64 0, .int .i64 0, .int .i64 0] 50) = w1 at hO1 hq1 hR0 ⊢
  have hp1 := hO1.at HA.out hne
  have hR1 : Rdr w1.drew g s.1 s.2 := hR0.below (Below.refl _ _).drew
  have hP : Only (fun i => i = g) w w1.drew := hO1.drew
  have hQ : w1.drew.heap[q]? = some (.cells #[.int .i64 0, .int .i64 0, .int .i64 0] 50 (0, 0)) := hq1
  have hS : w1.drew.heap.size = w1.heap.size := rfl
  obtain ⟨ι, hneI, W, i0, h0, hWp, hC⟩ := Ent.fam_sub (fun x => x.heap[p]? = some (.cells #[.pointer (some ⟨g, 0, none⟩)] 62 (0, 0))) w1 hp1
  have d0 : ∀ i, (W i).cell? ⟨p, 0, none⟩ = some (.pointer (some ⟨g, 0, none⟩)) := fun i => cell_of_blk (hWp i) rfl
  rw [h0] at hR1 hP hQ
  have HR1 := Lib.hid hR1
  have HP1 := Lib.hid hP
  have HQ1 := Lib.hid hQ
  clear hO1 hR0 hq1 hp1 hR1 hP hQ hS hW
  refine Mix.wp_region_lex (fun w' => ∃ i, w' = W i) (by kernel_rfl) (by kernel_rfl) ⟨i0, h0⟩ ?_
  rw [h0]
  clear h0
  repeat (first | (refine Mix.lex_step rfl ?_; intro K hK; go_big_quiet_step (fail); refine Mix.lex_on hK ?_; clear hK K) | (refine Mix.lex_skip rfl ?_; simp only [Act.put, List.setIfInBounds_toArray, List.set_cons_zero, List.set_cons_succ]))
  refine Mix.lex_call (number_stp g s 4095 (W i0) HR1.out (by omega) (by omega)) rfl rfl rfl (fun _ => rfl) ?_
  rintro e3 w3 ⟨rfl, hr3, ho3⟩
  obtain ⟨j3, rfl⟩ := hC w3 (ho3.at (hWp i0) hne)
  refine ⟨_, rfl, ⟨j3, rfl⟩, ?_⟩
  have HR3 := Lib.hid hr3
  have HP3 := Lib.hid (HP1.out.trans ho3 (fun _ _ h => h))
  have HQ3 := Lib.hid (ho3.at HQ1.out (show ¬ q = g by omega))
  obtain ⟨x0, hx0⟩ : ∃ x, x = rv1 s 4095 := ⟨_, rfl⟩
  rw [← hx0]
  have HX0 := Lib.hid hx0
  clear hr3 ho3 hx0 HR1 HP1 HQ1
  simp only [Act.put, List.setIfInBounds_toArray, List.set_cons_zero, List.set_cons_succ]
  repeat (first | (refine Mix.lex_step rfl ?_; intro K hK; go_big_quiet_step (fail); refine Mix.lex_on hK ?_; clear hK K) | (refine Mix.lex_skip rfl ?_; simp only [Act.put, List.setIfInBounds_toArray, List.set_cons_zero, List.set_cons_succ]))
  refine Mix.lex_call (number_stp g (rd1 s 4095) 4095 (W j3) HR3.out (by omega) (by omega)) rfl rfl rfl (fun _ => rfl) ?_
  rintro e4 w4 ⟨rfl, hr4, ho4⟩
  obtain ⟨j4, rfl⟩ := hC w4 (ho4.at (hWp j3) hne)
  refine ⟨_, rfl, ⟨j4, rfl⟩, ?_⟩
  have HR4 := Lib.hid hr4
  have HP4 := Lib.hid (HP3.out.trans ho4 (fun _ _ h => h))
  have HQ4 := Lib.hid (ho4.at HQ3.out (show ¬ q = g by omega))
  obtain ⟨x1, hx1⟩ : ∃ x, x = rv1 (rd1 s 4095) 4095 := ⟨_, rfl⟩
  rw [← hx1]
  have HX1 := Lib.hid hx1
  clear hr4 ho4 hx1 HR3 HP3 HQ3
  simp only [Act.put, List.setIfInBounds_toArray, List.set_cons_zero, List.set_cons_succ]
  repeat (first | (refine Mix.lex_step rfl ?_; intro K hK; go_big_quiet_step (fail); refine Mix.lex_on hK ?_; clear hK K) | (refine Mix.lex_skip rfl ?_; simp only [Act.put, List.setIfInBounds_toArray, List.set_cons_zero, List.set_cons_succ]))
  refine Mix.lex_call (number_stp g (rd1 (rd1 s 4095) 4095) 1048575 (W j4) HR4.out (by omega) (by omega)) rfl rfl rfl (fun _ => rfl) ?_
  rintro e5 w5 ⟨rfl, hr5, ho5⟩
  obtain ⟨j5, rfl⟩ := hC w5 (ho5.at (hWp j4) hne)
  refine ⟨_, rfl, ⟨j5, rfl⟩, ?_⟩
  have HR5 := Lib.hid hr5
  have HP5 := Lib.hid (HP4.out.trans ho5 (fun _ _ h => h))
  have HQ5 := Lib.hid (ho5.at HQ4.out (show ¬ q = g by omega))
  obtain ⟨x2, hx2⟩ : ∃ x, x = rv1 (rd1 (rd1 s 4095) 4095) 1048575 := ⟨_, rfl⟩
  rw [← hx2]
  have HX2 := Lib.hid hx2
  clear hr5 ho5 hx2 HR4 HP4 HQ4
  simp only [Act.put, List.setIfInBounds_toArray, List.set_cons_zero, List.set_cons_succ]
  repeat (first | (refine Mix.lex_step rfl ?_; intro K hK; go_big_quiet_step (fail); refine Mix.lex_on hK ?_; clear hK K) | (refine Mix.lex_skip rfl ?_; simp only [Act.put, List.setIfInBounds_toArray, List.set_cons_zero, List.set_cons_succ]))
  have hset := Sto.whole_set (vs := #[.int .i64 x0, .int .i64 x1, .int .i64 x2]) HQ5.out rfl
  have honl := only_setCells (W j5) q 0 (#[.int .i64 x0, .int .i64 x1, .int .i64 x2] : Array Value).toList
  obtain ⟨j9, hj9⟩ := hC ((W j5).setCells q 0 (#[.int .i64 x0, .int .i64 x1, .int .i64 x2] : Array Value).toList) (honl.at (hWp j5) (show ¬ p = q by omega))
  have hth : (W j5).there q 0 3 := Sto.there_of_blk HQ5.out
  refine Mix.lex_act0 rfl rfl (Sto.exec_store (cells := #[.int .i64 x0, .int .i64 x1, .int .i64 x2]) rfl (by simp [Act.eval]) (by simp [Act.eval]) hth (by kernel_rfl) (all_oneCell_toArray (lkS.one (x0, x1, x2)))) ⟨j9, hj9⟩ ?_
  simp only [Act.put]
  refine Mix.lex_nil ?_
  have HF := Lib.hid (HP5.out.trans honl (M := fun i => i = g) (fun i hi h => absurd h (by have := HW.out i hi; omega)))
  have HRF := Lib.hid (HR5.out.only honl (fun i hi => by have := hgl; omega))
  have HSET := Lib.hid hset
  clear hj9 hset honl hth
  generalize (W j5).setCells q 0 (#[.int .i64 x0, .int .i64 x1, .int .i64 x2] : Array Value).toList = w9 at *
  clear hWp hC d0
  go_wp2
  refine bodyPost_ret (ResO.results_cell_only rfl _ _ q #[.int .i64 x0, .int .i64 x1, .int .i64 x2] rfl (run_loadVar_row _ _ 50 50 _ (0, 0) _ HSET.out Try.underlying50 rfl (by kernel_rfl))) rfl ?_
  exact ⟨by rw [HX0.out, HX1.out, HX2.out], HRF.out, HF.out⟩
end Go.Proofs.Ytdgaaghkhkklpaa.Gf

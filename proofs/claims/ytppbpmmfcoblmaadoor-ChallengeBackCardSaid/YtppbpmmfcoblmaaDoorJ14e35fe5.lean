/- Lemmas that the proof stands on, in build order: TokR FldWb Part. -/
import Derived.RegionTactic
import Derived.Deep.RegionHeld3
import Derived.BigQuiet
import Derived.Laws.Rows
import Derived.Test.YtppbpmmfcoblmaaDoorJ13efd6d0
import Derived.Test.YtppbpmmfcoblmaaDoorJ1ef7bc1
import Derived.Test.YtppbpmmfcoblmaaDoorJ5450dea
import Derived.Test.YtppbpmmfcoblmaaDoorJ8c07942
/- Layer 10 (token): the reference's May, Fields, Tag, as contracts. -/
namespace Go.Proofs.YtppbpmmfcoblmaaDoor.Tok
open Go.RowKit Var Fld Frm Sha Hmc Rg

def fr (n lo hi : Int) : Bool := decide (lo ≤ n) && decide (n ≤ hi)
theorem fr_yes {n lo hi : Int} (h : fr n lo hi = true) : lo ≤ n ∧ n ≤ hi := by unfold fr at h; simpa using h
theorem fr_no {n lo hi : Int} (h : fr n lo hi = false) : ¬ (lo ≤ n ∧ n ≤ hi) := by unfold fr at h; simpa using h

set_option maxRecDepth 100000 in
theorem from_any (n lo hi : Int) (w : World) : Calls Tryd.prog 80 #[.int .i64 n, .int .i64 lo, .int .i64 hi] w fun x w' => x = .returned (.bool (fr n lo hi)) ∧ w' = w := by
  unfold fr
  by_cases h0 : lo ≤ n
  · have d0 : decide (lo ≤ n) = true := decide_eq_true h0
    rw [d0]
    go_enter Tryd.func80, Tryd.ntmps80
    go_wp2
    go_ret
    exact ⟨rfl, rfl⟩
  · have d0 : decide (lo ≤ n) = false := decide_eq_false h0
    rw [d0]
    go_enter Tryd.func80, Tryd.ntmps80
    go_wp2
    go_ret
    exact ⟨rfl, rfl⟩

set_option maxHeartbeats 1600000 in
set_option maxRecDepth 100000 in
theorem refmay_any (t : T) (w : World) : Calls Tryd.prog 57 #[t.val] w fun x w' => x = .returned (.bool (decide t.may)) ∧ Below w.heap.size w w' := by
  have hb : Below w.heap.size w (w.alloc (.cells t.cells 41)) := (Below.refl _ _).alloc (Nat.le_refl _) _
  have HB := Lib.hid hb
  have k0 : (w.alloc (.cells t.cells 41)).cell? ⟨w.heap.size, 0, none⟩ = some (.int .i64 t.tr) := cell_of_blk (heap_alloc_new w _) rfl
  have k1 : (w.alloc (.cells t.cells 41)).cell? ⟨w.heap.size, 1, none⟩ = some (.int .i64 t.ac) := cell_of_blk (heap_alloc_new w _) rfl
  have k2 : (w.alloc (.cells t.cells 41)).cell? ⟨w.heap.size, 2, none⟩ = some (.int .i64 t.st) := cell_of_blk (heap_alloc_new w _) rfl
  have k3 : (w.alloc (.cells t.cells 41)).cell? ⟨w.heap.size, 3, none⟩ = some (.int .i64 t.is) := cell_of_blk (heap_alloc_new w _) rfl
  have k4 : (w.alloc (.cells t.cells 41)).cell? ⟨w.heap.size, 4, none⟩ = some (.int .i64 t.un) := cell_of_blk (heap_alloc_new w _) rfl
  have k5 : (w.alloc (.cells t.cells 41)).cell? ⟨w.heap.size, 5, none⟩ = some (.int .i64 t.ep) := cell_of_blk (heap_alloc_new w _) rfl
  have arm := fun n lo hi w => Lib.hid (from_any n lo hi w)
  unfold T.val
  have hm : t.may ↔ (fr t.tr 1 2147483648 = true ∧ fr t.ac 1 2147483648 = true ∧ fr t.st 0 4095 = true ∧ fr t.is 0 1099511627776 = true ∧ fr t.un 0 1099511627776 = true ∧ t.is ≤ t.un ∧ fr t.ep 1 1048576 = true) := by
    unfold T.may fr
    simp only [Bool.and_eq_true, decide_eq_true_eq]
  have HM := Lib.hid hm
  have eC : t.cells = #[.int .i64 t.tr, .int .i64 t.ac, .int .i64 t.st, .int .i64 t.is, .int .i64 t.un, .int .i64 t.ep] := rfl
  have HR : Hid (∃ b : Bool, b = decide t.may) := ⟨_, rfl⟩
  obtain ⟨b, hb2⟩ := HR.out
  rw [← hb2]
  have HB2 := Lib.hid hb2
  rw [eC] at k0 k1 k2 k3 k4 k5 HB ⊢
  clear hb hm hb2 HR eC
  cases htr : fr t.tr 1 2147483648
  · have Htr : Hid (fr t.tr 1 2147483648 = false) := htr
    clear htr
    go_enter Tryd.func57, Tryd.ntmps57
    go_wp2_with (go_at_call 80; first
      | ((with_reducible refine (arm t.tr 1 2147483648 _).out.mono ?_); rintro etr wtr ⟨rfl, rfl⟩; rw [Htr.out]))
    go_ret
    exact ⟨congrArg (fun b => Ending.returned (.bool b)) (HB2.out.trans (decide_eq_false (fun h => by have h1 := (HM.out.1 h).1; rw [Htr.out] at h1; cases h1))).symm, HB.out⟩
  have Htr : Hid (fr t.tr 1 2147483648 = true) := htr
  clear htr
  cases hac : fr t.ac 1 2147483648
  · have Hac : Hid (fr t.ac 1 2147483648 = false) := hac
    clear hac
    go_enter Tryd.func57, Tryd.ntmps57
    go_wp2_with (go_at_call 80; first
      | ((with_reducible refine (arm t.tr 1 2147483648 _).out.mono ?_); rintro etr wtr ⟨rfl, rfl⟩; rw [Htr.out])
      | ((with_reducible refine (arm t.ac 1 2147483648 _).out.mono ?_); rintro eac wac ⟨rfl, rfl⟩; rw [Hac.out]))
    go_ret
    exact ⟨congrArg (fun b => Ending.returned (.bool b)) (HB2.out.trans (decide_eq_false (fun h => by have h1 := (HM.out.1 h).2.1; rw [Hac.out] at h1; cases h1))).symm, HB.out⟩
  have Hac : Hid (fr t.ac 1 2147483648 = true) := hac
  clear hac
  cases hst : fr t.st 0 4095
  · have Hst : Hid (fr t.st 0 4095 = false) := hst
    clear hst
    go_enter Tryd.func57, Tryd.ntmps57
    go_wp2_with (go_at_call 80; first
      | ((with_reducible refine (arm t.tr 1 2147483648 _).out.mono ?_); rintro etr wtr ⟨rfl, rfl⟩; rw [Htr.out])
      | ((with_reducible refine (arm t.ac 1 2147483648 _).out.mono ?_); rintro eac wac ⟨rfl, rfl⟩; rw [Hac.out])
      | ((with_reducible refine (arm t.st 0 4095 _).out.mono ?_); rintro est wst ⟨rfl, rfl⟩; rw [Hst.out]))
    go_ret
    exact ⟨congrArg (fun b => Ending.returned (.bool b)) (HB2.out.trans (decide_eq_false (fun h => by have h1 := (HM.out.1 h).2.2.1; rw [Hst.out] at h1; cases h1))).symm, HB.out⟩
  have Hst : Hid (fr t.st 0 4095 = true) := hst
  clear hst
  cases his : fr t.is 0 1099511627776
  · have His : Hid (fr t.is 0 1099511627776 = false) := his
    clear his
    go_enter Tryd.func57, Tryd.ntmps57
    go_wp2_with (go_at_call 80; first
      | ((with_reducible refine (arm t.tr 1 2147483648 _).out.mono ?_); rintro etr wtr ⟨rfl, rfl⟩; rw [Htr.out])
      | ((with_reducible refine (arm t.ac 1 2147483648 _).out.mono ?_); rintro eac wac ⟨rfl, rfl⟩; rw [Hac.out])
      | ((with_reducible refine (arm t.st 0 4095 _).out.mono ?_); rintro est wst ⟨rfl, rfl⟩; rw [Hst.out])
      | ((with_reducible refine (arm t.is 0 1099511627776 _).out.mono ?_); rintro eis wis ⟨rfl, rfl⟩; rw [His.out]))
    go_ret
    exact ⟨congrArg (fun b => Ending.returned (.bool b)) (HB2.out.trans (decide_eq_false (fun h => by have h1 := (HM.out.1 h).2.2.2.1; rw [His.out] at h1; cases h1))).symm, HB.out⟩
  have His : Hid (fr t.is 0 1099511627776 = true) := his
  clear his
  cases hun : fr t.un 0 1099511627776
  · have Hun : Hid (fr t.un 0 1099511627776 = false) := hun
    clear hun
    go_enter Tryd.func57, Tryd.ntmps57
    go_wp2_with (go_at_call 80; first
      | ((with_reducible refine (arm t.tr 1 2147483648 _).out.mono ?_); rintro etr wtr ⟨rfl, rfl⟩; rw [Htr.out])
      | ((with_reducible refine (arm t.ac 1 2147483648 _).out.mono ?_); rintro eac wac ⟨rfl, rfl⟩; rw [Hac.out])
      | ((with_reducible refine (arm t.st 0 4095 _).out.mono ?_); rintro est wst ⟨rfl, rfl⟩; rw [Hst.out])
      | ((with_reducible refine (arm t.is 0 1099511627776 _).out.mono ?_); rintro eis wis ⟨rfl, rfl⟩; rw [His.out])
      | ((with_reducible refine (arm t.un 0 1099511627776 _).out.mono ?_); rintro eun wun ⟨rfl, rfl⟩; rw [Hun.out]))
    go_ret
    exact ⟨congrArg (fun b => Ending.returned (.bool b)) (HB2.out.trans (decide_eq_false (fun h => by have h1 := (HM.out.1 h).2.2.2.2.1; rw [Hun.out] at h1; cases h1))).symm, HB.out⟩
  have Hun : Hid (fr t.un 0 1099511627776 = true) := hun
  clear hun
  by_cases hle : t.is ≤ t.un
  rotate_left
  · have dle : decide (t.is ≤ t.un) = false := decide_eq_false hle
    go_enter Tryd.func57, Tryd.ntmps57
    go_wp2_with (go_at_call 80; first
      | ((with_reducible refine (arm t.tr 1 2147483648 _).out.mono ?_); rintro etr wtr ⟨rfl, rfl⟩; rw [Htr.out])
      | ((with_reducible refine (arm t.ac 1 2147483648 _).out.mono ?_); rintro eac wac ⟨rfl, rfl⟩; rw [Hac.out])
      | ((with_reducible refine (arm t.st 0 4095 _).out.mono ?_); rintro est wst ⟨rfl, rfl⟩; rw [Hst.out])
      | ((with_reducible refine (arm t.is 0 1099511627776 _).out.mono ?_); rintro eis wis ⟨rfl, rfl⟩; rw [His.out])
      | ((with_reducible refine (arm t.un 0 1099511627776 _).out.mono ?_); rintro eun wun ⟨rfl, rfl⟩; rw [Hun.out]))
    go_ret
    exact ⟨congrArg (fun b => Ending.returned (.bool b)) (HB2.out.trans (decide_eq_false (fun h => by have h1 := (HM.out.1 h).2.2.2.2.2.1; omega))).symm, HB.out⟩
  have dle : decide (t.is ≤ t.un) = true := decide_eq_true hle
  cases hep : fr t.ep 1 1048576
  · have Hep : Hid (fr t.ep 1 1048576 = false) := hep
    clear hep
    go_enter Tryd.func57, Tryd.ntmps57
    go_wp2_with (go_at_call 80; first
      | ((with_reducible refine (arm t.tr 1 2147483648 _).out.mono ?_); rintro etr wtr ⟨rfl, rfl⟩; rw [Htr.out])
      | ((with_reducible refine (arm t.ac 1 2147483648 _).out.mono ?_); rintro eac wac ⟨rfl, rfl⟩; rw [Hac.out])
      | ((with_reducible refine (arm t.st 0 4095 _).out.mono ?_); rintro est wst ⟨rfl, rfl⟩; rw [Hst.out])
      | ((with_reducible refine (arm t.is 0 1099511627776 _).out.mono ?_); rintro eis wis ⟨rfl, rfl⟩; rw [His.out])
      | ((with_reducible refine (arm t.un 0 1099511627776 _).out.mono ?_); rintro eun wun ⟨rfl, rfl⟩; rw [Hun.out])
      | ((with_reducible refine (arm t.ep 1 1048576 _).out.mono ?_); rintro eep wep ⟨rfl, rfl⟩; rw [Hep.out]))
    go_ret
    exact ⟨congrArg (fun b => Ending.returned (.bool b)) (HB2.out.trans (decide_eq_false (fun h => by have h1 := (HM.out.1 h).2.2.2.2.2.2; rw [Hep.out] at h1; cases h1))).symm, HB.out⟩
  have Hep : Hid (fr t.ep 1 1048576 = true) := hep
  clear hep
  go_enter Tryd.func57, Tryd.ntmps57
  go_wp2_with (go_at_call 80; first
    | ((with_reducible refine (arm t.tr 1 2147483648 _).out.mono ?_); rintro etr wtr ⟨rfl, rfl⟩; rw [Htr.out])
    | ((with_reducible refine (arm t.ac 1 2147483648 _).out.mono ?_); rintro eac wac ⟨rfl, rfl⟩; rw [Hac.out])
    | ((with_reducible refine (arm t.st 0 4095 _).out.mono ?_); rintro est wst ⟨rfl, rfl⟩; rw [Hst.out])
    | ((with_reducible refine (arm t.is 0 1099511627776 _).out.mono ?_); rintro eis wis ⟨rfl, rfl⟩; rw [His.out])
    | ((with_reducible refine (arm t.un 0 1099511627776 _).out.mono ?_); rintro eun wun ⟨rfl, rfl⟩; rw [Hun.out])
    | ((with_reducible refine (arm t.ep 1 1048576 _).out.mono ?_); rintro eep wep ⟨rfl, rfl⟩; rw [Hep.out]))
  go_ret
  exact ⟨congrArg (fun b => Ending.returned (.bool b)) (HB2.out.trans (decide_eq_true (HM.out.2 ⟨Htr.out, Hac.out, Hst.out, His.out, Hun.out, hle, Hep.out⟩))).symm, HB.out⟩

set_option maxHeartbeats 1600000 in
set_option maxRecDepth 100000 in
theorem reffields_any (t : T) (ht : t.ok) (w : World) : Calls Tryd.prog 58 #[t.val] w (Makes (flds t) w) := by
  obtain ⟨i0, hi, hz0, hz1, hz2⟩ := Sha.parts_of info8
  have HTO := Lib.hid ht
  have hb : Below w.heap.size w (w.alloc (.cells t.cells 41)) := (Below.refl _ _).alloc (Nat.le_refl _) _
  have HS : Hid ((w.alloc (.cells t.cells 41)).heap.size = w.heap.size + 1) := by unfold Hid; simp
  have HBK : Hid ((w.alloc (.cells t.cells 41)).heap[w.heap.size]? = some (.cells t.cells 41 (0, 0))) := heap_alloc_new w _
  have HB0 := Lib.hid hb
  unfold T.val
  have eC : t.cells = #[.int .i64 t.tr, .int .i64 t.ac, .int .i64 t.st, .int .i64 t.is, .int .i64 t.un, .int .i64 t.ep] := rfl
  obtain ⟨tr, ac, st, is, un, ep⟩ := t
  rw [eC] at HBK HB0 HS ⊢
  simp only at HBK HB0 HS ⊢
  have k0 := cell_of_blk (j := 0) HBK.out rfl
  clear ht hb eC
  go_enter Tryd.func58, Tryd.ntmps58
  go_wp2_with fail
  generalize w.alloc (.cells #[.int .i64 tr, .int .i64 ac, .int .i64 st, .int .i64 is, .int .i64 un, .int .i64 ep] 41) = y0 at *
  have HOW0 : Hid (y0.ownsRow (w.heap.size + 1) 5 1 (.slice none 0 0) 0 (([] : List Int).map (Value.int .u8))) := World.ownsRow_nil _ _ _ _
  have HBY0 : Hid (Below (w.heap.size + 1) y0 y0) := Below.refl _ _
  refine (refnumber_any tr HTO.out.tr.2 _).mono ?_
  rintro etr w0 ⟨n0, rfl, hown0, hb0⟩
  obtain ⟨A0, c0, rfl, hc0, hnil0⟩ := own_slice hown0
  have HL0 : Hid ((num tr).length ≤ 10) := num_len HTO.out.tr.2
  have HNR0 : Hid (Row .u8 w0 w0.heap.size A0 (num tr).length (num tr)) := Row.of_own hown0
  have HNN0 := Lib.hid hnil0
  have HOX0 := Lib.hid (own_below HOW0.out hb0)
  have HBX0 := Lib.hid (HBY0.out.trans (hb0.mono (Nat.le_trans (Nat.le_of_eq HS.out.symm) HBY0.out.size)))
  have HZ0 : Hid (w.heap.size + 1 ≤ w0.heap.size) := Nat.le_trans (Nat.le_of_eq HS.out.symm) HBX0.out.size
  clear hown0 hb0 hc0 hnil0
  go_wp2_with (at_builtin; refine cat_own rfl (.tmp 4) (.tmp 7) 25 rfl (w.heap.size + 1) 5 i0 .u8 1 Tryd.underlying25 hi hz0 hz1 hz2 _ 0 [] rfl HOX0.out w0.heap.size A0 (num tr).length c0 (num tr) rfl HNN0.out HNR0.out (by have h1 := HL0.out; omega) (by omega) HZ0.out ?_; intro v0 y1 ho0 hy0; have HOY0 := Lib.hid ho0; have HBY1 := Lib.hid (HBX0.out.trans hy0); have k1 := (HBY1.out.cell (p := ⟨w.heap.size, 1, none⟩) (Nat.lt_succ_self _)).trans (cell_of_blk (j := 1) HBK.out rfl); clear ho0 hy0)
  obtain ⟨X0, hX0⟩ : ∃ X, X = ([] : List Int) ++ num tr := ⟨_, rfl⟩
  have HXL0 : Hid (X0.length ≤ 10) := by unfold Hid; rw [hX0, List.length_append]; have h1 := HL0.out; simp; omega
  have HOW1 : Hid (y1.ownsRow (w.heap.size + 1) 5 1 v0 X0.length (X0.map (Value.int .u8))) := by unfold Hid; have h1 := HOY0.out; rw [← hX0] at h1; rwa [hX0, List.length_append, List.length_nil, ← hX0]
  have HX0 := Lib.hid hX0
  clear hX0 k0
  refine (refnumber_any ac HTO.out.ac.2 _).mono ?_
  rintro eac w1 ⟨n1, rfl, hown1, hb1⟩
  obtain ⟨A1, c1, rfl, hc1, hnil1⟩ := own_slice hown1
  have HL1 : Hid ((num ac).length ≤ 10) := num_len HTO.out.ac.2
  have HNR1 : Hid (Row .u8 w1 w1.heap.size A1 (num ac).length (num ac)) := Row.of_own hown1
  have HNN1 := Lib.hid hnil1
  have HOX1 := Lib.hid (own_below HOW1.out hb1)
  have HBX1 := Lib.hid (HBY1.out.trans (hb1.mono (Nat.le_trans (Nat.le_of_eq HS.out.symm) HBY1.out.size)))
  have HZ1 : Hid (w.heap.size + 1 ≤ w1.heap.size) := Nat.le_trans (Nat.le_of_eq HS.out.symm) HBX1.out.size
  clear hown1 hb1 hc1 hnil1
  go_wp2_with (at_builtin; refine cat_own rfl (.tmp 9) (.tmp 12) 25 rfl (w.heap.size + 1) 5 i0 .u8 1 Tryd.underlying25 hi hz0 hz1 hz2 _ (X0.length) X0 rfl HOX1.out w1.heap.size A1 (num ac).length c1 (num ac) rfl HNN1.out HNR1.out (by have h1 := HL1.out; have h2 := HXL0.out; omega) (by omega) HZ1.out ?_; intro v1 y2 ho1 hy1; have HOY1 := Lib.hid ho1; have HBY2 := Lib.hid (HBX1.out.trans hy1); have k2 := (HBY2.out.cell (p := ⟨w.heap.size, 2, none⟩) (Nat.lt_succ_self _)).trans (cell_of_blk (j := 2) HBK.out rfl); clear ho1 hy1)
  obtain ⟨X1, hX1⟩ : ∃ X, X = X0 ++ num ac := ⟨_, rfl⟩
  have HXL1 : Hid (X1.length ≤ 20) := by unfold Hid; rw [hX1, List.length_append]; have h1 := HL1.out; have h2 := HXL0.out; omega
  have HOW2 : Hid (y2.ownsRow (w.heap.size + 1) 5 1 v1 X1.length (X1.map (Value.int .u8))) := by unfold Hid; have h1 := HOY1.out; rw [← hX1] at h1; rwa [hX1, List.length_append, ← hX1]
  have HX1 := Lib.hid hX1
  clear hX1 k1
  refine (refnumber_any st HTO.out.st.2 _).mono ?_
  rintro est w2 ⟨n2, rfl, hown2, hb2⟩
  obtain ⟨A2, c2, rfl, hc2, hnil2⟩ := own_slice hown2
  have HL2 : Hid ((num st).length ≤ 10) := num_len HTO.out.st.2
  have HNR2 : Hid (Row .u8 w2 w2.heap.size A2 (num st).length (num st)) := Row.of_own hown2
  have HNN2 := Lib.hid hnil2
  have HOX2 := Lib.hid (own_below HOW2.out hb2)
  have HBX2 := Lib.hid (HBY2.out.trans (hb2.mono (Nat.le_trans (Nat.le_of_eq HS.out.symm) HBY2.out.size)))
  have HZ2 : Hid (w.heap.size + 1 ≤ w2.heap.size) := Nat.le_trans (Nat.le_of_eq HS.out.symm) HBX2.out.size
  clear hown2 hb2 hc2 hnil2
  go_wp2_with (at_builtin; refine cat_own rfl (.tmp 14) (.tmp 17) 25 rfl (w.heap.size + 1) 5 i0 .u8 1 Tryd.underlying25 hi hz0 hz1 hz2 _ (X1.length) X1 rfl HOX2.out w2.heap.size A2 (num st).length c2 (num st) rfl HNN2.out HNR2.out (by have h1 := HL2.out; have h2 := HXL1.out; omega) (by omega) HZ2.out ?_; intro v2 y3 ho2 hy2; have HOY2 := Lib.hid ho2; have HBY3 := Lib.hid (HBX2.out.trans hy2); have k3 := (HBY3.out.cell (p := ⟨w.heap.size, 3, none⟩) (Nat.lt_succ_self _)).trans (cell_of_blk (j := 3) HBK.out rfl); clear ho2 hy2)
  obtain ⟨X2, hX2⟩ : ∃ X, X = X1 ++ num st := ⟨_, rfl⟩
  have HXL2 : Hid (X2.length ≤ 30) := by unfold Hid; rw [hX2, List.length_append]; have h1 := HL2.out; have h2 := HXL1.out; omega
  have HOW3 : Hid (y3.ownsRow (w.heap.size + 1) 5 1 v2 X2.length (X2.map (Value.int .u8))) := by unfold Hid; have h1 := HOY2.out; rw [← hX2] at h1; rwa [hX2, List.length_append, ← hX2]
  have HX2 := Lib.hid hX2
  clear hX2 k2
  refine (refnumber_any is HTO.out.is.2 _).mono ?_
  rintro eis w3 ⟨n3, rfl, hown3, hb3⟩
  obtain ⟨A3, c3, rfl, hc3, hnil3⟩ := own_slice hown3
  have HL3 : Hid ((num is).length ≤ 10) := num_len HTO.out.is.2
  have HNR3 : Hid (Row .u8 w3 w3.heap.size A3 (num is).length (num is)) := Row.of_own hown3
  have HNN3 := Lib.hid hnil3
  have HOX3 := Lib.hid (own_below HOW3.out hb3)
  have HBX3 := Lib.hid (HBY3.out.trans (hb3.mono (Nat.le_trans (Nat.le_of_eq HS.out.symm) HBY3.out.size)))
  have HZ3 : Hid (w.heap.size + 1 ≤ w3.heap.size) := Nat.le_trans (Nat.le_of_eq HS.out.symm) HBX3.out.size
  clear hown3 hb3 hc3 hnil3
  go_wp2_with (at_builtin; refine cat_own rfl (.tmp 19) (.tmp 22) 25 rfl (w.heap.size + 1) 5 i0 .u8 1 Tryd.underlying25 hi hz0 hz1 hz2 _ (X2.length) X2 rfl HOX3.out w3.heap.size A3 (num is).length c3 (num is) rfl HNN3.out HNR3.out (by have h1 := HL3.out; have h2 := HXL2.out; omega) (by omega) HZ3.out ?_; intro v3 y4 ho3 hy3; have HOY3 := Lib.hid ho3; have HBY4 := Lib.hid (HBX3.out.trans hy3); have k4 := (HBY4.out.cell (p := ⟨w.heap.size, 4, none⟩) (Nat.lt_succ_self _)).trans (cell_of_blk (j := 4) HBK.out rfl); clear ho3 hy3)
  obtain ⟨X3, hX3⟩ : ∃ X, X = X2 ++ num is := ⟨_, rfl⟩
  have HXL3 : Hid (X3.length ≤ 40) := by unfold Hid; rw [hX3, List.length_append]; have h1 := HL3.out; have h2 := HXL2.out; omega
  have HOW4 : Hid (y4.ownsRow (w.heap.size + 1) 5 1 v3 X3.length (X3.map (Value.int .u8))) := by unfold Hid; have h1 := HOY3.out; rw [← hX3] at h1; rwa [hX3, List.length_append, ← hX3]
  have HX3 := Lib.hid hX3
  clear hX3 k3
  refine (refnumber_any un HTO.out.un.2 _).mono ?_
  rintro eun w4 ⟨n4, rfl, hown4, hb4⟩
  obtain ⟨A4, c4, rfl, hc4, hnil4⟩ := own_slice hown4
  have HL4 : Hid ((num un).length ≤ 10) := num_len HTO.out.un.2
  have HNR4 : Hid (Row .u8 w4 w4.heap.size A4 (num un).length (num un)) := Row.of_own hown4
  have HNN4 := Lib.hid hnil4
  have HOX4 := Lib.hid (own_below HOW4.out hb4)
  have HBX4 := Lib.hid (HBY4.out.trans (hb4.mono (Nat.le_trans (Nat.le_of_eq HS.out.symm) HBY4.out.size)))
  have HZ4 : Hid (w.heap.size + 1 ≤ w4.heap.size) := Nat.le_trans (Nat.le_of_eq HS.out.symm) HBX4.out.size
  clear hown4 hb4 hc4 hnil4
  go_wp2_with (at_builtin; refine cat_own rfl (.tmp 24) (.tmp 27) 25 rfl (w.heap.size + 1) 5 i0 .u8 1 Tryd.underlying25 hi hz0 hz1 hz2 _ (X3.length) X3 rfl HOX4.out w4.heap.size A4 (num un).length c4 (num un) rfl HNN4.out HNR4.out (by have h1 := HL4.out; have h2 := HXL3.out; omega) (by omega) HZ4.out ?_; intro v4 y5 ho4 hy4; have HOY4 := Lib.hid ho4; have HBY5 := Lib.hid (HBX4.out.trans hy4); have k5 := (HBY5.out.cell (p := ⟨w.heap.size, 5, none⟩) (Nat.lt_succ_self _)).trans (cell_of_blk (j := 5) HBK.out rfl); clear ho4 hy4)
  obtain ⟨X4, hX4⟩ : ∃ X, X = X3 ++ num un := ⟨_, rfl⟩
  have HXL4 : Hid (X4.length ≤ 50) := by unfold Hid; rw [hX4, List.length_append]; have h1 := HL4.out; have h2 := HXL3.out; omega
  have HOW5 : Hid (y5.ownsRow (w.heap.size + 1) 5 1 v4 X4.length (X4.map (Value.int .u8))) := by unfold Hid; have h1 := HOY4.out; rw [← hX4] at h1; rwa [hX4, List.length_append, ← hX4]
  have HX4 := Lib.hid hX4
  clear hX4 k4
  refine (refnumber_any ep HTO.out.ep.2 _).mono ?_
  rintro eep w5 ⟨n5, rfl, hown5, hb5⟩
  obtain ⟨A5, c5, rfl, hc5, hnil5⟩ := own_slice hown5
  have HL5 : Hid ((num ep).length ≤ 10) := num_len HTO.out.ep.2
  have HNR5 : Hid (Row .u8 w5 w5.heap.size A5 (num ep).length (num ep)) := Row.of_own hown5
  have HNN5 := Lib.hid hnil5
  have HOX5 := Lib.hid (own_below HOW5.out hb5)
  have HBX5 := Lib.hid (HBY5.out.trans (hb5.mono (Nat.le_trans (Nat.le_of_eq HS.out.symm) HBY5.out.size)))
  have HZ5 : Hid (w.heap.size + 1 ≤ w5.heap.size) := Nat.le_trans (Nat.le_of_eq HS.out.symm) HBX5.out.size
  clear hown5 hb5 hc5 hnil5
  go_wp2_with (at_builtin; refine cat_own rfl (.tmp 29) (.tmp 32) 25 rfl (w.heap.size + 1) 5 i0 .u8 1 Tryd.underlying25 hi hz0 hz1 hz2 _ (X4.length) X4 rfl HOX5.out w5.heap.size A5 (num ep).length c5 (num ep) rfl HNN5.out HNR5.out (by have h1 := HL5.out; have h2 := HXL4.out; omega) (by omega) HZ5.out ?_; intro v5 y6 ho5 hy5; have HOY5 := Lib.hid ho5; have HBY6 := Lib.hid (HBX5.out.trans hy5); have k6 := (HBY6.out.cell (p := ⟨w.heap.size, 5, none⟩) (Nat.lt_succ_self _)).trans (cell_of_blk (j := 5) HBK.out rfl); clear ho5 hy5)
  obtain ⟨X5, hX5⟩ : ∃ X, X = X4 ++ num ep := ⟨_, rfl⟩
  have HXL5 : Hid (X5.length ≤ 60) := by unfold Hid; rw [hX5, List.length_append]; have h1 := HL5.out; have h2 := HXL4.out; omega
  have HOW6 : Hid (y6.ownsRow (w.heap.size + 1) 5 1 v5 X5.length (X5.map (Value.int .u8))) := by unfold Hid; have h1 := HOY5.out; rw [← hX5] at h1; rwa [hX5, List.length_append, ← hX5]
  have HX5 := Lib.hid hX5
  clear hX5 k5
  go_ret
  have e : X5 = flds ⟨tr, ac, st, is, un, ep⟩ := by
    rw [HX5.out, HX4.out, HX3.out, HX2.out, HX1.out, HX0.out]
    unfold flds
    simp only [List.nil_append, List.append_assoc]
  exact ⟨_, rfl, by rw [← e]; exact own_low HOW6.out (by omega), HB0.out.trans (HBY6.out.mono (by omega))⟩
end Go.Proofs.YtppbpmmfcoblmaaDoor.Tok

/- Layer 3 (field): Bytes of the Writer and of its reference, as contracts. -/
namespace Go.Proofs.YtppbpmmfcoblmaaDoor.Fld
open Go.RowKit Var

set_option maxHeartbeats 800000 in
set_option maxRecDepth 100000 in
theorem bytes_any (base g n : Nat) (v : Value) (xs : List Int) (A : Option Addr) (m c : Nat) (ys : List Int) (w : World) (hw : Wr w base g v n xs) (hr : Row .u8 w base A m ys) (hnil : A = none → c = 0) (hn : n + 10 + m ≤ 4398046511104) :
    Calls Tryd.prog 28 #[.pointer (some ⟨g, 0, none⟩), .slice A m c] w (Adds w base g v n xs (num m ++ ys)) := by
  have HW := Lib.hid hw
  have HR := Lib.hid hr
  have HN := Lib.hid hnil
  have HL := Lib.hid (num_len (k := (m : Int)) (by omega))
  clear hw hr hnil
  go_enter Tryd.func28, Tryd.ntmps28
  go_wp2_with fail
  refine (number_any base g n v xs (m : Int) w HW.out (by omega) (by omega)).mono ?_
  rintro e1 w1 ⟨rfl, v1, hw1, hm1⟩
  have HW1 := Lib.hid hw1
  have HM1 := Lib.hid hm1
  clear hw1 hm1
  go_wp2_with fail
  refine (add_any base g _ v1 _ A m c base ys w1 HW1.out (HR.out.below (HW.out.below_of HM1.out)) HN.out (by have := HL.out; omega)).mono ?_
  rintro e2 w2 ⟨rfl, v2, hw2, hm2⟩
  have HW2 := Lib.hid hw2
  have HM2 := Lib.hid hm2
  clear hw2 hm2
  go_wp2
  go_end0
  refine ⟨rfl, v2, ?_, HM1.out.trans HM2.out⟩
  have := HW2.out
  rw [List.append_assoc, Nat.add_assoc, ← List.length_append] at this
  exact this

set_option maxHeartbeats 800000 in
set_option maxRecDepth 100000 in
theorem bytes_nil (A : Option Addr) (m c : Nat) (hm : m ≤ 4398046511104) (w : World) : Calls Tryd.prog 28 #[.pointer none, .slice A m c] w fun e w' => e = .returned (.tuple #[]) ∧ Below w.heap.size w w' := by
  go_enter Tryd.func28, Tryd.ntmps28
  go_wp2_with fail
  refine (number_nil m (by omega) _).mono ?_
  rintro e1 w1 ⟨rfl, hb⟩
  go_wp2_with fail
  refine (add_nil _ _).mono ?_
  rintro e2 w2 ⟨rfl, rfl⟩
  go_wp2
  go_end0
  exact ⟨rfl, hb⟩

set_option maxHeartbeats 800000 in
set_option maxRecDepth 100000 in
theorem refbytes_any (A : Option Addr) (m c B : Nat) (ys : List Int) (w : World) (hr : Row .u8 w B A m ys) (hB : B ≤ w.heap.size) (hnil : A = none → c = 0) (hn : 10 + m ≤ 4398046511104) :
    Calls Tryd.prog 34 #[.slice A m c] w (Makes (num m ++ ys) w) := by
  obtain ⟨i0, hi, hz0, hz1, hz2⟩ := info_parts info_u8
  have HR := Lib.hid hr
  have HN := Lib.hid hnil
  have HL := Lib.hid (num_len (k := (m : Int)) (by omega))
  clear hr hnil
  go_enter Tryd.func34, Tryd.ntmps34
  go_wp2_with (first | (go_at_call 33; refine (refnumber_any (m : Int) (by omega) _).mono ?_; rintro e1 w1 ⟨v1, rfl, hown, hb⟩) | (at_builtin; refine cat_own rfl (.tmp 5) (.tmp 6) 25 rfl w.heap.size 5 i0 .u8 1 Tryd.underlying25 hi hz0 hz1 hz2 _ _ (num m) rfl hown w.heap.size A m c ys rfl HN.out ((HR.out.more hB).below hb) (by have := HL.out; omega) (by omega) hb.size ?_; intro v2 w2 hown2 hb2))
  go_ret
  exact ⟨v2, rfl, by have := HR.out.len; simpa [this] using hown2, hb.trans hb2⟩
end Go.Proofs.YtppbpmmfcoblmaaDoor.Fld

/- Slices of bytes among others, over any program: a slice of them as a list of parts. -/
namespace Go.Proofs.YtppbpmmfcoblmaaDoor.Slc
open Go.RowKit

/-- A slice of bytes among others: where it lies, its length, its capacity, what it reads as. -/
structure Part where
  A : Option Addr
  n : Nat
  c : Nat
  xs : List Int
def Part.v (p : Part) : Value := .slice p.A p.n p.c
def Part.Right (w : World) (B : Nat) (p : Part) : Prop := Row .u8 w B p.A p.n p.xs ∧ (p.A = none → p.c = 0)
def total (L : List Part) : Nat := (L.map (·.n)).sum
def whole (L : List Part) : List Int := L.flatMap (·.xs)
theorem total_next {L : List Part} {i : Nat} (h : i < L.length) : total (L.take (i + 1)) = total (L.take i) + (L[i]).n := by
  unfold total; rw [List.take_succ_eq_append_getElem h, List.map_append, List.sum_append]; simp only [List.map_cons, List.map_nil, List.sum_cons, List.sum_nil, Nat.add_zero]
theorem whole_next {L : List Part} {i : Nat} (h : i < L.length) : whole (L.take (i + 1)) = whole (L.take i) ++ (L[i]).xs := by
  unfold whole; rw [List.take_succ_eq_append_getElem h, List.flatMap_append]; simp only [List.flatMap_cons, List.flatMap_nil, List.append_nil]
theorem total_le (L : List Part) (i : Nat) : total (L.take i) ≤ total L := by
  have : total L = total (L.take i) + total (L.drop i) := by
    unfold total; rw [← List.sum_append, ← List.map_append, List.take_append_drop]
  omega
theorem whole_len {w : World} {B : Nat} : ∀ {L : List Part}, (∀ p ∈ L, p.Right w B) → (whole L).length = total L
  | [], _ => rfl
  | p :: L, h => by
    have h1 := (h p (by simp)).1.1
    have h2 := whole_len (L := L) (fun q hq => h q (by simp [hq]))
    simp only [whole, total, List.flatMap_cons, List.length_append, List.map_cons, List.sum_cons] at *
    omega

/-- The slice '.slice A n c' of slices reads as the parts L, which are bytes; all lies below block B; nil is let in. -/
structure Prs (w : World) (B : Nat) (A : Option Addr) (n : Nat) (L : List Part) : Prop where
  len : L.length = n
  at_ : 0 < n → ∃ b o, A = some ⟨b, o, none⟩ ∧ b < B ∧ ∀ j (h : j < L.length), w.cell? ⟨b, o + j, none⟩ = some (L[j]).v
  right : ∀ p ∈ L, p.Right w B
  byt : ∀ p ∈ L, p.n ≤ p.c ∧ ∀ x ∈ p.xs, 0 ≤ x ∧ x ≤ 255
section
variable {w w' : World} {B B' n : Nat} {A : Option Addr} {L : List Part}
theorem Prs.below (h : Prs w B A n L) (hb : Below B w w') : Prs w' B A n L :=
  ⟨h.len, fun hn => by
    obtain ⟨b, o, e, h1, h2⟩ := h.at_ hn
    exact ⟨b, o, e, h1, fun j hj => (hb.cell (p := ⟨b, o + j, none⟩) h1).trans (h2 j hj)⟩, fun p hp => ⟨(h.right p hp).1.below hb, (h.right p hp).2⟩, h.byt⟩
theorem Prs.more (h : Prs w B A n L) (hB : B ≤ B') : Prs w B' A n L :=
  ⟨h.len, fun hn => by
    obtain ⟨b, o, e, h1, h2⟩ := h.at_ hn
    exact ⟨b, o, e, by omega, h2⟩, fun p hp => ⟨(h.right p hp).1.more hB, (h.right p hp).2⟩, h.byt⟩
theorem Prs.whole_byt (h : Prs w B A n L) : ∀ x ∈ whole L, 0 ≤ x ∧ x ≤ 255 := fun x hx => by
  obtain ⟨p, hp, hx⟩ := List.mem_flatMap.1 hx
  exact (h.byt p hp).2 x hx
/-- A block made of the parts' slices. -/
theorem Prs.of_blk {g : Nat} {cs : Array Value} {t : TypeId} {fr : Nat × Nat} (hg : w.heap[g]? = some (.cells cs t fr)) (hB : g < B) (hcs : cs.toList = L.map Part.v) (hr : ∀ p ∈ L, p.Right w B) (hb : ∀ p ∈ L, p.n ≤ p.c ∧ ∀ x ∈ p.xs, 0 ≤ x ∧ x ≤ 255) : Prs w B (some ⟨g, 0, none⟩) L.length L :=
  ⟨rfl, fun _ => ⟨g, 0, rfl, hB, fun j hj => by
    rw [Nat.zero_add, cell_of_row w g j cs t fr hg]
    have : cs[j]? = cs.toList[j]? := by simp
    rw [this, hcs]
    simp [hj]⟩, hr, hb⟩
end
end Go.Proofs.YtppbpmmfcoblmaaDoor.Slc

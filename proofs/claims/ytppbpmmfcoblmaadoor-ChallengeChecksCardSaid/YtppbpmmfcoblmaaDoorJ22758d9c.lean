/- Lemmas that the proof stands on, in build order: TokE KeyA RgK. -/
import Derived.OwnWalk
import Derived.Laws.OwnMore
import Derived.Laws.AppendOwnNone
import Derived.Test.YtppbpmmfcoblmaaDoorJ14e35fe5
import Derived.Test.YtppbpmmfcoblmaaDoorJ16496690
import Derived.Test.YtppbpmmfcoblmaaDoorJ24e72b8
import Derived.Test.YtppbpmmfcoblmaaDoorJ5450dea
/- Layer 10 (token): the program's within, May and Fields, as contracts. -/
namespace Go.Proofs.YtppbpmmfcoblmaaDoor.Tok
open Go.RowKit Var Fld Frm Sha Hmc Rg

set_option maxRecDepth 100000 in
theorem within_any (n lo hi : Int) (w : World) : Calls Tryd.prog 55 #[.int .i64 n, .int .i64 lo, .int .i64 hi] w fun x w' => x = .returned (.bool (fr n lo hi)) ∧ w' = w := by
  unfold fr
  by_cases h0 : lo ≤ n
  · have d0 : decide (lo ≤ n) = true := decide_eq_true h0
    rw [d0]
    go_enter Tryd.func55, Tryd.ntmps55
    go_wp2
    go_ret
    exact ⟨rfl, rfl⟩
  · have d0 : decide (lo ≤ n) = false := decide_eq_false h0
    rw [d0]
    go_enter Tryd.func55, Tryd.ntmps55
    go_wp2
    go_ret
    exact ⟨rfl, rfl⟩

set_option maxHeartbeats 1600000 in
set_option maxRecDepth 100000 in
theorem may_any (t : T) (w : World) : Calls Tryd.prog 49 #[t.val] w fun x w' => x = .returned (.bool (decide t.may)) ∧ Below w.heap.size w w' := by
  have hb : Below w.heap.size w (w.alloc (.cells t.cells 41)) := (Below.refl _ _).alloc (Nat.le_refl _) _
  have HB := Lib.hid hb
  have k0 : (w.alloc (.cells t.cells 41)).cell? ⟨w.heap.size, 0, none⟩ = some (.int .i64 t.tr) := cell_of_blk (heap_alloc_new w _) rfl
  have k1 : (w.alloc (.cells t.cells 41)).cell? ⟨w.heap.size, 1, none⟩ = some (.int .i64 t.ac) := cell_of_blk (heap_alloc_new w _) rfl
  have k2 : (w.alloc (.cells t.cells 41)).cell? ⟨w.heap.size, 2, none⟩ = some (.int .i64 t.st) := cell_of_blk (heap_alloc_new w _) rfl
  have k3 : (w.alloc (.cells t.cells 41)).cell? ⟨w.heap.size, 3, none⟩ = some (.int .i64 t.is) := cell_of_blk (heap_alloc_new w _) rfl
  have k4 : (w.alloc (.cells t.cells 41)).cell? ⟨w.heap.size, 4, none⟩ = some (.int .i64 t.un) := cell_of_blk (heap_alloc_new w _) rfl
  have k5 : (w.alloc (.cells t.cells 41)).cell? ⟨w.heap.size, 5, none⟩ = some (.int .i64 t.ep) := cell_of_blk (heap_alloc_new w _) rfl
  have arm := fun n lo hi w => Lib.hid (within_any n lo hi w)
  unfold T.val
  have hm : t.may ↔ (fr t.tr 1 2147483648 = true ∧ fr t.ac 1 2147483648 = true ∧ fr t.st 0 4095 = true ∧ fr t.un 0 1099511627776 = true ∧ fr t.is 0 t.un = true ∧ fr t.ep 1 1048576 = true) := by
    unfold T.may fr
    simp only [Bool.and_eq_true, decide_eq_true_eq]
    omega
  have HM := Lib.hid hm
  have eC : t.cells = #[.int .i64 t.tr, .int .i64 t.ac, .int .i64 t.st, .int .i64 t.is, .int .i64 t.un, .int .i64 t.ep] := rfl
  have HR : Hid (∃ b : Bool, b = decide t.may) := ⟨_, rfl⟩
  obtain ⟨b, hb2⟩ := HR.out
  rw [← hb2]
  have HB2 := Lib.hid hb2
  rw [eC] at k0 k1 k2 k3 k4 k5 HB ⊢
  clear hb hm hb2 HR eC
  cases htr : fr t.tr 1 2147483648
  · have Htr : Hid (fr t.tr 1 2147483648 = false) := htr
    clear htr
    go_enter Tryd.func49, Tryd.ntmps49
    go_wp2_with (go_at_call 55; first
      | ((with_reducible refine (arm t.tr 1 2147483648 _).out.mono ?_); rintro etr wtr ⟨rfl, rfl⟩; rw [Htr.out]))
    go_ret
    exact ⟨congrArg (fun b => Ending.returned (.bool b)) (HB2.out.trans (decide_eq_false (fun h => by have h1 := (HM.out.1 h).1; rw [Htr.out] at h1; cases h1))).symm, HB.out⟩
  have Htr : Hid (fr t.tr 1 2147483648 = true) := htr
  clear htr
  cases hac : fr t.ac 1 2147483648
  · have Hac : Hid (fr t.ac 1 2147483648 = false) := hac
    clear hac
    go_enter Tryd.func49, Tryd.ntmps49
    go_wp2_with (go_at_call 55; first
      | ((with_reducible refine (arm t.tr 1 2147483648 _).out.mono ?_); rintro etr wtr ⟨rfl, rfl⟩; rw [Htr.out])
      | ((with_reducible refine (arm t.ac 1 2147483648 _).out.mono ?_); rintro eac wac ⟨rfl, rfl⟩; rw [Hac.out]))
    go_ret
    exact ⟨congrArg (fun b => Ending.returned (.bool b)) (HB2.out.trans (decide_eq_false (fun h => by have h1 := (HM.out.1 h).2.1; rw [Hac.out] at h1; cases h1))).symm, HB.out⟩
  have Hac : Hid (fr t.ac 1 2147483648 = true) := hac
  clear hac
  cases hst : fr t.st 0 4095
  · have Hst : Hid (fr t.st 0 4095 = false) := hst
    clear hst
    go_enter Tryd.func49, Tryd.ntmps49
    go_wp2_with (go_at_call 55; first
      | ((with_reducible refine (arm t.tr 1 2147483648 _).out.mono ?_); rintro etr wtr ⟨rfl, rfl⟩; rw [Htr.out])
      | ((with_reducible refine (arm t.ac 1 2147483648 _).out.mono ?_); rintro eac wac ⟨rfl, rfl⟩; rw [Hac.out])
      | ((with_reducible refine (arm t.st 0 4095 _).out.mono ?_); rintro est wst ⟨rfl, rfl⟩; rw [Hst.out]))
    go_ret
    exact ⟨congrArg (fun b => Ending.returned (.bool b)) (HB2.out.trans (decide_eq_false (fun h => by have h1 := (HM.out.1 h).2.2.1; rw [Hst.out] at h1; cases h1))).symm, HB.out⟩
  have Hst : Hid (fr t.st 0 4095 = true) := hst
  clear hst
  cases hun : fr t.un 0 1099511627776
  · have Hun : Hid (fr t.un 0 1099511627776 = false) := hun
    clear hun
    go_enter Tryd.func49, Tryd.ntmps49
    go_wp2_with (go_at_call 55; first
      | ((with_reducible refine (arm t.tr 1 2147483648 _).out.mono ?_); rintro etr wtr ⟨rfl, rfl⟩; rw [Htr.out])
      | ((with_reducible refine (arm t.ac 1 2147483648 _).out.mono ?_); rintro eac wac ⟨rfl, rfl⟩; rw [Hac.out])
      | ((with_reducible refine (arm t.st 0 4095 _).out.mono ?_); rintro est wst ⟨rfl, rfl⟩; rw [Hst.out])
      | ((with_reducible refine (arm t.un 0 1099511627776 _).out.mono ?_); rintro eun wun ⟨rfl, rfl⟩; rw [Hun.out]))
    go_ret
    exact ⟨congrArg (fun b => Ending.returned (.bool b)) (HB2.out.trans (decide_eq_false (fun h => by have h1 := (HM.out.1 h).2.2.2.1; rw [Hun.out] at h1; cases h1))).symm, HB.out⟩
  have Hun : Hid (fr t.un 0 1099511627776 = true) := hun
  clear hun
  cases his : fr t.is 0 t.un
  · have His : Hid (fr t.is 0 t.un = false) := his
    clear his
    go_enter Tryd.func49, Tryd.ntmps49
    go_wp2_with (go_at_call 55; first
      | ((with_reducible refine (arm t.tr 1 2147483648 _).out.mono ?_); rintro etr wtr ⟨rfl, rfl⟩; rw [Htr.out])
      | ((with_reducible refine (arm t.ac 1 2147483648 _).out.mono ?_); rintro eac wac ⟨rfl, rfl⟩; rw [Hac.out])
      | ((with_reducible refine (arm t.st 0 4095 _).out.mono ?_); rintro est wst ⟨rfl, rfl⟩; rw [Hst.out])
      | ((with_reducible refine (arm t.un 0 1099511627776 _).out.mono ?_); rintro eun wun ⟨rfl, rfl⟩; rw [Hun.out])
      | ((with_reducible refine (arm t.is 0 t.un _).out.mono ?_); rintro eis wis ⟨rfl, rfl⟩; rw [His.out]))
    go_ret
    exact ⟨congrArg (fun b => Ending.returned (.bool b)) (HB2.out.trans (decide_eq_false (fun h => by have h1 := (HM.out.1 h).2.2.2.2.1; rw [His.out] at h1; cases h1))).symm, HB.out⟩
  have His : Hid (fr t.is 0 t.un = true) := his
  clear his
  cases hep : fr t.ep 1 1048576
  · have Hep : Hid (fr t.ep 1 1048576 = false) := hep
    clear hep
    go_enter Tryd.func49, Tryd.ntmps49
    go_wp2_with (go_at_call 55; first
      | ((with_reducible refine (arm t.tr 1 2147483648 _).out.mono ?_); rintro etr wtr ⟨rfl, rfl⟩; rw [Htr.out])
      | ((with_reducible refine (arm t.ac 1 2147483648 _).out.mono ?_); rintro eac wac ⟨rfl, rfl⟩; rw [Hac.out])
      | ((with_reducible refine (arm t.st 0 4095 _).out.mono ?_); rintro est wst ⟨rfl, rfl⟩; rw [Hst.out])
      | ((with_reducible refine (arm t.un 0 1099511627776 _).out.mono ?_); rintro eun wun ⟨rfl, rfl⟩; rw [Hun.out])
      | ((with_reducible refine (arm t.is 0 t.un _).out.mono ?_); rintro eis wis ⟨rfl, rfl⟩; rw [His.out])
      | ((with_reducible refine (arm t.ep 1 1048576 _).out.mono ?_); rintro eep wep ⟨rfl, rfl⟩; rw [Hep.out]))
    go_ret
    exact ⟨congrArg (fun b => Ending.returned (.bool b)) (HB2.out.trans (decide_eq_false (fun h => by have h1 := (HM.out.1 h).2.2.2.2.2; rw [Hep.out] at h1; cases h1))).symm, HB.out⟩
  have Hep : Hid (fr t.ep 1 1048576 = true) := hep
  clear hep
  go_enter Tryd.func49, Tryd.ntmps49
  go_wp2_with (go_at_call 55; first
      | ((with_reducible refine (arm t.tr 1 2147483648 _).out.mono ?_); rintro etr wtr ⟨rfl, rfl⟩; rw [Htr.out])
      | ((with_reducible refine (arm t.ac 1 2147483648 _).out.mono ?_); rintro eac wac ⟨rfl, rfl⟩; rw [Hac.out])
      | ((with_reducible refine (arm t.st 0 4095 _).out.mono ?_); rintro est wst ⟨rfl, rfl⟩; rw [Hst.out])
      | ((with_reducible refine (arm t.un 0 1099511627776 _).out.mono ?_); rintro eun wun ⟨rfl, rfl⟩; rw [Hun.out])
      | ((with_reducible refine (arm t.is 0 t.un _).out.mono ?_); rintro eis wis ⟨rfl, rfl⟩; rw [His.out])
      | ((with_reducible refine (arm t.ep 1 1048576 _).out.mono ?_); rintro eep wep ⟨rfl, rfl⟩; rw [Hep.out]))
  go_ret
  exact ⟨congrArg (fun b => Ending.returned (.bool b)) (HB2.out.trans (decide_eq_true (HM.out.2 ⟨Htr.out, Hac.out, Hst.out, Hun.out, His.out, Hep.out⟩))).symm, HB.out⟩

/-- Numbers' fields, one behind the other. -/
def nums : List Int → List Int
  | [] => []
  | k :: l => num k ++ nums l
theorem nums_snoc : ∀ (l : List Int) (k : Int), nums (l ++ [k]) = nums l ++ num k
  | [], k => by simp [nums]
  | x :: l, k => by simp only [nums, List.cons_append, nums_snoc l k, List.append_assoc]
theorem nums_len : ∀ (l : List Int), (∀ k ∈ l, k ≤ 9223372036854775807) → (nums l).length ≤ 10 * l.length
  | [], _ => by simp [nums]
  | k :: l, h => by
    have h1 := num_len (h k (by simp))
    have h2 := nums_len l (fun x hx => h x (by simp [hx]))
    simp only [nums, List.length_append, List.length_cons]
    omega
def T.list (t : T) : List Int := [t.tr, t.ac, t.st, t.is, t.un, t.ep]
theorem nums_list (t : T) : nums t.list = flds t := by simp [nums, T.list, flds]
theorem T.ok.le {t : T} (h : t.ok) : ∀ k ∈ t.list, k ≤ 9223372036854775807 := by
  intro k hk
  simp only [T.list, List.mem_cons, List.not_mem_nil, or_false] at hk
  rcases hk with rfl | rfl | rfl | rfl | rfl | rfl
  · exact h.tr.2
  · exact h.ac.2
  · exact h.st.2
  · exact h.is.2
  · exact h.un.2
  · exact h.ep.2

set_option maxHeartbeats 1600000 in
set_option maxRecDepth 100000 in
theorem fields_any (t : T) (ht : t.ok) (w : World) : Calls Tryd.prog 76 #[t.val] w (Makes (flds t) w) := by
  obtain ⟨w1, hw1⟩ : ∃ w1, w.alloc (.cells t.cells 41) = w1 := ⟨_, rfl⟩
  have hs1 : w1.heap.size = w.heap.size + 1 := by rw [← hw1]; simp
  have hb1 : Below w.heap.size w w1 := by rw [← hw1]; exact (Below.refl _ _).alloc (Nat.le_refl _) _
  obtain ⟨w2, hw2⟩ : ∃ w2, w1.alloc (.cells #[.slice none 0 0] 69) = w2 := ⟨_, rfl⟩
  have hw0 : Wr w2 w1.heap.size w1.heap.size (.slice none 0 0) 0 [] := by
    rw [← hw2]
    exact ⟨heap_alloc_new w1 _, World.ownsRow_nil _ _ _ _, by simp [Value.ownBlock], Nat.le_refl _⟩
  have hb2 : Below w1.heap.size w1 w2 := by rw [← hw2]; exact (Below.refl _ _).alloc (Nat.le_refl _) _
  have hT2 : w2.heap[w.heap.size]? = some (.cells t.cells 41 (0, 0)) := by
    rw [hb2.block w.heap.size (by omega), ← hw1]
    exact heap_alloc_new w _
  have HW0 := Lib.hid hw0
  have HB2 := Lib.hid (hb1.trans (hb2.mono (by omega)))
  have HLE := Lib.hid ht.le
  have HLN := Lib.hid (nums_len t.list ht.le)
  have HS1 := Lib.hid hs1
  have HW1 := Lib.hid hw1
  have HW2 := Lib.hid hw2
  unfold T.val
  have eC : t.cells = #[.int .i64 t.tr, .int .i64 t.ac, .int .i64 t.st, .int .i64 t.is, .int .i64 t.un, .int .i64 t.ep] := rfl
  rw [eC] at hw1 hT2 HW1 ⊢
  have k0 : w2.cell? ⟨w.heap.size, 0, none⟩ = some (.int .i64 t.tr) := cell_of_blk hT2 rfl
  have k1 : w2.cell? ⟨w.heap.size, 1, none⟩ = some (.int .i64 t.ac) := cell_of_blk hT2 rfl
  have k2 : w2.cell? ⟨w.heap.size, 2, none⟩ = some (.int .i64 t.st) := cell_of_blk hT2 rfl
  have k3 : w2.cell? ⟨w.heap.size, 3, none⟩ = some (.int .i64 t.is) := cell_of_blk hT2 rfl
  have k4 : w2.cell? ⟨w.heap.size, 4, none⟩ = some (.int .i64 t.un) := cell_of_blk hT2 rfl
  have k5 : w2.cell? ⟨w.heap.size, 5, none⟩ = some (.int .i64 t.ep) := cell_of_blk hT2 rfl
  rw [← hw2, ← hw1] at k0 k1 k2 k3 k4 k5
  clear hw0 hb1 hb2 hT2 eC hs1 hw1 hw2
  go_enter Tryd.func76, Tryd.ntmps76
  go_wp2_with fail
  rw [HW1.out, HW2.out]
  clear k0 k1 k2 k3 k4 k5
  rw [HS1.out] at HW0
  have ix0 : ∀ wx : World, (Instr.index 131 (.agg #[.int .i64 t.tr, .int .i64 t.ac, .int .i64 t.st, .int .i64 t.is, .int .i64 t.un, .int .i64 t.ep]) (.int .i64 0)).run Tryd.prog wx = .ok (.int .i64 t.tr) wx := fun _ => by kernel_rfl
  have ix1 : ∀ wx : World, (Instr.index 131 (.agg #[.int .i64 t.tr, .int .i64 t.ac, .int .i64 t.st, .int .i64 t.is, .int .i64 t.un, .int .i64 t.ep]) (.int .i64 1)).run Tryd.prog wx = .ok (.int .i64 t.ac) wx := fun _ => by kernel_rfl
  have ix2 : ∀ wx : World, (Instr.index 131 (.agg #[.int .i64 t.tr, .int .i64 t.ac, .int .i64 t.st, .int .i64 t.is, .int .i64 t.un, .int .i64 t.ep]) (.int .i64 2)).run Tryd.prog wx = .ok (.int .i64 t.st) wx := fun _ => by kernel_rfl
  have ix3 : ∀ wx : World, (Instr.index 131 (.agg #[.int .i64 t.tr, .int .i64 t.ac, .int .i64 t.st, .int .i64 t.is, .int .i64 t.un, .int .i64 t.ep]) (.int .i64 3)).run Tryd.prog wx = .ok (.int .i64 t.is) wx := fun _ => by kernel_rfl
  have ix4 : ∀ wx : World, (Instr.index 131 (.agg #[.int .i64 t.tr, .int .i64 t.ac, .int .i64 t.st, .int .i64 t.is, .int .i64 t.un, .int .i64 t.ep]) (.int .i64 4)).run Tryd.prog wx = .ok (.int .i64 t.un) wx := fun _ => by kernel_rfl
  have ix5 : ∀ wx : World, (Instr.index 131 (.agg #[.int .i64 t.tr, .int .i64 t.ac, .int .i64 t.st, .int .i64 t.is, .int .i64 t.un, .int .i64 t.ep]) (.int .i64 5)).run Tryd.prog wx = .ok (.int .i64 t.ep) wx := fun _ => by kernel_rfl
  have HSZ : Hid (w.heap.size + 1 ≤ w2.heap.size) := by have h1 := HW0.out.lt; unfold Hid; omega
  go_loopw [5, 19] (fun _ i wr => ∃ j : Nat, j ≤ 6 ∧ i = .int .i64 (j : Int) ∧ ∃ v, Hid (Wr wr (w.heap.size + 1) (w.heap.size + 1) v (nums (t.list.take j)).length (nums (t.list.take j))) ∧ Hid (Below (w.heap.size + 1) w2 wr)) (fun _ i _ => 6 - (intOf i).toNat)
  case atStart => exact ⟨0, by omega, rfl, _, HW0, Lib.hid (Below.refl _ _)⟩
  case round =>
    obtain ⟨j, hj, rfl, v, HW, HB⟩ := hrel
    have HBW : Hid (Below w.heap.size w wr) := HB2.out.trans (HB.out.mono (by omega))
    have hnl : (nums (t.list.take j)).length ≤ 100 := by
      have h1 := nums_len (t.list.take j) (fun k hk => HLE.out k (List.mem_of_mem_take hk))
      have h2 : (t.list.take j).length ≤ 6 := by rw [List.length_take]; exact Nat.min_le_right _ _
      omega
    by_cases hlt : j < 6
    · have hst : ∃ k, Hid (k = t.list.getD j 0) ∧ k ≤ 9223372036854775807 ∧ Hid (nums (t.list.take (j + 1)) = nums (t.list.take j) ++ num k) := by
        have hl : j < t.list.length := hlt
        refine ⟨_, rfl, ?_, ?_⟩
        · rw [List.getD, List.getElem?_eq_getElem hl]
          exact HLE.out _ (List.getElem_mem hl)
        · unfold Hid
          rw [List.take_succ_eq_append_getElem hl, nums_snoc, List.getD, List.getElem?_eq_getElem hl]
          rfl
      obtain ⟨k, HKE, hk, HNX⟩ := hst
      have HNM := Lib.hid (number_any (w.heap.size + 1) (w.heap.size + 1) _ v _ k wr HW.out hk (by omega))
      have HNL := Lib.hid hnl
      clear hnl
      obtain rfl | rfl | rfl | rfl | rfl | rfl : j = 0 ∨ j = 1 ∨ j = 2 ∨ j = 3 ∨ j = 4 ∨ j = 5 := by omega
      all_goals
        have hke := HKE.out
        simp only [T.list, List.getD_cons_zero, List.getD_cons_succ] at hke
        subst hke
        clear hj hlt hk HKE
        go_wp2_with fail
        refine HNM.out.mono ?_
        rintro e3 w3 ⟨rfl, v3, hw3, hm3⟩
        have HW3 := Lib.hid hw3
        have HB3 := Lib.hid (HB.out.trans (HW.out.below_of hm3))
        have HWF := HW3.out
        rw [← List.length_append, ← HNX.out] at HWF
        have HWG := Lib.hid HWF
        clear hw3 hm3 HWF HW3
        go_wp2
        go_roundw
        case rel => first | exact ⟨1, by omega, rfl, v3, HWG, HB3⟩ | exact ⟨2, by omega, rfl, v3, HWG, HB3⟩ | exact ⟨3, by omega, rfl, v3, HWG, HB3⟩ | exact ⟨4, by omega, rfl, v3, HWG, HB3⟩ | exact ⟨5, by omega, rfl, v3, HWG, HB3⟩ | exact ⟨6, by omega, rfl, v3, HWG, HB3⟩
        case measure => decide
    · obtain rfl : j = 6 := by omega
      have hWE : Hid (Wr wr (w.heap.size + 1) (w.heap.size + 1) v (flds t).length (flds t)) := by
        have h1 := HW.out
        rw [show t.list.take 6 = t.list from rfl, nums_list] at h1
        exact h1
      clear HW hlt hj hnl
      have HFL : Hid ((flds t).length ≤ 100) := by
        have h1 := HLN.out
        rw [nums_list] at h1
        have h2 : t.list.length = 6 := rfl
        unfold Hid
        omega
      go_wp2_with fail
      refine (out_any (w.heap.size + 1) (w.heap.size + 1) _ v _ wr hWE.out (by have := HFL.out; omega)).mono ?_
      rintro e4 w4 ⟨v4, rfl, hown4, hb4⟩
      have HO4 := Lib.hid (own_low hown4 HBW.out.size)
      have HB4 := Lib.hid (HBW.out.trans (hb4.mono HBW.out.size))
      clear hown4 hb4
      go_wp2
      go_ret
      exact ⟨_, rfl, HO4.out, HB4.out⟩
end Go.Proofs.YtppbpmmfcoblmaaDoor.Tok

/- Appends of keys of epochs onto a row of one's own, over any program: in a walk's list, and as a step of a region that draws. -/
namespace Go.Proofs.YtppbpmmfcoblmaaDoor.Rg
open Go.RowKit Slc

theorem own_below_n {w w' : World} {base n size : Nat} {e : TypeId} {v : Value} {xs : List Value} (h : w.ownsRow base e size v n xs) (hb : Below w.heap.size w w') : w'.ownsRow base e size v n xs := by
  refine ⟨h.1, ?_⟩
  rcases h.2 with hn | ⟨g, cap, cur, rfl, h1, hg, rest⟩
  · exact .inl hn
  · exact .inr ⟨g, cap, cur, rfl, h1, (hb.block g (Array.getElem?_eq_some_iff.1 hg).1).trans hg, rest⟩
theorem own_slice_n {w : World} {base n size : Nat} {e : TypeId} {v : Value} {xs : List Value} (h : w.ownsRow base e size v n xs) : ∃ A c, v = .slice A n c ∧ n ≤ c ∧ (A = none → c = 0) := by
  rcases h.2 with ⟨rfl, rfl⟩ | ⟨g, cap, cur, rfl, _, _, hc, _⟩
  · exact ⟨none, 0, rfl, Nat.le_refl _, fun _ => rfl⟩
  · exact ⟨_, cap, rfl, hc, fun h => by cases h⟩
theorem own_only_n {M : Nat → Prop} {w w' : World} {base n size : Nat} {e : TypeId} {v : Value} {xs : List Value} (h : Only M w w') (ho : w.ownsRow base e size v n xs) (hn : ∀ k, v.ownBlock = some k → ¬ M k) : w'.ownsRow base e size v n xs := by
  refine ⟨ho.1, ?_⟩
  rcases ho.2 with h0 | ⟨g, cap, cur, rfl, h1, hg, rest⟩
  · exact .inl h0
  · exact .inr ⟨g, cap, cur, rfl, h1, h.at hg (hn g rfl), rest⟩
theorem Kp.Ok.only {M : Nat → Prop} {w w' : World} {B : Nat} {k : Kp} (h : k.Ok w B) (ho : Only M w w') (hB : B ≤ w.heap.size) (hn : ∀ b o, k.p.A = some ⟨b, o, none⟩ → b < B → ¬ M b) : k.Ok w' B :=
  ⟨⟨ho.row h.right.1 hB hn, h.right.2⟩, h.le, h.byt, h.lo, h.hi⟩
theorem krow_news {w : World} {B m : Nat} {ad : Addr} {K : List Kp} (hr : KRow w B (some ad) m K) : ∀ j u, (kflat K)[j]? = some u → w.cell? (ad.add j) = some u := by
  intro j u hj
  have hjl : j < K.length * 2 := by
    have := (List.getElem?_eq_some_iff.1 hj).1
    rwa [kflat_len] at this
  have hm : K.length = m := hr.len
  obtain ⟨b, o, he, _, hc⟩ := hr.at_ (by omega)
  injection he with he
  subst he
  have hadd : (⟨b, o, none⟩ : Addr).add j = ⟨b, o + j, none⟩ := by unfold Addr.add; split <;> simp_all
  have hk : K[j / 2]? = some (K[j / 2]'(by omega)) := List.getElem?_eq_getElem (by omega)
  have h1 := hc (j / 2) _ hk (j % 2) (by omega)
  have h2 := kflat_at hk (j % 2) (by omega)
  have e : j / 2 * 2 + j % 2 = j := by omega
  rw [Nat.add_assoc, e] at h1
  rw [e] at h2
  rw [hadd, h1, ← h2, hj]
theorem kflat_one (K : List Kp) : ∀ u ∈ kflat K, u.oneCell' = true := by
  intro u hu
  obtain ⟨k, _, hk⟩ := List.mem_flatMap.1 hu
  simp only [List.mem_cons, List.not_mem_nil, or_false] at hk
  rcases hk with rfl | rfl <;> rfl
theorem kflat_cat (K K' : List Kp) : kflat (K ++ K') = kflat K ++ kflat K' := by simp [kflat]

/-- 'append(out, ks...)': out is nil or one's own; ks reads as a row that is not nil. -/
theorem cat_keys {P : Program} {ops : Array Oper} {rest : List Oper} {o : Oper} {a : Act} {Q : Exit → Act → World → Prop} {w : World} (hgd : o.guard = none) (s x : Operand) (t : TypeId)
    (ho : o.op = .call { callee := .builtin .append, args := #[s, x], argTypes := #[t, t] })
    (base : Nat) (e : TypeId) (i : TypeInfo) (z : Value) (bytes : Nat) (ht : P.underlying t = some (.slice e)) (hi : P.info? e = some i) (hz : i.zero = some z) (hz2 : z.cells.size = 2) (hsize : i.size = 2) (hby : i.bytes = bytes)
    (v : Value) (n : Nat) (K : List Kp) (hs : a.eval s = v) (hown : w.ownsRow base e 2 v n (kflat K)) (B : Nat) (ad : Addr) (m c : Nat) (K' : List Kp) (hx : a.eval x = .slice (some ad) m c) (hr : KRow w B (some ad) m K')
    (hn : n + m ≤ 1099511627776) (hb8 : bytes ≤ 100) (hbase : base ≤ w.heap.size)
    (h : ∀ v' w', w'.ownsRow base e 2 v' (n + m) (kflat (K ++ K')) → w.grownBy w' v.ownBlock → Below base w w' → wpList P ops Q rest (a.put o.dst v') w') :
    wpList P ops Q (o :: rest) a w := by
  refine wpList_append_own _ hgd s x t ho base e i z 2 bytes ht hi hz hsize hby hz2 (by omega) v n (kflat K) hs hown ad m c (kflat K') hx (by rw [kflat_len, hr.len]) (krow_news hr) (kflat_one K') ?_ ?_ hbase ?_
  · unfold maxLen; omega
  · have := Nat.mul_le_mul hn hb8
    omega
  · intro v' w' hown' hgrow _
    exact h v' w' (by rw [kflat_cat]; exact hown') hgrow ((Below.refl _ _).grown hgrow hbase (fun j hj => (hown.lt j hj).1))

/-- The same, as a step of a region that draws. -/
theorem step_keys {P : Program} {ops : Array Oper} {o : Oper} {a : Act} {K0 : Act → World → Prop} {Q : Exit → Act → World → Prop} {E : Prop} {w : World} (hgd : o.guard = none) (s x : Operand) (t : TypeId)
    (ho : o.op = .call { callee := .builtin .append, args := #[s, x], argTypes := #[t, t] })
    (base : Nat) (e : TypeId) (i : TypeInfo) (z : Value) (bytes : Nat) (ht : P.underlying t = some (.slice e)) (hi : P.info? e = some i) (hz : i.zero = some z) (hz2 : z.cells.size = 2) (hsize : i.size = 2) (hby : i.bytes = bytes)
    (v : Value) (n : Nat) (K : List Kp) (hs : a.eval s = v) (hown : w.ownsRow base e 2 v n (kflat K)) (B : Nat) (ad : Addr) (m c : Nat) (K' : List Kp) (hx : a.eval x = .slice (some ad) m c) (hr : KRow w B (some ad) m K')
    (hn : n + m ≤ 1099511627776) (hb8 : bytes ≤ 100) (hbase : base ≤ w.heap.size)
    (h : ∀ v' w', w'.ownsRow base e 2 v' (n + m) (kflat (K ++ K')) → w.grownBy w' v.ownBlock → Below base w w' → K0 (a.put o.dst v') w') :
    if Region.wanted o (yielded ops a.tmps) = true then Oper.wp P o a w K0 Q else E := by
  have hw : Region.wanted o (yielded ops a.tmps) = true := by simp [Region.wanted, hgd]
  rw [if_pos hw]
  have h63 : n + m ≤ maxLen := by unfold maxLen; omega
  have hbb : (n + m) * bytes ≤ 140737488355328 := by have := Nat.mul_le_mul hn hb8; omega
  obtain ⟨v', w', hrun, h2, h3, _⟩ := run_append_own (P := P) w base t o.type e i z 2 bytes ht hi hz hsize hby hz2 (by omega) v n _ hown ad m c _ (by rw [kflat_len, hr.len]) (krow_news hr) (kflat_one K') h63 hbb hbase
  unfold Oper.wp execOp
  simp only [ho, resolve, invoke, builtin, Sem.run_bind, Sem.run_pure, Result.andThen_ok, List.map_toArray, List.map_cons, List.map_nil, hs, hx, hrun]
  exact h v' w' (by rw [kflat_cat]; exact h2) h3 ((Below.refl _ _).grown h3 hbase (fun j hj => (hown.lt j hj).1))

/-- Block R holds nothing of these keys. -/
structure NotIn (R : Nat) (n : Nat) (A : Option Addr) (K : List Kp) : Prop where
  row : 0 < n → ∀ o, A ≠ some ⟨R, o, none⟩
  keys : ∀ k ∈ K, 0 < k.p.n → ∀ o, k.p.A ≠ some ⟨R, o, none⟩
/-- All of these keys lies in new blocks. -/
structure Fresh (B : Nat) (A : Option Addr) (K : List Kp) : Prop where
  row : ∀ b o, A = some ⟨b, o, none⟩ → B ≤ b
  keys : ∀ k ∈ K, ∀ b o, k.p.A = some ⟨b, o, none⟩ → B ≤ b
section
variable {w w' : World} {B R n : Nat} {A : Option Addr} {K : List Kp}
theorem KRow.notIn (h : KRow w B A n K) (hR : B ≤ R) : NotIn R n A K := by
  refine ⟨fun hn o e => ?_, fun k hk hn o e => ?_⟩
  · obtain ⟨b, o', e', hb, _⟩ := h.at_ hn
    rw [e] at e'
    injection e' with e'
    injection e' with e1 e2
    omega
  · obtain ⟨b, o', e', hb, _⟩ := (h.ok k hk).right.1.2 hn
    rw [e] at e'
    injection e' with e'
    injection e' with e1 e2
    omega
theorem Fresh.notIn (h : Fresh B A K) (hR : R < B) : NotIn R n A K :=
  ⟨fun _ o e => by have := h.row R o e; omega, fun k hk _ o e => by have := h.keys k hk R o e; omega⟩
theorem KRow.set (h : KRow w B A n K) (hR : NotIn R n A K) (ho : Only (fun i => i = R) w w') (hB : B ≤ w.heap.size) : KRow w' B A n K := by
  refine ⟨h.len, fun k hk => ⟨⟨⟨(h.ok k hk).right.1.1, fun hn => ?_⟩, (h.ok k hk).right.2⟩, (h.ok k hk).le, (h.ok k hk).byt, (h.ok k hk).lo, (h.ok k hk).hi⟩, fun hn => ?_⟩
  · obtain ⟨b, o, e, hb, hc⟩ := (h.ok k hk).right.1.2 hn
    have hne : b ≠ R := fun e' => hR.keys k hk hn o (by rw [e, e'])
    exact ⟨b, o, e, hb, fun j hj => (World.cell?_of_block (w := w) (ho.block b (by omega) hne)).trans (hc j hj)⟩
  · obtain ⟨b, o, e, hb, hc⟩ := h.at_ hn
    have hne : b ≠ R := fun e' => hR.row hn o (by rw [e, e'])
    exact ⟨b, o, e, hb, fun j k hk i hi => (World.cell?_of_block (w := w) (ho.block b (by omega) hne)).trans (hc j k hk i hi)⟩
end
end Go.Proofs.YtppbpmmfcoblmaaDoor.Rg

/- Layer 9 (ring): the name of the keys, and a key that was made. -/
namespace Go.Proofs.YtppbpmmfcoblmaaDoor.Rg
open Go.RowKit Sha Hmc Slc

/-- The name of the keys. -/
def epoB : ByteArray := ⟨#[101, 112, 111, 99, 104]⟩
theorem epoB_sby : sby epoB = epo := by decide +kernel
theorem info_key : (Tryd.prog.info? 57).map (fun i => (i.zero, i.size, i.bytes)) = some (some (.agg #[.int .i64 0, .slice none 0 0]), 2, 32) := by kernel_rfl
theorem own_addr {w : World} {base n c : Nat} {e : TypeId} {A : Option Addr} {xs : List Value} (h : w.ownsRow base e 1 (.slice A n c) n xs) : ∀ b o, A = some ⟨b, o, none⟩ → base ≤ b := by
  intro b o ha
  subst ha
  exact (h.lt b rfl).1
/-- A key that was made, laid as a slice of one key. -/
theorem laid_key {w1 w5 : World} {base m : Nat} {v : Value} {K0 : List Kp} {A5 : Option Addr} {c5 : Nat} {e : Int} {xs : List Int} {tk : TypeId} (hown : w1.ownsRow base 57 2 v m (kflat K0)) (hb : Below w1.heap.size w1 w5) (hk : w5.ownsRow w1.heap.size 5 1 (.slice A5 32 c5) 32 (xs.map (Value.int .u8))) (hc : 32 ≤ c5) (hn : A5 = none → c5 = 0) (hx : ∀ x ∈ xs, 0 ≤ x ∧ x ≤ 255) (he : 0 ≤ e ∧ e ≤ 16777216) :
    (w5.alloc (.cells #[.int .i64 e, .slice A5 32 c5] tk)).ownsRow base 57 2 v m (kflat K0) ∧ KRow (w5.alloc (.cells #[.int .i64 e, .slice A5 32 c5] tk)) (w5.heap.size + 1) (some ⟨w5.heap.size, 0, none⟩) 1 [⟨e, ⟨A5, 32, c5, xs⟩⟩] := by
  have hba : Below w5.heap.size w5 (w5.alloc (.cells #[.int .i64 e, .slice A5 32 c5] tk)) := (Below.refl _ _).alloc (Nat.le_refl _) _
  refine ⟨own_below_n (own_below_n hown hb) hba, KRow.of_blk (K := [⟨e, ⟨A5, 32, c5, xs⟩⟩]) (heap_alloc_new w5 _) (by omega) rfl (fun k hk' => ?_)⟩
  obtain rfl := List.mem_singleton.1 hk'
  exact ⟨⟨((Row.of_own hk).below hba).more (by omega), hn⟩, hc, hx, by simp only; omega, by simp only; omega⟩
end Go.Proofs.YtppbpmmfcoblmaaDoor.Rg

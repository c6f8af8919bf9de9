/- Layer 12 (revoke): the reference's Prune and Add, as contracts. -/
import Derived.Test.YtfmmpmpafgbidaaRvR
namespace Go.Proofs.Ytfmmpmpafgbidaa.Rv
open Go.RowKit Rec

theorem new_rv (w : World) (p : P) (t : TypeId) : ∀ j u, (rvS.f p)[j]? = some u → (w.alloc (.cells #[.int .i64 p.1, .int .i64 p.2] t)).cell? ((⟨w.heap.size, 0, none⟩ : Addr).add j) = some u := new_rec (S := rvS) w p t

set_option maxHeartbeats 1600000 in
set_option maxRecDepth 100000 in
theorem refprune_any (A : Option Addr) (n c : Nat) (l : List P) (nw : Int) (w : World) (h : RRow rvS w w.heap.size A n l) (hn : n ≤ 100000) :
    Calls Try.prog 11 #[.slice A n c, .int .i64 nw] w fun e w' => ∃ v, e = .returned v ∧ RvTo w.heap.size w (prune l nw) v w' := by
  obtain ⟨i0, hi, hz0, hz1, hz2⟩ := info_of info_rev
  have H := Lib.hid h
  have HL := Lib.hid h.len
  clear h
  go_enter Try.func11, Try.ntmps11
  go_wp2
  go_loopw [5, 6] (fun v i wr => ∃ k : Nat, k ≤ n ∧ i = .int .i64 (k : Int) ∧ Hid (wr.ownsRow w.heap.size 24 2 v (prune (l.take k) nw).length (rvS.flat (prune (l.take k) nw))) ∧ Hid (Below w.heap.size w wr)) (fun _ i _ => n - (intOf i).toNat)
  case atStart => exact ⟨0, Nat.zero_le _, rfl, World.ownsRow_nil _ _ _ _, Below.refl _ _⟩
  case round =>
    obtain ⟨k, hk, rfl, HO, HB⟩ := hrel
    by_cases hlt : k < n
    · obtain ⟨b, o, p, rfl, hbl, hp, c0, c1⟩ := rv_at (H.out.below HB.out) hlt
      have hkw : IntKind.i64.wrap ((k : Int) + 1) = (k : Int) + 1 := IntWalk.i64_in _ ⟨by omega, by omega⟩
      have HN := Lib.hid (prune_next nw hp)
      have hfl : (prune (l.take k) nw).length ≤ 100000 := by
        have := prune_len (l.take k) nw
        rw [List.length_take] at this
        omega
      clear hp
      by_cases d : nw ≤ p.2
      · have e1 : decide (nw ≤ p.2) = true := decide_eq_true d
        rw [if_pos d] at HN
        generalize prune (l.take k) nw = acc at HN HO hfl
        obtain ⟨A', c', rfl, -⟩ := ownr_slice HO.out
        have HDO := Lib.hid (ownr_alloc HO.out (.cells #[.int .i64 p.1, .int .i64 p.2] 24))
        have HNEW := Lib.hid (new_rv wr p 24)
        go_wp2_with (at_builtin; refine push_rec rvS rfl (.tmp 20) (.tmp 25) 22 rfl w.heap.size 24 i0 (.agg #[.int .i64 0, .int .i64 0]) 16 Try.underlying22 hi hz0 rfl hz1 hz2 _ acc.length acc rfl HDO.out ⟨wr.heap.size, 0, none⟩ p rfl HNEW.out (by omega) (by omega) (by simp; have := HB.out.size; omega) ?_; intro v2 w2 hown2 _ hb2; have HO2 := Lib.hid hown2; have HB2 := Lib.hid ((HB.out.alloc HB.out.size _).trans hb2); clear hown2 hb2)
        go_wp2
        go_roundw
        case rel =>
          refine ⟨k + 1, by omega, by go_num, ?_, HB2.out⟩
          rw [HN.out, List.length_append]
          exact HO2.out
        case measure => simp [intOf]; omega
      · have e1 : decide (nw ≤ p.2) = false := decide_eq_false d
        rw [if_neg d, List.append_nil] at HN
        go_wp2
        go_roundw
        case rel => exact ⟨k + 1, by omega, by go_num, by rw [HN.out]; exact HO.out, HB.out⟩
        case measure => simp [intOf]; omega
    · have hkn : k = n := by omega
      have ht : l.take k = l := List.take_of_length_le (by rw [HL.out]; omega)
      rw [ht] at HO
      go_wp2
      go_ret
      exact ⟨_, rfl, RvTo.of_own HO.out HB.out⟩

set_option maxHeartbeats 1600000 in
set_option maxRecDepth 100000 in
theorem refadd_any (A : Option Addr) (n c : Nat) (l : List P) (x : P) (w : World) (h : RRow rvS w w.heap.size A n l) (hn : n ≤ 100000) :
    Calls Try.prog 15 #[.slice A n c, .agg #[.int .i64 x.1, .int .i64 x.2]] w fun e w' => ∃ v, e = .returned v ∧ RvTo w.heap.size w (rest x false l) v w' := by
  obtain ⟨i0, hi, hz0, hz1, hz2⟩ := info_of info_rev
  have H := Lib.hid h
  have HL := Lib.hid h.len
  have HB0 : Hid (Below w.heap.size w (w.alloc (.cells #[.int .i64 x.1, .int .i64 x.2] 24))) := (Below.refl _ _).alloc (Nat.le_refl _) _
  have HX : Hid ((w.alloc (.cells #[.int .i64 x.1, .int .i64 x.2] 24)).heap[w.heap.size]? = some (.cells #[.int .i64 x.1, .int .i64 x.2] 24 (0, 0))) := heap_alloc_new w _
  have HS : Hid ((w.alloc (.cells #[.int .i64 x.1, .int .i64 x.2] 24)).heap.size = w.heap.size + 1) := by unfold Hid; simp
  clear h
  go_enter Try.func15, Try.ntmps15
  go_wp2
  generalize w.alloc (.cells #[.int .i64 x.1, .int .i64 x.2] 24) = w1 at HB0 HX HS ⊢
  go_loopw [5, 6, 7] (fun v dn i wr => ∃ (k : Nat) (d : Bool) (out : List P), k ≤ n ∧ i = .int .i64 (k : Int) ∧ dn = .bool d ∧ out.length ≤ 2 * k ∧ Hid (wr.ownsRow (w.heap.size + 1) 24 2 v out.length (rvS.flat out)) ∧ Hid (out ++ rest x d (l.drop k) = rest x false l) ∧ Hid (Below (w.heap.size + 1) w1 wr)) (fun _ _ i _ => n - (intOf i).toNat)
  case atStart => exact ⟨0, false, [], Nat.zero_le _, rfl, rfl, by simp, World.ownsRow_nil _ _ _ _, by unfold Hid; simp, Below.refl _ _⟩
  case round =>
    obtain ⟨k, d, out, hk, rfl, rfl, hol, HO, HR, HB⟩ := hrel
    have HBW : Hid (Below w.heap.size w wr) := HB0.out.trans (HB.out.mono (by omega))
    have hxb := (HB.out.block _ (by omega)).trans HX.out
    have x0 := cell_of_blk (j := 0) hxb rfl
    have x1 := cell_of_blk (j := 1) hxb rfl
    have hsz : w.heap.size < wr.heap.size := (Array.getElem?_eq_some_iff.1 hxb).1
    by_cases hlt : k < n
    · obtain ⟨b, o, p, rfl, hbl, hp, c0, c1⟩ := rv_at (H.out.below HBW.out) hlt
      have HN := Lib.hid (HR.out.symm.trans (by rw [drop_at hp, rest_cons]))
      have hkw : IntKind.i64.wrap ((k : Int) + 1) = (k : Int) + 1 := IntWalk.i64_in _ ⟨by omega, by omega⟩
      have hbs := HB.out.size
      have hs1 := HS.out
      clear hp
      by_cases d1 : p.1 = x.1
      · rw [if_pos d1] at HN
        have e1 : (p.1 == x.1) = true := by rw [d1]; exact beq_self_eq_true _
        have e3 : decide (x.1 < p.1) = false := decide_eq_false (by omega)
        have D1 := Lib.hid d1
        clear d1
        by_cases d2 : p.2 < x.2
        · have e2 : decide (p.2 < x.2) = true := decide_eq_true d2
          obtain ⟨A', c', rfl, -⟩ := ownr_slice HO.out
          have HDO := Lib.hid (ownr_alloc (ownr_alloc HO.out (.cells #[.int .i64 p.1, .int .i64 x.2] 24)) (.cells #[.int .i64 p.1, .int .i64 x.2] 24))
          have hnew := new_rv (wr.alloc (.cells #[.int .i64 p.1, .int .i64 x.2] 24)) ((p.1, x.2) : P) 24
          rw [World.size_alloc] at hnew
          have HNEW := Lib.hid hnew
          have HBY : Hid (Below (w.heap.size + 1) w1 ((wr.alloc (.cells #[.int .i64 p.1, .int .i64 x.2] 24)).alloc (.cells #[.int .i64 p.1, .int .i64 x.2] 24))) := (HB.out.alloc (by omega) _).alloc (by simp; omega) _
          clear hnew
          go_wp2_with (at_builtin; refine push_rec rvS rfl (.tmp 45) (.tmp 47) 22 rfl (w.heap.size + 1) 24 i0 (.agg #[.int .i64 0, .int .i64 0]) 16 Try.underlying22 hi hz0 rfl hz1 hz2 _ out.length out rfl HDO.out ⟨wr.heap.size + 1, 0, none⟩ ((p.1, x.2) : P) rfl HNEW.out (by first | omega | (simp only [List.length_append, List.length_cons, List.length_nil]; omega)) (by omega) (by have := HBY.out.size; omega) ?_; intro v2 w2 hown2 hgrow2 hb2; have HO2 := Lib.hid hown2; have HG2 := Lib.hid hgrow2; have HB2 := Lib.hid (HBY.out.trans hb2); clear hown2 hgrow2 hb2)
          go_wp2
          go_roundw
          case rel => exact ⟨k + 1, true, out ++ [((p.1, x.2) : P)], by omega, by go_num, rfl, by simp; omega, by rw [List.length_append]; exact HO2.out, by unfold Hid; rw [← HN.out.symm]; unfold mx; rw [if_pos d2]; simp, HB2.out⟩
          case measure => simp [intOf]; omega
        · have e2 : decide (p.2 < x.2) = false := decide_eq_false d2
          obtain ⟨A', c', rfl, -⟩ := ownr_slice HO.out
          have HDO := Lib.hid (ownr_alloc (ownr_alloc HO.out (.cells #[.int .i64 p.1, .int .i64 p.2] 24)) (.cells #[.int .i64 p.1, .int .i64 p.2] 24))
          have hnew := new_rv (wr.alloc (.cells #[.int .i64 p.1, .int .i64 p.2] 24)) p 24
          rw [World.size_alloc] at hnew
          have HNEW := Lib.hid hnew
          have HBY : Hid (Below (w.heap.size + 1) w1 ((wr.alloc (.cells #[.int .i64 p.1, .int .i64 p.2] 24)).alloc (.cells #[.int .i64 p.1, .int .i64 p.2] 24))) := (HB.out.alloc (by omega) _).alloc (by simp; omega) _
          clear hnew
          go_wp2_with (at_builtin; refine push_rec rvS rfl (.tmp 45) (.tmp 47) 22 rfl (w.heap.size + 1) 24 i0 (.agg #[.int .i64 0, .int .i64 0]) 16 Try.underlying22 hi hz0 rfl hz1 hz2 _ out.length out rfl HDO.out ⟨wr.heap.size + 1, 0, none⟩ p rfl HNEW.out (by first | omega | (simp only [List.length_append, List.length_cons, List.length_nil]; omega)) (by omega) (by have := HBY.out.size; omega) ?_; intro v2 w2 hown2 hgrow2 hb2; have HO2 := Lib.hid hown2; have HG2 := Lib.hid hgrow2; have HB2 := Lib.hid (HBY.out.trans hb2); clear hown2 hgrow2 hb2)
          go_wp2
          go_roundw
          case rel => exact ⟨k + 1, true, out ++ [p], by omega, by go_num, rfl, by simp; omega, by rw [List.length_append]; exact HO2.out, by unfold Hid; rw [← HN.out.symm]; unfold mx; rw [if_neg d2]; simp, HB2.out⟩
          case measure => simp [intOf]; omega
      have e1 : (p.1 == x.1) = false := beq_eq_false_iff_ne.2 d1
      rw [if_neg d1] at HN
      by_cases d2 : x.1 < p.1
      · have e2 : decide (x.1 < p.1) = true := decide_eq_true d2
        cases d with
        | true =>
          rw [if_neg (by simp)] at HN
          obtain ⟨A', c', rfl, -⟩ := ownr_slice HO.out
          have HDO := Lib.hid (ownr_alloc (ownr_alloc HO.out (.cells #[.int .i64 p.1, .int .i64 p.2] 24)) (.cells #[.int .i64 p.1, .int .i64 p.2] 24))
          have hnew := new_rv (wr.alloc (.cells #[.int .i64 p.1, .int .i64 p.2] 24)) p 24
          rw [World.size_alloc] at hnew
          have HNEW := Lib.hid hnew
          have HBY : Hid (Below (w.heap.size + 1) w1 ((wr.alloc (.cells #[.int .i64 p.1, .int .i64 p.2] 24)).alloc (.cells #[.int .i64 p.1, .int .i64 p.2] 24))) := (HB.out.alloc (by omega) _).alloc (by simp; omega) _
          clear hnew
          go_wp2_with (at_builtin; refine push_rec rvS rfl (.tmp 45) (.tmp 47) 22 rfl (w.heap.size + 1) 24 i0 (.agg #[.int .i64 0, .int .i64 0]) 16 Try.underlying22 hi hz0 rfl hz1 hz2 _ out.length out rfl HDO.out ⟨wr.heap.size + 1, 0, none⟩ p rfl HNEW.out (by first | omega | (simp only [List.length_append, List.length_cons, List.length_nil]; omega)) (by omega) (by have := HBY.out.size; omega) ?_; intro v2 w2 hown2 hgrow2 hb2; have HO2 := Lib.hid hown2; have HG2 := Lib.hid hgrow2; have HB2 := Lib.hid (HBY.out.trans hb2); clear hown2 hgrow2 hb2)
          go_wp2
          go_roundw
          case rel => exact ⟨k + 1, true, out ++ [p], by omega, by go_num, rfl, by simp; omega, by rw [List.length_append]; exact HO2.out, by unfold Hid; rw [← HN.out.symm]; simp, HB2.out⟩
          case measure => simp [intOf]; omega
        | false =>
          rw [if_pos ⟨d2, rfl⟩] at HN
          obtain ⟨A', c', rfl, -⟩ := ownr_slice HO.out
          have HDO := Lib.hid (ownr_alloc (ownr_alloc HO.out (.cells #[.int .i64 p.1, .int .i64 p.2] 24)) (.cells #[.int .i64 x.1, .int .i64 x.2] 24))
          have hnew := new_rv (wr.alloc (.cells #[.int .i64 p.1, .int .i64 p.2] 24)) x 24
          rw [World.size_alloc] at hnew
          have HNEW := Lib.hid hnew
          have HBY : Hid (Below (w.heap.size + 1) w1 ((wr.alloc (.cells #[.int .i64 p.1, .int .i64 p.2] 24)).alloc (.cells #[.int .i64 x.1, .int .i64 x.2] 24))) := (HB.out.alloc (by omega) _).alloc (by simp; omega) _
          have hyb : ((wr.alloc (.cells #[.int .i64 p.1, .int .i64 p.2] 24)).alloc (.cells #[.int .i64 x.1, .int .i64 x.2] 24)).heap[wr.heap.size]? = some (.cells #[.int .i64 p.1, .int .i64 p.2] 24 (0, 0)) := heap_alloc2_old wr _ _
          have HYB := Lib.hid hyb
          have HLT : Hid (∀ i, (Value.slice A' out.length c').ownBlock = some i → i < wr.heap.size) := fun i hi => (HO.out.lt i hi).2
          clear hnew hyb
          go_wp2_with (at_builtin; first | (refine push_rec rvS rfl (.tmp 41) (.tmp 43) 22 rfl (w.heap.size + 1) 24 i0 (.agg #[.int .i64 0, .int .i64 0]) 16 Try.underlying22 hi hz0 rfl hz1 hz2 _ out.length out rfl HDO.out ⟨wr.heap.size + 1, 0, none⟩ x rfl HNEW.out (by first | omega | (simp only [List.length_append, List.length_cons, List.length_nil]; omega)) (by omega) (by have := HBY.out.size; omega) ?_; intro v3 w3 hown3 hgrow3 hb3; have HO3 := Lib.hid hown3; have HG3 := Lib.hid hgrow3; have HB3 := Lib.hid (HBY.out.trans hb3); clear hown3 hgrow3 hb3; go_loud (have hyb := (HG3.out.block wr.heap.size (Array.getElem?_eq_some_iff.1 HYB.out).1 (fun e => by have := HLT.out _ e.symm; omega)).trans HYB.out; have y0 := cell_of_blk (j := 0) hyb rfl; have y1 := cell_of_blk (j := 1) hyb rfl; obtain ⟨A3, c3, rfl, -⟩ := ownr_slice HO3.out; have HDO3 := Lib.hid (ownr_alloc HO3.out (.cells #[.int .i64 p.1, .int .i64 p.2] 24)); have HNEW3 := Lib.hid (new_rv w3 p 24); have HB3s := HB3.out.size; have HBY3 : Hid (Below (w.heap.size + 1) w1 (w3.alloc (.cells #[.int .i64 p.1, .int .i64 p.2] 24))) := HB3.out.alloc (by omega) _; clear hyb HO3 HDO HNEW HBY HYB)) | (refine push_rec rvS rfl (.tmp 45) (.tmp 47) 22 rfl (w.heap.size + 1) 24 i0 (.agg #[.int .i64 0, .int .i64 0]) 16 Try.underlying22 hi hz0 rfl hz1 hz2 _ (out.length + 1) (out ++ [x]) rfl HDO3.out ⟨w3.heap.size, 0, none⟩ p rfl HNEW3.out (by first | omega | (simp only [List.length_append, List.length_cons, List.length_nil]; omega)) (by omega) (by have := HBY3.out.size; omega) ?_; intro v2 w2 hown2 hgrow2 hb2; have HO2 := Lib.hid hown2; have HG2 := Lib.hid hgrow2; have HB2 := Lib.hid (HBY3.out.trans hb2); clear hown2 hgrow2 hb2))
          go_wp2
          go_roundw
          case rel => exact ⟨k + 1, true, out ++ [x] ++ [p], by omega, by go_num, rfl, by simp; omega, by rw [List.length_append, List.length_append]; exact HO2.out, by unfold Hid; rw [← HN.out.symm]; simp, HB2.out⟩
          case measure => simp [intOf]; omega
      · have e2 : decide (x.1 < p.1) = false := decide_eq_false d2
        rw [if_neg (fun h => d2 h.1)] at HN
        obtain ⟨A', c', rfl, -⟩ := ownr_slice HO.out
        have HDO := Lib.hid (ownr_alloc (ownr_alloc HO.out (.cells #[.int .i64 p.1, .int .i64 p.2] 24)) (.cells #[.int .i64 p.1, .int .i64 p.2] 24))
        have hnew := new_rv (wr.alloc (.cells #[.int .i64 p.1, .int .i64 p.2] 24)) p 24
        rw [World.size_alloc] at hnew
        have HNEW := Lib.hid hnew
        have HBY : Hid (Below (w.heap.size + 1) w1 ((wr.alloc (.cells #[.int .i64 p.1, .int .i64 p.2] 24)).alloc (.cells #[.int .i64 p.1, .int .i64 p.2] 24))) := (HB.out.alloc (by omega) _).alloc (by simp; omega) _
        clear hnew
        go_wp2_with (at_builtin; refine push_rec rvS rfl (.tmp 45) (.tmp 47) 22 rfl (w.heap.size + 1) 24 i0 (.agg #[.int .i64 0, .int .i64 0]) 16 Try.underlying22 hi hz0 rfl hz1 hz2 _ out.length out rfl HDO.out ⟨wr.heap.size + 1, 0, none⟩ p rfl HNEW.out (by first | omega | (simp only [List.length_append, List.length_cons, List.length_nil]; omega)) (by omega) (by have := HBY.out.size; omega) ?_; intro v2 w2 hown2 hgrow2 hb2; have HO2 := Lib.hid hown2; have HG2 := Lib.hid hgrow2; have HB2 := Lib.hid (HBY.out.trans hb2); clear hown2 hgrow2 hb2)
        go_wp2
        go_roundw
        case rel => exact ⟨k + 1, d, out ++ [p], by omega, by go_num, rfl, by simp; omega, by rw [List.length_append]; exact HO2.out, by unfold Hid; rw [← HN.out.symm]; simp, HB2.out⟩
        case measure => simp [intOf]; omega
    · have hkn : k = n := by omega
      have ht : l.drop k = [] := List.drop_of_length_le (by rw [HL.out]; omega)
      rw [ht, rest_nil] at HR
      have hs1 := HS.out
      have hbs := HB.out.size
      cases d with
      | true =>
        simp only [if_true, List.append_nil] at HR
        go_wp2
        go_ret
        refine ⟨_, rfl, RvTo.of_own (e := 24) (n := out.length) ?_ HBW.out⟩
        rw [← HR.out]
        exact ownr_base HO.out (by omega)
      | false =>
        simp only [Bool.false_eq_true, if_false] at HR
        obtain ⟨A', c', rfl, -⟩ := ownr_slice HO.out
        have HDO := Lib.hid (ownr_alloc HO.out (.cells #[.int .i64 x.1, .int .i64 x.2] 24))
        have HNEW := Lib.hid (new_rv wr x 24)
        have HBY : Hid (Below (w.heap.size + 1) w1 (wr.alloc (.cells #[.int .i64 x.1, .int .i64 x.2] 24))) := HB.out.alloc (by omega) _
        go_wp2_with (at_builtin; refine push_rec rvS rfl (.tmp 51) (.tmp 53) 22 rfl (w.heap.size + 1) 24 i0 (.agg #[.int .i64 0, .int .i64 0]) 16 Try.underlying22 hi hz0 rfl hz1 hz2 _ out.length out rfl HDO.out ⟨wr.heap.size, 0, none⟩ x rfl HNEW.out (by first | omega | (simp only [List.length_append, List.length_cons, List.length_nil]; omega)) (by omega) (by have := HBY.out.size; omega) ?_; intro v2 w2 hown2 hgrow2 hb2; have HO2 := Lib.hid hown2; have HG2 := Lib.hid hgrow2; have HB2 := Lib.hid (HBY.out.trans hb2); clear hown2 hgrow2 hb2)
        go_wp2
        go_ret
        refine ⟨_, rfl, RvTo.of_own (e := 24) (n := out.length + 1) ?_ (HB0.out.trans (HB2.out.mono (by omega)))⟩
        rw [← HR.out]
        exact ownr_base HO2.out (by omega)
end Go.Proofs.Ytfmmpmpafgbidaa.Rv

/- Layer 16 (heap): the reference's Put and Sorted, as contracts; HeapSorts as a walk. -/
import Derived.Test.YthhnemanaciikaaIntq
import Derived.Test.YthhnemanaciikaaHqM
import Derived.Deep.RegionHeld
namespace Go.Proofs.Ythhnemanaciikaa.Hq
open Go.RowKit Rec Ints

set_option maxHeartbeats 1600000 in
set_option maxRecDepth 100000 in
theorem refput_own (A : Option Addr) (n c : Nat) (l : List Int) (x : Int) (w : World) (h : RRow intS w w.heap.size A n l) (hn : n ≤ 1048576) :
    Calls Try.prog 13 #[.slice A n c, .int .i64 x] w fun e w' => ∃ v, e = .returned v ∧ w'.ownsRow w.heap.size 3 1 v (insI x l).length (intS.flat (insI x l)) ∧ Below w.heap.size w w' := by
  obtain ⟨i0, hi, hz0, hz1, hz2⟩ := info_of info_int
  have H := Lib.hid h
  have HLN := Lib.hid h.len
  have HG0 : Hid (Goes x l 0 false []) := goes_start x l
  clear h
  go_enter Try.func13, Try.ntmps13
  go_wp2
  go_loopw [5, 6, 7] (fun v d i wr => ∃ (k : Nat) (f : Bool) (out : List Int), k ≤ n ∧ i = .int .i64 (k : Int) ∧ d = .bool f ∧ out.length ≤ 2 * k ∧ Hid (Goes x l k f out) ∧ Hid (wr.ownsRow w.heap.size 3 1 v out.length (intS.flat out)) ∧ Hid (Below w.heap.size w wr)) (fun _ _ i _ => n - (intOf i).toNat)
  case atStart => exact ⟨0, false, [], Nat.zero_le _, rfl, rfl, Nat.zero_le _, HG0, World.ownsRow_nil _ _ _ _, Below.refl _ _⟩
  case round =>
    clear HG0
    obtain ⟨k, f, out, hk, rfl, rfl, hol, HG, HO, HB⟩ := hrel
    by_cases hlt : k < n
    · obtain ⟨b, o, y, rfl, hbb, hy, c0⟩ := int_at (H.out.below HB.out) hlt
      have hbs := HB.out.size
      obtain ⟨Av, cv, rfl, -⟩ := ownr_slice HO.out
      cases f with
      | true =>
        have HG2 := Lib.hid (goes_done HG.out hy)
        have HDO := Lib.hid (ownr_alloc HO.out (.cells #[.int .i64 y] 3))
        have HNEW := Lib.hid (new_int wr y 3)
        have HBA := Lib.hid (HB.out.alloc HB.out.size (.cells #[.int .i64 y] 3))
        clear hy HG
        go_wp2_with (at_builtin; go_loud (refine push_rec intS rfl (.tmp 28) (.tmp 33) 22 rfl w.heap.size 3 i0 (.int .i64 0) 8 Try.underlying22 hi hz0 rfl hz1 hz2 _ out.length out rfl HDO.out ⟨wr.heap.size, 0, none⟩ y rfl HNEW.out (by omega) (by omega) (by simp; omega) ?_); intro v2 w2 hown2 _ hb2; have HO2 := Lib.hid hown2; have HB2 := Lib.hid (HBA.out.trans hb2); clear hown2 hb2)
        go_wp2
        go_roundw
        case rel => exact ⟨k + 1, true, out ++ [y], by omega, by go_num, rfl, by simp; omega, HG2, by unfold Hid; rw [List.length_append]; exact HO2.out, HB2⟩
        case measure => simp [intOf]; omega
      | false =>
        by_cases hxy : x < y
        · have d1 : decide (x < y) = true := decide_eq_true hxy
          have HG2 := Lib.hid (goes_yes HG.out hy hxy)
          have HDO := Lib.hid (ownr_alloc HO.out (.cells #[.int .i64 x] 3))
          have HNEW := Lib.hid (new_int wr x 3)
          have HBA := Lib.hid (HB.out.alloc HB.out.size (.cells #[.int .i64 x] 3))
          clear hy HG
          go_wp2_with (at_builtin; first
            | (go_loud (refine push_rec intS rfl (.tmp 28) (.tmp 33) 22 rfl w.heap.size 3 i0 (.int .i64 0) 8 Try.underlying22 hi hz0 rfl hz1 hz2 _ (out.length + 1) (out ++ [x]) rfl HDO2.out ⟨w2.heap.size, 0, none⟩ y rfl HNEW2.out (by omega) (by omega) (by simp; omega) ?_); intro v3 w3 hown3 _ hb3; have HO3 := Lib.hid hown3; have HB3 := Lib.hid (HBA2.out.trans hb3); clear hown3 hb3)
            | (go_loud (refine push_rec intS rfl (.tmp 24) (.tmp 26) 22 rfl w.heap.size 3 i0 (.int .i64 0) 8 Try.underlying22 hi hz0 rfl hz1 hz2 _ out.length out rfl HDO.out ⟨wr.heap.size, 0, none⟩ x rfl HNEW.out (by omega) (by omega) (by simp; omega) ?_); intro v2 w2 hown2 _ hb2; have HB2 := Lib.hid (HBA.out.trans hb2); have hbs2 := HB2.out.size; have HDO2 := Lib.hid (ownr_alloc hown2 (.cells #[.int .i64 y] 3)); have HNEW2 := Lib.hid (new_int w2 y 3); have HBA2 := Lib.hid (HB2.out.alloc HB2.out.size (.cells #[.int .i64 y] 3)); obtain ⟨A2, c2, rfl, -⟩ := ownr_slice hown2; have c1 : w2.cell? ⟨b, o + k, none⟩ = some (.int .i64 y) := (hb2.cell (p := ⟨b, o + k, none⟩) hbb).trans (by rw [World.cell?_alloc_some _ _ _ (by rw [c0]; rfl)]; exact c0); clear hown2 hb2))
          go_wp2
          go_roundw
          case rel => exact ⟨k + 1, true, (out ++ [x]) ++ [y], by omega, by go_num, rfl, by simp; omega, HG2, by unfold Hid; rw [List.length_append, List.length_append]; exact HO3.out, HB3⟩
          case measure => simp [intOf]; omega
        · have d1 : decide (x < y) = false := decide_eq_false hxy
          have HG2 := Lib.hid (goes_no HG.out hy hxy)
          have HDO := Lib.hid (ownr_alloc HO.out (.cells #[.int .i64 y] 3))
          have HNEW := Lib.hid (new_int wr y 3)
          have HBA := Lib.hid (HB.out.alloc HB.out.size (.cells #[.int .i64 y] 3))
          clear hy HG
          go_wp2_with (at_builtin; go_loud (refine push_rec intS rfl (.tmp 28) (.tmp 33) 22 rfl w.heap.size 3 i0 (.int .i64 0) 8 Try.underlying22 hi hz0 rfl hz1 hz2 _ out.length out rfl HDO.out ⟨wr.heap.size, 0, none⟩ y rfl HNEW.out (by omega) (by omega) (by simp; omega) ?_); intro v2 w2 hown2 _ hb2; have HO2 := Lib.hid hown2; have HB2 := Lib.hid (HBA.out.trans hb2); clear hown2 hb2)
          go_wp2
          go_roundw
          case rel => exact ⟨k + 1, false, out ++ [y], by omega, by go_num, rfl, by simp; omega, HG2, by unfold Hid; rw [List.length_append]; exact HO2.out, HB2⟩
          case measure => simp [intOf]; omega
    · have hkn : k = n := by omega
      subst hkn
      cases f with
      | true =>
        have HE := Lib.hid ((goes_end HLN.out.symm).1 HG.out)
        go_wp2
        go_ret
        refine ⟨_, rfl, ?_, HB.out⟩
        rw [← HE.out]
        exact HO.out
      | false =>
        have HE := Lib.hid ((goes_end HLN.out.symm).2 HG.out)
        have hbs := HB.out.size
        obtain ⟨Av, cv, rfl, -⟩ := ownr_slice HO.out
        have HDO := Lib.hid (ownr_alloc HO.out (.cells #[.int .i64 x] 3))
        have HNEW := Lib.hid (new_int wr x 3)
        have HBA := Lib.hid (HB.out.alloc HB.out.size (.cells #[.int .i64 x] 3))
        go_wp2_with (at_builtin; go_loud (refine push_rec intS rfl (.tmp 37) (.tmp 39) 22 rfl w.heap.size 3 i0 (.int .i64 0) 8 Try.underlying22 hi hz0 rfl hz1 hz2 _ out.length out rfl HDO.out ⟨wr.heap.size, 0, none⟩ x rfl HNEW.out (by omega) (by omega) (by simp; omega) ?_); intro v2 w2 hown2 _ hb2; have HO2 := Lib.hid hown2; have HB2 := Lib.hid (HBA.out.trans hb2); clear hown2 hb2)
        go_wp2
        go_ret
        refine ⟨_, rfl, ?_, HB2.out⟩
        rw [← HE.out, List.length_append]
        exact HO2.out

theorem refput_any (A : Option Addr) (n c : Nat) (l : List Int) (x : Int) (w : World) (h : RRow intS w w.heap.size A n l) (hn : n ≤ 1048576) :
    Calls Try.prog 13 #[.slice A n c, .int .i64 x] w fun e w' => ∃ v, e = .returned v ∧ InTo w.heap.size w (insI x l) v w' :=
  (refput_own A n c l x w h hn).mono fun _ _ ⟨v, h1, h2, h3⟩ => ⟨v, h1, InTo.of_own h2 h3⟩

set_option maxHeartbeats 800000 in
set_option maxRecDepth 100000 in
theorem refsorted_any (A : Option Addr) (n c : Nat) (l : List Int) (w : World) (h : RRow intS w w.heap.size A n l) (hn : n ≤ 1048575) :
    Calls Try.prog 9 #[.slice A n c] w fun e w' => ∃ v, e = .returned v ∧ InTo w.heap.size w (srtI l) v w' := by
  have H := Lib.hid h
  have HLN := Lib.hid h.len
  clear h
  go_enter Try.func9, Try.ntmps9
  go_wp2
  go_loopw [3, 4] (fun v i wr => ∃ k : Nat, k ≤ n ∧ i = .int .i64 (k : Int) ∧ Hid (InTo w.heap.size w (srtI (l.take k)) v wr)) (fun _ i _ => n - (intOf i).toNat)
  case atStart => exact ⟨0, Nat.zero_le _, rfl, InTo.nil (Below.refl _ _)⟩
  case round =>
    obtain ⟨k, hk, rfl, HI⟩ := hrel
    obtain ⟨A1, n1, c1, rfl, hr1, hi1, hc1, hx1, hb1⟩ := HI.out
    by_cases hlt : k < n
    · obtain ⟨b, o, y, rfl, hbb, hy, c0⟩ := int_at (H.out.below hb1) hlt
      have hn1 : n1 = k := by have h1 := hr1.len; rw [srt_len, List.length_take, HLN.out] at h1; omega
      have HS := Lib.hid (srt_next hy)
      have HR1 := Lib.hid hr1
      have HB1 := Lib.hid hb1
      subst hn1
      clear hr1 hi1 hc1 hx1 hb1 HI hy
      go_wp2_with fail
      refine (refput_any A1 n1 c1 (srtI (l.take n1)) y wr HR1.out (by omega)).mono ?_
      rintro e2 w2 ⟨v2, rfl, A2, n2, c2, rfl, hr2, hi2, hc2, hx2, hb2⟩
      have HI2 : Hid (InTo w.heap.size w (srtI (l.take (n1 + 1))) (.slice A2 n2 c2) w2) := by unfold Hid; rw [HS.out]; exact ⟨A2, n2, c2, rfl, hr2, hi2, hc2, hx2, HB1.out.trans (hb2.mono HB1.out.size)⟩
      clear hr2 hi2 hc2 hx2 hb2
      go_wp2
      go_roundw
      case rel => exact ⟨n1 + 1, by omega, by go_num, HI2⟩
      case measure => simp [intOf]; omega
    · have HE : Hid (l.take k = l) := List.take_of_length_le (by have := HLN.out; omega)
      clear hr1 hi1 hc1 hx1 hb1
      go_wp2
      go_ret
      exact ⟨_, rfl, by have h1 := HI.out; rw [HE.out] at h1; exact h1⟩

/-- What the program's Sorted must do. -/
def SortedOk : Prop := ∀ (A : Option Addr) (n c : Nat) (l : List Int) (w : World), RRow intS w w.heap.size A n l → (A = none → c = 0) → n ≤ c → c ≤ maxLen → n ≤ 500 →
  Calls Try.prog 8 #[.slice A n c] w fun e w' => ∃ v, e = .returned v ∧ InTo w.heap.size w (srtI l) v w'

set_option maxHeartbeats 800000 in
set_option maxRecDepth 100000 in
theorem awake_any (k : SortedOk) (w : World) : Calls Try.prog 6 #[] w fun e w' => e = .returned (.bool true) ∧ Below w.heap.size w w' := by
  have HB0 : Hid (Below w.heap.size w (w.alloc (.cells #[.int .i64 3, .int .i64 1, .int .i64 2] 3))) := (Below.refl _ _).alloc (Nat.le_refl _) _
  have HRW : Hid (RRow intS (w.alloc (.cells #[.int .i64 3, .int .i64 1, .int .i64 2] 3)) (w.alloc (.cells #[.int .i64 3, .int .i64 1, .int .i64 2] 3)).heap.size (some ⟨w.heap.size, 0, none⟩) 3 [3, 1, 2]) := RRow.of_blk (S := intS) (l := [3, 1, 2]) (heap_alloc_new w _) (by simp) rfl
  go_enter Try.func6, Try.ntmps6
  go_wp2_with fail
  generalize w.alloc (.cells #[.int .i64 3, .int .i64 1, .int .i64 2] 3) = w1 at *
  refine (k _ 3 3 [3, 1, 2] w1 HRW.out (fun h => by cases h) (Nat.le_refl _) (by unfold maxLen; omega) (by omega)).mono ?_
  rw [show srtI [3, 1, 2] = [1, 2, 3] from by decide]
  rintro e2 w2 ⟨v2, rfl, A2, n2, c2, rfl, hr2, -, -, -, hb2⟩
  have hn2 : 3 = n2 := hr2.len
  subst hn2
  have hb3 := (Below.refl w2.heap.size w2).alloc (Nat.le_refl _) (.cells #[.int .i64 1, .int .i64 2, .int .i64 3] 3)
  have HB3 := Lib.hid ((HB0.out.trans (hb2.mono HB0.out.size)).trans (hb3.mono (by have := HB0.out.size; have := hb2.size; omega)))
  have HR3 := Lib.hid (hr2.below hb3)
  have HRX : Hid (RRow intS (w2.alloc (.cells #[.int .i64 1, .int .i64 2, .int .i64 3] 3)) (w2.alloc (.cells #[.int .i64 1, .int .i64 2, .int .i64 3] 3)).heap.size (some ⟨w2.heap.size, 0, none⟩) 3 [1, 2, 3]) := RRow.of_blk (S := intS) (l := [1, 2, 3]) (heap_alloc_new w2 _) (by simp) rfl
  clear hr2 hb2 hb3
  go_wp2_with fail
  generalize w2.alloc (.cells #[.int .i64 1, .int .i64 2, .int .i64 3] 3) = w3 at *
  refine (isame_any A2 _ 3 3 c2 3 _ _ [1, 2, 3] [1, 2, 3] w3 (by omega) HR3.out HRX.out).mono ?_
  rw [show decide (([1, 2, 3] : List Int) = [1, 2, 3]) = true from rfl]
  rintro e4 w4 ⟨rfl, q4, rfl⟩
  go_wp2
  go_ret
  exact ⟨rfl, below_drewN HB3.out q4⟩

set_option maxHeartbeats 800000 in
set_option maxRecDepth 100000 in
theorem sorts_walk (k : SortedOk) (A : Option Addr) (n c : Nat) (l : List Int) (w : World) (hnil : A = none → c = 0) (hnc : n ≤ c) (hcm : c ≤ maxLen) (h : RRow intS w w.heap.size A n l) :
    Calls Try.prog 3 #[.slice A n c] w fun e w' => e = .returned (.bool true) ∧ Below w.heap.size w w' := by
  have H := Lib.hid h
  have HC := Lib.hid (And.intro hnil (And.intro hnc hcm))
  clear h hnil hnc hcm
  go_enter Try.func3, Try.ntmps3
  go_wp2_with fail
  refine (awake_any k _).mono ?_
  rintro e1 w1 ⟨rfl, hb1⟩
  have HB1 := Lib.hid hb1
  have H1 := Lib.hid ((H.out.below hb1).more hb1.size)
  clear hb1 H
  by_cases h5 : 500 < n
  · have d0 : decide ((500 : Int) < (n : Int)) = true := decide_eq_true (by omega)
    have d0' : decide (500 < n) = true := decide_eq_true h5
    go_wp2
    go_ret
    exact ⟨rfl, HB1.out⟩
  have d0 : decide ((500 : Int) < (n : Int)) = false := decide_eq_false (by omega)
  have d0' : decide (500 < n) = false := decide_eq_false h5
  go_wp2_with fail
  refine (k A n c l w1 H1.out HC.out.1 HC.out.2.1 HC.out.2.2 (by omega)).mono ?_
  rintro e2 w2 ⟨v2, rfl, A2, n2, c2, rfl, hr2, -, -, -, hb2⟩
  have hn2 : n2 = n := by have a := hr2.len; have b := H1.out.len; rw [srt_len] at a; omega
  subst hn2
  have HR2 := Lib.hid hr2
  have HB2 := Lib.hid (HB1.out.trans (hb2.mono HB1.out.size))
  have H2 := Lib.hid ((H1.out.below hb2).more hb2.size)
  clear hr2 hb2 H1 HB1
  go_wp2_with fail
  refine (refsorted_any A n2 c l w2 H2.out (by omega)).mono ?_
  rintro e3 w3 ⟨v3, rfl, A3, n3, c3, rfl, hr3, -, -, -, hb3⟩
  have HR3 := Lib.hid hr3
  have HR23 := Lib.hid (HR2.out.below hb3)
  have HB3 := Lib.hid (HB2.out.trans (hb3.mono HB2.out.size))
  clear hr3 hb3 H2 HR2 HB2
  go_wp2_with fail
  refine (isame_any A2 A3 n2 n3 c2 c3 _ _ _ _ w3 (by omega) HR23.out HR3.out).mono ?_
  rw [decide_eq_true rfl]
  rintro e4 w4 ⟨rfl, q4, rfl⟩
  go_wp2
  go_ret
  exact ⟨rfl, below_drewN HB3.out q4⟩
end Go.Proofs.Ythhnemanaciikaa.Hq

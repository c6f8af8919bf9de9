/- Layer 5 (sample): awake of the statements; SamplePuts as a walk. -/
import Derived.Test.YtefnpibikebmdaaSmpQ
import Derived.Test.YtefnpibikebmdaaSame
namespace Go.Proofs.Ytefnpibikebmdaa.Smp
open Go.RowKit Var Fld

theorem first_bytes : putE [⟨1, 2, 3⟩] = 0 ∧ putB [⟨1, 2, 3⟩] = [1, 4, 6] := by
  have e : putE [⟨1, 2, 3⟩] = 0 := by decide
  refine ⟨e, ?_⟩
  rw [putB_ok e]
  have a1 : num 1 = [1] := by unfold num; rw [put_last (by decide)]; rfl
  have a2 : sgn 2 = [4] := by unfold sgn turn; rw [put_last (by decide)]; rfl
  have a3 : sgn 3 = [6] := by unfold sgn turn; rw [put_last (by decide)]; rfl
  have e1 : enc [⟨1, 2, 3⟩] = num 1 ++ (sgn 2 ++ sgn 3) := by simp [enc, encF, one, zS]
  rw [e1, a1, a2, a3]
  rfl

set_option maxHeartbeats 1600000 in
set_option maxRecDepth 100000 in
theorem awake_any (w : World) : Calls Try.prog 6 #[] w fun e w' => e = .returned (.bool true) ∧ Below w.heap.size w w' := by
  have hb : Below w.heap.size w (w.alloc (.cells #[.int .i64 1, .int .i64 2, .int .i64 3] 32)) := (Below.refl _ _).alloc (Nat.le_refl _) _
  have hrow : SRow (w.alloc (.cells #[.int .i64 1, .int .i64 2, .int .i64 3] 32)) (w.alloc (.cells #[.int .i64 1, .int .i64 2, .int .i64 3] 32)).heap.size (some ⟨w.heap.size, 0, none⟩) 1 [⟨1, 2, 3⟩] := by
    refine ⟨rfl, ?_, fun _ => ⟨w.heap.size, 0, rfl, by simp, ?_⟩⟩
    · intro s hs
      rw [List.mem_singleton] at hs
      subst hs
      constructor <;> decide
    · intro j s hj i hi
      match j, hj with
      | 0, hj =>
        simp at hj
        subst hj
        have q := heap_alloc_new w (.cells #[.int .i64 1, .int .i64 2, .int .i64 3] 32)
        match i, hi with
        | 0, _ => exact cell_of_blk q rfl
        | 1, _ => exact cell_of_blk q rfl
        | 2, _ => exact cell_of_blk q rfl
      | j + 1, hj => simp at hj
  have HB := Lib.hid hb
  have P := put_any _ 1 1 _ _ hrow (Nat.le_refl _) (by omega)
  unfold PutTo at P
  rw [first_bytes.1, first_bytes.2] at P
  have HP := Lib.hid P
  clear hb hrow P
  go_enter Try.func6, Try.ntmps6
  go_wp2_with fail
  refine HP.out.mono ?_
  rintro e1 w1 ⟨v, rfl, hown, hb1⟩
  have HB1 := Lib.hid (HB.out.trans (hb1.mono HB.out.size))
  rcases hown.2 with ⟨_, h0⟩ | ⟨g, cap, cur, rfl, hg⟩
  · simp at h0
  · have q0 := hown.cellAt 0 (by simp)
    have q1 := hown.cellAt 1 (by simp)
    have q2 := hown.cellAt 2 (by simp)
    simp at q0 q1 q2
    clear hown hg hb1
    go_wp2
    go_ret
    exact ⟨rfl, HB1.out⟩

set_option maxHeartbeats 3200000 in
set_option maxRecDepth 100000 in
theorem puts_walk (A : Option Addr) (n c : Nat) (ss : List S) (w : World) (h : SRow w w.heap.size A n ss) (hn : n ≤ maxLen) (hnc : n ≤ c) :
    Calls Try.prog 3 #[.slice A n c] w fun e w' => e = .returned (.bool true) ∧ Below w.heap.size w w' := by
  have H := Lib.hid h
  have HN := Lib.hid hn
  clear h hn
  go_enter Try.func3, Try.ntmps3
  go_wp2_with fail
  refine (awake_any _).mono ?_
  rintro e1 w1 ⟨rfl, hb1⟩
  have HB1 := Lib.hid hb1
  clear hb1
  by_cases hbig : 2100 < n
  · go_wp2
    go_ret
    exact ⟨rfl, HB1.out⟩
  · go_wp2_with fail
    refine (put_any A n c ss w1 ((H.out.below HB1.out).more HB1.out.size) hnc (by omega)).mono ?_
    rintro e2 w2 ⟨v2, rfl, hown2, hb2⟩
    obtain ⟨A2, c2, rfl, -⟩ := own_nil hown2
    have HO2 := Lib.hid hown2
    have HB2 := Lib.hid (HB1.out.trans (hb2.mono HB1.out.size))
    clear hown2 hb2
    go_wp2_with fail
    refine (refput_any A n c ss w2 ((H.out.below HB2.out).more HB2.out.size) (by omega)).mono ?_
    rintro e3 w3 ⟨v3, rfl, hown3, hb3⟩
    obtain ⟨A3, c3, rfl, -⟩ := own_nil hown3
    have HO3 := Lib.hid hown3
    have HO2' := Lib.hid ((Row.of_own HO2.out).below hb3)
    have HB3 := Lib.hid (HB2.out.trans (hb3.mono HB2.out.size))
    clear hown3 hb3
    have hlen : (putB ss).length ≤ 70000 := by
      unfold putB
      split
      · rename_i he
        have := enc_lens (l := ss) (fun s hs => good_may (putE_ok he).2 hs)
        have := (putE_ok he).1
        omega
      · simp
    have HLEN := Lib.hid hlen
    clear hlen
    go_wp2_with fail
    refine (same_yes A2 A3 _ c2 c3 _ _ (putB ss) w3 (by have := HLEN.out; omega) HO2'.out (Row.of_own HO3.out)).mono ?_
    rintro e4 w4 ⟨rfl, q, rfl⟩
    have HB4 : Hid (Below w.heap.size w (w3.drewN q)) := by
      have := HB3.out
      exact ⟨this.os, this.tape, this.output, this.size, this.block⟩
    generalize w3.drewN q = w4 at HB4 ⊢
    have HB5 := Lib.hid (H.out.below HB4.out)
    clear HO2 HO3 HO2' HLEN HB3 HB2
    by_cases hm : n ≤ 20
    case' pos => go_wp2_with fail
    case' neg => go_wp2_with fail
    all_goals
      go_loopw [39] (fun i wr => ∃ k : Nat, k ≤ n ∧ k ≤ 20 ∧ i = .int .i64 (k : Int) ∧ Hid (Below w.heap.size w wr)) (fun i _ => 21 - (intOf i).toNat)
      case' atStart => exact ⟨0, Nat.zero_le _, Nat.zero_le _, rfl, HB4.out⟩
      case' round =>
        obtain ⟨k, hk, hk20, rfl, HB⟩ := hrel
        by_cases hlt : k < n ∧ k < 20
        · obtain ⟨h1, h2⟩ := hlt
          obtain ⟨b, o, s, rfl, hbl, hs, hok, c0, c1, c2⟩ := (H.out.below HB.out).at h1
          have hkw : IntKind.i64.wrap ((k : Int) + 1) = (k : Int) + 1 := IntWalk.i64_in _ ⟨by omega, by omega⟩
          obtain ⟨b0, b1, b2⟩ := boxed wr s 32
          have eC : s.cells = #[.int .i64 s.t, .int .i64 s.x, .int .i64 s.y] := rfl
          rw [eC] at b0 b1 b2
          have HB1 := Lib.hid (HB.out.alloc HB.out.size (.cells #[.int .i64 s.t, .int .i64 s.x, .int .i64 s.y] 32))
          have hsz1 : wr.heap.size < (wr.alloc (.cells #[.int .i64 s.t, .int .i64 s.x, .int .i64 s.y] 32)).heap.size := by simp
          have HSZ1 := Lib.hid hsz1
          clear hs eC hsz1 hok
          go_wp2_with fail
          obtain ⟨fb, hfb⟩ : ∃ fb, wr.heap.size = fb := ⟨_, rfl⟩
          rw [hfb] at b0 b1 b2 HSZ1
          generalize wr.alloc (.cells #[.int .i64 s.t, .int .i64 s.x, .int .i64 s.y] 32) = wA at b0 b1 b2 HB1 HSZ1 ⊢
          rw [hfb]
          obtain ⟨ι, hne, W, j0, h0, hW, hC⟩ := fam_of wA
          have d0 : ∀ i, (W i).cell? ⟨fb, 0, none⟩ = some (.int .i64 s.t) := fun i => ((hW i).cell (p := ⟨fb, 0, none⟩) HSZ1.out).trans b0
          have d1 : ∀ i, (W i).cell? ⟨fb, 1, none⟩ = some (.int .i64 s.x) := fun i => ((hW i).cell (p := ⟨fb, 1, none⟩) HSZ1.out).trans b1
          have d2 : ∀ i, (W i).cell? ⟨fb, 2, none⟩ = some (.int .i64 s.y) := fun i => ((hW i).cell (p := ⟨fb, 2, none⟩) HSZ1.out).trans b2
          have HWW : ∀ i, Hid (Below w.heap.size w (W i)) := fun i => HB1.out.trans ((hW i).mono HB1.out.size)
          have HF := fun i => Lib.hid (may_on s (W i))
          have HG := fun i => Lib.hid (refmay_on s (W i))
          have H0 := Lib.hid h0
          have HC := Lib.hid hC
          clear b0 b1 b2 h0 hW hC
          cases hms : may s
          all_goals
            rw [hms] at HF HG
            refine wp_region_fam W j0 (by kernel_rfl) (by kernel_rfl) H0.out ?_
            repeat (go_big_quiet_step (first | (go_at_call 10; exact fam_call HC.out (HF _).out) | (go_at_call 11; exact fam_call HC.out (HG _).out)))
            refine wpQuiet_nil ?_
            rintro _ ⟨i, rfl⟩
            go_wp2
            go_roundw
            case' rel => exact ⟨k + 1, by omega, by omega, by go_num, (HWW i).out⟩
            case' measure => simp [intOf]; omega
        · first
            | (have h1 : ¬ k < n := by omega)
            | (have h1 : ¬ k < 20 := by omega)
          go_wp2
          go_ret
          exact ⟨rfl, HB.out⟩
end Go.Proofs.Ytefnpibikebmdaa.Smp

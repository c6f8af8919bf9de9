/- Layer 14 (grid), the landed program: Near, as a contract. -/
import Derived.Test.YtddlenbahidkaaaGdA
import Derived.Test.YtddlenbahidkaaaGdV
namespace Go.Proofs.Ytddlenbahidkaaa.Gd
open Go.RowKit Rec Ints Ge

theorem info_point : (Try.prog.info? 57).map (fun i => (i.zero, i.size, i.bytes)) = some (some (.agg #[.int .i64 0, .int .i64 0]), 2, 16) := by kernel_rfl
/-- Points that are collected. -/
structure Pl (gs : Nat) (ws wr : World) (v : Value) (ps : List C) : Prop where
  row : wr.ownsRow gs 57 2 v ps.length (twoS.flat ps)
  below : Below gs ws wr
  big : gs ≤ wr.heap.size
theorem Pl.start (ws : World) : Pl ws.heap.size ws ws (.slice none 0 0) [] := ⟨World.ownsRow_nil _ _ _ _, Below.refl _ _, Nat.le_refl _⟩
theorem Pl.keep {gs : Nat} {ws wr w' : World} {v : Value} {ps : List C} (h : Pl gs ws wr v ps) (hb : Below wr.heap.size wr w') : Pl gs ws w' v ps :=
  ⟨ownr_below h.row hb, h.below.trans (hb.mono h.big), Nat.le_trans h.big hb.size⟩
theorem Pl.more {gs : Nat} {ws wr w2 : World} {v v' : Value} {ps : List C} {p : C} (h : Pl gs ws wr v ps) (h2 : w2.ownsRow gs 57 2 v' (ps.length + 1) (twoS.flat (ps ++ [p]))) (hb : Below gs wr w2) : Pl gs ws w2 v' (ps ++ [p]) :=
  ⟨by rw [List.length_append]; exact h2, h.below.trans hb, Nat.le_trans h.big hb.size⟩

set_option maxHeartbeats 3200000 in
set_option maxRecDepth 100000 in
theorem near_ok (a : Addr) (l : List C) (s x y r most : Int) (w : World) (h : Gr w a l s) (hm : may x y) (hr0 : 0 ≤ r) (hr1 : r ≤ 1048576) (hmo : 0 ≤ most) (hmb : most ≤ 9223372036854775807) :
    Calls Try.prog 12 #[.pointer (some a), .int .i64 x, .int .i64 y, .int .i64 r, .int .i64 most] w fun e w' => ∃ v, e = .returned (.tuple #[v, .int .i64 0]) ∧ InTo w.heap.size w (nums (near (x, y) l r most.toNat)) v w' := by
  obtain ⟨ip, hip, hpz0, hpz1, hpz2⟩ := info_of info_point
  obtain ⟨ii, hii, hiz0, hiz1, hiz2⟩ := info_of info_int
  obtain ⟨g, A, n, c, b, base, D, rfl, hi⟩ := h.open
  have HGR := Lib.hid h
  have hs1 := (right_ok hi.ok).2.1
  have hc0 := hi.c0
  have HLN : Hid (l.length ≤ 4096) := (right_ok hi.ok).1
  have d1 : decide (r < 0) = false := decide_eq_false (by omega)
  have d2 : decide (1048576 < r) = false := decide_eq_false (by omega)
  have d3 : decide (most < 0) = false := decide_eq_false (by omega)
  have HMY := Lib.hid hm
  have HR := Lib.hid (And.intro hr0 hr1)
  have hdm : decide (may x y) = true := decide_eq_true hm
  have mr : IntKind.i64.wrap (r * r) = r * r := IntWalk.i64_in _ (by
    have h1 : r * r ≤ 1048576 * 1048576 := Int.mul_le_mul hr1 hr1 hr0 (by omega)
    have h2 : 0 ≤ r * r := Int.mul_nonneg hr0 hr0
    constructor <;> omega)
  clear hi h hm hr0 hr1
  go_enter Try.func12, Try.ntmps12
  go_wp2_with fail
  refine (made_any g s w hc0 (by omega)).mono ?_
  rintro e1 w1 ⟨rfl, hw1⟩
  rw [hw1]
  clear hw1 w1
  go_wp2_with fail
  refine (may_any x y w).mono ?_
  rw [hdm]
  rintro e1 w1 ⟨rfl, hw1⟩
  rw [hw1]
  clear hw1 w1
  go_wp2_with fail
  refine (around_any _ l s x y r w HGR.out HMY.out HR.out.1 HR.out.2).mono ?_
  rintro e1 w1 ⟨v1, L, rfl, hin, hcov⟩
  obtain ⟨A1, n1, c1, rfl, hr1, -, -, -, hb1⟩ := hin
  have HG1 := Lib.hid (HGR.out.keep hb1)
  have HR1 := Lib.hid hr1
  have HB1 := Lib.hid hb1
  have HCV := Lib.hid hcov
  have hln : L.length = n1 := by rw [← nums_len]; exact hr1.1
  have HLL := Lib.hid hln
  have hn1 : n1 ≤ 4096 := by have h1 := len_of hcov.1 hcov.2.1; have h2 := HLN.out; omega
  have HPS := Lib.hid (Pl.start w1)
  have HSZ : Hid (w.heap.size ≤ w1.heap.size) := hb1.size
  obtain ⟨f, hf⟩ : ∃ f, dq (x, y) l = f := ⟨_, rfl⟩
  have HF := Lib.hid hf
  obtain ⟨gs, hgs⟩ : ∃ gs, w1.heap.size = gs := ⟨_, rfl⟩
  have HGS := Lib.hid hgs
  rw [hgs] at HPS HSZ HR1
  clear hr1 hb1 hcov HGR hc0 hs1 hln hf
  go_wp2
  go_loopw [12, 44] (fun v i wr => ∃ k : Nat, k ≤ n1 ∧ i = .int .i64 (k : Int) ∧ Hid (Pl gs w1 wr v (pts f (r * r) (L.take k))))
    (fun _ i _ => n1 - (intOf i).toNat)
  case atStart => exact ⟨0, Nat.zero_le _, rfl, by unfold pts; exact HPS⟩
  case round =>
    clear HPS
    obtain ⟨k, hk, rfl, HPS⟩ := hrel
    by_cases hkn : k < n1
    · have e1 : decide ((k : Int) < (n1 : Int)) = true := decide_eq_true (by omega)
      have hrr := HR1.out.below HPS.out.below
      obtain ⟨b1, o1, z, rfl, hb1, hz, hcz⟩ := int_at hrr hkn
      obtain ⟨i, hLi, rfl⟩ := nums_at hz
      have HLI := Lib.hid hLi
      have hil : i < l.length := HCV.out.2.1 i (List.mem_of_getElem? hLi)
      have HGw : Hid (Gr wr ⟨g, 0, none⟩ l s) := HG1.out.keep (by have h := HPS.out.below; rw [← HGS.out] at h; exact h)
      have HIL := Lib.hid hil
      clear hrr hz hLi hil
      go_wp2_with fail
      refine (point_any _ l s i x y wr HGw.out HIL.out).mono ?_
      rw [HF.out]
      rintro e4 w4 ⟨rfl, hb4⟩
      have HP4 := Lib.hid (HPS.out.keep hb4)
      clear hb4 HPS HGw
      have hba := (Below.refl w4.heap.size w4).alloc (Nat.le_refl _) (.cells #[.int .i64 (i : Int), .int .i64 (f i)] 57)
      have HP5 := Lib.hid (HP4.out.keep hba)
      have HN5 := Lib.hid (heap_alloc_new w4 (.cells #[.int .i64 (i : Int), .int .i64 (f i)] 57))
      clear hba
      go_upto_region 10 with fail
      generalize w4.alloc (.cells #[.int .i64 (i : Int), .int .i64 (f i)] 57) = w5 at *
      generalize w4.heap.size = g5 at *
      clear HP4
      have q1 : w5.cell? ⟨g5, 0, none⟩ = some (.int .i64 (i : Int)) := cell_of_blk HN5.out rfl
      have q2 : w5.cell? ⟨g5, 1, none⟩ = some (.int .i64 (f i)) := cell_of_blk HN5.out rfl
      have hwk : IntKind.i64.wrap ((k : Int) + 1) = (k : Int) + 1 := IntWalk.i64_in _ ⟨by omega, by omega⟩
      have hpl : (pts f (r * r) (L.take k)).length ≤ 4096 := by
        have h1 := pts_len f (r * r) (L.take k)
        rw [List.length_take] at h1
        omega
      by_cases hfr : f i ≤ r * r
      · have e2 : decide (f i ≤ r * r) = true := decide_eq_true hfr
        have HOA := Lib.hid (ownr_alloc HP5.out.row (.cells #[.int .i64 (i : Int), .int .i64 (f i)] 57))
        have HNEW := Lib.hid (new_two w5 ((i : Int), f i) 57)
        have hbig := HP5.out.big
        have HPY := Lib.hid (pts_yes HLI.out hfr)
        clear hfr
        go_wp2_with (at_builtin; go_loud (refine push_rec twoS rfl (.tmp 59) (.tmp 61) 54 rfl gs 57 ip (.agg #[.int .i64 0, .int .i64 0]) 16 Try.underlying54 hip hpz0 rfl hpz1 hpz2 _ (pts f (r * r) (L.take k)).length (pts f (r * r) (L.take k)) rfl HOA.out ⟨w5.heap.size, 0, none⟩ ((i : Int), f i) rfl HNEW.out (by omega) (by omega) (by simp; omega) ?_); intro v2 w2 hown2 _ hb2; have HC2 := Lib.hid (HP5.out.more hown2 (((Below.refl _ _).alloc hbig _).trans hb2)); clear hown2 hb2)
        go_wp2
        go_roundw
        case rel => exact ⟨k + 1, by omega, by go_num, by rw [HPY.out]; exact HC2⟩
        case measure => simp [intOf]; omega
      · have e2 : decide (f i ≤ r * r) = false := decide_eq_false hfr
        have HPY := Lib.hid (pts_no HLI.out hfr)
        clear hfr
        go_wp2
        go_roundw
        case rel => exact ⟨k + 1, by omega, by go_num, by rw [HPY.out]; exact HP5⟩
        case measure => simp [intOf]; omega
    · obtain rfl : k = n1 := by omega
      have e1 : decide ((k : Int) < (k : Int)) = false := decide_eq_false (by omega)
      rw [List.take_of_length_le (Nat.le_of_eq HLL.out)] at HPS
      go_wp2_with fail
      refine (sort_any gs u12 (pts f (r * r) L) wr HPS.out.row (by
        have h1 := pts_len f (r * r) L
        have h2 := HLL.out
        omega) HPS.out.big).mono ?_
      rintro e5 w5 ⟨rfl, ho5, hb5⟩
      have hQ := srt_all HCV.out
      rw [HF.out] at hQ
      obtain ⟨Z, hZ⟩ : ∃ Z, all f l.length (r * r) = Z := ⟨_, rfl⟩
      have hZl : (pts f (r * r) L).length = Z.length := by rw [← srt_len, hQ, hZ, List.length_map]
      rw [hQ, hZ, hZl] at ho5
      have hZn : Z.length ≤ 4096 := by
        have h1 := pts_len f (r * r) L
        have h2 := HLL.out
        omega
      obtain ⟨N, hN⟩ : ∃ N, Z.length = N := ⟨_, rfl⟩
      have HN := Lib.hid hN
      rw [hN] at ho5 hZn
      have HNR : Hid (near (x, y) l r most.toNat = Z.take most.toNat) := by unfold Hid near; rw [HF.out, hZ]
      have HB5 := Lib.hid ((HB1.out.trans (HPS.out.below.mono HSZ.out)).trans (hb5.mono HSZ.out))
      obtain ⟨A5, c5, rfl, hc5, hnil5, hcm5⟩ := ownr_slice ho5
      have HRW := Lib.hid (RRow.of_own (S := twoS) ho5)
      have hsp5 : ∀ z : Addr, A5 = some z → z.spot = none := fun z hz => by
        subst hz
        rcases ho5.2 with ⟨h1, _⟩ | ⟨g', _, _, h1, _⟩
        · cases h1
        · simp only [Value.slice.injEq, Option.some.injEq] at h1
          rw [h1.1]
      have hg5 : w.heap.size ≤ w5.heap.size := HB5.out.size
      clear hQ hZ hZl hN ho5 hb5 HPS HCV
      obtain ⟨K, hK⟩ : ∃ K : Nat, min most (N : Int) = (K : Int) := ⟨(min most (N : Int)).toNat, by omega⟩
      have hKN : K ≤ N := by omega
      have HTK : Hid (Z.take most.toNat = Z.take K) := by
        unfold Hid
        have h1 := HN.out
        rcases Nat.lt_or_ge N most.toNat with h2 | h2
        · rw [List.take_of_length_le (by omega), List.take_of_length_le (by omega)]
        · have : most.toNat = K := by omega
          rw [this]
      have HCL := Lib.hid (Cl.start w5)
      obtain ⟨gt, hgt⟩ : ∃ gt, w5.heap.size = gt := ⟨_, rfl⟩
      have HGT := Lib.hid hgt
      rw [hgt] at HCL hg5 HRW
      have f1 : (0 : Int) ≤ (K : Int) := by omega
      have f2 : (K : Int) ≤ (c5 : Int) := by omega
      have f3 : ((K : Int)).toNat = K := by omega
      have f4 : K ≤ c5 := by omega
      obtain ⟨A6, c6, hA6, HA6⟩ : ∃ (A6 : Option Addr) (c6 : Nat), (Instr.slice 54 (.slice A5 N c5) none (some (.int .i64 (K : Int))) none).run Try.prog w5 = .ok (.slice A6 K c6) w5 ∧ Hid (0 < K → A6 = A5) := by
        rcases A5 with _ | ⟨b5, o5, sp⟩
        · have : c5 = 0 := hnil5 rfl
          subst this
          have : K = 0 := by omega
          subst this
          exact ⟨none, 0, by kernel_rfl, fun h => absurd h (by omega)⟩
        · refine ⟨some ⟨b5, o5, sp⟩, c5, ?_, fun _ => rfl⟩
          obtain rfl : sp = none := hsp5 _ rfl
          by_cases hc0 : c5 = 0
          · have : K = 0 := by omega
            subst this
            subst hc0
            simp [Instr.slice, Instr.sliceBounds, Instr.sliceBound, asIntOf, Addr.add]
          · have hc0' : ¬ (c5 = 0) := hc0
            simp [Instr.slice, Instr.sliceBounds, Instr.sliceBound, asIntOf, Addr.add, f4]
      clear hnil5 hsp5
      go_wp2
      go_loopw [16, 73] (fun v i wr => ∃ k : Nat, k ≤ K ∧ i = .int .i64 (k : Int) ∧ Hid (Cl gt w5 wr v (Z.take k)))
        (fun _ i _ => K - (intOf i).toNat)
      case atStart => exact ⟨0, Nat.zero_le _, rfl, by rw [List.take_zero]; exact HCL⟩
      case round =>
        clear HCL hA6
        obtain ⟨k, hk, rfl, HCL⟩ := hrel
        by_cases hkn : k < K
        · have e2 : decide ((k : Int) < (K : Int)) = true := decide_eq_true (by omega)
          obtain rfl := HA6.out (by omega)
          obtain ⟨b1, o1, p, rfl, hb1, hp, hp0, hp1⟩ := two_at (HRW.out.below HCL.out.below) (by omega : k < N)
          rw [List.getElem?_map] at hp
          obtain ⟨i, hZi, rfl⟩ := Option.map_eq_some_iff.1 hp
          simp only [pt] at hp0 hp1
          have HZI : Hid (Z.take (k + 1) = Z.take k ++ [i]) := by unfold Hid; rw [List.take_add_one, hZi]; rfl
          have HOA := Lib.hid (ownr_alloc HCL.out.row (.cells #[.int .i64 (i : Int), .int .i64 (f i)] 57))
          have hba := (Below.refl wr.heap.size wr).alloc (Nat.le_refl _) (.cells #[.int .i64 (i : Int), .int .i64 (f i)] 57)
          have HCA : Hid (Cl gt w5 (wr.alloc (.cells #[.int .i64 (i : Int), .int .i64 (f i)] 57)) u16 (Z.take k)) := ⟨HOA.out, HCL.out.below.trans (hba.mono HCL.out.big), Nat.le_trans HCL.out.big hba.size⟩
          have HNA := Lib.hid (heap_alloc_new wr (.cells #[.int .i64 (i : Int), .int .i64 (f i)] 57))
          clear hba HOA HCL hp hZi
          go_upto_region 18 with fail
          generalize wr.alloc (.cells #[.int .i64 (i : Int), .int .i64 (f i)] 57) = w6 at *
          generalize wr.heap.size = g6 at *
          have q1 : w6.cell? ⟨g6, 0, none⟩ = some (.int .i64 (i : Int)) := cell_of_blk HNA.out rfl
          have HOA := Lib.hid (ownr_alloc HCA.out.row (.cells #[.int .i64 (i : Int)] 3))
          have HNEW := Lib.hid (new_int w6 (i : Int) 3)
          have hbig := HCA.out.big
          have hZk : (Z.take k).length ≤ 4096 := by rw [List.length_take, HN.out]; omega
          have hwk : IntKind.i64.wrap ((k : Int) + 1) = (k : Int) + 1 := IntWalk.i64_in _ ⟨by omega, by omega⟩
          go_wp2_with (at_builtin; go_loud (refine push_rec intS rfl (.tmp 77) (.tmp 80) 34 rfl gt 3 ii (.int .i64 0) 8 Try.underlying34 hii hiz0 rfl hiz1 hiz2 _ (Z.take k).length (nums (Z.take k)) rfl HOA.out ⟨w6.heap.size, 0, none⟩ (i : Int) rfl HNEW.out (by omega) (by omega) (by simp; omega) ?_); intro v2 w2 hown2 _ hb2; have HC2 := Lib.hid (HCA.out.more (M := [i]) hown2 (((Below.refl _ _).alloc hbig _).trans hb2)); clear hown2 hb2)
          go_wp2
          go_roundw
          case rel => exact ⟨k + 1, by omega, by go_num, by rw [HZI.out]; exact HC2⟩
          case measure => simp [intOf]; omega
        · obtain rfl : k = K := by omega
          have e2 : decide ((k : Int) < (k : Int)) = false := decide_eq_false (by omega)
          have HIN := Lib.hid (HCL.out.into HB5.out hg5)
          go_wp2
          go_ret2
          exact ⟨_, rfl, by rw [HNR.out, HTK.out]; exact HIN.out⟩
end Go.Proofs.Ytddlenbahidkaaa.Gd

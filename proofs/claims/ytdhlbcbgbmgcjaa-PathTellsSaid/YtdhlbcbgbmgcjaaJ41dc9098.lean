/- Lemmas that the proof stands on, in build order: PdF. -/
import Derived.Test.YtdhlbcbgbmgcjaaJ29cdeae3
import Derived.Test.YtdhlbcbgbmgcjaaJ3726ed68
import Derived.Test.YtdhlbcbgbmgcjaaJ40bda087
/- Layer 17 (path), the landed program: From, Way, as contracts. -/
namespace Go.Proofs.Ytdhlbcbgbmgcjaa.Pt
open Go.RowKit Rec Ints Ge Gf Pa Gd

theorem Rws.more {w : World} {B B' t : Nat} {N : Nt} {V : List Value} (h : Rws w B t N V) (hB : B ≤ B') (hB' : B' ≤ w.heap.size) : Rws w B' t N V :=
  ⟨h.blk, Nat.lt_of_lt_of_le h.low hB, hB', h.len, fun u hu => by
    obtain ⟨A, c, e, hr⟩ := h.row u hu
    exact ⟨A, c, e, hr.more hB⟩⟩
theorem chk_one {N : Nt} {s : Int} : chk N [s] = fromE N s := by
  unfold chk fromE
  by_cases hc : check N = 0
  · rw [if_neg (show ¬ (check N ≠ 0) from fun h => h hc), if_neg (show ¬ (check N ≠ 0) from fun h => h hc)]
    by_cases h : s < 0 ∨ (N.st.length : Int) ≤ s
    · rw [if_pos ⟨s, List.mem_singleton.2 rfl, h⟩, if_pos h]
    · rw [if_neg (fun ⟨x, hx, hb⟩ => h (by rw [List.mem_singleton.1 hx] at hb; exact hb)), if_neg h]
  · rw [if_pos hc, if_pos hc]
theorem chk_pair {N : Nt} {a b : Int} (h : chk N [a, b] ≠ 0) : wayE N a b = chk N [a, b] := by
  unfold chk at h ⊢
  unfold wayE
  by_cases hc : check N = 0
  · rw [if_neg (show ¬ (check N ≠ 0) from fun h => h hc)] at h ⊢
    rw [if_neg (show ¬ (check N ≠ 0) from fun h => h hc)]
    by_cases hx : ∃ s ∈ [a, b], s < 0 ∨ (N.st.length : Int) ≤ s
    · rw [if_pos hx, if_pos]
      obtain ⟨s, hs, hb⟩ := hx
      simp only [List.mem_cons, List.not_mem_nil, or_false] at hs
      rcases hs with rfl | rfl
      · exact .inl hb
      · exact .inr hb
    · rw [if_neg hx] at h; exact absurd rfl h
  · rw [if_pos hc, if_pos hc]
theorem chk_pair0 {N : Nt} {a b : Int} (h : chk N [a, b] = 0) : check N = 0 ∧ (0 ≤ a ∧ a < (N.st.length : Int)) ∧ 0 ≤ b ∧ b < (N.st.length : Int) := by
  unfold chk at h
  by_cases hc : check N = 0
  · rw [if_neg (show ¬ (check N ≠ 0) from fun h => h hc)] at h
    by_cases hx : ∃ s ∈ [a, b], s < 0 ∨ (N.st.length : Int) ≤ s
    · rw [if_pos hx] at h; omega
    · have h1 : ¬ (a < 0 ∨ (N.st.length : Int) ≤ a) := fun h => hx ⟨a, by simp, h⟩
      have h2 : ¬ (b < 0 ∨ (N.st.length : Int) ≤ b) := fun h => hx ⟨b, by simp, h⟩
      exact ⟨hc, by omega, by omega⟩
  · rw [if_pos hc] at h; exact absurd h hc
theorem from_0 {N : Nt} {s : Int} (h : fromE N s = 0) : check N = 0 ∧ 0 ≤ s ∧ s < (N.st.length : Int) := by
  unfold fromE at h
  by_cases hc : check N = 0
  · rw [if_neg (show ¬ (check N ≠ 0) from fun h => h hc)] at h
    by_cases hx : s < 0 ∨ (N.st.length : Int) ≤ s
    · rw [if_pos hx] at h; omega
    · exact ⟨hc, by omega, by omega⟩
  · rw [if_pos hc] at h; exact absurd h hc
set_option maxHeartbeats 1600000 in
set_option maxRecDepth 100000 in
theorem from_any (N : Nt) (A A' : Option Addr) (n c m c' : Nat) (s : Int) (w : World) (h : NAt w w.heap.size N A n c A' m c') (hn : n ≤ 1048576) (hm : m ≤ 1048576) :
    Calls Try.prog 8 #[.agg #[.int .i64 N.ver, .slice A n c, .slice A' m c'], .int .i64 s] w fun e w' => ∃ v, e = .returned (.tuple #[v, .int .i64 ((fromE N s : Nat) : Int)]) ∧ InTo w.heap.size w (fromL N s) v w' := by
  have HB := Lib.hid (Bx.start h)
  have hls : N.st.length = n := h.st.len
  have HLS := Lib.hid hls
  clear h hls
  go_enter Try.func8, Try.ntmps8
  go_upto_region 1 with fail
  generalize w.alloc (.cells #[.int .i64 N.ver, .slice A n c, .slice A' m c'] 25) = w1 at *
  have z0 : w1.cell? ⟨w.heap.size, 0, none⟩ = some (.int .i64 N.ver) := cell_of_blk HB.out.blk rfl
  have z1 : w1.cell? ⟨w.heap.size, 1, none⟩ = some (.slice A n c) := cell_of_blk HB.out.blk rfl
  have z2 : w1.cell? ⟨w.heap.size, 2, none⟩ = some (.slice A' m c') := cell_of_blk HB.out.blk rfl
  have hb2 := (Below.refl w1.heap.size w1).alloc (Nat.le_refl _) (.cells #[.int .i64 s] 3)
  have HB2 := Lib.hid (HB.out.below hb2)
  have hr2 : RRow intS (w1.alloc (.cells #[.int .i64 s] 3)) (w1.alloc (.cells #[.int .i64 s] 3)).heap.size (some ⟨w1.heap.size, 0, none⟩) 1 [s] := RRow.of_blk (S := intS) (l := [s]) (heap_alloc_new w1 _) (by simp) rfl
  have HR2 := Lib.hid hr2
  clear hb2 hr2 HB
  go_wp2_with fail
  obtain ⟨q, hq⟩ : ∃ q, w1.heap.size = q := ⟨_, rfl⟩
  rw [hq] at HR2
  try rw [hq]
  generalize w1.alloc (.cells #[.int .i64 s] 3) = w2 at *
  refine (check_stops N A A' n c m c' _ 1 1 [s] w2 (HB2.out.at_.more (Nat.le_of_lt HB2.out.lt)) hn hm HR2.out (by omega)).mono ?_
  rw [chk_one]
  rintro e3 w3 ⟨rfl, hb3⟩
  have HB3 := Lib.hid (HB2.out.below hb3)
  clear z0 z1 z2 hb3 HB2 HR2
  by_cases hc : fromE N s = 0
  · obtain ⟨h1, h2, h3⟩ := from_0 hc
    obtain ⟨v, hv⟩ : ∃ v : Nat, s = (v : Int) := ⟨s.toNat, by omega⟩
    subst hv
    have HC := Lib.hid hc
    have HC1 := Lib.hid h1
    have hvn : v < n := by have := HLS.out; omega
    have HFL : Hid (fromL N (v : Int) = farL N v) := by unfold Hid fromL; rw [if_pos hc]; simp
    rw [hc]
    clear hc h1 h2 h3
    have z0 : w3.cell? ⟨w.heap.size, 0, none⟩ = some (.int .i64 N.ver) := cell_of_blk HB3.out.blk rfl
    have z1 : w3.cell? ⟨w.heap.size, 1, none⟩ = some (.slice A n c) := cell_of_blk HB3.out.blk rfl
    have z2 : w3.cell? ⟨w.heap.size, 2, none⟩ = some (.slice A' m c') := cell_of_blk HB3.out.blk rfl
    go_wp2_with fail
    refine (links_any N A A' n c m c' w3 (HB3.out.at_.more (Nat.le_of_lt HB3.out.lt)) HC1.out).mono ?_
    rintro e4 w4 ⟨t, V, rfl, hr4, hb4⟩
    have HR4 := Lib.hid hr4
    have HB4 := Lib.hid (HB3.out.below hb4)
    clear z0 z1 z2 hr4 hb4 HB3
    go_wp2_with fail
    refine (distances_any N (valid_of HC1.out) t n V v w4 HR4.out HLS.out hvn).mono ?_
    rintro e5 w5 ⟨g, rfl, hh5, hb5⟩
    have HF : Hid (InTo w.heap.size w (fromL N (v : Int)) (.slice (some ⟨g, 0, none⟩) n n) w5) := by
      have h1 := (hh5.down (Nat.le_of_lt HB4.out.lt)).own'
      rw [far_len, HLS.out] at h1
      rw [HFL.out]
      exact InTo.of_own h1 (HB4.out.bel.trans (hb5.mono (Nat.le_of_lt HB4.out.lt)))
    clear hh5 hb5
    go_wp2
    go_ret2
    exact ⟨_, by rw [HC.out]; rfl, HF.out⟩
  · have e1 : (((fromE N s : Nat) : Int) == 0) = false := beq_eq_false_iff_ne.2 (by omega)
    obtain ⟨z, hz⟩ : ∃ z, ((fromE N s : Nat) : Int) = z := ⟨_, rfl⟩
    rw [hz] at e1
    rw [hz]
    have HZ := Lib.hid hz
    have HFL : Hid (fromL N s = []) := by unfold Hid fromL; rw [if_neg hc]
    clear hz hc
    go_wp2
    go_ret2
    exact ⟨_, by rw [HZ.out]; rfl, by rw [HFL.out]; exact InTo.nil HB3.out.bel⟩
set_option maxHeartbeats 3200000 in
set_option maxRecDepth 100000 in
theorem way_any : WayOk := by
  intro N A A' n c m c' a b w h hbd hn hm ha hb
  have HB := Lib.hid (Bx.start h)
  have hls : N.st.length = n := h.st.len
  have HLS := Lib.hid hls
  clear h hls hbd ha hb
  go_enter Try.func9, Try.ntmps9
  go_upto_region 1 with fail
  generalize w.alloc (.cells #[.int .i64 N.ver, .slice A n c, .slice A' m c'] 25) = w1 at *
  have z0 : w1.cell? ⟨w.heap.size, 0, none⟩ = some (.int .i64 N.ver) := cell_of_blk HB.out.blk rfl
  have z1 : w1.cell? ⟨w.heap.size, 1, none⟩ = some (.slice A n c) := cell_of_blk HB.out.blk rfl
  have z2 : w1.cell? ⟨w.heap.size, 2, none⟩ = some (.slice A' m c') := cell_of_blk HB.out.blk rfl
  have hb2 := (Below.refl w1.heap.size w1).alloc (Nat.le_refl _) (.cells #[.int .i64 a, .int .i64 b] 3)
  have HB2 := Lib.hid (HB.out.below hb2)
  have hr2 : RRow intS (w1.alloc (.cells #[.int .i64 a, .int .i64 b] 3)) (w1.alloc (.cells #[.int .i64 a, .int .i64 b] 3)).heap.size (some ⟨w1.heap.size, 0, none⟩) 2 [a, b] := RRow.of_blk (S := intS) (l := [a, b]) (heap_alloc_new w1 _) (by simp) rfl
  have HR2 := Lib.hid hr2
  clear hb2 hr2 HB
  go_wp2_with fail
  obtain ⟨q, hq⟩ : ∃ q, w1.heap.size = q := ⟨_, rfl⟩
  rw [hq] at HR2
  try rw [hq]
  generalize w1.alloc (.cells #[.int .i64 a, .int .i64 b] 3) = w2 at *
  refine (check_stops N A A' n c m c' _ 2 2 [a, b] w2 (HB2.out.at_.more (Nat.le_of_lt HB2.out.lt)) hn hm HR2.out (by omega)).mono ?_
  rintro e3 w3 ⟨rfl, hb3⟩
  have HB3 := Lib.hid (HB2.out.below hb3)
  clear z0 z1 z2 hb3 HB2 HR2
  by_cases hc : chk N [a, b] = 0
  · obtain ⟨h1, ⟨h2, h3⟩, h4, h5⟩ := chk_pair0 hc
    obtain ⟨x, hx⟩ : ∃ x : Nat, a = (x : Int) := ⟨a.toNat, by omega⟩
    obtain ⟨y, hy⟩ : ∃ y : Nat, b = (y : Int) := ⟨b.toNat, by omega⟩
    subst hx hy
    have HC1 := Lib.hid h1
    have HV := Lib.hid (valid_of h1)
    have hxn : x < n := by have := HLS.out; omega
    have hyn : y < n := by have := HLS.out; omega
    rw [hc]
    clear hc h1 h2 h3 h4 h5
    have z0 : w3.cell? ⟨w.heap.size, 0, none⟩ = some (.int .i64 N.ver) := cell_of_blk HB3.out.blk rfl
    have z1 : w3.cell? ⟨w.heap.size, 1, none⟩ = some (.slice A n c) := cell_of_blk HB3.out.blk rfl
    have z2 : w3.cell? ⟨w.heap.size, 2, none⟩ = some (.slice A' m c') := cell_of_blk HB3.out.blk rfl
    go_wp2_with fail
    refine (links_any N A A' n c m c' w3 (HB3.out.at_.more (Nat.le_of_lt HB3.out.lt)) HC1.out).mono ?_
    rintro e4 w4 ⟨t, V, rfl, hr4, hb4⟩
    have HR4 := Lib.hid hr4
    have HB4 := Lib.hid (HB3.out.below hb4)
    clear z0 z1 z2 hr4 hb4 HB3
    go_wp2_with fail
    refine (distances_any N HV.out t n V x w4 HR4.out HLS.out hxn).mono ?_
    rintro e5 w5 ⟨g, rfl, hh5, hb5⟩
    have HH5 := Lib.hid hh5
    have HR5 := Lib.hid (HR4.out.below hb5)
    have HB5 := Lib.hid (HB4.out.below hb5)
    clear hh5 hb5 HB4 HR4
    obtain ⟨d, hd⟩ : ∃ d, fz (dis N x y) = d := ⟨_, rfl⟩
    have HD := Lib.hid hd
    have c0 : w5.cell? ⟨g, y, none⟩ = some (.int .i64 d) := by
      rw [← hd, ← far_gx (by rw [HLS.out]; exact hyn)]
      exact hold_x HH5.out (gx_at (by rw [far_len, HLS.out]; exact hyn))
    have a1 : (0 : Int) ≤ (y : Int) := by omega
    have a2 : (y : Int) < (n : Int) := by omega
    clear hd
    have HXY : Hid (¬ (((x : Int) < 0 ∨ (N.st.length : Int) ≤ (x : Int)) ∨ (y : Int) < 0 ∨ (N.st.length : Int) ≤ (y : Int))) := by
      unfold Hid; rw [HLS.out]; omega
    cases hdd : (d == -1) with
    | true =>
      have HE : Hid (wayE N (x : Int) (y : Int) = 30) := by
        unfold Hid wayE
        rw [if_neg (show ¬ (check N ≠ 0) from fun h => h HC1.out), if_neg HXY.out, if_pos]
        have h1 := HD.out
        have h2 := beq_iff_eq.1 hdd
        simp only [Int.toNat_natCast]
        cases e : dis N x y with
        | none => rfl
        | some k => rw [e] at h1; simp only [fz] at h1; omega
      go_wp2
      go_ret3
      refine ⟨_, [], 0, by rw [HE.out]; rfl, InTo.nil HB5.out.bel, fun _ => ⟨rfl, rfl⟩, fun h => by rw [HE.out] at h; cases h⟩
    | false =>
      have h2 := beq_eq_false_iff_ne.1 hdd
      have HDD : Hid (0 ≤ d) := by
        unfold Hid
        rw [← HD.out] at h2 ⊢
        cases e : dis N x y with
        | none => rw [e] at h2; exact absurd rfl h2
        | some k => simp [fz]
      have HE : Hid (wayE N (x : Int) (y : Int) = 0) := by
        unfold Hid wayE
        rw [if_neg (show ¬ (check N ≠ 0) from fun h => h HC1.out), if_neg HXY.out, if_neg]
        simp only [Int.toNat_natCast]
        intro e
        have h1 := HD.out
        rw [e] at h1
        exact h2 h1.symm
      clear h2
      go_upto_region 8 with fail
      clear c0
      obtain ⟨ι, hne, W, i0, h0, hW, hC⟩ := fam_of w5
      have HWB : ∀ k, Hid (Below w.heap.size w (W k)) := fun k => HB5.out.bel.trans ((hW k).mono HB5.out.bel.size)
      have c0 : ∀ k, (W k).cell? ⟨g, y, none⟩ = some (.int .i64 d) := fun k => by
        rw [← HD.out, ← far_gx (by rw [HLS.out]; exact hyn)]
        exact hold_x (HH5.out.below (hW k)) (gx_at (by rw [far_len, HLS.out]; exact hyn))
      have HT := Lib.hid (back_any N HV.out x y n g n t w4.heap.size V (W i0) ((HR5.out.below ((hW i0).mono HR5.out.le)).more (Nat.le_trans HR5.out.le (hW i0).size) (Nat.le_refl _)) (HH5.out.below (hW i0)) HLS.out hxn hyn (by rw [HD.out]; exact HDD.out))
      clear hW
      refine Mix.wp_region_lex (fun w' => ∃ i, w' = W i) (by kernel_rfl) (by kernel_rfl) ⟨i0, h0⟩ ?_
      rw [h0]
      clear h0
      repeat (first | (refine Mix.lex_step rfl ?_; intro K hK; go_big_quiet_step (fail); refine Mix.lex_on hK ?_; clear hK K) | (refine Mix.lex_skip rfl ?_; simp only [Act.put, List.setIfInBounds_toArray, List.set_cons_zero, List.set_cons_succ]))
      refine Mix.lex_call HT.out rfl rfl rfl (fun _ => rfl) ?_
      rintro e6 w6 ⟨xv, L, rfl, hin, hbw⟩
      have hin2 : Below (W i0).heap.size (W i0) w6 := by obtain ⟨_, _, _, _, _, _, _, _, h9⟩ := hin; exact h9
      obtain ⟨j3, rfl⟩ := hC _ w6 hin2
      have HIN : Hid (InTo w.heap.size w (nums L) xv (W j3)) := hin.rebase (HWB j3).out
      have HBW := Lib.hid hbw
      refine ⟨_, rfl, ⟨j3, rfl⟩, ?_⟩
      clear hin hin2 hbw
      simp only [Act.put, List.setIfInBounds_toArray, List.set_cons_zero, List.set_cons_succ]
      repeat (first | (refine Mix.lex_step rfl ?_; intro K hK; go_big_quiet_step (fail); refine Mix.lex_on hK ?_; clear hK K) | (refine Mix.lex_skip rfl ?_; simp only [Act.put, List.setIfInBounds_toArray, List.set_cons_zero, List.set_cons_succ]))
      refine Mix.lex_nil ?_
      clear c0 HT hC HWB
      generalize W j3 = w9 at HIN ⊢
      go_wp2
      go_ret3
      exact ⟨xv, L, d, by rw [HE.out]; rfl, HIN.out, fun h => absurd HE.out h, fun _ => ⟨by simpa using HBW.out, by simpa using HD.out.symm⟩⟩
  · have HE : Hid (wayE N a b = chk N [a, b]) := chk_pair hc
    have HNE : Hid (chk N [a, b] ≠ 0) := hc
    have e1 : (((chk N [a, b] : Nat) : Int) == 0) = false := beq_eq_false_iff_ne.2 (by omega)
    obtain ⟨z, hz⟩ : ∃ z, ((chk N [a, b] : Nat) : Int) = z := ⟨_, rfl⟩
    rw [hz] at e1
    rw [hz]
    have HZ := Lib.hid hz
    clear hz hc
    go_wp2
    go_ret3
    exact ⟨_, [], 0, by rw [HE.out, HZ.out]; rfl, InTo.nil HB3.out.bel, fun _ => ⟨rfl, rfl⟩, fun h => absurd (HE.out.symm.trans h) HNE.out⟩
end Go.Proofs.Ytdhlbcbgbmgcjaa.Pt

/- Lemmas that the proof stands on, in build order: PtL PtC. -/
import Derived.BigQuiet
import Derived.Test.YtdhlbcbgbmgcjaaJ10828d9b
import Derived.Test.YtdhlbcbgbmgcjaaJ11d43469
import Derived.Test.YtdhlbcbgbmgcjaaJ1518f928
import Derived.Test.YtdhlbcbgbmgcjaaJ20d5a7c
import Derived.Test.YtdhlbcbgbmgcjaaJ6ea7323
import Derived.Test.YtdhlbcbgbmgcjaaJ97acb16
/- Layer 17 (path): PathLeast's walk. -/
namespace Go.Proofs.Ytdhlbcbgbmgcjaa.Pt
open Go.RowKit Rec Ints Ge Gf Pa

theorem Bp.cells {w wr : World} {N : Nt} {A A' W : Option Addr} {n c m c' k : Nat} {way : List Int} (h : Bp w N A n c A' m c' W k way wr) :
    wr.cell? ⟨w.heap.size, 0, none⟩ = some (.int .i64 N.ver) ∧ wr.cell? ⟨w.heap.size, 1, none⟩ = some (.slice A n c) ∧ wr.cell? ⟨w.heap.size, 2, none⟩ = some (.slice A' m c') :=
  ⟨cell_of_blk h.blk rfl, cell_of_blk h.blk rfl, cell_of_blk h.blk rfl⟩
/-- The first and the last of a row. -/
theorem ends_of {w : World} {B n j : Nat} {A : Option Addr} {l : List Int} (h : RRow intS w B A n l) (hn : n = j + 1) :
    ∃ b o, A = some ⟨b, o, none⟩ ∧ b < B ∧ w.cell? ⟨b, o, none⟩ = some (.int .i64 (l.getD 0 0)) ∧ w.cell? ⟨b, o + j, none⟩ = some (.int .i64 (l.getD j 0)) := by
  obtain ⟨b, o, x, e, hb, hx, hc⟩ := int_at h (show 0 < n by omega)
  obtain ⟨b2, o2, x2, e2, hb2, hx2, hc2⟩ := int_at h (show j < n by omega)
  rw [e] at e2
  simp only [Option.some.injEq, Addr.mk.injEq, and_true] at e2
  obtain ⟨rfl, rfl⟩ := e2
  refine ⟨b, o, e, hb, ?_, ?_⟩
  · rw [List.getD_eq_getElem?_getD, hx]; exact hc
  · rw [List.getD_eq_getElem?_getD, hx2]; exact hc2

set_option maxHeartbeats 8000000 in
set_option maxRecDepth 100000 in
theorem least_walk (K : Oks) (N : Nt) (A A' : Option Addr) (n c m c' : Nat) (W : Option Addr) (k d : Nat) (way : List Int) (w : World) (h : NAt w w.heap.size N A n c A' m c') (hbd : Bnd N)
    (hw : RRow intS w w.heap.size W k way) (hd : (W = none → d = 0) ∧ k ≤ d ∧ d ≤ maxLen) (hway : ∀ x ∈ way, B64 x) :
    Calls Try.prog 4 #[.agg #[.int .i64 N.ver, .slice A n c, .slice A' m c'], .slice W k d] w fun e w' => e = .returned (.bool true) ∧ Below w.heap.size w w' := by
  have hb1 := (Below.refl w.heap.size w).alloc (Nat.le_refl _) (.cells #[.int .i64 N.ver, .slice A n c, .slice A' m c'] 25)
  have hbt : Bp w N A n c A' m c' W k way (w.alloc (.cells #[.int .i64 N.ver, .slice A n c, .slice A' m c'] 25)) :=
    ⟨h, hw, heap_alloc_new w _, hb1⟩
  have HT := Lib.hid hbt
  have HLS : Hid (N.st.length = n) := h.st.len
  have HLL : Hid (N.lk.length = m) := h.lk.len
  have HLW : Hid (way.length = k) := hw.len
  have HBD := Lib.hid hbd
  have HD := Lib.hid hd
  have HWY := Lib.hid hway
  clear hb1 hbt h hbd hw hd hway
  go_enter Try.func4, Try.ntmps4
  go_wp2_with fail
  generalize w.alloc (.cells #[.int .i64 N.ver, .slice A n c, .slice A' m c'] 25) = w1 at *
  refine (awake_any K w1).mono ?_
  rintro e2 w2 ⟨rfl, hb2⟩
  have HT2 := Lib.hid (HT.out.up hb2)
  clear HT hb2
  obtain ⟨z0, z1, z2⟩ := HT2.out.cells
  go_wp2_with fail
  refine (few_any N A A' n c m c' w2 HT2.out.at).mono ?_
  rintro e3 w3 ⟨rfl, hb3⟩
  have HT3 := Lib.hid (HT2.out.up hb3)
  clear HT2 hb3 z0 z1 z2
  cases hfew : (decide (n ≤ 60) && decide (m ≤ 120)) with
  | false =>
    have HBE := Lib.hid HT3.out.bel
    go_wp2
    go_ret
    exact ⟨rfl, HBE.out⟩
  | true =>
    simp only [Bool.and_eq_true, decide_eq_true_eq] at hfew
    by_cases hk0 : k = 0
    · have e0 : ((k : Int) == 0) = true := beq_iff_eq.2 (by omega)
      have HBE := Lib.hid HT3.out.bel
      clear hk0
      go_wp2
      go_ret
      exact ⟨rfl, HBE.out⟩
    · have e0 : ((k : Int) == 0) = false := beq_eq_false_iff_ne.2 (by omega)
      by_cases hk : 50 < k
      · have d1 : decide ((50 : Int) < (k : Int)) = true := decide_eq_true (by omega)
        have HBE := Lib.hid HT3.out.bel
        go_wp2
        go_ret
        exact ⟨rfl, HBE.out⟩
      · have d1 : decide ((50 : Int) < (k : Int)) = false := decide_eq_false (by omega)
        obtain ⟨z0, z1, z2⟩ := HT3.out.cells
        go_wp2_with fail
        refine (refcheck_any N A A' n c m c' w3 HT3.out.at (by omega) (by omega)).mono ?_
        rintro e4 w4 ⟨rfl, hb4⟩
        have HT4 := Lib.hid (HT3.out.up hb4)
        clear HT3 hb4 z0 z1 z2
        by_cases hc : check N = 0
        · have hc0 : ((check N : Nat) : Int) = 0 := by rw [hc]; rfl
          have HC := Lib.hid hc
          rw [hc0]
          clear hc0 hc
          obtain ⟨z0, z1, z2⟩ := HT4.out.cells
          go_wp2_with fail
          refine (K.weight N A A' n c m c' W k d way w4 HT4.out.at HBD.out HC.out HT4.out.rw HD.out.1 HD.out.2.1 HD.out.2.2 (by omega) HWY.out).mono ?_
          rintro e5 w5 ⟨rfl, hb5⟩
          have HT5 := Lib.hid (HT4.out.up hb5)
          clear HT4 hb5 z0 z1 z2
          have HWF := Lib.hid (@wyT_false N way)
          have HWT := Lib.hid (@wyT_true N way)
          obtain ⟨x, hx⟩ : ∃ x, (wyT N way).1 = x := ⟨_, rfl⟩
          obtain ⟨y, hy⟩ : ∃ y, (wyT N way).2 = y := ⟨_, rfl⟩
          rw [hx, hy] at HWF HWT
          rw [hx, hy]
          clear hx hy
          cases y with
          | false =>
            have HX := Lib.hid (HWF.out rfl)
            have ex : (x == 0) = true := beq_iff_eq.2 HX.out
            have HBE := Lib.hid HT5.out.bel
            clear HX
            go_wp2
            go_ret
            exact ⟨by simp, HBE.out⟩
          | true =>
            obtain ⟨-, h0, hst, hsm⟩ := HWT.out rfl
            have HV := Lib.hid (valid_of HC.out)
            obtain ⟨h1, h2, h3⟩ := low_of HV.out h0 hst
            rw [← hsm, HLW.out] at h3
            rw [HLW.out] at h1 h2
            clear HWF HWT hst hsm
            obtain ⟨j, hj⟩ : ∃ j, k = j + 1 := ⟨k - 1, by omega⟩
            have HJ := Lib.hid hj
            have hjk : k - 1 = j := by omega
            rw [hjk] at h1 h2 h3
            obtain ⟨bw, ow, rfl, hbw, hf5, hl5⟩ := ends_of HT5.out.rw hj
            have HBW := Lib.hid HT5.out.row
            obtain ⟨a, ha⟩ : ∃ a, way.getD 0 0 = a := ⟨_, rfl⟩
            obtain ⟨b, hb⟩ : ∃ b, way.getD j 0 = b := ⟨_, rfl⟩
            rw [ha] at h0 h2 h3
            rw [hb] at h1 h2 h3
            have HA := Lib.hid ha
            have HB := Lib.hid hb
            have HAB := Lib.hid (And.intro h0 h1)
            have HDN := Lib.hid h2
            have HLE := Lib.hid h3
            have hwk : IntKind.i64.wrap ((k : Int) - 1) = (j : Int) := (IntWalk.i64_in _ ⟨by omega, by omega⟩).trans (by omega)
            have hj1 : (j : Int) < (k : Int) := by omega
            have hj2 : (0 : Int) ≤ (j : Int) := by omega
            have hk1 : (0 : Int) < (k : Int) := by omega
            clear hj hjk hf5 hl5 ha hb h0 h1 h2 h3 hbw HBW
            go_upto_region 1 with fail
            obtain ⟨ι, hne, Wf, i0, hi0, hWf, hC⟩ := fam_of w5
            have HTW : ∀ i, Hid (Bp w N A n c A' m c' (some ⟨bw, ow, none⟩) k way (Wf i)) := fun i => HT5.out.up (hWf i)
            have hz : ∀ i, (Wf i).cell? ⟨w.heap.size, 0, none⟩ = some (.int .i64 N.ver) ∧ (Wf i).cell? ⟨w.heap.size, 1, none⟩ = some (.slice A n c) ∧ (Wf i).cell? ⟨w.heap.size, 2, none⟩ = some (.slice A' m c') := fun i => (HTW i).out.cells
            have z0 := fun i => (hz i).1
            have z1 := fun i => (hz i).2.1
            have z2 := fun i => (hz i).2.2
            have he : ∀ i, (Wf i).cell? ⟨bw, ow, none⟩ = some (.int .i64 a) ∧ (Wf i).cell? ⟨bw, ow + j, none⟩ = some (.int .i64 b) := fun i => by
              obtain ⟨b', o', e', -, q1, q2⟩ := ends_of (HTW i).out.rw HJ.out
              simp only [Option.some.injEq, Addr.mk.injEq, and_true] at e'
              obtain ⟨rfl, rfl⟩ := e'
              rw [HA.out] at q1
              rw [HB.out] at q2
              exact ⟨q1, q2⟩
            have y0 := fun i => (he i).1
            have y1 := fun i => (he i).2
            have y0' : ∀ i, (Wf i).cell? ⟨bw, ow + 0, none⟩ = some (.int .i64 a) := y0
            have y1' : ∀ i, (Wf i).cell? ⟨bw, ow + j * 1, none⟩ = some (.int .i64 b) := fun i => by rw [Nat.mul_one]; exact y1 i
            clear hz he HT5
            refine Mix.wp_region_lex (fun w' => ∃ i, w' = Wf i) (by kernel_rfl) (by kernel_rfl) ⟨i0, hi0⟩ ?_
            rw [hi0]
            clear hi0
            repeat (first | (refine Mix.lex_step rfl ?_; intro K hK; go_big_quiet_step (fail); refine Mix.lex_on hK ?_; clear hK K) | (refine Mix.lex_skip rfl ?_; simp only [Act.put, List.setIfInBounds_toArray, List.set_cons_zero, List.set_cons_succ]))
            refine Mix.lex_call (K.way N A A' n c m c' a b (Wf i0) (HTW i0).out.at HBD.out (by omega) (by omega) ⟨by have := HAB.out; omega, by have := HAB.out; have := HLS.out; omega⟩ ⟨by have := HAB.out; omega, by have := HAB.out; have := HLS.out; omega⟩) rfl rfl rfl (fun _ => rfl) ?_
            rintro e6 w6 ⟨v6, L, d6, rfl, ⟨A6, n6, c6, rfl, hr6, hn6, hn6c, hc6, hb6⟩, hwi⟩
            have HR6 := Lib.hid hr6
            have HN6 := Lib.hid (And.intro hn6 (And.intro hn6c hc6))
            obtain ⟨j6, rfl⟩ := hC _ w6 hb6
            have HWI := Lib.hid hwi
            clear hb6 hr6 hwi hn6 hn6c hc6
            refine ⟨_, rfl, ⟨j6, rfl⟩, ?_⟩
            simp only [Act.put, List.setIfInBounds_toArray, List.set_cons_zero, List.set_cons_succ]
            repeat (first | (refine Mix.lex_step rfl ?_; intro K hK; go_big_quiet_step (fail); refine Mix.lex_on hK ?_; clear hK K) | (refine Mix.lex_skip rfl ?_; simp only [Act.put, List.setIfInBounds_toArray, List.set_cons_zero, List.set_cons_succ]))
            refine Mix.lex_nil ?_
            have HT6 := HTW j6
            generalize Wf j6 = w6 at *
            clear HTW z0 z1 z2 y0 y1 y0' y1' hWf hC
            obtain ⟨q4, q5⟩ := way_ok HC.out (a := a) (b := b) (by have := HAB.out; omega) (by have := HAB.out; omega) HDN.out
            obtain ⟨hbw, hd6⟩ := HWI.out.2 q5
            have HBW := Lib.hid hbw
            have HD6 := Lib.hid hd6
            rw [q4]
            clear q4 q5 hbw hd6
            obtain ⟨z0, z1, z2⟩ := HT6.out.cells
            have hal : a.toNat < N.st.length := by have := HAB.out; omega
            have hbl : b.toNat < N.st.length := by have := HAB.out; omega
            have HLL6 : Hid (L.length = n6) := by have h1 := HR6.out.len; rw [nums_len] at h1; exact h1
            have HL60 : Hid (L.length ≤ 60) := by have h1 := HBW.out.len hal hbl; have := HLS.out; unfold Hid; omega
            have HLB : Hid (∀ x ∈ nums L, B64 x) := fun x hx => by
              obtain ⟨y, hy, rfl⟩ := List.mem_map.1 hx
              have h1 := ((HBW.out.nodup hal hbl).2 y hy).1
              have := HLS.out
              exact ⟨by omega, by omega⟩
            have HWYB := Lib.hid (HBW.out.wy HV.out hal)
            have HSUM := Lib.hid (HBW.out.sum HV.out)
            clear hal hbl
            go_wp2_with fail
            refine (K.weight N A A' n c m c' A6 n6 c6 (nums L) w6 HT6.out.at HBD.out HC.out HR6.out HN6.out.1 HN6.out.2.1 HN6.out.2.2 (by have := HLL6.out; have := HL60.out; omega) HLB.out).mono ?_
            rintro e7 w7 ⟨rfl, hb7⟩
            rw [HWYB.out]
            have HT7 := Lib.hid (HT6.out.up hb7)
            have HR7 := Lib.hid ((HR6.out.below hb7).more hb7.size)
            clear HT6 hb7 HR6 z0 z1 z2
            obtain ⟨s1, s2, s3, -, -⟩ := HSUM.out
            obtain ⟨p6, hp6⟩ : ∃ p6, n6 = p6 + 1 := ⟨n6 - 1, by have := HLL6.out; omega⟩
            have e6 : L.length - 1 = p6 := by have := HLL6.out; omega
            rw [e6] at s3
            obtain ⟨b6, o6, rfl, -, u1, u2⟩ := ends_of HR7.out hp6
            rw [s2] at u1
            rw [s3] at u2
            rw [Int.toNat_of_nonneg (by have := HAB.out; omega)] at u1
            rw [Int.toNat_of_nonneg (by have := HAB.out; omega)] at u2
            obtain ⟨b', o', e', -, q1, q2⟩ := ends_of HT7.out.rw HJ.out
            simp only [Option.some.injEq, Addr.mk.injEq, and_true] at e'
            obtain ⟨rfl, rfl⟩ := e'
            rw [HA.out] at q1
            rw [HB.out] at q2
            have u2' : w7.cell? ⟨b6, o6 + p6 * 1, none⟩ = some (.int .i64 b) := by rw [Nat.mul_one]; exact u2
            have q2' : w7.cell? ⟨bw, ow + j * 1, none⟩ = some (.int .i64 b) := by rw [Nat.mul_one]; exact q2
            have u1' : w7.cell? ⟨b6, o6 + 0, none⟩ = some (.int .i64 a) := u1
            have q1' : w7.cell? ⟨bw, ow + 0, none⟩ = some (.int .i64 a) := q1
            have hle : d6 ≤ x := by rw [HD6.out]; exact HLE.out
            have dle : decide (d6 ≤ x) = true := decide_eq_true hle
            have HD6' := Lib.hid HD6.out.symm
            obtain ⟨f, hf⟩ : ∃ f, fz (dis N a.toNat b.toNat) = f := ⟨_, rfl⟩
            rw [hf] at HD6
            rw [hf]
            have hfd : f = d6 := HD6.out.symm
            have edd : (d6 == d6) = true := beq_self_eq_true d6
            have eaa : (a == a) = true := beq_self_eq_true a
            have ebb : (b == b) = true := beq_self_eq_true b
            have hwk6 : IntKind.i64.wrap ((n6 : Int) - 1) = (p6 : Int) := (IntWalk.i64_in _ ⟨by have := HLL6.out; have := HL60.out; omega, by have := HLL6.out; have := HL60.out; omega⟩).trans (by omega)
            have hn61 : (p6 : Int) < (n6 : Int) := by omega
            have hn62 : (0 : Int) < (n6 : Int) := by omega
            have hn63 : (0 : Int) ≤ (p6 : Int) := by omega
            clear hf HD6' s1 s2 s3 hp6 e6 hle HSUM HLL6 HL60 HLB HWYB HLE HD6
            subst hfd
            have HBE := Lib.hid HT7.out.bel
            go_upto_region 1 with fail
            go_quiet (fail)
            go_wp2
            go_ret
            exact ⟨by simp, below_drewN HBE.out _⟩
        · obtain ⟨g, hg⟩ : ∃ g, check N = g := ⟨_, rfl⟩
          rw [hg] at hc ⊢
          have e1 : ((g : Int) == 0) = false := beq_eq_false_iff_ne.2 (by omega)
          have HBE := Lib.hid HT4.out.bel
          clear hg
          go_wp2
          go_ret
          exact ⟨rfl, HBE.out⟩
end Go.Proofs.Ytdhlbcbgbmgcjaa.Pt

/- Layer 17 (path): a row of distances in memory, cell by cell. -/
namespace Go.Proofs.Ytdhlbcbgbmgcjaa.Pt
open Go.RowKit Rec Ints Ge Gf Pa

/-- The row of distances, cell by cell. -/
theorem far_row {N : Nt} {w : World} {B n n' s : Nat} {A : Option Addr} (h : RRow intS w B A n' (farL N s)) (hn : N.st.length = n) (h0 : 0 < n) :
    n' = n ∧ ∃ b o, A = some ⟨b, o, none⟩ ∧ ∀ v, v < n → w.cell? ⟨b, o + v, none⟩ = some (.int .i64 (fz (dis N s v))) := by
  have hl : n' = n := by have h1 := h.len; rw [far_len] at h1; omega
  subst hl
  obtain ⟨b, o, x, e, hb, hx, hc⟩ := int_at h h0
  refine ⟨rfl, b, o, e, fun v hv => ?_⟩
  obtain ⟨b2, o2, x2, e2, hb2, hx2, hc2⟩ := int_at h hv
  rw [e] at e2
  simp only [Option.some.injEq, Addr.mk.injEq, and_true] at e2
  obtain ⟨rfl, rfl⟩ := e2
  rw [far_at (by omega)] at hx2
  rw [Option.some.inj hx2]
  exact hc2
theorem far_cells {N : Nt} {w : World} {B n s b o : Nat} (h : RRow intS w B (some ⟨b, o, none⟩) n (farL N s)) (hn : N.st.length = n) {v : Nat} (hv : v < n) : w.cell? ⟨b, o + v, none⟩ = some (.int .i64 (fz (dis N s v))) := by
  obtain ⟨-, b', o', e, hc⟩ := far_row h hn (by omega)
  simp only [Option.some.injEq, Addr.mk.injEq, and_true] at e
  obtain ⟨rfl, rfl⟩ := e
  exact hc v hv

end Go.Proofs.Ytdhlbcbgbmgcjaa.Pt

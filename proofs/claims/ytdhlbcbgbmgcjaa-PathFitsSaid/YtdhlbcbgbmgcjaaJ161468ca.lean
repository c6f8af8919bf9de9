/- Lemmas that the proof stands on, in build order: PtT. -/
import Derived.Test.YtdhlbcbgbmgcjaaJ11d43469
import Derived.Test.YtdhlbcbgbmgcjaaJ1518f928
import Derived.Test.YtdhlbcbgbmgcjaaJ20d5a7c
import Derived.Test.YtdhlbcbgbmgcjaaJ774df6f
/- Layer 17 (path): PathTells' walk. -/
namespace Go.Proofs.Ytdhlbcbgbmgcjaa.Pt
open Go.RowKit Rec Ints Ge Gf Pa

structure Bt (w : World) (N : Nt) (A : Option Addr) (n c : Nat) (A' : Option Addr) (m c' : Nat) (W : Option Addr) (k : Nat) (way : List Int) (a b : Int) (wr : World) : Prop where
  bp : Bp w N A n c A' m c' W k way wr
  at_ : wr.heap[w.heap.size + 1]? = some (.cells #[.int .i64 a, .int .i64 b] 26)
theorem Bt.up {w wr w2 : World} {N : Nt} {A A' W : Option Addr} {n c m c' k : Nat} {way : List Int} {a b : Int} (h : Bt w N A n c A' m c' W k way a b wr) (hb : Below wr.heap.size wr w2) : Bt w N A n c A' m c' W k way a b w2 :=
  ⟨h.bp.up hb, (hb.block _ (Array.getElem?_eq_some_iff.1 h.at_).1).trans h.at_⟩
/-- The cells that the law reads. -/
theorem Bt.cells {w wr : World} {N : Nt} {A A' W : Option Addr} {n c m c' k : Nat} {way : List Int} {a b : Int} (h : Bt w N A n c A' m c' W k way a b wr) :
    wr.cell? ⟨w.heap.size, 0, none⟩ = some (.int .i64 N.ver) ∧ wr.cell? ⟨w.heap.size, 1, none⟩ = some (.slice A n c) ∧ wr.cell? ⟨w.heap.size, 2, none⟩ = some (.slice A' m c') ∧ wr.cell? ⟨w.heap.size + 1, 0, none⟩ = some (.int .i64 a) ∧ wr.cell? ⟨w.heap.size + 1, 1, none⟩ = some (.int .i64 b) :=
  ⟨cell_of_blk h.bp.blk rfl, cell_of_blk h.bp.blk rfl, cell_of_blk h.bp.blk rfl, cell_of_blk h.at_ rfl, cell_of_blk h.at_ rfl⟩

set_option maxHeartbeats 8000000 in
set_option maxRecDepth 100000 in
theorem tells_walk (K : Oks) (N : Nt) (A A' : Option Addr) (n c m c' : Nat) (W : Option Addr) (k d : Nat) (way : List Int) (a b : Int) (w : World) (h : NAt w w.heap.size N A n c A' m c') (hbd : Bnd N) (ha : B64 a) (hb : B64 b)
    (hw : RRow intS w w.heap.size W k way) (hd : (W = none → d = 0) ∧ k ≤ d ∧ d ≤ maxLen) (hway : ∀ x ∈ way, B64 x) :
    Calls Try.prog 3 #[.agg #[.int .i64 N.ver, .slice A n c, .slice A' m c'], .agg #[.int .i64 a, .int .i64 b], .slice W k d] w fun e w' => e = .returned (.bool true) ∧ Below w.heap.size w w' := by
  have hb1 := (Below.refl w.heap.size w).alloc (Nat.le_refl _) (.cells #[.int .i64 N.ver, .slice A n c, .slice A' m c'] 25)
  have hsz1 : (w.alloc (.cells #[.int .i64 N.ver, .slice A n c, .slice A' m c'] 25)).heap.size = w.heap.size + 1 := by simp
  have hb2 := (Below.refl (w.alloc (.cells #[.int .i64 N.ver, .slice A n c, .slice A' m c'] 25)).heap.size _).alloc (Nat.le_refl _) (.cells #[.int .i64 a, .int .i64 b] 26)
  have hbt : Bt w N A n c A' m c' W k way a b ((w.alloc (.cells #[.int .i64 N.ver, .slice A n c, .slice A' m c'] 25)).alloc (.cells #[.int .i64 a, .int .i64 b] 26)) :=
    ⟨⟨h, hw, (hb2.block _ (by omega)).trans (heap_alloc_new w _), hb1.trans (hb2.mono (by omega))⟩, by rw [← hsz1]; exact heap_alloc_new _ _⟩
  have HT := Lib.hid hbt
  have HLS : Hid (N.st.length = n) := h.st.len
  have HLL : Hid (N.lk.length = m) := h.lk.len
  have HBD := Lib.hid hbd
  have HAB := Lib.hid (And.intro ha hb)
  have HD := Lib.hid hd
  have HWY := Lib.hid hway
  clear hb1 hsz1 hb2 hbt h hbd ha hb hw hd hway
  go_enter Try.func3, Try.ntmps3
  go_wp2_with fail
  generalize (w.alloc (.cells #[.int .i64 N.ver, .slice A n c, .slice A' m c'] 25)).alloc (.cells #[.int .i64 a, .int .i64 b] 26) = w1 at *
  refine (awake_any K w1).mono ?_
  rintro e2 w2 ⟨rfl, hb2⟩
  have HT2 := Lib.hid (HT.out.up hb2)
  clear HT hb2
  obtain ⟨z0, z1, z2, z3, z4⟩ := HT2.out.cells
  go_wp2_with fail
  refine (few_any N A A' n c m c' w2 HT2.out.bp.at).mono ?_
  rintro e3 w3 ⟨rfl, hb3⟩
  have HT3 := Lib.hid (HT2.out.up hb3)
  clear HT2 hb3 z0 z1 z2 z3 z4
  cases hfew : (decide (n ≤ 60) && decide (m ≤ 120)) with
  | false =>
    have HBE := Lib.hid HT3.out.bp.bel
    go_wp2
    go_ret
    exact ⟨rfl, HBE.out⟩
  | true =>
    simp only [Bool.and_eq_true, decide_eq_true_eq] at hfew
    by_cases hk : 50 < k
    · have d1 : decide ((50 : Int) < (k : Int)) = true := decide_eq_true (by omega)
      have HBE := Lib.hid HT3.out.bp.bel
      go_wp2
      go_ret
      exact ⟨rfl, HBE.out⟩
    · have d1 : decide ((50 : Int) < (k : Int)) = false := decide_eq_false (by omega)
      obtain ⟨z0, z1, z2, z3, z4⟩ := HT3.out.cells
      go_wp2_with fail
      refine (K.from_ N A A' n c m c' a w3 HT3.out.bp.at HBD.out (by omega) (by omega) HAB.out.1).mono ?_
      rintro e4 w4 ⟨v4, rfl, A4, n4, c4, rfl, hr4, -, -, -, hb4⟩
      have HT4 := Lib.hid (HT3.out.up hb4)
      have HR4 := Lib.hid hr4
      clear HT3 hb4 hr4 z0 z1 z2 z3 z4
      obtain ⟨z0, z1, z2, z3, z4⟩ := HT4.out.cells
      go_wp2_with fail
      refine (K.way N A A' n c m c' a b w4 HT4.out.bp.at HBD.out (by omega) (by omega) HAB.out.1 HAB.out.2).mono ?_
      rintro e5 w5 ⟨v5, L5, d5, rfl, ⟨A5, n5, c5, rfl, hr5, -, -, -, hb5⟩, hwi⟩
      have HT5 := Lib.hid (HT4.out.up hb5)
      have HR45 := Lib.hid ((HR4.out.below hb5).more hb5.size)
      have HR5 := Lib.hid hr5
      have HWI := Lib.hid hwi
      clear HT4 hb5 hr5 HR4 hwi z0 z1 z2 z3 z4
      obtain ⟨z0, z1, z2, z3, z4⟩ := HT5.out.cells
      go_wp2_with fail
      refine (refcheck_any N A A' n c m c' w5 HT5.out.bp.at (by omega) (by omega)).mono ?_
      rintro e6 w6 ⟨rfl, hb6⟩
      have HT6 := Lib.hid (HT5.out.up hb6)
      have HR46 := Lib.hid ((HR45.out.below hb6).more hb6.size)
      have HR56 := Lib.hid ((HR5.out.below hb6).more hb6.size)
      clear HT5 hb6 HR45 HR5 z0 z1 z2 z3 z4
      obtain ⟨z0, z1, z2, z3, z4⟩ := HT6.out.cells
      by_cases hc : check N = 0
      · have hc0 : ((check N : Nat) : Int) = 0 := by rw [hc]; rfl
        have HC := Lib.hid hc
        rw [hc0]
        clear hc0 hc
        go_wp2_with fail
        refine (K.weight N A A' n c m c' W k d way w6 HT6.out.bp.at HBD.out HC.out HT6.out.bp.rw HD.out.1 HD.out.2.1 HD.out.2.2 (by omega) HWY.out).mono ?_
        rintro e7 w7 ⟨rfl, hb7⟩
        have HT7 := Lib.hid (HT6.out.up hb7)
        have HR47 := Lib.hid ((HR46.out.below hb7).more hb7.size)
        have HR57 := Lib.hid ((HR56.out.below hb7).more hb7.size)
        clear HT6 hb7 HR46 HR56 z0 z1 z2 z3 z4
        obtain ⟨z0, z1, z2, z3, z4⟩ := HT7.out.cells
        go_wp2_with fail
        refine (refwy_any N A A' n c m c' W k d way w7 HT7.out.bp.at HC.out HT7.out.bp.rw (by omega)).mono ?_
        rintro e8 w8 ⟨rfl, hb8⟩
        have HT8 := Lib.hid (HT7.out.up hb8)
        have HR48 := Lib.hid ((HR47.out.below hb8).more hb8.size)
        have HR58 := Lib.hid ((HR57.out.below hb8).more hb8.size)
        clear HT7 hb8 HR47 HR57 z0 z1 z2 z3 z4
        obtain ⟨x, hx⟩ : ∃ x, (wyT N way).1 = x := ⟨_, rfl⟩
        obtain ⟨y, hy⟩ : ∃ y, (wyT N way).2 = y := ⟨_, rfl⟩
        rw [hx, hy]
        clear hx hy
        have ex : (x == x) = true := beq_self_eq_true x
        have ey : (y == y) = true := beq_self_eq_true y
        obtain ⟨z0, z1, z2, z3, z4⟩ := HT8.out.cells
        by_cases ha1 : a < 0
        · have d1 : decide (a < 0) = true := decide_eq_true ha1
          have HBE := Lib.hid HT8.out.bp.bel
          obtain ⟨q1, q2, q3⟩ := from_bad HC.out (a := a) (by rw [HLS.out]; omega)
          obtain ⟨q4, q5⟩ := q3 b
          have hL5 := (HWI.out.1 q5).1
          have hn4 : n4 = 0 := by have h1 := HR48.out.len; rw [q2] at h1; exact h1.symm
          have hn5 : n5 = 0 := by have h1 := HR58.out.len; rw [hL5] at h1; exact h1.symm
          rw [q1, q4]
          clear q1 q2 q3 q4 q5
          subst hn4
          subst hn5
          go_wp2
          go_ret
          exact ⟨by simp, HBE.out⟩
        · have d2 : decide (a < 0) = false := decide_eq_false ha1
          by_cases ha2 : (n : Int) ≤ a
          · have d3 : decide ((n : Int) ≤ a) = true := decide_eq_true ha2
            have HBE := Lib.hid HT8.out.bp.bel
            obtain ⟨q1, q2, q3⟩ := from_bad HC.out (a := a) (by rw [HLS.out]; omega)
            obtain ⟨q4, q5⟩ := q3 b
            have hL5 := (HWI.out.1 q5).1
            have hn4 : n4 = 0 := by have h1 := HR48.out.len; rw [q2] at h1; exact h1.symm
            have hn5 : n5 = 0 := by have h1 := HR58.out.len; rw [hL5] at h1; exact h1.symm
            rw [q1, q4]
            clear q1 q2 q3 q4 q5
            subst hn4
            subst hn5
            go_wp2
            go_ret
            exact ⟨by simp, HBE.out⟩
          · have d3 : decide ((n : Int) ≤ a) = false := decide_eq_false ha2
            have hga : ¬ (a < 0 ∨ (N.st.length : Int) ≤ a) := by rw [HLS.out]; omega
            have HGA := Lib.hid hga
            obtain ⟨q1, q2⟩ := from_good HC.out hga
            have hsn : a.toNat < n := by omega
            rw [q1]
            rw [q2] at HR48
            have hfr := reffrom_any N A A' n c m c' a.toNat w8 HT8.out.bp.at HC.out hsn
            rw [Int.toNat_of_nonneg (by omega)] at hfr
            have HSN := Lib.hid hsn
            clear q1 q2 hga hsn
            go_wp2_with fail
            refine hfr.mono ?_
            rintro e9 w9 ⟨v9, rfl, A9, n9, c9, rfl, hr9, -, -, -, hb9⟩
            have HT9 := Lib.hid (HT8.out.up hb9)
            have HR49 := Lib.hid ((HR48.out.below hb9).more hb9.size)
            have HR59 := Lib.hid ((HR58.out.below hb9).more hb9.size)
            have HR9 := Lib.hid hr9
            clear HT8 hb9 HR48 HR58 z0 z1 z2 z3 z4 hr9 hfr
            have hn4 : n4 = n := by have h1 := HR49.out.len; rw [far_len] at h1; have := HLS.out; omega
            have hn9 : n9 = n := by have h1 := HR9.out.len; rw [far_len] at h1; have := HLS.out; omega
            subst hn4
            subst hn9
            go_wp2_with fail
            refine (isame_any A4 A9 _ _ c4 c9 _ _ (farL N a.toNat) (farL N a.toNat) w9 (by omega) HR49.out HR9.out).mono ?_
            rw [show decide (farL N a.toNat = farL N a.toNat) = true from decide_eq_true rfl]
            rintro e10 w10 ⟨rfl, p10, hp10⟩
            have hb10 : Below w9.heap.size w9 w10 := by rw [hp10]; exact below_drewN (Below.refl _ _) p10
            clear hp10
            have HT10 := Lib.hid (HT9.out.up hb10)
            have HR510 := Lib.hid ((HR59.out.below hb10).more hb10.size)
            have HR910 := Lib.hid ((HR9.out.below hb10).more hb10.size)
            clear HT9 hb10 HR49 HR59 HR9
            obtain ⟨z0, z1, z2, z3, z4⟩ := HT10.out.cells
            by_cases hb1 : b < 0
            · have d4 : decide (b < 0) = true := decide_eq_true hb1
              have HBE := Lib.hid HT10.out.bp.bel
              obtain ⟨q4, q5⟩ := way_bad HC.out (a := a) (b := b) (Or.inl hb1)
              have hL5 := HWI.out.1 q5
              have hn5 : n5 = 0 := by have h1 := HR510.out.len; rw [hL5.1] at h1; exact h1.symm
              have hd5 := hL5.2
              rw [q4]
              clear q4 q5 hL5
              subst hn5
              subst hd5
              go_wp2
              go_ret
              exact ⟨by simp, HBE.out⟩
            · have d4 : decide (b < 0) = false := decide_eq_false hb1
              by_cases hb2 : (n9 : Int) ≤ b
              · have d5' : decide ((n9 : Int) ≤ b) = true := decide_eq_true hb2
                have HBE := Lib.hid HT10.out.bp.bel
                obtain ⟨q4, q5⟩ := way_bad HC.out (a := a) (b := b) (Or.inr (by rw [HLS.out]; exact hb2))
                have hL5 := HWI.out.1 q5
                have hn5 : n5 = 0 := by have h1 := HR510.out.len; rw [hL5.1] at h1; exact h1.symm
                have hd5 := hL5.2
                rw [q4]
                clear q4 q5 hL5
                subst hn5
                subst hd5
                go_wp2
                go_ret
                exact ⟨by simp, HBE.out⟩
              · have d5' : decide ((n9 : Int) ≤ b) = false := decide_eq_false hb2
                have hgb : ¬ (b < 0 ∨ (N.st.length : Int) ≤ b) := by rw [HLS.out]; omega
                have HGB := Lib.hid hgb
                clear hgb
                have htn : b.toNat < n9 := by omega
                have htl : b.toNat < N.st.length := by rw [HLS.out]; exact htn
                obtain ⟨b9, o9, x9, rfl, hl9, hx9, hc9⟩ := int_at HR910.out htn
                have hc9' : w10.cell? ⟨b9, o9 + b.toNat * 1, none⟩ = some (.int .i64 x9) := by rw [Nat.mul_one]; exact hc9
                rw [far_at htl] at hx9
                have hxe : fz (dis N a.toNat b.toNat) = x9 := Option.some.inj hx9
                have HXE := Lib.hid hxe
                clear hx9 hxe htl
                by_cases hdn : dis N a.toNat b.toNat = none
                · have hx1 : x9 = -1 := by rw [← HXE.out, hdn]; rfl
                  have d6 : decide (x9 < 0) = true := decide_eq_true (by omega)
                  clear hx1
                  have HBE := Lib.hid HT10.out.bp.bel
                  obtain ⟨q4, q5⟩ := way_none HC.out HGA.out HGB.out hdn
                  have hL5 := HWI.out.1 q5
                  have hn5 : n5 = 0 := by have h1 := HR510.out.len; rw [hL5.1] at h1; exact h1.symm
                  have hd5 := hL5.2
                  rw [q4]
                  clear q4 q5 hL5
                  subst hn5
                  subst hd5
                  go_wp2
                  go_ret
                  exact ⟨by simp, HBE.out⟩
                · have hx0 : 0 ≤ x9 := by rw [← HXE.out]; exact fz_some.2 hdn
                  have d6 : decide (x9 < 0) = false := decide_eq_false (by omega)
                  obtain ⟨q4, q5⟩ := way_ok HC.out HGA.out HGB.out hdn
                  obtain ⟨hbw, hd5⟩ := HWI.out.2 q5
                  have HBW := Lib.hid hbw
                  have hd59 : d5 = x9 := hd5.trans HXE.out
                  have e59 : (x9 == x9) = true := beq_self_eq_true x9
                  rw [q4]
                  clear q4 q5 hbw hd5
                  subst hd59
                  have hwy := refway_any N A A' n9 c m c' a.toNat b.toNat w10 HT10.out.bp.at HC.out HSN.out htn (fz_some.2 hdn) (fun v => dis_le (valid_of HC.out) a.toNat v)
                  rw [Int.toNat_of_nonneg (by omega), Int.toNat_of_nonneg (by omega)] at hwy
                  go_wp2_with fail
                  refine hwy.mono ?_
                  rintro e11 w11 ⟨v11, L11, rfl, ⟨A11, n11, c11, rfl, hr11, -, -, -, hb11⟩, hbw11⟩
                  obtain rfl := hbw11.one HBW.out
                  have HT11 := Lib.hid (HT10.out.up hb11)
                  have HR511 := Lib.hid ((HR510.out.below hb11).more hb11.size)
                  have HR911 := Lib.hid ((HR910.out.below hb11).more hb11.size)
                  have HR11 := Lib.hid hr11
                  have hn5 : n5 = n11 := by have h1 := HR511.out.len; have h2 := HR11.out.len; omega
                  have hl5 : n11 ≤ 4398046511104 := by
                    have h1 := HBW.out.len (by rw [HLS.out]; exact HSN.out) (by rw [HLS.out]; exact htn)
                    have h2 := HR11.out.len
                    rw [nums_len] at h2
                    have := HLS.out
                    omega
                  subst hn5
                  clear HT10 hb11 HR510 HR910 z0 z1 z2 z3 z4 hr11 hwy hbw11 hc9 hc9'
                  go_wp2_with fail
                  refine (isame_any A5 A11 _ _ c5 c11 _ _ _ _ w11 hl5 HR511.out HR11.out).mono ?_
                  rintro e12 w12 ⟨rfl, p12, hp12⟩
                  rw [show ∀ l : List Int, decide (l = l) = true from fun l => decide_eq_true rfl]
                  have hb12 : Below w11.heap.size w11 w12 := by rw [hp12]; exact below_drewN (Below.refl _ _) p12
                  clear hp12
                  have HT12 := Lib.hid (HT11.out.up hb12)
                  have HR912 := Lib.hid ((HR911.out.below hb12).more hb12.size)
                  clear HT11 hb12 HR511 HR911 HR11
                  obtain ⟨z0, z1, z2, z3, z4⟩ := HT12.out.cells
                  obtain ⟨b8, o8, x8, he8, hl8, hx8, hc8⟩ := int_at HR912.out htn
                  simp only [Option.some.injEq, Addr.mk.injEq] at he8
                  rw [← he8.1, ← he8.2.1] at hc8
                  rw [far_at (by rw [HLS.out]; exact htn)] at hx8
                  have hx8' : x8 = d5 := (Option.some.inj hx8).symm.trans HXE.out
                  rw [hx8'] at hc8
                  clear he8 hx8 hx8'
                  have HBE := Lib.hid HT12.out.bp.bel
                  go_wp2
                  go_ret
                  exact ⟨by simp, HBE.out⟩
      · obtain ⟨g, hg⟩ : ∃ g, check N = g := ⟨_, rfl⟩
        have hfe : fromE N a = g := by unfold fromE; rw [if_pos hc]; exact hg
        have hwe : wayE N a b = g := by unfold wayE; rw [if_pos hc]; exact hg
        have hfl : fromL N a = [] := by unfold fromL; rw [if_neg]; rw [hfe, ← hg]; exact hc
        have hL5 := (HWI.out.1 (by rw [hwe, ← hg]; exact hc)).1
        have hn4 : n4 = 0 := by have h1 := HR46.out.len; rw [hfl] at h1; exact h1.symm
        have hn5 : n5 = 0 := by have h1 := HR56.out.len; rw [hL5] at h1; exact h1.symm
        rw [hfe, hwe, hg]
        have e1 : ((g : Int) == 0) = false := beq_eq_false_iff_ne.2 (by omega)
        have HBE := Lib.hid HT6.out.bp.bel
        subst hn4
        subst hn5
        go_wp2
        go_ret
        exact ⟨by simp, HBE.out⟩
end Go.Proofs.Ytdhlbcbgbmgcjaa.Pt

/- Lemmas that the proof stands on, in build order: PdB ScopeBack PdR. -/
import Derived.ScopeJumps
import Derived.WalkKit
import Derived.Test.YtdhlbcbgbmgcjaaJ3573d87c
import Derived.Test.YtdhlbcbgbmgcjaaJ774df6f
/- Layer 17 (path), the landed program: the stop before one, as a contract. -/
namespace Go.Proofs.Ytdhlbcbgbmgcjaa.Pt
open Go.RowKit Rec Ints Ge Gf Pa

theorem far_gx {N : Nt} {s v : Nat} (hv : v < N.st.length) : gx (farL N s) v = fz (dis N s v) := by
  have h1 := far_at (N := N) (s := s) hv
  rw [gx_at (by rw [far_len]; exact hv)] at h1
  injection h1
/-- A link fits. -/
theorem fits_iff {N : Nt} (hN : Valid N) {s v b w : Nat} (hd : 0 ≤ fz (dis N s v)) (he : E (nlk N.lk) v b w) : Fits N (dis N s) v b ↔ fz (dis N s b) + (w : Int) = fz (dis N s v) := by
  obtain ⟨hw, h0⟩ := (e_wt hN).1 he
  obtain ⟨m, hm⟩ : ∃ m, dis N s v = some m := by
    cases e : dis N s v with
    | none => rw [e] at hd; simp [fz] at hd
    | some m => exact ⟨m, rfl⟩
  obtain ⟨m', e', -⟩ := (dis_is hN s).step he hm
  unfold Fits
  rw [hw, e']
  constructor
  · exact fun h => h.2.2
  · exact fun h => ⟨by omega, by simp [fz], h⟩
theorem fits_in {N : Nt} (hN : Valid N) {s v b : Nat} (h : Fits N (dis N s) v b) : ∃ w : Nat, ((v : Int), (b : Int), (w : Int)) ∈ pick (v : Int) N.lk := by
  refine ⟨(wt N.lk (v : Int) (b : Int)).toNat, pick_has hN ((e_wt hN).2 ⟨?_, ?_⟩)⟩ <;> have := h.1 <;> omega
/-- The first that fits is the least one. -/
theorem first_fits {N : Nt} (hN : Valid N) {s v b w j : Nat} (hd : 0 ≤ fz (dis N s v)) (hj : (pick (v : Int) N.lk)[j]? = some ((v : Int), (b : Int), (w : Int))) (hbn : b < N.st.length) (he : E (nlk N.lk) v b w)
    (hf : fz (dis N s b) + (w : Int) = fz (dis N s v)) (hno : ∀ i, i < j → ∀ b' w' : Nat, (pick (v : Int) N.lk)[i]? = some ((v : Int), (b' : Int), (w' : Int)) → ¬ Fits N (dis N s) v b') : Nxt N (dis N s) v b := by
  refine ⟨hbn, (fits_iff hN hd he).2 hf, fun i hi hfi => ?_⟩
  obtain ⟨w', hm⟩ := fits_in hN hfi
  obtain ⟨q, hq, hqe⟩ := List.getElem_of_mem hm
  have hp := pick_pair (s := (v : Int)) (L := N.lk) (fun l hl => (link_at hN hl).2.1) (lks_pair hN.lk)
  obtain ⟨hjl, hje⟩ := List.getElem?_eq_some_iff.1 hj
  have hqj : q < j := by
    rcases Nat.lt_trichotomy q j with h1 | h1 | h1
    · exact h1
    · subst h1
      rw [hqe] at hje
      have := (Prod.mk.inj (Prod.mk.inj hje).2).1
      omega
    · have := List.pairwise_iff_getElem.1 hp j q hjl hq h1
      rw [hje, hqe] at this
      simp only at this
      omega
  exact hno q hqj i w' (by rw [List.getElem?_eq_getElem hq, hqe]) hfi
set_option maxHeartbeats 1600000 in
set_option maxRecDepth 100000 in
theorem before_any (N : Nt) (hN : Valid N) (s v n c g ln cl : Nat) (A : Option Addr) (base : Nat) (w : World) (hn : N.st.length = n) (hv : v < n) (hd : 0 ≤ fz (dis N s v)) (hne : v ≠ s) (hr : RRow lkS w w.heap.size A ln (pick (v : Int) N.lk)) (hH : Hold intS w base 3 g c (farL N s)) :
    Calls Try.prog 30 #[.slice A ln cl, .slice (some ⟨g, 0, none⟩) n c] w fun e w' => ∃ u : Nat, e = .returned (.int .i64 (u : Int)) ∧ Nxt N (dis N s) v u ∧ Below w.heap.size w w' := by
  have HV := Lib.hid hN
  have HLS := Lib.hid hn
  have HD := Lib.hid hd
  have HNE := Lib.hid (nxt_ex hN hne hd)
  have HR := Lib.hid hr
  have HH := Lib.hid hH
  have hln : (pick (v : Int) N.lk).length = ln := hr.len
  have HLN := Lib.hid hln
  have hfit := ofs_fit hN (v := v) (by rw [hn]; exact hv)
  have hm9 := hN.nl
  have hl9 : ln ≤ 32768 := by have h1 : deg N v = ln := hln; omega
  have hfl := far_len N s
  have HB0 : Hid (Below w.heap.size w w) := Below.refl _ _
  clear hN hn hd hr hH hln hfit hm9 hfl
  go_enter Try.func30, Try.ntmps30
  go_wp2
  go_loopw [6, 9] (fun _ i wr => ∃ j : Nat, i = .int .i64 (j : Int) ∧ j ≤ ln ∧ Hid (Below w.heap.size w wr) ∧ Hid (∀ i, i < j → ∀ b' w' : Nat, (pick (v : Int) N.lk)[i]? = some ((v : Int), (b' : Int), (w' : Int)) → ¬ Fits N (dis N s) v b')) (fun _ i _ => ln - (intOf i).toNat)
  case atStart => exact ⟨0, rfl, Nat.zero_le _, HB0, fun i hi => absurd hi (Nat.not_lt_zero _)⟩
  case round =>
    clear HB0
    obtain ⟨j, rfl, hj, HB, HNO⟩ := hrel
    by_cases hlt : j < ln
    · obtain ⟨bb, o, l, rfl, -, hl, c0, c1, c2⟩ := lk_at (HR.out.below HB.out) hlt
      obtain ⟨b, lw, rfl, hbn, hw1, hw2, he⟩ := pick_of HV.out (List.mem_of_getElem? hl)
      simp only at c0 c1 c2
      have HBN := Lib.hid hbn
      rw [HLS.out] at hbn
      have HL := Lib.hid hl
      have HE := Lib.hid he
      have a3 : (0 : Int) ≤ (j : Int) := by omega
      have a4 : (j : Int) < (ln : Int) := by omega
      have qj : IntKind.i64.wrap ((j : Int) + 1) = (j : Int) + 1 := IntWalk.i64_in _ ⟨by omega, by omega⟩
      clear hl he
      go_upto_region 4 with fail
      clear c0 c1 c2
      have hb1 := (Below.refl wr.heap.size wr).alloc (Nat.le_refl _) (.cells #[.int .i64 (v : Int), .int .i64 (b : Int), .int .i64 (lw : Int)] 45)
      have HX1 := Lib.hid (heap_alloc_new wr (.cells #[.int .i64 (v : Int), .int .i64 (b : Int), .int .i64 (lw : Int)] 45))
      have HB1 := Lib.hid (HB.out.trans (hb1.mono HB.out.size))
      obtain ⟨q, hq⟩ : ∃ q, wr.heap.size = q := ⟨_, rfl⟩
      rw [hq] at HX1
      try rw [hq]
      generalize wr.alloc (.cells #[.int .i64 (v : Int), .int .i64 (b : Int), .int .i64 (lw : Int)] 45) = w1 at *
      clear hb1 hq HB
      clear wr
      have d0 := cell_of_blk (j := 0) HX1.out rfl
      have d1 := cell_of_blk (j := 1) HX1.out rfl
      have d2 := cell_of_blk (j := 2) HX1.out rfl
      obtain ⟨x, hx⟩ : ∃ x, fz (dis N s b) = x := ⟨_, rfl⟩
      obtain ⟨y, hy⟩ : ∃ y, fz (dis N s v) = y := ⟨_, rfl⟩
      have cb : w1.cell? ⟨g, b, none⟩ = some (.int .i64 x) := by
        rw [← hx, ← far_gx HBN.out]
        exact hold_x (HH.out.below HB1.out) (gx_at (by rw [far_len]; exact HBN.out))
      have cv : w1.cell? ⟨g, v, none⟩ = some (.int .i64 y) := by
        rw [← hy, ← far_gx (by rw [HLS.out]; exact hv)]
        exact hold_x (HH.out.below HB1.out) (gx_at (by rw [far_len, HLS.out]; exact hv))
      have hxl : -1 ≤ x ∧ x ≤ 4611686018427387904 := by
        rw [← hx]
        refine ⟨?_, dis_le HV.out s b⟩
        cases dis N s b <;> simp [fz] <;> omega
      have HXL := Lib.hid hxl
      have qx : IntKind.i64.wrap (x + (lw : Int)) = x + (lw : Int) := IntWalk.i64_in _ ⟨by omega, by omega⟩
      have HXY : Hid (fz (dis N s b) = x ∧ fz (dis N s v) = y) := ⟨hx, hy⟩
      have a1 : (0 : Int) ≤ (v : Int) := by omega
      have a2 : (v : Int) < (n : Int) := by omega
      have a5 : (0 : Int) ≤ (b : Int) := by omega
      have a6 : (b : Int) < (n : Int) := by omega
      clear hx hy hxl
      cases hc : (x + (lw : Int) == y) with
      | true =>
        have HF : Hid (Nxt N (dis N s) v b) := first_fits HV.out HD.out HL.out HBN.out HE.out (by rw [HXY.out.1, HXY.out.2]; exact beq_iff_eq.1 hc) HNO.out
        go_quiet (fail)
        have HB2 := Lib.hid (below_drewN HB1.out nq)
        have HX2 : Hid ((w1.drewN nq).heap[q]? = some (.cells #[.int .i64 (v : Int), .int .i64 (b : Int), .int .i64 (lw : Int)] 45 (0, 0))) := HX1.out
        clear d0 d1 d2 cb cv HX1 HB1
        generalize w1.drewN nq = w2 at *
        have d1 := cell_of_blk (j := 1) HX2.out rfl
        go_wp2
        go_ret
        exact ⟨b, rfl, HF.out, HB2.out⟩
      | false =>
        have HN2 : Hid (∀ i, i < j + 1 → ∀ b' w' : Nat, (pick (v : Int) N.lk)[i]? = some ((v : Int), (b' : Int), (w' : Int)) → ¬ Fits N (dis N s) v b') := fun i hi b' w' hb' hfb => by
          rcases Nat.lt_or_ge i j with h1 | h1
          · exact HNO.out i h1 b' w' hb' hfb
          · obtain rfl : i = j := by omega
            rw [HL.out] at hb'
            injection hb' with hb'
            have e1 := (Prod.mk.inj (Prod.mk.inj hb').2).1
            obtain rfl : b' = b := by omega
            have := (fits_iff HV.out HD.out HE.out).1 hfb
            rw [HXY.out.1, HXY.out.2] at this
            exact absurd this (beq_eq_false_iff_ne.1 hc)
        go_quiet (fail)
        have HB2 := Lib.hid (below_drewN HB1.out nq)
        clear d0 d1 d2 cb cv HX1 HB1
        generalize w1.drewN nq = w2 at *
        go_wp2
        go_roundw
        case rel => exact ⟨j + 1, by go_num, by omega, HB2, HN2⟩
        case measure => simp [intOf]; omega
    · exfalso
      obtain ⟨u, hu⟩ := HNE.out
      obtain ⟨lw, hm⟩ := fits_in HV.out hu.2.1
      obtain ⟨i, hi, hie⟩ := List.getElem_of_mem hm
      exact HNO.out i (by have := HLN.out; omega) u lw (by rw [List.getElem?_eq_getElem hi, hie]) hu.2.1
end Go.Proofs.Ytdhlbcbgbmgcjaa.Pt

/- Over any program: a scope whose one label is jumped back to. -/
namespace Go.Proofs.Ytdhlbcbgbmgcjaa
open Go.RowKit

/-- A scope whose one label is jumped back to: what holds at the label, at the first time and at every jump; a measure that each pass lowers. -/
theorem scope_back {P : Program} {a : Act} {w : World} {Q : Exit → Act → World → Prop} {c rest : Code} (l : Nat) (J : Act → World → Prop) (μ : Act → World → Nat) (hf : findLabel c l = some (.seq .skip rest))
    (first : ∀ Q' : Exit → Act → World → Prop, (∀ a w, J a w → rest.wp P Q' a w) → c.wp P Q' a w)
    (pass : ∀ a w, J a w → rest.wp P (Exit.jump l (fun a' w' => J a' w' ∧ μ a' w' < μ a w) Q) a w) : (Code.scope c).wp P Q a w := by
  refine wp_scope_jumps l J μ hf (first _ fun a w hJ => wp_mono (pass a w hJ) ?_) (fun a w hJ => wp_seq (wp_skip (pass a w hJ)))
  intro e a' w' h
  cases e <;> first | exact ⟨h.1, h.2.1⟩ | exact h

end Go.Proofs.Ytdhlbcbgbmgcjaa

/- Layer 17 (path), the landed program: slices.Reverse of ints; back, as a contract. -/
namespace Go.Proofs.Ytdhlbcbgbmgcjaa.Pt
open Go.RowKit Rec Ints Ge Gf Pa

/-- Turned round from both ends, k of them. -/
def RevP (L X : List Int) (k : Nat) : Prop := X.length = L.length ∧ ∀ i, i < L.length → gx X i = if i < k ∨ L.length ≤ i + k then gx L (L.length - 1 - i) else gx L i
theorem RevP.start (L : List Int) : RevP L L 0 := ⟨rfl, fun i hi => by rw [if_neg (by omega)]⟩
theorem RevP.step {L X : List Int} {k m : Nat} (h : RevP L X k) (hm : L.length = m + k + 1) (hk : k < m) : RevP L ((X.set k (gx L m)).set m (gx L k)) (k + 1) ∧ gx X m = gx L m ∧ gx X k = gx L k := by
  obtain ⟨h1, h2⟩ := h
  refine ⟨⟨by rw [List.length_set, List.length_set, h1], fun i hi => ?_⟩, ?_, ?_⟩
  · rw [gx_set (by rw [List.length_set]; omega)]
    by_cases e1 : i = m
    · subst e1
      rw [if_pos rfl, if_pos (by omega)]
      congr 1
      omega
    · rw [if_neg e1, gx_set (by omega)]
      by_cases e2 : i = k
      · subst e2
        rw [if_pos rfl, if_pos (by omega)]
        congr 1
        omega
      · rw [if_neg e2, h2 i hi]
        by_cases e3 : i < k ∨ L.length ≤ i + k
        · rw [if_pos e3, if_pos (by omega)]
        · rw [if_neg e3, if_neg (by omega)]
  · rw [h2 m (by omega), if_neg (by omega)]
  · rw [h2 k (by omega), if_neg (by omega)]
theorem RevP.done {L X : List Int} {k : Nat} (h : RevP L X k) (hk : L.length ≤ 2 * k + 1) : X = L.reverse := by
  obtain ⟨h1, h2⟩ := h
  apply List.ext_getElem?
  intro i
  by_cases hi : i < L.length
  · rw [gx_at (by omega), h2 i hi, List.getElem?_reverse hi, gx_at (by omega)]
    by_cases e : i < k ∨ L.length ≤ i + k
    · rw [if_pos e]
    · rw [if_neg e, show L.length - 1 - i = i by omega]
  · rw [List.getElem?_eq_none (by omega), List.getElem?_eq_none (by rw [List.length_reverse]; omega)]
set_option maxHeartbeats 1600000 in
set_option maxRecDepth 100000 in
theorem reverse_any (g c n c' base : Nat) (L : List Int) (w : World) (hH : Hold intS w base 3 g c L) (hl : L.length = n) (hn : n ≤ 1048576) :
    Calls Try.prog 31 #[.slice (some ⟨g, 0, none⟩) n c'] w fun e w' => e = .returned (.tuple #[]) ∧ Hold intS w' base 3 g c L.reverse ∧ Only (fun k => k = g) w w' := by
  have HH := Lib.hid hH
  have HL := Lib.hid hl
  have HP0 : Hid (RevP L L 0) := RevP.start L
  have qn : IntKind.i64.wrap ((n : Int) - 1) = (n : Int) - 1 := IntWalk.i64_in _ ⟨by omega, by omega⟩
  clear hH hl
  go_enter Try.func31, Try.ntmps31
  go_wp2
  go_loopw [2, 3] (fun i j wr => ∃ (k : Nat) (z : Int) (X : List Int), i = .int .i64 (k : Int) ∧ j = .int .i64 z ∧ z = (n : Int) - 1 - (k : Int) ∧ 2 * k ≤ n ∧ Hid (Hold intS wr base 3 g c X) ∧ Hid (RevP L X k) ∧ Hid (Only (fun k => k = g) w wr)) (fun i _ _ => n - (intOf i).toNat)
  case atStart => exact ⟨0, (n : Int) - 1, L, rfl, rfl, by simp, by omega, HH, HP0, Only.refl _ _⟩
  case round =>
    clear HH HP0
    obtain ⟨k, z, X, rfl, rfl, hz, hk, HX, HP, HO⟩ := hrel
    by_cases hlt : (k : Int) < z
    · obtain ⟨m, hm⟩ : ∃ m : Nat, z = (m : Int) := ⟨z.toNat, by omega⟩
      subst hm
      have hmn : n = m + k + 1 := by omega
      have hkm : k < m := by omega
      have HMN := Lib.hid hmn
      obtain ⟨hst, g1, g2⟩ := HP.out.step (m := m) (by rw [HL.out]; exact hmn) hkm
      have hxl : X.length = n := by rw [HP.out.1, HL.out]
      have x0 := hold_x HX.out (gx_at (v := k) (by omega))
      have x1 := hold_x HX.out (gx_at (v := m) (by omega))
      rw [g1] at x1
      rw [g2] at x0
      have hs1 := hold_y HX.out (k := k) (gx L m) (by omega)
      have y1 : (wr.setCell ⟨g, k, none⟩ (.int .i64 (gx L m))).cell? ⟨g, m, none⟩ = some (.int .i64 (gx L m)) := by
        refine hold_x hs1 ?_
        rw [gx_at (by rw [List.length_set]; omega), gx_set (by omega), if_neg (by omega), g1]
      have k1 := hs1.free m
      have f0 : wr.frozen? ⟨g, k, none⟩ = false := HX.out.free _
      have f1 : wr.frozen? ⟨g, m, none⟩ = false := HX.out.free _
      have hs2 := hold_y hs1 (k := m) (gx L k) (by rw [List.length_set]; omega)
      have hoT : Only (fun k => k = g) w ((wr.setCell ⟨g, k, none⟩ (.int .i64 (gx L m))).setCell ⟨g, m, none⟩ (.int .i64 (gx L k))) := (HO.out.trans (Only.setCell wr ⟨g, k, none⟩ (.int .i64 (gx L m))) (fun _ _ h => h)).trans (Only.setCell _ ⟨g, m, none⟩ (.int .i64 (gx L k))) (fun _ _ h => h)
      have HS2 := Lib.hid (And.intro hs2 (And.intro hst hoT))
      obtain ⟨a, ha⟩ : ∃ a, gx L m = a := ⟨_, rfl⟩
      obtain ⟨b, hb⟩ : ∃ b, gx L k = b := ⟨_, rfl⟩
      rw [ha] at x1 y1 k1 HS2
      rw [hb] at x0 HS2
      have a1 : (0 : Int) ≤ (k : Int) := by omega
      have a2 : (k : Int) < (n : Int) := by omega
      have a3 : (0 : Int) ≤ (m : Int) := by omega
      have a4 : (m : Int) < (n : Int) := by omega
      have qk : IntKind.i64.wrap ((k : Int) + 1) = (k : Int) + 1 := IntWalk.i64_in _ ⟨by omega, by omega⟩
      have qm : IntKind.i64.wrap ((m : Int) - 1) = (m : Int) - 1 := IntWalk.i64_in _ ⟨by omega, by omega⟩
      clear hst g1 g2 hxl hs1 hs2 hoT ha hb HX HP HO hz hmn
      go_wp2
      go_region
      all_goals go_wp2
      all_goals go_roundw
      case rel => exact ⟨k + 1, (m : Int) - 1, _, by go_num, rfl, by have := HMN.out; push_cast; omega, by have := HMN.out; omega, HS2.out.1.below (Below.refl _ _).drew, HS2.out.2.1, HS2.out.2.2.trans (Only.of_below (Below.refl _ _).drew) (fun _ _ h => h)⟩
      case measure => have := HMN.out; simp [intOf]; omega
    · have e1 : decide ((k : Int) < z) = false := decide_eq_false hlt
      have HF : Hid (X = L.reverse) := HP.out.done (by rw [HL.out]; omega)
      go_wp2
      go_end0
      exact ⟨rfl, by rw [← HF.out]; exact HX.out, HO.out⟩
end Go.Proofs.Ytdhlbcbgbmgcjaa.Pt

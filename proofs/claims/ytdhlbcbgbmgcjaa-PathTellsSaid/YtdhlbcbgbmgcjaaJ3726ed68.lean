/- Lemmas that the proof stands on, in build order: PdE GeAc Grw GdPc. -/
import Derived.Deep.QuietTactic
import Derived.BigQuiet
import Derived.WalkMore
import Derived.Sort.Grow
import Derived.Deep.Draws
import Derived.WalkKit
import Derived.Test.YtdhlbcbgbmgcjaaJ20d5a7c
import Derived.Test.YtdhlbcbgbmgcjaaJ365f9dbd
import Derived.Test.YtdhlbcbgbmgcjaaJ6ea7323
/- Layer 17 (path), the landed program: back, as a contract. -/
namespace Go.Proofs.Ytdhlbcbgbmgcjaa.Pt
open Go.RowKit Rec Ints Ge Gf Pa

/-- What back keeps: the way from the end on, up to u. -/
structure Bk (N : Nt) (s v n g c t base : Nat) (V : List Value) (w : World) (u : Nat) (x : Value) (W : List Nat) (wr : World) : Prop where
  un : u < n
  ud : 0 ≤ fz (dis N s u)
  own : wr.ownsRow w.heap.size 3 1 x (W.length + 1) (intS.flat (nums (W ++ [u])))
  way : ∀ l, Bw N (dis N s) s u l → Bw N (dis N s) s v (l ++ W.reverse)
  bel : Below w.heap.size w wr
  far : Hold intS w base 3 g c (farL N s)
  rws : Rws w w.heap.size t N V
/-- .. at its label. -/
def AtB (N : Nt) (s v n g c t base : Nat) (V : List Value) (w : World) (a' : Act) (w' : World) : Prop :=
  ∃ (u : Nat) (x : Value) (W : List Nat) (u8 u9 u10 u11 u12 u13 u14 u15 u16 u17 u18 u19 u20 u21 u22 u23 u24 u25 u26 u27 : Value), Bk N s v n g c t base V w u x W w' ∧
    a' = { tmps := #[.slice (some ⟨t, 0, none⟩) n n, .slice (some ⟨g, 0, none⟩) n c, .int .i64 (u : Int), undef, undef, undef, .slice none 0 0, x, u8, u9, u10, u11, u12, u13, u14, u15, u16, u17, u18, u19, u20, u21, u22, u23, u24, u25, u26, u27], defers := [] }
noncomputable def leftB (N : Nt) (s : Nat) (a' : Act) : Nat := (fz (dis N s (intOf (a'.tmps.getD 2 undef)).toNat)).toNat
theorem pos_fz {N : Nt} (hN : Valid N) {s u : Nat} (hd : 0 ≤ fz (dis N s u)) : 0 < fz (dis N s u) ↔ u ≠ s := by
  obtain ⟨m, hm⟩ : ∃ m, dis N s u = some m := by
    cases e : dis N s u with
    | none => rw [e] at hd; simp [fz] at hd
    | some m => exact ⟨m, rfl⟩
  rw [hm]
  constructor
  · rintro h rfl
    rw [(dis_is hN u).zero] at hm
    injection hm with hm
    subst hm
    simp [fz] at h
  · intro hne
    obtain ⟨x, k, w, he, -, rfl⟩ := (dis_is hN s).pred hm hne
    have := ((e_wt hN).1 he).2
    simp only [fz]
    omega
theorem nxt_less {N : Nt} {d : D} {v u : Nat} (h : Nxt N d v u) : 0 ≤ fz (d u) ∧ fz (d u) < fz (d v) := by
  have := h.2.1
  unfold Fits at this
  omega
section
variable {N : Nt} {s v n g c t base u : Nat} {V : List Value} {w wr w1 : World} {x : Value} {W : List Nat}
theorem Bk.below (h : Bk N s v n g c t base V w u x W wr) (hb : Below wr.heap.size wr w1) : Bk N s v n g c t base V w u x W w1 :=
  { h with own := ownr_below h.own hb, bel := h.bel.trans (hb.mono h.bel.size) }
theorem Bk.few (h : Bk N s v n g c t base V w u x W wr) (hN : Valid N) (hn : N.st.length = n) (hs : s < n) (hv : v < n) : W.length + 1 ≤ n := by
  obtain ⟨m, hm⟩ : ∃ m, dis N s u = some m := by
    have hd := h.ud
    cases e : dis N s u with
    | none => rw [e] at hd; simp [fz] at hd
    | some m => exact ⟨m, rfl⟩
  obtain ⟨l, hl⟩ := bw_ex hN (s := s) (by omega) m u hm (by have := h.un; omega)
  have h1 := (h.way l hl).len (by omega) (by omega)
  have h2 : 0 < l.length := by cases hl <;> simp
  rw [List.length_append, List.length_reverse, hn] at h1
  omega
end
set_option maxHeartbeats 3200000 in
set_option maxRecDepth 100000 in
theorem back_any (N : Nt) (hN : Valid N) (s v n g c t base : Nat) (V : List Value) (w : World) (hR : Rws w w.heap.size t N V) (hH : Hold intS w base 3 g c (farL N s)) (hn : N.st.length = n) (hs : s < n) (hv : v < n) (hd : 0 ≤ fz (dis N s v)) :
    Calls Try.prog 19 #[.slice (some ⟨t, 0, none⟩) n n, .slice (some ⟨g, 0, none⟩) n c, .int .i64 (v : Int)] w fun e w' => ∃ x L, e = .returned x ∧ InTo w.heap.size w (nums L) x w' ∧ Bw N (dis N s) s v L := by
  obtain ⟨i0, hi, hz0, hz1, hz2⟩ := info_of info_int
  have hn9 : n ≤ 4096 := by have := hN.ns; omega
  have HV := Lib.hid hN
  have HLS := Lib.hid hn
  have hb1 := (Below.refl w.heap.size w).alloc (Nat.le_refl _) (.cells #[.int .i64 (v : Int)] 3)
  have hnw := heap_alloc_new w (.cells #[.int .i64 (v : Int)] 3)
  have HB0 : Hid (Bk N s v n g c t base V w v (.slice (some ⟨w.heap.size, 0, none⟩) 1 1) [] (w.alloc (.cells #[.int .i64 (v : Int)] 3))) :=
    ⟨hv, hd, ⟨rfl, .inr ⟨w.heap.size, 1, _, rfl, Nat.le_refl _, hnw, Nat.le_refl _, by unfold maxLen; omega, rfl, rfl⟩⟩, fun l hl => by simpa using hl, hb1, hH, hR⟩
  clear hN hR hH hn hd hb1 hnw
  go_enter Try.func19, Try.ntmps19
  go_wp2
  refine scope_back 0 (AtB N s v n g c t base V w) (fun a' _ => leftB N s a') rfl ?_ ?_
  · intro Q' hQ
    have HQ := Lib.hid hQ
    clear hQ
    go_wp2
    go_step3
    rename_i hK
    exact hK _ _ (HQ.out _ _ ⟨v, _, [], _, _, _, _, _, _, _, _, _, _, _, _, _, _, _, _, _, _, _, _, HB0.out, rfl⟩)
  · rintro a' w' ⟨u, x, W, u8, u9, u10, u11, u12, u13, u14, u15, u16, u17, u18, u19, u20, u21, u22, u23, u24, u25, u26, u27, hb, rfl⟩
    have HB := Lib.hid hb
    clear hb HB0
    have hun := HB.out.un
    have cf : w'.cell? ⟨g, u, none⟩ = some (.int .i64 (fz (dis N s u))) := by
      rw [← far_gx (by rw [HLS.out]; exact hun)]
      exact hold_x (HB.out.far.below HB.out.bel) (gx_at (by rw [far_len, HLS.out]; exact hun))
    have hfew := HB.out.few HV.out HLS.out hs hv
    have a1 : (0 : Int) ≤ (u : Int) := by omega
    have a2 : (u : Int) < (n : Int) := by omega
    have HPOS := Lib.hid (pos_fz HV.out HB.out.ud)
    obtain ⟨f, hf⟩ : ∃ f, fz (dis N s u) = f := ⟨_, rfl⟩
    have HF := Lib.hid hf
    rw [hf] at cf
    clear hf
    obtain ⟨g7, c7, rfl⟩ := Joins.ownsRow_form HB.out.own (Nat.succ_pos _)
    by_cases hus : u = s
    · have e1 : decide (0 < f) = false := decide_eq_false (fun h => HPOS.out.1 (by rw [HF.out]; exact h) hus)
      subst hus
      have hH7 := (Hold.of_own (S := intS) (L := nums (W ++ [u])) HB.out.own).1
      have HH7 := Lib.hid hH7
      have HW := Lib.hid (HB.out.way [u] .nil)
      have HBEL := Lib.hid HB.out.bel
      have HG7 : Hid (w.heap.size ≤ g7) := hH7.le
      have hlen : (nums (W ++ [u])).length = W.length + 1 := by rw [nums_len]; simp
      have HLN := Lib.hid hlen
      clear cf hH7 hlen
      have cf : w'.cell? ⟨g, u, none⟩ = some (.int .i64 f) := by
        rw [← HF.out, ← far_gx (by rw [HLS.out]; exact hun)]
        exact hold_x (HB.out.far.below HB.out.bel) (gx_at (by rw [far_len, HLS.out]; exact hun))
      go_wp2_with fail
      refine (reverse_any g7 c7 (W.length + 1) c7 w.heap.size (nums (W ++ [u])) w' HH7.out HLN.out (by omega)).mono ?_
      rintro e2 w2 ⟨rfl, hh2, ho2⟩
      have HFIN : Hid (InTo w.heap.size w (nums (W ++ [u]).reverse) (.slice (some ⟨g7, 0, none⟩) (W.length + 1) c7) w2) := by
        have h1 := hh2.own'
        rw [List.length_reverse, HLN.out] at h1
        have e3 : nums (W ++ [u]).reverse = (nums (W ++ [u])).reverse := by unfold nums; rw [List.map_reverse]
        rw [e3]
        exact InTo.of_own h1 (HBEL.out.trans (ho2.below HBEL.out.size (fun k hk => by rw [hk]; exact HG7.out)))
      clear hh2 ho2
      go_wp2
      simp only [Exit.jump]
      go_ret
      exact ⟨_, (W ++ [u]).reverse, rfl, HFIN.out, by rw [List.reverse_append]; exact HW.out⟩
    · have e1 : decide (0 < f) = true := decide_eq_true (by rw [← HF.out]; exact HPOS.out.2 hus)
      have HUS := Lib.hid hus
      obtain ⟨Al, cl', hV, hrow⟩ := HB.out.rws.row u (by rw [HLS.out]; exact hun)
      have ct : w'.cell? ⟨t, u, none⟩ = some (.slice Al (deg N u) cl') := cell_of_blk ((HB.out.bel.block t HB.out.rws.low).trans HB.out.rws.blk) (by rw [List.getElem?_toArray]; exact hV)
      have hrow' := (hrow.below HB.out.bel).more HB.out.bel.size
      have HRW := Lib.hid hrow'
      clear hV hrow hrow' hus
      go_wp2_with fail
      refine (before_any N HV.out s u n c g (deg N u) cl' Al base w' HLS.out hun HB.out.ud HUS.out HRW.out (HB.out.far.below HB.out.bel)).mono ?_
      rintro e2 w2 ⟨x, rfl, hnx, hb2⟩
      have HB2 := Lib.hid (HB.out.below hb2)
      have HNX := Lib.hid hnx
      have HDO := Lib.hid (ownr_alloc HB2.out.own (.cells #[.int .i64 (x : Int)] 3))
      have HNEW := Lib.hid (new_int w2 (x : Int) 3)
      have HBA := Lib.hid ((Below.refl w2.heap.size w2).alloc (Nat.le_refl _) (.cells #[.int .i64 (x : Int)] 3))
      have hbz : w.heap.size ≤ (w2.alloc (.cells #[.int .i64 (x : Int)] 3)).heap.size := by have := HB2.out.bel.size; rw [World.size_alloc]; omega
      clear cf ct hnx hb2 HB HRW
      go_wp2_with (at_builtin; go_loud (refine push_rec intS rfl (.tmp 21) (.tmp 23) 27 rfl w.heap.size 3 i0 (.int .i64 0) 8 Try.underlying27 hi hz0 rfl hz1 hz2 _ (W.length + 1) (nums (W ++ [u])) rfl HDO.out ⟨w2.heap.size, 0, none⟩ (x : Int) rfl HNEW.out (by omega) (by omega) hbz ?_); intro v3 w3 hown3 hgr3 hb3; have HO3 := Lib.hid hown3; have HG3 := Lib.hid hgr3; have HB3 := Lib.hid hb3; clear hown3 hgr3 hb3)
      have HBN : Hid (Bk N s v n g c t base V w x v3 (W ++ [u]) w3) := by
        refine ⟨by have := HNX.out.1; rw [HLS.out] at this; exact this, (nxt_less HNX.out).1, ?_, fun l hl => ?_, HB2.out.bel.trans ((HBA.out.mono HB2.out.bel.size).trans HB3.out), HB2.out.far, HB2.out.rws⟩
        · have h1 := HO3.out
          have e2 : (W ++ [u]).length + 1 = W.length + 1 + 1 := by simp
          have e3 : nums ((W ++ [u]) ++ [x]) = nums (W ++ [u]) ++ [(x : Int)] := by unfold nums; simp
          rw [e2, e3]
          exact h1
        · have h1 := HB2.out.way (l ++ [u]) (.step HUS.out HNX.out hl)
          rw [List.reverse_append]
          simpa using h1
      have HMS := Lib.hid (nxt_less HNX.out)
      clear HO3 HG3 HB3 HDO HNEW HBA HB2
      go_step3
      exact ⟨rfl, ⟨x, _, W ++ [u], _, _, _, _, _, _, _, _, _, _, _, _, _, _, _, _, _, _, _, _, HBN.out, rfl⟩, by have h1 := HMS.out; simp [leftB, intOf]; omega⟩
end Go.Proofs.Ytdhlbcbgbmgcjaa.Pt

/- cmp.Compare on ints, as a contract. -/
namespace Go.Proofs.Ytdhlbcbgbmgcjaa.Ge
open Go.RowKit Rec

theorem nan_any (u : Int) (w : World) : Calls Try.prog 50 #[.int .i64 u] w fun e w' => e = .returned (.bool false) ∧ w' = w := by
  go_enter Try.func50, Try.ntmps50
  go_wp2
  go_ret
  exact ⟨by simp, rfl⟩
set_option maxRecDepth 100000 in
theorem compare_any (u v : Int) (w : World) : Calls Try.prog 42 #[.int .i64 u, .int .i64 v] w fun e w' => e = .returned (.int .i64 (if u < v then (-1 : Int) else if v < u then 1 else 0)) ∧ w' = w := by
  by_cases h : u < v
  · rw [if_pos h]
    have e1 : decide (u < v) = true := decide_eq_true h
    go_enter Try.func42, Try.ntmps42
    go_wp2_with fail
    refine (nan_any _ _).mono ?_
    rintro e1 w1 ⟨rfl, rfl⟩
    go_wp2_with fail
    refine (nan_any _ _).mono ?_
    rintro e1 w1 ⟨rfl, rfl⟩
    go_wp2
    go_ret
    exact ⟨rfl, rfl⟩
  · rw [if_neg h]
    have e1 : decide (u < v) = false := decide_eq_false h
    by_cases h2 : v < u
    · rw [if_pos h2]
      have e2 : decide (v < u) = true := decide_eq_true h2
      go_enter Try.func42, Try.ntmps42
      go_wp2_with fail
      refine (nan_any _ _).mono ?_
      rintro e1 w1 ⟨rfl, rfl⟩
      go_wp2_with fail
      refine (nan_any _ _).mono ?_
      rintro e1 w1 ⟨rfl, rfl⟩
      go_wp2
      go_ret
      exact ⟨rfl, rfl⟩
    · rw [if_neg h2]
      have e2 : decide (v < u) = false := decide_eq_false h2
      go_enter Try.func42, Try.ntmps42
      go_wp2_with fail
      refine (nan_any _ _).mono ?_
      rintro e1 w1 ⟨rfl, rfl⟩
      go_wp2_with fail
      refine (nan_any _ _).mono ?_
      rintro e1 w1 ⟨rfl, rfl⟩
      go_wp2
      go_ret
      exact ⟨rfl, rfl⟩

end Go.Proofs.Ytdhlbcbgbmgcjaa.Ge

/- Over any program: a call that only draws and lays blocks behind; a family of such worlds. -/
namespace Go.Proofs.Ytdhlbcbgbmgcjaa
open Go Go.Proofs Go.RowKit Go.Sort

/-- Draws, and blocks behind. -/
def Gw (w w' : World) : Prop := ∃ q os, w' = grow (w.drewN q) os
theorem Gw.refl (w : World) : Gw w w := ⟨0, #[], by rw [grow_empty]; rfl⟩
theorem Gw.trans {a b c : World} (h : Gw a b) (k : Gw b c) : Gw a c := by
  obtain ⟨q, os, rfl⟩ := h
  obtain ⟨r, ps, rfl⟩ := k
  refine ⟨q + r, os ++ ps, ?_⟩
  have e : (grow (a.drewN q) os).drewN r = grow ((a.drewN q).drewN r) os := rfl
  rw [e, grow_grow, World.drewN_drewN]
theorem Gw.drewN (w : World) (q : Nat) : Gw w (w.drewN q) := ⟨q, #[], by rw [grow_empty]⟩
theorem Gw.alloc (w : World) (o : Obj) : Gw w (w.alloc o) := ⟨0, #[o], by rw [alloc_eq_grow]; rfl⟩
theorem Gw.below {w w' : World} (h : Gw w w') : Below w.heap.size w w' := by
  obtain ⟨q, os, rfl⟩ := h
  exact ⟨rfl, rfl, rfl, by rw [size_grow]; exact Nat.le_add_right _ _, fun k hk => heap_grow_old _ _ hk⟩
theorem fam_gw (w : World) : ∃ (ι : Type) (_ : Nonempty ι) (W : ι → World) (i0 : ι), w.drew = W i0 ∧ (∀ i, Gw w (W i)) ∧ (∀ i w', Gw (W i) w' → ∃ j, w' = W j) :=
  ⟨{ x : World // Gw w x }, ⟨⟨w, Gw.refl w⟩⟩, fun i => i.1, ⟨w.drew, Gw.drewN w 1⟩, rfl, fun i => i.2, fun i w' h => ⟨⟨w', i.2.trans h⟩, rfl⟩⟩
end Go.Proofs.Ytdhlbcbgbmgcjaa

/- cmp.Or of two ints, as a contract. -/
namespace Go.Proofs.Ytdhlbcbgbmgcjaa.Gd
open Go.RowKit Rec Ints Ge

/-- Which one comes first, as a number. -/
def cmpi (u v : Int) : Int := if u < v then -1 else if v < u then 1 else 0
set_option maxHeartbeats 800000 in
set_option maxRecDepth 100000 in
theorem or_any (g c : Nat) (u v : Int) (w : World) (h0 : w.cell? ⟨g, 0, none⟩ = some (.int .i64 u)) (h1 : w.cell? ⟨g, 1, none⟩ = some (.int .i64 v)) :
    Calls Try.prog 41 #[.slice (some ⟨g, 0, none⟩) 2 c] w fun e w' => e = .returned (.int .i64 (if u = 0 then v else u)) ∧ w' = w := by
  by_cases hu : u = 0
  · subst hu
    rw [if_pos rfl]
    by_cases hv : v = 0
    · subst hv
      go_enter Try.func41, Try.ntmps41
      go_wp2
      refine wp_loop_rounds 3 ?_
      rw [rounds_succ]
      go_wp2
      rw [rounds_succ]
      go_wp2
      rw [rounds_succ]
      go_wp2
      go_ret
      exact ⟨rfl, rfl⟩
    · have hv' : (v == 0) = false := beq_eq_false_iff_ne.2 hv
      go_enter Try.func41, Try.ntmps41
      go_wp2
      refine wp_loop_rounds 3 ?_
      rw [rounds_succ]
      go_wp2
      rw [rounds_succ]
      go_wp2
      go_ret
      exact ⟨rfl, rfl⟩
  · rw [if_neg hu]
    have hu' : (u == 0) = false := beq_eq_false_iff_ne.2 hu
    go_enter Try.func41, Try.ntmps41
    go_wp2
    refine wp_loop_rounds 3 ?_
    rw [rounds_succ]
    go_wp2
    go_ret
    exact ⟨rfl, rfl⟩

theorem build_two (u v : Int) (W : World) : (Instr.buildSlice 27 2 #[(0, .int .i64 u), (1, .int .i64 v)]).run Try.prog W = .ok (.slice (some ⟨W.heap.size, 0, none⟩) 2 2) (W.alloc (.cells #[.int .i64 u, .int .i64 v] 3)) := by kernel_rfl

end Go.Proofs.Ytdhlbcbgbmgcjaa.Gd

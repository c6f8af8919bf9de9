/- Lemmas that the proof stands on, in build order: HqDV HqDW. -/
import Derived.Test.YtdhlbcbgbmgcjaaJ2789494b
import Derived.Test.YtdhlbcbgbmgcjaaJ282ea104
import Derived.Test.YtdhlbcbgbmgcjaaJ32c0cbf6
/- Layer 16 (heap), the landed code at Int × Int: Push (its append lies in a region that draws its order), Pop. -/
namespace Go.Proofs.Ytdhlbcbgbmgcjaa.Hq.D
open Go.RowKit Rec Ints Ge

theorem info_el : (Try.prog.info? 62).map (fun i => (i.zero, i.size, i.bytes)) = some (some (.agg #[.int .i64 0, .int .i64 0]), 2, 16) := by kernel_rfl
theorem build_el (x : El) (W : World) : (Instr.buildSlice 75 1 #[(0, .agg #[.int .i64 x.1, .int .i64 x.2])]).run Try.prog W = .ok (.slice (some ⟨W.heap.size, 0, none⟩) 1 1) (W.alloc (.cells #[.int .i64 x.1, .int .i64 x.2] 62)) := by kernel_rfl
theorem Box.boxed (w : World) (p : El) : Box w (w.alloc (.cells #[.int .i64 p.1, .int .i64 p.2] 62)) w.heap.size p :=
  ⟨heap_alloc_new w _, Nat.le_refl _, (Below.refl _ _).alloc (Nat.le_refl _) _⟩
theorem push_nil (w : World) (x : El) : Calls Try.prog 28 #[.pointer none, pl x] w fun e w' => e = .returned (.tuple #[]) ∧ Below w.heap.size w w' := by
  have HM := Lib.hid (made_nil (w.alloc (.cells #[.int .i64 x.1, .int .i64 x.2] 62)))
  have HB0 := Lib.hid (Box.boxed w x)
  unfold pl
  go_enter Try.func28, Try.ntmps28
  go_wp2_with fail
  generalize w.alloc (.cells #[.int .i64 x.1, .int .i64 x.2] 62) = w0 at *
  refine HM.out.mono ?_
  rintro e1 w1 ⟨rfl, hb1⟩
  have HB := Lib.hid (HB0.out.below hb1)
  clear HM hb1 HB0
  go_wp2
  (try simp only [Exit.inBlock, Exit.then]); refine bodyPost_ret (results_none rfl _ _ _) rfl ?_
  exact ⟨rfl, HB.out.bel⟩
theorem push_any (lt : El → El → Bool) (B : Nat) (Inv : World → Prop) (f : FuncId) (lb : Array Value) (hL : Less lt B Inv f lb) (w : World) (b : Nat) (v : Value) (l : List El) (x : El) (hi : Inv w) (h : Base w B f lb b v l) (hn : l.length ≤ 50000) (hh : Hp.Hp lt l l.length) :
    Calls Try.prog 28 #[.pointer (some ⟨b, 0, none⟩), pl x] w fun e w' => e = .returned (.tuple #[]) ∧
      ∃ v' l', Base w' B f lb b v' l' ∧ l'.Perm (l ++ [x]) ∧ Hp.Hp lt l' l'.length ∧ Only (fun k => k = b ∨ v.ownBlock = some k) w w' ∧ ∀ k, v'.ownBlock = some k → v.ownBlock = some k ∨ w.heap.size ≤ k := by
  obtain ⟨i0, hi0, hz0, hz1, hz2⟩ := info_of info_el
  have HB0 := Lib.hid (Box.boxed w x)
  have h0 : Base (w.alloc (.cells #[.int .i64 x.1, .int .i64 x.2] 62)) B f lb b v l := h.keep fun k hk => HB0.out.bel.block k (by
    rcases hk with rfl | hk
    · exact h.lt
    · exact (h.own.lt k hk).2)
  have HM := Lib.hid (made_any _ b f lb v h0.blk)
  have H0 := Lib.hid h0
  have HL := Lib.hid hL
  have HI := Lib.hid hi
  have HU := Lib.hid (hh.push x)
  have HBS := Lib.hid h.big
  have HVB : Hid (∀ k, v.ownBlock = some k → k < w.heap.size) := fun k hk => (h.own.lt k hk).2
  have HBW : Hid (b < w.heap.size) := h.lt
  obtain ⟨A, c, rfl, -⟩ := ownr_slice h.own
  clear h hL hi hh h0
  unfold pl
  go_enter Try.func28, Try.ntmps28
  go_wp2_with fail
  generalize w.alloc (.cells #[.int .i64 x.1, .int .i64 x.2] 62) = w0 at *
  refine HM.out.mono ?_
  rintro e1 w1 ⟨rfl, hb1⟩
  have H1 : Hid (Base w1 B f lb b (.slice A l.length c) l) := H0.out.keep fun k hk => hb1.block k (by
    rcases hk with rfl | hk
    · exact H0.out.lt
    · exact (H0.out.own.lt k hk).2)
  have HB1 := Lib.hid (HB0.out.below hb1)
  clear hb1 HM HB0 H0
  go_wp2
  obtain ⟨ι, hne, W, i0', h0, hWp, hC⟩ := Ent.fam_sub (fun y => y.heap[b]? = some (.cells #[.func (.func f) #[] lb, .slice A l.length c] 77 (0, 0)) ∧ y.heap[w.heap.size]? = some (.cells #[.int .i64 x.1, .int .i64 x.2] 62 (0, 0))) w1 ⟨H1.out.blk, HB1.out.blk⟩
  have d0 : ∀ i, (W i).cell? ⟨b, 1, none⟩ = some (.slice A l.length c) := fun i => cell_of_blk (hWp i).1 rfl
  have d1 : ∀ i, (W i).cell? ⟨w.heap.size, 0, none⟩ = some (.int .i64 x.1) := fun i => cell_of_blk (hWp i).2 rfl
  have d2 : ∀ i, (W i).cell? ⟨w.heap.size, 1, none⟩ = some (.int .i64 x.2) := fun i => cell_of_blk (hWp i).2 rfl
  have HA : Hid (Base (W i0') B f lb b (.slice A l.length c) l ∧ Below w.heap.size w (W i0')) := by
    rw [← h0]
    exact ⟨H1.out.keep fun k _ => rfl, HB1.out.bel.drew⟩
  clear H1 HB1
  refine Mix.wp_region_lexZ (z := 10) (fun w' => ∃ i, w' = W i) rfl (by kernel_rfl) (by kernel_rfl) (by kernel_rfl) ⟨i0', h0⟩ ?_
  rw [h0]
  clear h0
  simp only [List.take_succ_cons, List.take_zero]
  repeat (first | (refine Mix.lex_step rfl ?_; intro K hK; go_big_quiet_step (fail); refine Mix.lex_on hK ?_; clear hK K) | (refine Mix.lex_skip rfl ?_; simp only [Act.put, List.setIfInBounds_toArray, List.set_cons_zero, List.set_cons_succ]))
  have hb7 := (Below.refl (W i0').heap.size (W i0')).alloc (Nat.le_refl _) (.cells #[.int .i64 x.1, .int .i64 x.2] 62)
  obtain ⟨j1, hj1⟩ := hC _ ⟨(hb7.block _ (Array.getElem?_eq_some_iff.1 (hWp i0').1).1).trans (hWp i0').1, (hb7.block _ (Array.getElem?_eq_some_iff.1 (hWp i0').2).1).trans (hWp i0').2⟩
  refine Mix.lex_build (ps := #[(0, .agg #[.int .i64 x.1, .int .i64 x.2])]) rfl (by simp [Act.eval]) (build_el x (W i0')) rfl ⟨j1, hj1⟩ ?_
  have hown0 := ownr_alloc HA.out.1.own (.cells #[.int .i64 x.1, .int .i64 x.2] 62)
  have hbig := HA.out.1.big
  obtain ⟨v2, w2, hrun2, hown2, hgrow2, hlie2⟩ := run_added (P := Try.prog) ((W i0').alloc (.cells #[.int .i64 x.1, .int .i64 x.2] 62)) twoS 75 75 B 62 i0 (.agg #[.int .i64 0, .int .i64 0]) 16 Try.underlying75 hi0 hz0 rfl hz1 hz2 _ l.length l hown0 ⟨(W i0').heap.size, 0, none⟩ x (new_two (W i0') x 62) (by omega) (by omega) (by rw [World.size_alloc]; omega)
  have hst := stored HA.out.1 hown2 hgrow2 hlie2
  obtain ⟨g2, cp2, rfl⟩ := Joins.ownsRow_form hown2 (Nat.succ_pos _)
  obtain ⟨hk2, hb2, ho2, hw2⟩ := hst
  have hG2 : w2.heap[w.heap.size]? = some (.cells #[.int .i64 x.1, .int .i64 x.2] 62 (0, 0)) := by
    have hlt : w.heap.size < (W i0').heap.size := (Array.getElem?_eq_some_iff.1 (hWp i0').2).1
    rw [hgrow2.block w.heap.size (by rw [World.size_alloc]; omega) (fun e => by have := HVB.out _ e.symm; omega), Below.heap_alloc _ _ _ hlt]
    exact (hWp i0').2
  have f2 : w2.frozen? ⟨b, 1, none⟩ = false := frozen_of_row w2 b 1 _ _ hk2
  obtain ⟨j2, hj2⟩ := hC w2 ⟨hk2, hG2⟩
  simp only [Act.put, List.setIfInBounds_toArray, List.set_cons_zero, List.set_cons_succ]
  rw [hj1] at hrun2 ⊢
  repeat (first | (refine Mix.lex_step rfl ?_; intro K hK; go_big_quiet_step (fail); refine Mix.lex_on hK ?_; clear hK K) | (refine Mix.lex_skip rfl ?_; simp only [Act.put, List.setIfInBounds_toArray, List.set_cons_zero, List.set_cons_succ]))
  refine Mix.lex_act rfl rfl (Ent.exec_append rfl (by simp [Act.eval]) (by simp [Act.eval]) hrun2) ⟨j2, hj2⟩ ?_
  simp only [Act.put, List.setIfInBounds_toArray, List.set_cons_zero, List.set_cons_succ]
  rw [hj2]
  repeat (first | (refine Mix.lex_step rfl ?_; intro K hK; go_big_quiet_step (fail); refine Mix.lex_on hK ?_; clear hK K) | (refine Mix.lex_skip rfl ?_; simp only [Act.put, List.setIfInBounds_toArray, List.set_cons_zero, List.set_cons_succ]))
  rw [← hj2]
  refine Mix.lexZ_skip rfl rfl (Sto.exec_store_one (A := some ⟨g2, 0, none⟩) (n := l.length + 1) (c := cp2) rfl (by simp [Act.eval]) rfl (by rw [cell_of_blk hk2 rfl]; rfl) f2 (by kernel_rfl)) ?_
  have HB2 := Lib.hid hb2
  have HW2 := Lib.hid hw2
  have HO2 := Lib.hid ho2
  have HBA := Lib.hid HA.out.2
  have hBw : B ≤ (W i0').heap.size := Nat.le_trans HBS.out HBA.out.size
  have HI3 := Lib.hid (HL.out.keep (W i0') _ (HL.out.keep w _ HI.out HBS.out (HBA.out.mono HBS.out)) hBw (HO2.out.below hBw (fun k hk => by
    rcases hk with rfl | hk
    · exact HA.out.1.le
    · exact (HA.out.1.own.lt k hk).1)))
  have qn : IntKind.i64.wrap (((l.length + 1 : Nat) : Int) - 1) = (l.length : Int) := by rw [IntWalk.i64_in _ ⟨by omega, by omega⟩]; omega
  have c3 := cell_of_blk (j := 1) hb2.blk rfl
  clear hk2 hb2 ho2 hw2 hown2 hgrow2 hlie2 hrun2 hG2 f2 hj1 hj2 hown0 hb7 hbig
  generalize w2.setCell ⟨b, 1, none⟩ (.slice (some ⟨g2, 0, none⟩) (l.length + 1) cp2) = w3 at *
  generalize W i0' = wA at *
  clear HA hWp hC d0 d1 d2
  go_wp2_with fail
  refine (rise_any lt B Inv f lb HL.out w3 b g2 cp2 (l.length + 1) l.length (l ++ [x]) HI3.out HB2.out.lies (by omega) (by omega) HU.out).mono ?_
  rintro e4 w4 ⟨rfl, l4, hl4, hp4, hh4, ho4⟩
  have HL4 := Lib.hid hl4
  have HP4 := Lib.hid hp4
  have HH4 := Lib.hid hh4
  have HO4 := Lib.hid ho4
  clear hl4 hp4 hh4 ho4
  go_wp2
  go_end0
  refine ⟨rfl, _, l4, HL4.out.base, HP4.out, by rw [HL4.out.len]; exact HH4.out, ((Only.of_below HBA.out).trans HO2.out (fun _ _ h => h)).trans HO4.out (fun i hi he => ?_), fun k hk => ?_⟩
  · rcases HW2.out i (by rw [he]; rfl) with h1 | h1
    · exact .inr h1
    · have := HBA.out.size
      omega
  · rcases HW2.out k hk with h1 | h1
    · exact .inl h1
    · have := HBA.out.size
      exact .inr (by omega)
theorem pop_nil (w : World) : Calls Try.prog 29 #[.pointer none] w fun e w' => e = .returned (.tuple #[pl ((0 : Int), (0 : Int)), .bool false]) ∧ Below w.heap.size w w' := by
  have HB0 := Lib.hid (Box.new w)
  have HM := Lib.hid (top_nil (w.alloc (.cells #[.int .i64 0, .int .i64 0] 62)))
  go_enter Try.func29, Try.ntmps29
  unfold pl at HM
  go_wp2_with fail
  generalize w.alloc (.cells #[.int .i64 0, .int .i64 0] 62) = w0 at *
  refine HM.out.mono ?_
  rintro e1 w1 ⟨rfl, hb1⟩
  obtain ⟨d0, d1, d2, d3⟩ := ((HB0.out.below hb1).below ((Below.refl _ _).alloc (Nat.le_refl _) (.cells #[.int .i64 0, .int .i64 0] 62))).facts
  have HB2 := Lib.hid (((HB0.out.below hb1).below ((Below.refl _ _).alloc (Nat.le_refl _) (.cells #[.int .i64 0, .int .i64 0] 62))).put (0, 0))
  clear HM hb1 HB0
  go_wp2
  (try simp only [Exit.inBlock, Exit.then]); refine bodyPost_ret (results_cell_one rfl _ _ w.heap.size #[.int .i64 0, .int .i64 0] rfl HB2.out.load) rfl ?_
  exact ⟨rfl, HB2.out.bel⟩
theorem pop_none (B : Nat) (f : FuncId) (lb : Array Value) (w : World) (b : Nat) (v : Value) (h : Base w B f lb b v []) :
    Calls Try.prog 29 #[.pointer (some ⟨b, 0, none⟩)] w fun e w' => e = .returned (.tuple #[pl ((0 : Int), (0 : Int)), .bool false]) ∧ Below w.heap.size w w' := by
  have HB0 := Lib.hid (Box.new w)
  have HM := Lib.hid (top_none B f lb (w.alloc (.cells #[.int .i64 0, .int .i64 0] 62)) b v (h.keep fun k hk => HB0.out.bel.block k (by
    rcases hk with rfl | hk
    · exact h.lt
    · exact (h.own.lt k hk).2)))
  clear h
  go_enter Try.func29, Try.ntmps29
  unfold pl at HM
  go_wp2_with fail
  generalize w.alloc (.cells #[.int .i64 0, .int .i64 0] 62) = w0 at *
  refine HM.out.mono ?_
  rintro e1 w1 ⟨rfl, hb1⟩
  obtain ⟨d0, d1, d2, d3⟩ := ((HB0.out.below hb1).below ((Below.refl _ _).alloc (Nat.le_refl _) (.cells #[.int .i64 0, .int .i64 0] 62))).facts
  have HB2 := Lib.hid (((HB0.out.below hb1).below ((Below.refl _ _).alloc (Nat.le_refl _) (.cells #[.int .i64 0, .int .i64 0] 62))).put (0, 0))
  clear HM hb1 HB0
  go_wp2
  (try simp only [Exit.inBlock, Exit.then]); refine bodyPost_ret (results_cell_one rfl _ _ w.heap.size #[.int .i64 0, .int .i64 0] rfl HB2.out.load) rfl ?_
  exact ⟨rfl, HB2.out.bel⟩
theorem zero_el : ∀ w, (zeroValue 62).run Try.prog w = .ok (.agg #[.int .i64 0, .int .i64 0]) w := fun w => by kernel_rfl
theorem Lies.only {w w' : World} {B : Nat} {f : FuncId} {lb : Array Value} {b g cap n : Nat} {l : List El} {M : Nat → Prop} (h : Lies w B f lb b g cap n l) (ho : Only M w w') (hb : ¬ M b) (hg : ¬ M g) : Lies w' B f lb b g cap n l :=
  ⟨ho.at h.blk hb, h.hold.keep (ho.block g h.hold.lt hg), h.len, h.ne, h.le⟩
theorem Box.only {w0 w w' : World} {G : Nat} {p : El} {M : Nat → Prop} (h : Box w0 w G p) (ho : Only M w w') (hG : ¬ M G) (hb : Below w0.heap.size w0 w') : Box w0 w' G p :=
  ⟨ho.at h.blk hG, h.old, hb⟩
theorem pop_any (lt : El → El → Bool) (B : Nat) (Inv : World → Prop) (f : FuncId) (lb : Array Value) (hL : Less lt B Inv f lb) (w : World) (b g cap k : Nat) (l : List El) (x : El) (hi : Inv w) (h : Lies w B f lb b g cap (k + 1) l) (hk : k ≤ 50000) (hx : l[0]? = some x) (hh : Hp.Hp lt l l.length) :
    Calls Try.prog 29 #[.pointer (some ⟨b, 0, none⟩)] w fun e w' => e = .returned (.tuple #[pl x, .bool true]) ∧
      ∃ l', Lies w' B f lb b g cap k l' ∧ l'.Perm (Hp.cut l) ∧ Hp.Hp lt l' k ∧ Only (fun k => k = b ∨ k = g) w w' := by
  have HB0 := Lib.hid (Box.new w)
  have HT := Lib.hid (top_some B f lb (w.alloc (.cells #[.int .i64 0, .int .i64 0] 62)) b g cap (k + 1) l x (h.below HB0.out.bel) hx)
  have HGB : Hid (b < w.heap.size ∧ g < w.heap.size) := ⟨h.base.lt, h.hold.lt⟩
  unfold pl at HT
  have H := Lib.hid h
  have HL := Lib.hid hL
  have HI := Lib.hid hi
  have hcap := h.hold.fit
  rw [h.len] at hcap
  have HCAP := Lib.hid hcap.1
  have HU : Hid (Hp.Dn lt ((Hp.sw l 0 k).take k) k 0) := by
    have h1 := hh.cut
    rw [h.len, Nat.add_sub_cancel] at h1
    rw [cut_of h.len]
    exact h1
  have HBS := Lib.hid h.base.big
  have qn : IntKind.i64.wrap (((k + 1 : Nat) : Int) - 1) = (k : Int) := by rw [IntWalk.i64_in _ ⟨by omega, by omega⟩]; omega
  clear h hL hi hh hx hcap
  go_enter Try.func29, Try.ntmps29
  go_wp2_with fail
  generalize w.alloc (.cells #[.int .i64 0, .int .i64 0] 62) = w0 at *
  refine HT.out.mono ?_
  rintro e1 w1 ⟨rfl, hb1⟩
  have HB1 := Lib.hid (HB0.out.below hb1)
  clear hb1 HT HB0
  have hbx := (Below.refl w1.heap.size w1).alloc (Nat.le_refl _) (.cells #[.int .i64 x.1, .int .i64 x.2] 62)
  have H1 := Lib.hid (H.out.below (HB1.out.below hbx).bel)
  have HX1 := Lib.hid (HB1.out.below hbx)
  have hnx := heap_alloc_new w1 (.cells #[.int .i64 x.1, .int .i64 x.2] 62)
  have c1 : (w1.alloc (.cells #[.int .i64 x.1, .int .i64 x.2] 62)).cell? ⟨b, 1, none⟩ = some (.slice (some ⟨g, 0, none⟩) (k + 1) cap) := cell_of_blk H1.out.blk rfl
  obtain ⟨X, hX⟩ : ∃ X, X = w1.heap.size := ⟨_, rfl⟩
  have HXG : Hid (w.heap.size < X) := by rw [hX]; exact (Array.getElem?_eq_some_iff.1 HB1.out.blk).1
  rw [← hX] at hnx
  have HNX := Lib.hid hnx
  clear hbx hnx HB1
  go_wp2_with fail
  rw [← hX]
  generalize w1.alloc (.cells #[.int .i64 x.1, .int .i64 x.2] 62) = wx at *
  clear hX w1
  refine (swap_any B f lb wx b g cap (k + 1) 0 k l H1.out (by omega) (by omega)).mono ?_
  rintro e2 w2 ⟨rfl, hl2, ho2⟩
  obtain ⟨w3, hw3⟩ : ∃ w3, w3 = w2.setCells g (k * 2) (twoS.flat (List.replicate 1 ((0 : Int), (0 : Int)))) := ⟨_, rfl⟩
  have hcl : ∀ ty, (Builtin.clear_ #[75] ty #[.slice (some ⟨g, k * 2, none⟩) 1 (cap - k)]).run Try.prog w2 = .ok (.tuple #[]) w3 := fun ty => by
    rw [hw3]
    exact run_clear_of (P := Try.prog) w2 75 62 ty twoS ((0 : Int), (0 : Int)) (.agg #[.int .i64 0, .int .i64 0]) Try.underlying75 zero_el rfl B 62 g cap k 1 (cap - k) (k * 2) rfl _ hl2.hold (by omega) (by have := HCAP.out; omega)
  obtain ⟨hb3, hl3, ho3⟩ := popped hl2 ((0 : Int), (0 : Int)) hw3
  have c2 : w2.cell? ⟨b, 1, none⟩ = some (.slice (some ⟨g, 0, none⟩) (k + 1) cap) := cell_of_blk hl2.blk rfl
  have c3 : w3.cell? ⟨b, 1, none⟩ = some (.slice (some ⟨g, 0, none⟩) (k + 1) cap) := cell_of_blk hb3 rfl
  have f3 : w3.frozen? ⟨b, 1, none⟩ = false := frozen_of_row w3 b 1 _ _ hb3
  have HL3 := Lib.hid hl3
  have HO3 : Hid (Only (fun k => k = b ∨ k = g) wx _) := (ho2.mono (fun _ h => .inr h)).trans ho3 (fun _ _ h => h)
  have q1 : (k : Int) ≤ ((k + 1 : Nat) : Int) := by omega
  have q2 : ((k + 1 : Nat) : Int) ≤ (cap : Int) := by have := HCAP.out; omega
  have q3 : (k : Int) ≤ (cap : Int) := by omega
  have q4 : (0 : Int) ≤ (k : Int) := by omega
  clear hw3 hl2 ho2 hl3 ho3 hb3 c1
  go_wp2_with fail
  generalize w3.setCell ⟨b, 1, none⟩ (.slice (some ⟨g, 0, none⟩) k cap) = w4 at *
  have hB1 : B ≤ wx.heap.size := Nat.le_trans HBS.out HX1.out.bel.size
  have HI4 := Lib.hid (HL.out.keep wx w4 (HL.out.keep w wx HI.out HBS.out (HX1.out.bel.mono HBS.out)) hB1 (HO3.out.below hB1 (fun i hi => by
    rcases hi with rfl | rfl
    · exact H1.out.le
    · exact H1.out.hold.le)))
  refine (sink_any lt B Inv f lb HL.out w4 b g cap k _ HI4.out HL3.out (by omega) HU.out).mono ?_
  rintro e5 w5 ⟨rfl, l5, hl5, hp5, hh5, ho5⟩
  have HL5 := Lib.hid hl5
  have HP5 := Lib.hid hp5
  have HH5 := Lib.hid hh5
  have hoT : Only (fun k => k = b ∨ k = g) wx w5 := HO3.out.trans ho5 (fun _ _ h => .inr h)
  have hGB := HGB.out
  have hXG := HXG.out
  have hGn : ¬ (w.heap.size = b ∨ w.heap.size = g) := fun h => by rcases h with h | h <;> omega
  have hXn : ¬ (X = b ∨ X = g) := fun h => by rcases h with h | h <;> omega
  have hGx := hoT.at HX1.out.blk hGn
  have hXx := hoT.at HNX.out hXn
  have z0 := cell_of_blk (j := 0) hXx rfl
  have z1 := cell_of_blk (j := 1) hXx rfl
  have d0 := cell_of_blk (j := 0) hGx rfl
  have d1 := cell_of_blk (j := 1) hGx rfl
  have d2 := frozen_of_row w5 w.heap.size 0 _ _ hGx
  have d3 := frozen_of_row w5 w.heap.size 1 _ _ hGx
  have HOT := Lib.hid ((Only.of_below (M := fun k => k = b ∨ k = g) HX1.out.bel).trans hoT (fun _ _ h => h))
  have HSET := Lib.hid (Sto.whole_set (vs := #[.int .i64 x.1, .int .i64 x.2]) hGx rfl)
  have HOP : Hid (Only (fun k => k = w.heap.size) w5 ((w5.setCell ⟨w.heap.size, 0, none⟩ (.int .i64 x.1)).setCell ⟨w.heap.size, 1, none⟩ (.int .i64 x.2))) := (Only.setCell w5 ⟨w.heap.size, 0, none⟩ (.int .i64 x.1)).trans (Only.setCell _ ⟨w.heap.size, 1, none⟩ (.int .i64 x.2)) (fun _ _ h => h)
  clear hl5 hp5 hh5 ho5 hoT hGx hXx hGn hXn hGB hXG
  go_wp2
  (try simp only [Exit.inBlock, Exit.then]); refine bodyPost_ret (results_cell_one rfl _ _ w.heap.size #[.int .i64 x.1, .int .i64 x.2] rfl (run_loadVar_row _ _ 62 62 _ (0, 0) _ HSET.out Try.underlying62 rfl info_pl)) rfl ?_
  have hGB := HGB.out
  refine ⟨rfl, l5, HL5.out.only HOP.out (fun h => by omega) (fun h => by omega), ?_, HH5.out, HOT.out.trans HOP.out (fun i hi h => by omega)⟩
  rw [← cut_of H.out.len]
  exact HP5.out
end Go.Proofs.Ytdhlbcbgbmgcjaa.Hq.D

/- Layer 16 (heap), the landed code at Int × Int: a heap of an order. -/
namespace Go.Proofs.Ytdhlbcbgbmgcjaa.Hq.D
open Go.RowKit Rec Ints Ge

def reachF : Nat → FuncId
  | 0 => 25
  | 1 => 28
  | 2 => 29
  | _ => 49
theorem heap_ok (lt : El → El → Bool) (B : Nat) (Inv : World → Prop) (f : FuncId) (lb : Array Value) (hL : Less lt B Inv f lb) : HeapOk reachF (pl) ((0 : Int), (0 : Int)) lt B Inv (.func (.func f) #[] lb) (Hin lt B f lb) where
  lies h := h.lies
  keep h _ hk := h.keep hk
  new w _ hB := new_any lt B f lb w hB
  push w M a L x hi h hn := by
    obtain ⟨b, v, l, rfl, hb, hM, hp, hh⟩ := h
    refine (push_any lt B Inv f lb hL w b v l x hi hb (by rw [hp.length_eq]; exact hn) hh).mono ?_
    rintro e w' ⟨rfl, v', l', hb', hp', hh', ho, hv⟩
    refine ⟨rfl, fun k => k = b ∨ v'.ownBlock = some k, ⟨b, v', l', rfl, hb', fun _ => Iff.rfl, ?_, hh'⟩, ho.mono fun k hk => (hM k).2 hk, fun k hk => ?_⟩
    · exact (hp'.trans (List.perm_append_singleton x l)).trans (hp.cons x)
    · rcases hk with rfl | hk
      · exact .inl ((hM k).2 (.inl rfl))
      · rcases hv k hk with h1 | h1
        · exact .inl ((hM k).2 (.inr h1))
        · exact .inr h1
  pop0 w M a _ h := by
    obtain ⟨b, v, l, rfl, hb, hM, hp, hh⟩ := h
    obtain rfl := List.perm_nil.1 hp
    refine (pop_none B f lb w b v hb).mono ?_
    rintro e w' ⟨rfl, hb1⟩
    exact ⟨rfl, M, Hin.keep ⟨b, v, [], rfl, hb, hM, List.Perm.refl _, hh⟩ fun k hk => hb1.block k (Hin.lies (ltb := lt) (L := []) ⟨b, v, [], rfl, hb, hM, List.Perm.refl _, hh⟩ k hk).2, Only.of_below hb1, fun _ h => .inl h⟩
  pop w M a L hi h hne hn := by
    obtain ⟨b, v, l, rfl, hb, hM, hp, hh⟩ := h
    have hl0 : 0 < l.length := by
      rw [hp.length_eq]
      exact List.length_pos_iff.2 hne
    obtain ⟨k, hk⟩ : ∃ k, l.length = k + 1 := ⟨l.length - 1, by omega⟩
    obtain ⟨g, cap, rfl⟩ := Joins.ownsRow_form hb.own hl0
    rw [hk] at hb
    have hl := hb.lies
    refine (pop_any lt B Inv f lb hL w b g cap k l (Hp.G l 0) hi hl (by have := hp.length_eq; omega) (el_G hl0) hh).mono ?_
    rintro e w' ⟨rfl, l', hl', hp', hh', ho⟩
    have hq := (Hp.cut_perm hl0).symm.trans (hp'.symm.cons (Hp.G l 0))
    refine ⟨_, l', rfl, hp.symm.trans hq, fun y hy => ?_, fun j => j = b ∨ j = g, ⟨b, _, l', rfl, hl'.base, fun j => ⟨fun h => h.elim .inl (fun h => .inr (by rw [h]; rfl)), fun h => h.elim .inl (fun h => .inr (by injection h with h; exact h.symm))⟩, List.Perm.refl _, by rw [hl'.len]; exact hh'⟩, ho.mono fun j hj => ?_, fun j hj => ?_⟩
    · have h1 : y ∈ l := hq.mem_iff.2 (List.mem_cons_of_mem _ hy)
      obtain ⟨i, h2, h3⟩ := List.getElem_of_mem h1
      have h4 := Hp.Hp.top (swo hL.swo) hL.swo.irrefl hh i h2
      rw [Hp.G_at h2, h3] at h4
      exact h4
    · exact (hM j).2 (hj.elim .inl (fun h => .inr (by rw [h]; rfl)))
    · exact .inl ((hM j).2 (hj.elim .inl (fun h => .inr (by rw [h]; rfl))))
  len w M a L _ h hn := by
    obtain ⟨b, v, l, rfl, hb, hM, hp, hh⟩ := h
    obtain ⟨A, c, rfl, -⟩ := ownr_slice hb.own
    rw [← hp.length_eq]
    exact len_any w b f lb A l.length c hb.blk
theorem top_ok (lt : El → El → Bool) (B : Nat) (Inv : World → Prop) (f : FuncId) (lb : Array Value) (hL : Less lt B Inv f lb) : TopOk 38 (pl) ((0 : Int), (0 : Int)) lt Inv (Hin lt B f lb) where
  top0 w M a _ h := by
    obtain ⟨b, v, l, rfl, hb, hM, hp, hh⟩ := h
    obtain rfl := List.perm_nil.1 hp
    exact top_none B f lb w b v hb
  top w M a L _ h hne hn := by
    obtain ⟨b, v, l, rfl, hb, hM, hp, hh⟩ := h
    have hl0 : 0 < l.length := by
      rw [hp.length_eq]
      exact List.length_pos_iff.2 hne
    obtain ⟨g, cap, rfl⟩ := Joins.ownsRow_form hb.own hl0
    refine (top_some B f lb w b g cap l.length l (Hp.G l 0) hb.lies (el_G hl0)).mono ?_
    rintro e w' ⟨rfl, hb1⟩
    refine ⟨_, rfl, hp.mem_iff.1 (by rw [Hp.G_at hl0]; exact List.getElem_mem hl0), fun y hy => ?_, hb1⟩
    obtain ⟨i, h2, h3⟩ := List.getElem_of_mem (hp.mem_iff.2 hy)
    have h4 := Hp.Hp.top (swo hL.swo) hL.swo.irrefl hh i h2
    rw [Hp.G_at h2, h3] at h4
    exact h4
end Go.Proofs.Ytdhlbcbgbmgcjaa.Hq.D

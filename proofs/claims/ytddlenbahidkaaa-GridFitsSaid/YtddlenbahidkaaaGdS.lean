/- Layer 14 (grid): the reference's Near, as a contract: the next one is looked for again and again. -/
import Derived.Test.YtddlenbahidkaaaGdR
namespace Go.Proofs.Ytddlenbahidkaaa.Gd
open Go.RowKit Rec Ints Ge

theorem info_bool : (Try.prog.info? 4).map (fun i => (i.zero, i.size, i.bytes)) = some (some (.bool false), 1, 1) := by kernel_rfl
theorem made_bools (m : Nat) : (madeCells (Value.bool false).cells (m * 1)).toList = (List.replicate m false).map Value.bool := by
  apply List.ext_getElem
  · simp [madeCells]
  · intro i h1 h2
    simp [madeCells, Value.cells, Nat.mod_one]
/-- The best one of the first j. -/
def Bst (f : Nat → Int) (n : Nat) (R : Int) (k j : Nat) (bt : Int) : Prop :=
  (bt = -1 ∧ ∀ c, c < j → ¬ Cand f n R k c) ∨ ∃ b : Nat, bt = (b : Int) ∧ b < j ∧ Cand f n R k b ∧ ∀ c, c < j → Cand f n R k c → c = b ∨ lt f b c
section
variable {f : Nat → Int} {n k j : Nat} {R bt : Int}
theorem bst_start : Bst f n R k 0 (-1) := .inl ⟨rfl, fun c h => by omega⟩
theorem bst_skip (h : Bst f n R k j bt) (hn : ¬ Cand f n R k j) : Bst f n R k (j + 1) bt := by
  rcases h with ⟨e, h⟩ | ⟨b, e, hb, hc, h⟩
  · exact .inl ⟨e, fun c hcj hc => by
      rcases Nat.lt_or_ge c j with h1 | h1
      · exact h c h1 hc
      · obtain rfl : c = j := by omega
        exact hn hc⟩
  · exact .inr ⟨b, e, by omega, hc, fun c hcj hcc => by
      rcases Nat.lt_or_ge c j with h1 | h1
      · exact h c h1 hcc
      · obtain rfl : c = j := by omega
        exact absurd hcc hn⟩
theorem bst_take (h : Bst f n R k j bt) (hn : Cand f n R k j) (hlt : ∀ b : Nat, bt = (b : Int) → f j < f b) : Bst f n R k (j + 1) (j : Int) := by
  refine .inr ⟨j, rfl, by omega, hn, fun c hcj hcc => ?_⟩
  rcases Nat.lt_or_ge c j with h1 | h1
  · rcases h with ⟨e, h⟩ | ⟨b, e, hb, hc, h⟩
    · exact absurd hcc (h c h1)
    · have hj : lt f j b := .inl (hlt b e)
      rcases h c h1 hcc with rfl | h2
      · exact .inr hj
      · exact .inr (lt_trans hj h2)
  · exact .inl (by omega)
theorem bst_keep {b : Nat} (h : Bst f n R k j (b : Int)) (hlt : ¬ f j < f b) : Bst f n R k (j + 1) (b : Int) := by
  rcases h with ⟨e, h⟩ | ⟨b', e, hb, hc, h⟩
  · omega
  · obtain rfl : b = b' := by omega
    refine .inr ⟨b, rfl, by omega, hc, fun c hcj hcc => ?_⟩
    rcases Nat.lt_or_ge c j with h1 | h1
    · exact h c h1 hcc
    · obtain rfl : c = j := by omega
      refine .inr ?_
      unfold lt
      omega
end
theorem take_more {S : List Nat} {k b : Nat} (h : S[k]? = some b) : S.take (k + 1) = S.take k ++ [b] := by
  rw [List.take_add_one, h]
  rfl
theorem dq_at {p q : C} {l : List C} {j : Nat} (h : l[j]? = some q) : sq p.1 p.2 q.1 q.2 = dq p l j := by
  unfold dq
  rw [List.getD_eq_getElem?_getD, h, Option.getD_some]
/-- Which ones are done. -/
def Dns (n : Nat) (S : List Nat) (k : Nat) (xs : List Bool) : Prop := xs.length = n ∧ ∀ i, i < n → xs[i]? = some (decide (i ∈ S.take k))
theorem dns_start (n : Nat) (S : List Nat) : Dns n S 0 (List.replicate n false) := ⟨List.length_replicate, fun i hi => by rw [List.getElem?_replicate, if_pos hi]; rfl⟩
theorem dns_next {n k b : Nat} {S : List Nat} {xs : List Bool} (h : Dns n S k xs) (hS : S[k]? = some b) : Dns n S (k + 1) (xs.set b true) := by
  refine ⟨by rw [List.length_set]; exact h.1, fun i hi => ?_⟩
  rw [take_more hS, List.getElem?_set]
  by_cases e : b = i
  · subst e
    rw [if_pos rfl, if_pos (by rw [h.1]; exact hi)]
    simp
  · rw [if_neg e, h.2 i hi]
    congr 1
    refine decide_eq_decide.2 ?_
    rw [List.mem_append, List.mem_singleton]
    exact ⟨.inl, fun h => h.resolve_right fun e' => e e'.symm⟩
def lnOf : Value → Nat
  | .slice _ n _ => n
  | _ => 0
/-- A row of one's own in a block below which nothing turned. -/
theorem ownr_belowN {w w' : World} {base B n size : Nat} {e : TypeId} {v : Value} {xs : List Value} (h : w.ownsRow base e size v n xs) (hb : Below B w w') (hB : ∀ k, v.ownBlock = some k → k < B) : w'.ownsRow base e size v n xs := by
  refine ⟨h.1, ?_⟩
  rcases h.2 with hn | ⟨g, cap, cur, rfl, h1, hg, rest⟩
  · exact .inl hn
  · exact .inr ⟨g, cap, cur, rfl, h1, (hb.block g (hB g rfl)).trans hg, rest⟩
/-- What there is while the next one is looked for: what is found, what is done, the place. -/
structure Nr (w : World) (n : Nat) (x y : Int) (S : List Nat) (k : Nat) (v : Value) (wr : World) : Prop where
  bel : Below w.heap.size w wr
  box : wr.heap[w.heap.size]? = some (.cells #[.int .i64 x, .int .i64 y] 46 (0, 0))
  don : ∃ xs : List Bool, wr.ownsRow w.heap.size 4 1 (.slice (some ⟨w.heap.size + 1, 0, none⟩) n n) n (xs.map Value.bool) ∧ Dns n S k xs
  out : wr.ownsRow (w.heap.size + 2) 3 1 v k (intS.flat (nums (S.take k)))
  big : w.heap.size + 1 < wr.heap.size
theorem Nr.below {w w1 w2 : World} {n k : Nat} {x y : Int} {S : List Nat} {v : Value} (h : Nr w n x y S k v w1) (hb : Below w1.heap.size w1 w2) : Nr w n x y S k v w2 := by
  obtain ⟨xs, h1, h2⟩ := h.don
  exact ⟨h.bel.trans (hb.mono h.bel.size), (hb.block _ (Array.getElem?_eq_some_iff.1 h.box).1).trans h.box, ⟨xs, ownr_below h1 hb, h2⟩, ownr_below h.out hb, by have := hb.size; have := h.big; omega⟩

set_option maxHeartbeats 6400000 in
set_option maxRecDepth 100000 in
theorem refnear_any (A : Option Addr) (n c m : Nat) (l : List C) (x y reach : Int) (w : World) (hn : n ≤ 1048576) (hr : 0 ≤ reach ∧ reach ≤ 134217728) (h : RRow twoS w w.heap.size A n l) :
    Calls Try.prog 15 #[.slice A n c, .int .i64 x, .int .i64 y, .int .i64 reach, .int .i64 (m : Int)] w fun e w' => ∃ v, e = .returned v ∧ InTo w.heap.size w (nums (near (x, y) l reach m)) v w' := by
  obtain ⟨ii, hii, hiz0, hiz1, hiz2⟩ := info_of info_int
  obtain ⟨ib, hib, hbz0, hbz1, hbz2⟩ := info_of info_bool
  have H := Lib.hid h
  have HLN := Lib.hid h.len
  clear h
  obtain ⟨R, hR⟩ : ∃ R, reach * reach = R := ⟨_, rfl⟩
  have hRb : 0 ≤ R ∧ R ≤ 18014398509481984 := by
    have h1 : reach.natAbs * reach.natAbs ≤ 134217728 * 134217728 := Nat.mul_le_mul (by omega) (by omega)
    rw [← Int.natAbs_mul, hR] at h1
    have h2 := sqn reach
    rw [hR] at h2
    omega
  have eR : IntKind.i64.wrap (reach * reach) = R := by rw [hR]; exact IntWalk.i64_in _ ⟨by omega, by omega⟩
  obtain ⟨f, hf⟩ : ∃ f, dq (x, y) l = f := ⟨_, rfl⟩
  obtain ⟨S, hS⟩ : ∃ S, all f n R = S := ⟨_, rfl⟩
  have HNR : Hid (near (x, y) l reach m = S.take m) := by
    unfold Hid near
    rw [hf, hR, HLN.out, hS]
  have HDQ : Hid (∀ j q, l[j]? = some q → sq x y q.1 q.2 = f j) := fun j q hq => by rw [← hf]; exact dq_at (p := (x, y)) hq
  have HSLN : Hid (S.length ≤ n) := by rw [← hS]; exact all_len _ _
  have HSA := Lib.hid hS
  have HB0 : Hid (Below w.heap.size w (w.alloc (.cells #[.int .i64 x, .int .i64 y] 46))) := (Below.refl _ _).alloc (Nat.le_refl _) _
  have HK0 := Lib.hid (heap_alloc_new w (.cells #[.int .i64 x, .int .i64 y] 46))
  have HS0 : Hid ((w.alloc (.cells #[.int .i64 x, .int .i64 y] 46)).heap.size = w.heap.size + 1) := by unfold Hid; rw [World.size_alloc]
  clear hf hS hR hr hRb
  go_enter Try.func15, Try.ntmps15
  go_wp2_with (at_make; go_loud (refine wpList_make_full _ rfl _ _ 61 rfl w.heap.size 4 ib (.bool false) 1 Try.underlying61 hib hbz0 hbz1 _ _ _ _ n rfl rfl rfl rfl (by rw [hbz2]; omega) (by unfold maxLen; omega) (by simp) ?_); intro w2 hown2 hg2; rw [made_bools, HS0.out] at hown2; have HO2 := Lib.hid hown2; have HG2 := Lib.hid ((Below.refl _ _).grown hg2 (Nat.le_refl _) (fun j hj => by cases hj)); clear hown2 hg2)
  have HN0 : Hid (Nr w n x y S 0 (.slice none 0 0) w2) := ⟨HB0.out.trans (HG2.out.mono (by rw [HS0.out]; omega)), (HG2.out.block _ (by rw [HS0.out]; omega)).trans HK0.out, ⟨_, HO2.out, dns_start n S⟩, World.ownsRow_nil _ _ _ _, (HO2.out.lt _ rfl).2⟩
  clear HB0 HK0 HS0 HO2 HG2
  go_wp2
  go_loopw [12, 14, 15, 16] (fun v bt i d wr => ∃ k : Nat, k ≤ m ∧ k ≤ S.length ∧ Hid (Nr w n x y S k v wr)) (fun v _ _ _ _ => m - lnOf v)
  case atStart => exact ⟨0, Nat.zero_le _, Nat.zero_le _, HN0⟩
  case round =>
    clear HN0
    obtain ⟨k, hkm, hks, HN⟩ := hrel
    obtain ⟨A', c', rfl, -⟩ := ownr_slice HN.out.out
    by_cases hlt : k < m
    · have e1 : decide ((k : Int) < (m : Int)) = true := decide_eq_true (by omega)
      have HB1 : Hid (Bst f n R k 0 (-1)) := bst_start
      go_wp2
      go_loopw [14, 15, 16] (fun bt i _ wr => ∃ (j : Nat) (b : Int), j ≤ n ∧ i = .int .i64 (j : Int) ∧ bt = .int .i64 b ∧ Hid (Bst f n R k j b) ∧ Hid (Nr w n x y S k (.slice A' k c') wr)) (fun _ i _ _ => n - (intOf i).toNat)
      case atStart => exact ⟨0, -1, Nat.zero_le _, rfl, rfl, HB1, HN⟩
      case round =>
        clear HB1 HN
        obtain ⟨j, bt, hj, rfl, rfl, HBS, HN3⟩ := hrel
        by_cases hjn : j < n
        · obtain ⟨b, o, q, rfl, hbb, hq, c0, c1⟩ := two_at (H.out.below HN3.out.bel) hjn
          have hdq := HDQ.out j q hq
          have hsm := dq_small (x, y) l j
          obtain ⟨px, py⟩ := q
          simp only at c0 c1 hdq
          obtain ⟨d, hd⟩ : ∃ d, f j = d := ⟨_, rfl⟩
          rw [hd] at hdq
          have HDJ := Lib.hid hdq
          have HFD := Lib.hid hd
          obtain ⟨xs, hx1, hx2⟩ := HN3.out.don
          have y0 : wr.cell? ⟨w.heap.size, 0, none⟩ = some (.int .i64 x) := cell_of_blk HN3.out.box rfl
          have y1 : wr.cell? ⟨w.heap.size, 1, none⟩ = some (.int .i64 y) := cell_of_blk HN3.out.box rfl
          have z0 : wr.cell? ⟨w.heap.size + 1, j, none⟩ = some (.bool (decide (j ∈ S.take k))) := by rw [hx1.cellAt j (by omega), List.getElem?_map, hx2.2 j hjn]; rfl
          have hbig := HN3.out.big
          clear hdq hd hx1 hx2 xs hq
          go_wp2_with fail
          obtain ⟨ι, hne, W, i0, h0, hW, hC⟩ := fam_of wr
          have HWN : ∀ i, Hid (Nr w n x y S k (.slice A' k c') (W i)) := fun i => HN3.out.below (hW i)
          have d0 : ∀ i, (W i).cell? ⟨w.heap.size, 0, none⟩ = some (.int .i64 x) := fun i => ((hW i).cell (p := ⟨w.heap.size, 0, none⟩) (by show w.heap.size < _; omega)).trans y0
          have d1 : ∀ i, (W i).cell? ⟨w.heap.size, 1, none⟩ = some (.int .i64 y) := fun i => ((hW i).cell (p := ⟨w.heap.size, 1, none⟩) (by show w.heap.size < _; omega)).trans y1
          have d2 : ∀ i, (W i).cell? ⟨b, o + j * 2, none⟩ = some (.int .i64 px) := fun i => ((hW i).cell (p := ⟨b, o + j * 2, none⟩) (by show b < _; omega)).trans c0
          have d3 : ∀ i, (W i).cell? ⟨b, o + j * 2 + 1, none⟩ = some (.int .i64 py) := fun i => ((hW i).cell (p := ⟨b, o + j * 2 + 1, none⟩) (by show b < _; omega)).trans c1
          clear y0 y1 c0 c1 z0 hbig
          refine Mix.wp_region_lex (fun w' => ∃ i, w' = W i) (by kernel_rfl) (by kernel_rfl) ⟨i0, h0⟩ ?_
          rw [h0]
          clear h0
          repeat (first | (refine Mix.lex_step rfl ?_; intro K hK; go_big_quiet_step (fail); refine Mix.lex_on hK ?_; clear hK K) | (refine Mix.lex_skip rfl ?_; simp only [Act.put, List.setIfInBounds_toArray, List.set_cons_zero, List.set_cons_succ]))
          refine Mix.lex_call (refsquare_any (x, y) (px, py) (W i0)) rfl rfl rfl (fun _ => rfl) ?_
          rw [HDJ.out]
          rintro em0 wm0 ⟨rfl, hbm0⟩
          obtain ⟨jm0, rfl⟩ := hC _ wm0 hbm0
          clear hbm0
          refine ⟨_, rfl, ⟨jm0, rfl⟩, ?_⟩
          simp only [Act.put, List.setIfInBounds_toArray, List.set_cons_zero, List.set_cons_succ]
          repeat (first | (refine Mix.lex_step rfl ?_; intro K hK; go_big_quiet_step (fail); refine Mix.lex_on hK ?_; clear hK K) | (refine Mix.lex_skip rfl ?_; simp only [Act.put, List.setIfInBounds_toArray, List.set_cons_zero, List.set_cons_succ]))
          refine Mix.lex_nil ?_
          have HN4 := HWN jm0
          clear HWN HN3
          generalize W jm0 = w4 at *
          clear d0 d1 d2 d3 hW hC
          obtain ⟨xs, hx1, hx2⟩ := HN4.out.don
          have z0 : w4.cell? ⟨w.heap.size + 1, j, none⟩ = some (.bool (decide (j ∈ S.take k))) := by rw [hx1.cellAt j (by omega), List.getElem?_map, hx2.2 j hjn]; rfl
          have hbig := HN4.out.big
          clear hx1 hx2 xs
          by_cases hm : j ∈ S.take k
          · rw [decide_eq_true hm] at z0
            have HN5 : Hid (Bst f n R k (j + 1) bt) := bst_skip HBS.out (fun hc => hc.2.2 (by rw [HSA.out]; exact hm))
            clear hm HBS
            go_wp2
            go_roundw
            case rel => exact ⟨j + 1, bt, by omega, by go_num, rfl, HN5, HN4⟩
            case measure => simp [intOf]; omega
          rw [decide_eq_false hm] at z0
          by_cases hg : R < d
          · have f1 : decide (R < d) = true := decide_eq_true hg
            have HN5 : Hid (Bst f n R k (j + 1) bt) := bst_skip HBS.out (fun hc => by have h1 := hc.2.1; rw [HFD.out] at h1; omega)
            clear hm HBS
            go_wp2
            go_roundw
            case rel => exact ⟨j + 1, bt, by omega, by go_num, rfl, HN5, HN4⟩
            case measure => simp [intOf]; omega
          have f1 : decide (R < d) = false := decide_eq_false hg
          have HC : Hid (Cand f n R k j) := ⟨hjn, by rw [HFD.out]; omega, by rw [HSA.out]; exact hm⟩
          clear hm
          by_cases hneg : bt = -1
          · subst hneg
            have HN5 : Hid (Bst f n R k (j + 1) (j : Int)) := bst_take HBS.out HC.out (fun b e => by omega)
            clear HBS HC
            go_wp2_with fail
            obtain ⟨ι, hne, W, i0, h0, hW, hC⟩ := fam_of w4
            have HN6 : Hid (Nr w n x y S k (.slice A' k c') (W i0)) := HN4.out.below (hW i0)
            clear z0 hbig HN4
            refine Mix.wp_region_lex (fun w' => ∃ i, w' = W i) (by kernel_rfl) (by kernel_rfl) ⟨i0, h0⟩ ?_
            rw [h0]
            clear h0
            repeat (first | (refine Mix.lex_step rfl ?_; intro K hK; go_big_quiet_step (fail); refine Mix.lex_on hK ?_; clear hK K) | (refine Mix.lex_skip rfl ?_; simp only [Act.put, List.setIfInBounds_toArray, List.set_cons_zero, List.set_cons_succ]))
            refine Mix.lex_nil ?_
            generalize W i0 = w6 at *
            clear hW hC
            go_wp2
            go_roundw
            case rel => exact ⟨j + 1, j, by omega, by go_num, rfl, HN5, HN6⟩
            case measure => simp [intOf]; omega
          obtain ⟨bn, hbt, hbj⟩ : ∃ bn : Nat, bt = (bn : Int) ∧ bn < j := by
            rcases HBS.out with ⟨e, _⟩ | ⟨b', e, h1, _⟩
            · exact absurd e hneg
            · exact ⟨b', e, h1⟩
          subst hbt
          obtain ⟨b', o', q', e5, hbb', hq', c0, c1⟩ := two_at (H.out.below HN4.out.bel) (show bn < n by omega)
          injection e5 with e5
          injection e5 with e5 e6
          subst e5 e6
          have hdq := HDQ.out bn q' hq'
          obtain ⟨bx, by_⟩ := q'
          simp only at c0 c1 hdq
          obtain ⟨db, hdb⟩ : ∃ db, f bn = db := ⟨_, rfl⟩
          rw [hdb] at hdq
          have HDB := Lib.hid hdq
          have HFB := Lib.hid hdb
          have y0 : w4.cell? ⟨w.heap.size, 0, none⟩ = some (.int .i64 x) := cell_of_blk HN4.out.box rfl
          have y1 : w4.cell? ⟨w.heap.size, 1, none⟩ = some (.int .i64 y) := cell_of_blk HN4.out.box rfl
          have g1 : decide ((bn : Int) < 0) = false := decide_eq_false (by omega)
          have g2 : (0 : Int) ≤ (bn : Int) := by omega
          have g3 : (bn : Int) < (n : Int) := by omega
          clear hdq hdb hq' hneg
          go_wp2_with fail
          obtain ⟨ι, hne, W, i0, h0, hW, hC⟩ := fam_of w4
          have HWN : ∀ i, Hid (Nr w n x y S k (.slice A' k c') (W i)) := fun i => HN4.out.below (hW i)
          have d0 : ∀ i, (W i).cell? ⟨w.heap.size, 0, none⟩ = some (.int .i64 x) := fun i => ((hW i).cell (p := ⟨w.heap.size, 0, none⟩) (by show w.heap.size < _; omega)).trans y0
          have d1 : ∀ i, (W i).cell? ⟨w.heap.size, 1, none⟩ = some (.int .i64 y) := fun i => ((hW i).cell (p := ⟨w.heap.size, 1, none⟩) (by show w.heap.size < _; omega)).trans y1
          have d2 : ∀ i, (W i).cell? ⟨b, o + bn * 2, none⟩ = some (.int .i64 bx) := fun i => ((hW i).cell (p := ⟨b, o + bn * 2, none⟩) (by show b < _; omega)).trans c0
          have d3 : ∀ i, (W i).cell? ⟨b, o + bn * 2 + 1, none⟩ = some (.int .i64 by_) := fun i => ((hW i).cell (p := ⟨b, o + bn * 2 + 1, none⟩) (by show b < _; omega)).trans c1
          clear y0 y1 c0 c1 z0 hbig
          by_cases hld : d < db
          · have f2 : decide (d < db) = true := decide_eq_true hld
            have HN5 : Hid (Bst f n R k (j + 1) (j : Int)) := bst_take HBS.out HC.out (fun b e => by have e2 : bn = b := by omega
                                                                                                     subst e2
                                                                                                     rw [HFD.out, HFB.out]
                                                                                                     exact hld)
            clear HBS HC
            refine Mix.wp_region_lex (fun w' => ∃ i, w' = W i) (by kernel_rfl) (by kernel_rfl) ⟨i0, h0⟩ ?_
            rw [h0]
            clear h0
            repeat (first | (refine Mix.lex_step rfl ?_; intro K hK; go_big_quiet_step (fail); refine Mix.lex_on hK ?_; clear hK K) | (refine Mix.lex_skip rfl ?_; simp only [Act.put, List.setIfInBounds_toArray, List.set_cons_zero, List.set_cons_succ]))
            refine Mix.lex_call (refsquare_any (x, y) (bx, by_) (W i0)) rfl rfl rfl (fun _ => rfl) ?_
            rw [HDB.out]
            rintro em0 wm0 ⟨rfl, hbm0⟩
            obtain ⟨jm0, rfl⟩ := hC _ wm0 hbm0
            clear hbm0
            refine ⟨_, rfl, ⟨jm0, rfl⟩, ?_⟩
            simp only [Act.put, List.setIfInBounds_toArray, List.set_cons_zero, List.set_cons_succ]
            repeat (first | (refine Mix.lex_step rfl ?_; intro K hK; go_big_quiet_step (fail); refine Mix.lex_on hK ?_; clear hK K) | (refine Mix.lex_skip rfl ?_; simp only [Act.put, List.setIfInBounds_toArray, List.set_cons_zero, List.set_cons_succ]))
            refine Mix.lex_nil ?_
            have HN6 := HWN jm0
            clear HWN HN4
            generalize W jm0 = w6 at *
            clear d0 d1 d2 d3 hW hC
            go_wp2
            go_roundw
            case rel => exact ⟨j + 1, j, by omega, by go_num, rfl, HN5, HN6⟩
            case measure => simp [intOf]; omega
          · have f2 : decide (d < db) = false := decide_eq_false hld
            have HN5 : Hid (Bst f n R k (j + 1) (bn : Int)) := bst_keep HBS.out (by rw [HFD.out, HFB.out]; exact hld)
            clear HBS HC
            refine Mix.wp_region_lex (fun w' => ∃ i, w' = W i) (by kernel_rfl) (by kernel_rfl) ⟨i0, h0⟩ ?_
            rw [h0]
            clear h0
            repeat (first | (refine Mix.lex_step rfl ?_; intro K hK; go_big_quiet_step (fail); refine Mix.lex_on hK ?_; clear hK K) | (refine Mix.lex_skip rfl ?_; simp only [Act.put, List.setIfInBounds_toArray, List.set_cons_zero, List.set_cons_succ]))
            refine Mix.lex_call (refsquare_any (x, y) (bx, by_) (W i0)) rfl rfl rfl (fun _ => rfl) ?_
            rw [HDB.out]
            rintro em0 wm0 ⟨rfl, hbm0⟩
            obtain ⟨jm0, rfl⟩ := hC _ wm0 hbm0
            clear hbm0
            refine ⟨_, rfl, ⟨jm0, rfl⟩, ?_⟩
            simp only [Act.put, List.setIfInBounds_toArray, List.set_cons_zero, List.set_cons_succ]
            repeat (first | (refine Mix.lex_step rfl ?_; intro K hK; go_big_quiet_step (fail); refine Mix.lex_on hK ?_; clear hK K) | (refine Mix.lex_skip rfl ?_; simp only [Act.put, List.setIfInBounds_toArray, List.set_cons_zero, List.set_cons_succ]))
            refine Mix.lex_nil ?_
            have HN6 := HWN jm0
            clear HWN HN4
            generalize W jm0 = w6 at *
            clear d0 d1 d2 d3 hW hC
            go_wp2
            go_roundw
            case rel => exact ⟨j + 1, bn, by omega, by go_num, rfl, HN5, HN6⟩
            case measure => simp [intOf]; omega
        · obtain rfl : j = n := by omega
          by_cases hneg : bt = -1
          · subst hneg
            have HE : Hid (near (x, y) l reach m = S.take k) := by
              have h1 : S.length ≤ k := by
                rw [← HSA.out]
                refine no_next (n := j) fun c hc => ?_
                rcases HBS.out with ⟨_, h2⟩ | ⟨b', e, _⟩
                · exact h2 c hc.1 hc
                · omega
              unfold Hid
              rw [HNR.out, List.take_of_length_le h1, List.take_of_length_le (by omega)]
            clear HBS
            go_wp2
            go_ret
            refine ⟨_, rfl, InTo.of_own (n := k) (e := 3) ?_ HN3.out.bel⟩
            rw [HE.out]
            exact ownr_base HN3.out.out (by omega)
          · obtain ⟨bn, hbt, hbj, hbS⟩ : ∃ bn : Nat, bt = (bn : Int) ∧ bn < j ∧ S[k]? = some bn := by
              rcases HBS.out with ⟨e, _⟩ | ⟨b', e, h1, h2, h3⟩
              · exact absurd e hneg
              · refine ⟨b', e, h1, ?_⟩
                rw [← HSA.out]
                exact next_is h2 fun c hc => h3 c hc.1 hc
            subst hbt
            have hkS : k < S.length := (List.getElem?_eq_some_iff.1 hbS).1
            obtain ⟨xs, hx1, hx2⟩ := HN3.out.don
            have g1 : decide ((bn : Int) < 0) = false := decide_eq_false (by omega)
            have g2 : (0 : Int) ≤ (bn : Int) := by omega
            have g3 : (bn : Int) < (j : Int) := by omega
            have z0 : wr.cell? ⟨w.heap.size + 1, bn, none⟩ = some (.bool (decide (bn ∈ S.take k))) := by rw [hx1.cellAt bn (by omega), List.getElem?_map, hx2.2 bn hbj]; rfl
            have z1 : wr.frozen? ⟨w.heap.size + 1, bn, none⟩ = false := hx1.frozenAt bn
            have hso := Only.setCell wr ⟨w.heap.size + 1, bn, none⟩ (.bool true)
            have hst := (hx1.stored bn (.bool true)).1
            have hbs := HN3.out.bel.size
            have hlt0 := fun k' hk' => (HN3.out.out.lt k' hk').1
            have hox := ownr_only HN3.out.out hso (fun k' hk' e => by have := hlt0 k' hk'; have e' : k' = w.heap.size + 1 := e; omega)
            have HOX := Lib.hid (ownr_alloc hox (.cells #[.int .i64 (bn : Int)] 3))
            have hbx := HN3.out.bel.trans (hso.below hbs (fun i hi => by have e' : i = w.heap.size + 1 := hi; omega))
            have HBX := Lib.hid hbx
            have HKX := Lib.hid (hso.at HN3.out.box (by show ¬ (w.heap.size = w.heap.size + 1); omega))
            have HDX : Hid (∃ xs' : List Bool, (wr.setCell ⟨w.heap.size + 1, bn, none⟩ (.bool true)).ownsRow w.heap.size 4 1 (.slice (some ⟨w.heap.size + 1, 0, none⟩) j j) j (xs'.map Value.bool) ∧ Dns j S (k + 1) xs') := ⟨xs.set bn true, by rw [List.map_set]; exact hst, dns_next hx2 hbS⟩
            have hnew := new_int (wr.setCell ⟨w.heap.size + 1, bn, none⟩ (.bool true)) (bn : Int) 3
            have hbig := HN3.out.big
            have hsl : (wr.setCell ⟨w.heap.size + 1, bn, none⟩ (.bool true)).heap.size = wr.heap.size := by simp
            rw [hsl] at hnew
            have HNEW := Lib.hid hnew
            clear hnew
            have HSL := Lib.hid hsl
            have HT : Hid (nums (S.take (k + 1)) = nums (S.take k) ++ [(bn : Int)]) := by unfold Hid; rw [take_more hbS, nums_cat]; rfl
            have hSn := HSLN.out
            clear hso hst hlt0 hox hbx hx1 hx2 HN3 HBS hbS hsl
            go_wp2_with (at_builtin; go_loud (refine push_rec intS rfl (.tmp 69) (.tmp 71) 34 rfl (w.heap.size + 2) 3 ii (.int .i64 0) 8 Try.underlying34 hii hiz0 rfl hiz1 hiz2 _ k (nums (S.take k)) rfl HOX.out ⟨wr.heap.size, 0, none⟩ (bn : Int) rfl HNEW.out (by omega) (by omega) (by simp; omega) ?_); intro v2 w2 hown2 _ hb2; obtain ⟨A2, c2, rfl, -⟩ := ownr_slice hown2; have HO2 := Lib.hid hown2; have HB2 := Lib.hid (((Below.refl _ _).alloc (by rw [HSL.out]; omega) _).trans hb2); clear hown2 hb2)
            go_wp2
            go_roundw
            case rel =>
              refine ⟨k + 1, by omega, by omega, ?_⟩
              obtain ⟨xs', h1, h2⟩ := HDX.out
              refine ⟨HBX.out.trans (HB2.out.mono (by omega)), (HB2.out.block w.heap.size (by omega)).trans HKX.out, ⟨xs', ?_, h2⟩, ?_, ?_⟩
              · exact ownr_belowN h1 HB2.out (by intro k' e; have e' : some (w.heap.size + 1) = some k' := e; injection e' with e'; omega)
              · rw [HT.out]; exact HO2.out
              · have := HB2.out.size; rw [HSL.out] at this; omega
            case measure => simp [lnOf]; omega
    · obtain rfl : k = m := by omega
      have e1 : decide ((k : Int) < (k : Int)) = false := decide_eq_false (by omega)
      go_wp2
      go_ret
      refine ⟨_, rfl, InTo.of_own (n := k) (e := 3) ?_ HN.out.bel⟩
      rw [HNR.out]
      exact ownr_base HN.out.out (by omega)
end Go.Proofs.Ytddlenbahidkaaa.Gd

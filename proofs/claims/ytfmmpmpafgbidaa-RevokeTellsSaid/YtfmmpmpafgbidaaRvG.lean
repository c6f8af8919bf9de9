/- Layer 12 (revoke), the landed program: slices.Insert of one element into a row of the call's own, as a contract. -/
import Derived.Test.YtfmmpmpafgbidaaRvF
import Derived.Shelf.RegionOpenPlain
import Derived.Lib.Overlaps
namespace Go.Proofs.Ytfmmpmpafgbidaa.Rv
open Go.RowKit Rec

theorem size_rv : (Try.prog.info? 24).map (·.size) = some rvS.c := by kernel_rfl
theorem sizeof_rv : ∀ w, (sizeOf 24).run Try.prog w = .ok 2 w := fun w => by kernel_rfl

/-- What an own row is behind an insertion. -/
def ins (l : List P) (i : Nat) (x : P) : List P := l.take i ++ [x] ++ l.drop i
theorem ins_len (l : List P) (i : Nat) (x : P) : (ins l i x).length = l.length + 1 := by
  unfold ins
  simp only [List.length_append, List.length_take, List.length_drop, List.length_cons, List.length_nil]
  omega
theorem ins_end (l : List P) (x : P) : ins l l.length x = l ++ [x] := by unfold ins; simp
theorem ins_shift (l : List P) (i : Nat) (x : P) (h : i < l.length) : ((l.take (i + 1) ++ l.drop i ++ l.drop (i + 1 + (l.drop i).length)).take i ++ [x] ++ (l.take (i + 1) ++ l.drop i ++ l.drop (i + 1 + (l.drop i).length)).drop (i + [x].length)) = ins l i x := by
  have h0 : l.drop (i + 1 + (l.drop i).length) = [] := List.drop_of_length_le (by rw [List.length_drop]; omega)
  rw [h0, List.append_nil]
  unfold ins
  congr 1
  · rw [List.take_append_of_le_length (by rw [List.length_take]; omega), List.take_take, Nat.min_eq_left (by omega)]
  · show (l.take (i + 1) ++ l.drop i).drop (i + 1) = _
    rw [List.drop_left' (by rw [List.length_take]; omega)]
theorem ins_new (l z : List P) (i : Nat) (x : P) (h : i < l.length) (hz : z.length = l.length + 1 - i) (L2 : List P) (h2 : L2 = (l.take i ++ z).take i ++ [x] ++ (l.take i ++ z).drop (i + [x].length)) :
    L2.take (i + 1) ++ l.drop i ++ L2.drop (i + 1 + (l.drop i).length) = ins l i x := by
  have e1 : (l.take i ++ z).take i = l.take i := by rw [List.take_left' (by rw [List.length_take]; omega)]
  rw [e1] at h2
  have hl : L2.length = l.length + 1 := by
    rw [h2]
    simp only [List.length_append, List.length_take, List.length_drop, List.length_cons, List.length_nil]
    omega
  have e3 : L2.drop (i + 1 + (l.drop i).length) = [] := List.drop_of_length_le (by rw [List.length_drop]; omega)
  rw [e3, List.append_nil]
  unfold ins
  congr 1
  rw [h2, List.take_left' (by simp only [List.length_append, List.length_take, List.length_cons, List.length_nil]; omega)]

set_option maxHeartbeats 1600000 in
set_option maxRecDepth 100000 in
/-- slices.Insert behind the end. -/
theorem insert_end (base : Nat) (A : Option Addr) (n c vb : Nat) (l : List P) (x : P) (w : World) (h : w.ownsRow base 24 2 (.slice A n c) n (rvS.flat l)) (hl : l.length = n) (hn : n ≤ 100000) (hbase : base ≤ w.heap.size)
    (hv : w.heap[vb]? = some (.cells #[.int .i64 x.1, .int .i64 x.2] 24 (0, 0))) :
    Calls Try.prog 22 #[.slice A n c, .int .i64 (n : Int), .slice (some ⟨vb, 0, none⟩) 1 1] w fun e w' =>
      ∃ v, e = .returned v ∧ w'.ownsRow base 24 2 v (n + 1) (rvS.flat (l ++ [x])) ∧ Below base w w' := by
  obtain ⟨i0, hi, hz0, hz1, hz2⟩ := info_of info_rev
  have HO := Lib.hid h
  have HNEW : Hid (∀ j u, (rvS.f x)[j]? = some u → w.cell? ((⟨vb, 0, none⟩ : Addr).add j) = some u) := by
    intro j u hj
    have hadd : (⟨vb, 0, none⟩ : Addr).add j = ⟨vb, 0 + j, none⟩ := by unfold Addr.add; split <;> simp_all
    rw [hadd, Nat.zero_add]
    exact cell_of_blk hv (by have h2 : [Value.int .i64 x.1, Value.int .i64 x.2][j]? = some u := hj; simpa using h2)
  have h1 : (0 : Int) ≤ (n : Int) := by omega
  have hcn : Hid (n ≤ c) := by
    rcases own_hold h with ⟨_, h2, _, h3⟩ | ⟨g, rfl, h2, h3⟩
    · unfold Hid; omega
    · have := h2.fit; unfold Hid; omega
  by_cases hnc : n < c
  · have h2 : (n : Int) < (c : Int) := by omega
    clear h hv hl
    go_enter Try.func22, Try.ntmps22
    rcases A with _ | ad
    all_goals
      go_wp2_with (at_builtin; refine push_rec rvS rfl (.tmp 23) (.tmp 24) 22 rfl base 24 i0 (.agg #[.int .i64 0, .int .i64 0]) 16 Try.underlying22 hi hz0 rfl hz1 hz2 _ n l rfl HO.out ⟨vb, 0, none⟩ x rfl HNEW.out (by omega) (by omega) hbase ?_; intro v2 w2 hown2 _ hb2; have HO2 := Lib.hid hown2; have HB2 := Lib.hid hb2; clear hown2 hb2)
      go_wp2
      go_ret
      exact ⟨_, rfl, HO2.out, HB2.out⟩
  · have hce : n = c := by have := hcn.out; omega
    subst hce
    clear h hv hl
    go_enter Try.func22, Try.ntmps22
    rcases A with _ | ad
    all_goals
      go_wp2_with (at_builtin; refine push_rec rvS rfl (.tmp 23) (.tmp 24) 22 rfl base 24 i0 (.agg #[.int .i64 0, .int .i64 0]) 16 Try.underlying22 hi hz0 rfl hz1 hz2 _ n l rfl HO.out ⟨vb, 0, none⟩ x rfl HNEW.out (by omega) (by omega) hbase ?_; intro v2 w2 hown2 _ hb2; have HO2 := Lib.hid hown2; have HB2 := Lib.hid hb2; clear hown2 hb2)
      go_wp2
      go_ret
      exact ⟨_, rfl, HO2.out, HB2.out⟩

set_option maxHeartbeats 3200000 in
set_option maxRecDepth 100000 in
/-- slices.Insert ahead of the end, where there is room. -/
theorem insert_room (base g cap n i vb : Nat) (l : List P) (x : P) (w : World) (h : Hold rvS w base 24 g cap l) (hl : l.length = n) (hn : n ≤ 100000) (hin : i < n) (hroom : n + 1 ≤ cap)
    (hv : w.heap[vb]? = some (.cells #[.int .i64 x.1, .int .i64 x.2] 24 (0, 0))) (hvg : vb ≠ g) :
    Calls Try.prog 22 #[.slice (some ⟨g, 0, none⟩) n cap, .int .i64 (i : Int), .slice (some ⟨vb, 0, none⟩) 1 1] w fun e w' =>
      ∃ v, e = .returned v ∧ w'.ownsRow base 24 2 v (n + 1) (rvS.flat (ins l i x)) ∧ Below base w w' := by
  have H := Lib.hid h
  have HV := Lib.hid hv
  have HL := Lib.hid hl
  have HVG := Lib.hid hvg
  have HCM : Hid (cap ≤ maxLen) := h.fit.2
  have HBG : Hid (base ≤ g) := h.le
  have HLB : Hid (base ≤ w.drew.heap.size) := Nat.le_trans h.le (Nat.le_of_lt h.lt)
  have hcm : cap ≤ 9223372036854775807 := by have := h.fit.2; unfold maxLen at this; omega
  have hov : ∀ lb cb, (callFunc 27 #[.slice (some ⟨vb, 0, none⟩) 1 1, .slice (some ⟨g, (i + 1) * 2, none⟩) lb cb]).run Try.prog w = .ok (.value (.bool false)) w := fun lb cb => by
    obtain ⟨cur, hcur, _, _, _, hcl, _⟩ := H.out
    rw [run_callFunc_extern Try.func27 (by kernel_rfl) (by kernel_rfl) (by kernel_rfl) (e := Extern.SlicesOverlaps.overlaps #[22, 22] #[4]) (by kernel_rfl),
      Lib.run_overlaps_apart w 22 4 24 Try.underlying22 2 sizeof_rv ⟨vb, 0, none⟩ ⟨g, (i + 1) * 2, none⟩ 1 1 lb cb hvg 24 24 2 (cap * 2) (by simp [World.shape?, hv]) (by simp only [World.shape?, hcur, List.size_toArray]; rw [hcl]; rfl) (by omega) (free_of_blk hv) (free_of_blk hv)]
    rfl
  have mixed : Try.prog.follows .mixedOrders = true := by kernel_rfl
  have hw1 : IntKind.i64.wrap ((n : Int) + 1) = (n : Int) + 1 := IntWalk.i64_in _ ⟨by omega, by omega⟩
  have hw2 : IntKind.i64.wrap ((i : Int) + 1) = (i : Int) + 1 := IntWalk.i64_in _ ⟨by omega, by omega⟩
  have t1 : ((n : Int) + 1).toNat = n + 1 := by omega
  have t2 : ((i : Int) + 1).toNat = i + 1 := by omega
  have a1 : (0 : Int) ≤ (i : Int) := by omega
  have a2 : (i : Int) ≤ (n : Int) := by omega
  have a3 : ((i : Int) == (n : Int)) = false := beq_eq_false_iff_ne.2 (by omega)
  have a4 : decide ((cap : Int) < (n : Int) + 1) = false := decide_eq_false (by omega)
  have a5 : (0 : Int) ≤ (n : Int) + 1 := by omega
  have a6 : (n : Int) + 1 ≤ (cap : Int) := by omega
  have a7 : (0 : Int) ≤ (i : Int) + 1 := by omega
  have a8 : (i : Int) + 1 ≤ (n : Int) + 1 := by omega
  have a9 : (i : Int) ≤ (n : Int) + 1 := by omega
  have b1 : ¬ (cap = i) := by omega
  have b2 : ¬ (cap = i + 1) := by omega
  have b3 : i < cap := by omega
  have b4 : i + 1 < cap := by omega
  obtain ⟨D, hD⟩ : ∃ D, D = l.drop i := ⟨_, rfl⟩
  have HD := Lib.hid hD
  have HDL : Hid (D.length = n - i) := by unfold Hid; rw [hD, List.length_drop, hl]
  clear h hv hl hvg hD
  go_enter Try.func22, Try.ntmps22
  go_wp2_with (simp only [hov])
  go_region_law_o (refine step_copy_rec rvS rfl (.tmp 73) (.tmp 76) 22 22 rfl 24 Try.underlying22 size_rv base 24 g cap (i + 1) l D (H.out.keep rfl) (n + 1 - (i + 1)) (cap - (i + 1)) (some ⟨g, i * 2, none⟩) (n + 1 - i) (cap - i) (by simp [Act.eval, Act.put]; rfl) (by simp [Act.eval, Act.put]) (by show _ = min _ _; rw [HDL.out]; omega) (fun _ => ⟨_, rfl, by rw [HD.out]; exact (H.out.keep (w' := w.drew) rfl).from i⟩) (by rw [HL.out]; omega) (by rw [HDL.out]; omega) ?_; intro w3 hH3 ho3)
  all_goals
    have HH3 := Lib.hid hH3.out
    have HB3 : Hid (Below base w w3) := ((Below.refl base w).drew).trans (ho3.below HLB.out (fun k hk => by rw [hk]; exact HBG.out))
    have HV3 : Hid (∀ j u, (rvS.f x)[j]? = some u → w3.cell? ((⟨vb, 0, none⟩ : Addr).add j) = some u) := fun j u hj => by
      have hadd : (⟨vb, 0, none⟩ : Addr).add j = ⟨vb, 0 + j, none⟩ := by unfold Addr.add; split <;> simp_all
      rw [hadd, Nat.zero_add]
      exact cell_of_blk (ho3.at (w := w.drew) HV.out HVG.out) (by have h2 : [Value.int .i64 x.1, Value.int .i64 x.2][j]? = some u := hj; simpa using h2)
    have HI3 : Hid (i ≤ (l.take (i + 1) ++ D ++ l.drop (i + 1 + D.length)).length) := by unfold Hid; simp only [List.length_append, List.length_take, HL.out]; omega
    clear hH3 ho3
    go_wp2_with ((with_reducible show wpList _ _ _ _ _ _); refine wpList_copy_rec rvS rfl (.tmp 80) (.tmp 81) 22 22 rfl 24 Try.underlying22 size_rv base 24 g cap i _ [x] HH3.out (n + 1 - i) (cap - i) (some ⟨vb, 0, none⟩) 1 1 rfl rfl (by show _ = min _ _; simp; omega) (fun _ => ⟨_, rfl, by rw [flat_single]; exact HV3.out⟩) HI3.out (by simp; omega) ?_; intro w4 hH4 ho4; have HH4 := Lib.hid hH4.out; have HO4 := Lib.hid ho4; clear hH4 ho4)
    go_wp2
    go_ret
    have e1 := ins_shift l i x (by rw [HL.out]; omega)
    rw [← HD.out] at e1
    have h5 := HH4.out
    rw [e1] at h5
    have h6 := h5.own'
    rw [ins_len, HL.out] at h6
    exact ⟨_, rfl, h6, HB3.out.trans (HO4.out.below (Nat.le_trans HLB.out HB3.out.size) (fun k hk => by rw [hk]; exact HBG.out))⟩

set_option maxHeartbeats 3200000 in
set_option maxRecDepth 100000 in
/-- slices.Insert ahead of the end, where there is no room. -/
theorem insert_grow (base g cap n i vb : Nat) (l : List P) (x : P) (w : World) (h : Hold rvS w base 24 g cap l) (hl : l.length = n) (hn : n ≤ 100000) (hin : i < n) (hroom : cap < n + 1)
    (hv : w.heap[vb]? = some (.cells #[.int .i64 x.1, .int .i64 x.2] 24 (0, 0))) (hvl : vb < w.heap.size) :
    Calls Try.prog 22 #[.slice (some ⟨g, 0, none⟩) n cap, .int .i64 (i : Int), .slice (some ⟨vb, 0, none⟩) 1 1] w fun e w' =>
      ∃ v, e = .returned v ∧ w'.ownsRow base 24 2 v (n + 1) (rvS.flat (ins l i x)) ∧ Below base w w' := by
  obtain ⟨i0, hi, hz0, hz1, hz2⟩ := info_of info_rev
  have H := Lib.hid h
  have HV := Lib.hid hv
  have HL := Lib.hid hl
  have HBG : Hid (base ≤ w.heap.size) := Nat.le_trans h.le (Nat.le_of_lt h.lt)
  have hcap : n = cap := by have := h.fit; omega
  obtain ⟨cap2, w2, hrun, hc2, hH2, hb2⟩ := run_zeros_rec (P := Try.prog) w 22 3 24 i0 rvS ((0, 0) : P) .i64 .i64 Try.underlying22 Try.underlying3 hi hz0 rfl hz1 (by omega) base 24 g cap l h i (by omega) (n + 1 - i) (by omega) (by omega) (by omega)
  have hge : i + (n + 1 - i) = n + 1 := by omega
  rw [hge] at hrun hc2
  obtain ⟨Z, hZ⟩ : ∃ Z, Z = List.replicate (n + 1 - i) ((0, 0) : P) := ⟨_, rfl⟩
  rw [← hZ] at hH2
  have HZL : Hid (Z.length = n + 1 - i) := by unfold Hid; rw [hZ, List.length_replicate]
  have H2 := Lib.hid hH2
  have HB2 := Lib.hid hb2
  have HV2 : Hid (∀ j u, (rvS.f x)[j]? = some u → w2.cell? ((⟨vb, 0, none⟩ : Addr).add j) = some u) := fun j u hj => by
    have hadd : (⟨vb, 0, none⟩ : Addr).add j = ⟨vb, 0 + j, none⟩ := by unfold Addr.add; split <;> simp_all
    rw [hadd, Nat.zero_add]
    exact cell_of_blk ((hb2.block vb hvl).trans hv) (by have h2 : [Value.int .i64 x.1, Value.int .i64 x.2][j]? = some u := hj; simpa using h2)
  have hcm : cap ≤ 9223372036854775807 := by have := h.fit.2; unfold maxLen at this; omega
  have HG2 : Hid (Hold rvS w2 base 24 g cap l) := h.below hb2
  have HGN : Hid (g < w.heap.size) := h.lt
  have mixed : Try.prog.follows .mixedOrders = true := by kernel_rfl
  have hw1 : IntKind.i64.wrap ((n : Int) + 1) = (n : Int) + 1 := IntWalk.i64_in _ ⟨by omega, by omega⟩
  have hw2 : IntKind.i64.wrap ((i : Int) + 1) = (i : Int) + 1 := IntWalk.i64_in _ ⟨by omega, by omega⟩
  have hw3 : IntKind.i64.wrap ((n : Int) + 1 - (i : Int)) = ((n + 1 - i : Nat) : Int) := by rw [IntWalk.i64_in _ ⟨by omega, by omega⟩]; omega
  have t2 : ((i : Int) + 1).toNat = i + 1 := by omega
  have a1 : (0 : Int) ≤ (i : Int) := by omega
  have a2 : (i : Int) ≤ (n : Int) := by omega
  have a3 : ((i : Int) == (n : Int)) = false := beq_eq_false_iff_ne.2 (by omega)
  have a4 : decide ((cap : Int) < (n : Int) + 1) = true := decide_eq_true (by omega)
  have a7 : (0 : Int) ≤ (i : Int) + 1 := by omega
  have a8 : (i : Int) + 1 ≤ (n : Int) + 1 := by omega
  have a9 : (i : Int) ≤ (n : Int) + 1 := by omega
  have a10 : (i : Int) ≤ (cap : Int) := by omega
  have b1 : ¬ (cap = i) := by omega
  have b2 : ¬ (cap2 = i + 1) := by omega
  have b3 : i < cap := by omega
  have b4 : i + 1 < cap2 := by omega
  have b5 : ¬ (cap2 = i) := by omega
  have b6 : i < cap2 := by omega
  have HC2 := Lib.hid hc2
  obtain ⟨D, hD⟩ : ∃ D, D = l.drop i := ⟨_, rfl⟩
  have HD := Lib.hid hD
  have HDL : Hid (D.length = n - i) := by unfold Hid; rw [hD, List.length_drop, hl]
  have HI2 : Hid (i ≤ (l.take i ++ Z).length) := by unfold Hid; rw [List.length_append, List.length_take, hl]; omega
  clear h hv hl hD hb2 hH2 hZ hge hc2 hcap
  go_enter Try.func22, Try.ntmps22
  go_wp2_with (first
    | (at_builtin; refine Lib.wpList_append_run _ rfl _ _ _ _ rfl _ _ rfl rfl _ _ (hrun _) ?_)
    | ((with_reducible show wpList _ _ _ _ _ _); refine wpList_copy_rec rvS rfl (.tmp 43) (.tmp 44) 22 22 rfl 24 Try.underlying22 size_rv w.heap.size 24 w.heap.size cap2 i _ [x] H2.out (n + 1 - i) (cap2 - i) (some ⟨vb, 0, none⟩) 1 1 rfl rfl (by show _ = min _ _; simp; omega) (fun _ => ⟨_, rfl, by rw [flat_single]; exact HV2.out⟩) HI2.out (by simp; have := HC2.out; omega) ?_; intro w3 hH3 ho3; have HH3 := Lib.hid hH3.out; have HO3 := Lib.hid ho3; clear hH3 ho3))
  obtain ⟨L2, hL2⟩ : ∃ L2, L2 = (l.take i ++ Z).take i ++ [x] ++ (l.take i ++ Z).drop (i + [x].length) := ⟨_, rfl⟩
  have HL2 := Lib.hid hL2
  have HH3' : Hid (Hold rvS w3 w.heap.size 24 w.heap.size cap2 L2) := by unfold Hid; rw [hL2]; exact HH3.out
  have HLL : Hid (L2.length = n + 1) := by
    unfold Hid
    rw [hL2]
    simp only [List.length_append, List.length_take, List.length_drop, List.length_cons, List.length_nil, HL.out, HZL.out]
    omega
  have HB3 : Hid (Below w.heap.size w w3) := HB2.out.trans (HO3.out.below HB2.out.size (fun k hk => by rw [hk]; exact Nat.le_refl _))
  have HG3 : Hid (Hold rvS w3 base 24 g cap l) := H.out.below HB3.out
  clear HH3 hL2
  go_region_law_o (refine step_copy_rec rvS rfl (.tmp 50) (.tmp 53) 22 22 rfl 24 Try.underlying22 size_rv w.heap.size 24 w.heap.size cap2 (i + 1) L2 D (HH3'.out.keep rfl) (n + 1 - (i + 1)) (cap2 - (i + 1)) (some ⟨g, i * 2, none⟩) (n - i) (cap - i) (by simp [Act.eval, Act.put]; rfl) (by simp [Act.eval, Act.put]) (by show _ = min _ _; rw [HDL.out]; omega) (fun _ => ⟨_, rfl, by rw [HD.out]; exact (HG3.out.keep (w' := w3.drew) rfl).from i⟩) (by rw [HLL.out]; omega) (by rw [HDL.out]; have := HC2.out; omega) ?_; intro w4 hH4 ho4; have HH4 := Lib.hid hH4.out; have HO4 := Lib.hid ho4; clear hH4 ho4)
  all_goals
    go_wp2
    go_ret
    have e1 := ins_new l Z i x (by rw [HL.out]; omega) (by rw [HZL.out, HL.out]) L2 HL2.out
    rw [← HD.out] at e1
    have h5 := HH4.out
    rw [e1] at h5
    have h6 := h5.own'
    rw [ins_len, HL.out] at h6
    exact ⟨_, rfl, ownr_base h6 HBG.out, (HB3.out.drew.trans (HO4.out.below HB3.out.size (fun k hk => by rw [hk]; exact Nat.le_refl _))).mono HBG.out⟩

/-- slices.Insert of one element into a row of the call's own. -/
theorem insert_any (base : Nat) (A : Option Addr) (n c i vb : Nat) (l : List P) (x : P) (w : World) (h : w.ownsRow base 24 2 (.slice A n c) n (rvS.flat l)) (hl : l.length = n) (hn : n ≤ 100000) (hin : i ≤ n) (hbase : base ≤ w.heap.size)
    (hv : w.heap[vb]? = some (.cells #[.int .i64 x.1, .int .i64 x.2] 24 (0, 0))) (hva : ∀ k, (Value.slice A n c).ownBlock = some k → vb ≠ k) :
    Calls Try.prog 22 #[.slice A n c, .int .i64 (i : Int), .slice (some ⟨vb, 0, none⟩) 1 1] w fun e w' =>
      ∃ v, e = .returned v ∧ w'.ownsRow base 24 2 v (n + 1) (rvS.flat (ins l i x)) ∧ Below base w w' := by
  by_cases he : i = n
  · subst he
    have e := ins_end l x
    rw [hl] at e
    rw [e]
    exact insert_end base A i c vb l x w h hl hn hbase hv
  · rcases own_hold h with ⟨_, _, _, h3⟩ | ⟨g, rfl, h2, h3⟩
    · omega
    · by_cases hr : n + 1 ≤ c
      · exact insert_room base g c n i vb l x w h2 hl hn (by omega) hr hv (hva g rfl)
      · exact insert_grow base g c n i vb l x w h2 hl hn (by omega) (by omega) hv (Array.getElem?_eq_some_iff.1 hv).1
end Go.Proofs.Ytfmmpmpafgbidaa.Rv

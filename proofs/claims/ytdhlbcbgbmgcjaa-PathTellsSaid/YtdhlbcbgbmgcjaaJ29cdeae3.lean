/- Lemmas that the proof stands on, in build order: PdL. -/
import Derived.ArgAppend
import Derived.BigRegion
import Derived.BigQuiet
import Derived.Deep.DeepCutAuto
import Derived.Test.YtdhlbcbgbmgcjaaJ26b1b13a
import Derived.Test.YtdhlbcbgbmgcjaaJ2789494b
import Derived.Test.YtdhlbcbgbmgcjaaJ282ea104
import Derived.Test.YtdhlbcbgbmgcjaaJ87d8111
/- Layer 17 (path), the landed program: links, as a contract. -/
namespace Go.Proofs.Ytdhlbcbgbmgcjaa.Pt
open Go.RowKit Rec Ints Ge Gf Pa

/-- While they are counted. -/
structure La (w : World) (N : Nt) (A : Option Addr) (n c : Nat) (A' : Option Addr) (m c' g j : Nat) (wr : World) : Prop where
  bx : Bx w N A n c A' m c' wr
  cn : Hold intS wr (w.heap.size + 1) 3 g n (cl N j)
theorem La.below {w w1 w2 : World} {N : Nt} {A A' : Option Addr} {n c m c' g j : Nat} (h : La w N A n c A' m c' g j w1) (hb : Below w1.heap.size w1 w2) : La w N A n c A' m c' g j w2 := ⟨h.bx.below hb, h.cn.below hb⟩
/-- While the table is laid. -/
structure Lb (w : World) (N : Nt) (A : Option Addr) (n c : Nat) (A' : Option Addr) (m c' g t a : Nat) (V : List Value) (G : Nat → List L3) (wr : World) : Prop where
  la : La w N A n c A' m c' g m wr
  blk : wr.heap[t]? = some (.cells V.toArray 23 (0, 0))
  row : ∃ all, Hold lkS wr (w.heap.size + 1) 45 a (2 * m) all ∧ Ly N G all
  low : w.heap.size + 1 ≤ t
  ne : t ≠ g ∧ a ≠ g ∧ t ≠ a
theorem Lb.below {w w1 w2 : World} {N : Nt} {A A' : Option Addr} {n c m c' g t a : Nat} {V : List Value} {G : Nat → List L3} (h : Lb w N A n c A' m c' g t a V G w1) (hb : Below w1.heap.size w1 w2) : Lb w N A n c A' m c' g t a V G w2 := by
  obtain ⟨all, h1, h2⟩ := h.row
  exact ⟨h.la.below hb, (hb.block _ (Array.getElem?_eq_some_iff.1 h.blk).1).trans h.blk, ⟨all, h1.below hb, h2⟩, h.low, h.ne⟩
/-- One link is laid behind a stop's others: there is room. -/
theorem lb_run {w w1 : World} {N : Nt} {A A' : Option Addr} {n c m c' g t a gz x : Nat} {V : List Value} {G : Nat → List L3} {l : L3} {ty : TypeId} {i2 : TypeInfo} (hi2 : Try.prog.info? 45 = some i2) (hz : i2.size = 3) (h : Lb w N A n c A' m c' g t a V G w1) (hN : Valid N) (hll : N.lk.length = m) (hx : x < N.st.length) (hf : (G x).length < deg N x)
    (hz0 : w1.heap[gz]? = some (.cells #[.int .i64 l.1, .int .i64 l.2.1, .int .i64 l.2.2] 45 (0, 0))) :
    (Builtin.append_ #[23, 23] ty #[.slice (some ⟨a, pos N x, none⟩) (G x).length (deg N x), .slice (some ⟨gz, 0, none⟩) 1 1]).run Try.prog w1 = .ok (.slice (some ⟨a, pos N x, none⟩) ((G x).length + 1) (deg N x)) (w1.setCells a ((ofs N x + (G x).length) * 3) (lkS.f l)) := by
  obtain ⟨all, h1, h2⟩ := h.row
  have hfit := ofs_fit hN hx
  have hp : pos N x = ofs N x * 3 := pos_at (by omega)
  rw [hll] at hfit
  have h3 := run_append_room_cells (P := Try.prog) w1 23 ty 45 i2 Try.underlying23 hi2 a (pos N x) (G x).length (deg N x) ⟨gz, 0, none⟩ 1 1 (lkS.f l) (by rw [hz]; rfl)
    (fun j u hj => by
      have hj3 : j < 3 := (List.getElem?_eq_some_iff.1 hj).1
      rw [Addr.add_mid, Nat.zero_add]
      match j, hj3 with
      | 0, _ => exact cell_of_blk hz0 hj
      | 1, _ => exact cell_of_blk hz0 hj
      | 2, _ => exact cell_of_blk hz0 hj) (lkS.one l) hf
    (fun j hj => h1.some_ (by
      have h9 : lkS.c = 3 := rfl
      have hj3 : j < 3 := hj
      rw [hz, hp, h9]
      omega)) (fun j _ => h1.free _)
  rw [hz, hp] at h3
  rw [hp, Nat.add_mul]
  exact h3
theorem Lb.push {w w1 w2 : World} {N : Nt} {A A' : Option Addr} {n c m c' g t a x : Nat} {G : Nat → List L3} {l : L3} (h : Lb w N A n c A' m c' g t a (Vl N a (fun v => (G v).length)) G w1) (hN : Valid N) (hll : N.lk.length = m) (hx : x < N.st.length) (hf : (G x).length < deg N x) (hw2 : w2 = w1.setCells a ((ofs N x + (G x).length) * 3) (lkS.f l)) :
    w2.heap[t]? = some (.cells (Vl N a (fun v => (G v).length)).toArray 23 (0, 0)) ∧ Only (fun k => k = a) w1 w2 ∧
    Lb w N A n c A' m c' g t a (Vl N a (fun v => (if v = x then G x ++ [l] else G v).length)) (fun v => if v = x then G x ++ [l] else G v) (w2.setCell ⟨t, x, none⟩ (.slice (some ⟨a, pos N x, none⟩) ((G x).length + 1) (deg N x))) := by
  obtain ⟨all, h1, h2⟩ := h.row
  have hne := h.ne
  have hlow := h.low
  have hal := h1.le
  have hfit := ofs_fit hN hx
  rw [hll] at hfit
  have ho2 : Only (fun k => k = a) w1 w2 := by rw [hw2]; exact only_setCells w1 a _ _
  have hb2 := ho2.at h.blk hne.2.2
  have hH2 : Hold lkS w2 (w.heap.size + 1) 45 a (2 * m) (all.set (ofs N x + (G x).length) l) := by
    rw [hw2]
    exact h1.set l (by rw [h2.len, hll]; omega)
  have hos := Only.setCell w2 ⟨t, x, none⟩ (.slice (some ⟨a, pos N x, none⟩) ((G x).length + 1) (deg N x))
  refine ⟨hb2, ho2, ⟨⟨?_, ?_⟩, ?_, ⟨_, ?_, h2.push hN hx hf l⟩, h.low, hne⟩⟩
  · exact (h.la.bx.only ho2 (by omega)).only hos (show w.heap.size < t by omega)
  · exact (h.la.cn.keep (ho2.block g h.la.cn.lt (fun e => hne.2.1 e.symm))).keep (hos.block g (Nat.lt_of_lt_of_le h.la.cn.lt ho2.size) (fun e => hne.1 e.symm))
  · have h3 := set_blk (j := x) (u := .slice (some ⟨a, pos N x, none⟩) ((G x).length + 1) (deg N x)) hb2
    rw [List.setIfInBounds_toArray] at h3
    have h4 := vl_set (N := N) (a := a) (G := fun v => (G v).length) (G' := fun v => (if v = x then G x ++ [l] else G v).length) (v := x) (fun u _ hu => by simp only [if_neg hu])
    rw [if_pos rfl, List.length_append] at h4
    simp only [List.length_cons, List.length_nil, Nat.zero_add] at h4
    rw [h4] at h3
    exact h3
  · exact hH2.keep (hos.block a hH2.lt (fun e => hne.2.2 e.symm))
theorem Lb.one {w w1 : World} {N : Nt} {A A' : Option Addr} {n c m c' g t a : Nat} {G G' : Nat → List L3} (h : Lb w N A n c A' m c' g t a (Vl N a (fun v => (G v).length)) G w1) (e : ∀ v, v < N.st.length → G' v = G v) (hle : ∀ v, (G' v).length ≤ deg N v) :
    Lb w N A n c A' m c' g t a (Vl N a (fun v => (G' v).length)) G' w1 := by
  obtain ⟨all, h1, h2⟩ := h.row
  have ev : Vl N a (fun v => (G' v).length) = Vl N a (fun v => (G v).length) := by
    apply List.ext_getElem?
    intro u
    by_cases hu : u < N.st.length
    · rw [vl_at hu, vl_at hu, e u hu]
    · rw [List.getElem?_eq_none (by rw [vl_len]; omega), List.getElem?_eq_none (by rw [vl_len]; omega)]
  exact ⟨h.la, by rw [ev]; exact h.blk, ⟨all, h1, h2.one e hle⟩, h.low, h.ne⟩
set_option maxHeartbeats 4000000 in
set_option maxRecDepth 100000 in
theorem links_any (N : Nt) (A A' : Option Addr) (n c m c' : Nat) (w : World) (h : NAt w w.heap.size N A n c A' m c') (hc : check N = 0) :
    Calls Try.prog 18 #[.agg #[.int .i64 N.ver, .slice A n c, .slice A' m c']] w fun e w' => ∃ t V, e = .returned (.slice (some ⟨t, 0, none⟩) n n) ∧ Rws w' w'.heap.size t N V ∧ Below w.heap.size w w' := by
  obtain ⟨i0, hi, hz0, hz1, hz2⟩ := info_of info_int
  obtain ⟨i1, hi1, hz10, hz11, hz12⟩ := info_of info_lks
  obtain ⟨i2, hi2, hz20, hz21, hz22⟩ := info_of info_lk
  have hv := valid_of hc
  have HB := Lib.hid (Bx.start h)
  have hls : N.st.length = n := h.st.len
  have hll : N.lk.length = m := h.lk.len
  have hn9 := hv.ns
  have hm9 := hv.nl
  rw [hls] at hn9
  rw [hll] at hm9
  have HLA : Hid (∀ l ∈ N.lk, ∃ a b : Nat, l.1 = (a : Int) ∧ l.2.1 = (b : Int) ∧ a < b ∧ b < n) := fun l hl => by
    have := link_at hv hl
    rw [hls] at this
    exact ⟨l.1.toNat, l.2.1.toNat, by omega, by omega, by omega, by omega⟩
  have HLS := Lib.hid hls
  have HLL := Lib.hid hll
  have HV := Lib.hid hv
  obtain ⟨M, hM⟩ : ∃ M, 2 * m = M := ⟨_, rfl⟩
  have HM := Lib.hid hM
  have qM : IntKind.i64.wrap (2 * (m : Int)) = (M : Int) := by rw [IntWalk.i64_in _ ⟨by omega, by omega⟩]; omega
  have hM9 : M ≤ 32768 := by omega
  clear h hc hv hls hll hM
  go_enter Try.func18, Try.ntmps18
  go_upto_region 1 with fail
  have hsA : (w.alloc (.cells #[.int .i64 N.ver, .slice A n c, .slice A' m c'] 25)).heap.size = w.heap.size + 1 := by simp
  generalize w.alloc (.cells #[.int .i64 N.ver, .slice A n c, .slice A' m c'] 25) = wA at *
  have y1 : wA.cell? ⟨w.heap.size, 1, none⟩ = some (.slice A n c) := cell_of_blk HB.out.blk rfl
  have hsB : w.heap.size + 1 ≤ wA.heap.size := by omega
  clear hsA
  go_upto_region 2 with (at_make; go_loud (refine wpList_make_full _ rfl _ _ 27 rfl (w.heap.size + 1) 3 i0 (.int .i64 0) 1 Try.underlying27 hi hz0 hz1 _ _ _ _ n rfl rfl rfl rfl (by rw [hz2]; omega) (by unfold maxLen; omega) hsB ?_); intro w2 hown2 hg2; rw [made_zeros] at hown2; have HO2 := Lib.hid (Hold.of_own (S := intS) hown2).1; have HG2 := Lib.hid hg2; clear hown2 hg2)
  obtain ⟨g, hg⟩ : ∃ g, wA.heap.size = g := ⟨_, rfl⟩
  rw [hg] at HO2
  try rw [hg]
  have HS0 : Hid (La w N A n c A' m c' g 0 w2) := ⟨HB.out.below ((Below.refl _ _).grown HG2.out (Nat.le_refl _) (fun j hj => by cases hj)), by rw [cl_zero, HLS.out]; exact HO2.out⟩
  have z2 : w2.cell? ⟨w.heap.size, 2, none⟩ = some (.slice A' m c') := cell_of_blk HS0.out.bx.blk rfl
  clear HB HO2 HG2 y1 hsB hg
  clear wA
  go_wp2
  go_loopw [5, 19] (fun _ i wr => ∃ j : Nat, j ≤ m ∧ i = .int .i64 (j : Int) ∧ Hid (La w N A n c A' m c' g j wr)) (fun _ i _ => m - (intOf i).toNat)
  case atStart => exact ⟨0, Nat.zero_le _, rfl, HS0⟩
  case round =>
    clear HS0 z2
    obtain ⟨j, hj, rfl, HS⟩ := hrel
    by_cases hlt : j < m
    · obtain ⟨bb, o, l, rfl, -, hl, c0, c1, c2⟩ := lk_at HS.out.bx.at_.lk hlt
      obtain ⟨a, b, ha, hb, hab, hbn⟩ := HLA.out l (List.mem_of_getElem? hl)
      obtain ⟨la, lb, lw⟩ := l
      simp only at ha hb c0 c1 c2
      subst ha hb
      have HL := Lib.hid hl
      have a1 : (0 : Int) ≤ (a : Int) := by omega
      have a2 : (a : Int) < (n : Int) := by omega
      have a3 : (0 : Int) ≤ (b : Int) := by omega
      have a4 : (b : Int) < (n : Int) := by omega
      have a5 : (0 : Int) ≤ (j : Int) := by omega
      have a6 : (j : Int) < (m : Int) := by omega
      have qj : IntKind.i64.wrap ((j : Int) + 1) = (j : Int) + 1 := IntWalk.i64_in _ ⟨by omega, by omega⟩
      have hbs := HS.out.bx.lt
      clear hl
      go_upto_region 5 with fail
      clear c0 c1 c2
      have HS1 := Lib.hid (HS.out.below ((Below.refl wr.heap.size wr).alloc (Nat.le_refl _) (.cells #[.int .i64 (a : Int), .int .i64 (b : Int), .int .i64 lw] 45)))
      have HX1 := Lib.hid (heap_alloc_new wr (.cells #[.int .i64 (a : Int), .int .i64 (b : Int), .int .i64 lw] 45))
      obtain ⟨q, hq⟩ : ∃ q, wr.heap.size = q := ⟨_, rfl⟩
      have hgq : g < q := by rw [← hq]; exact HS.out.cn.lt
      rw [hq] at HX1 hbs
      try rw [hq]
      generalize wr.alloc (.cells #[.int .i64 (a : Int), .int .i64 (b : Int), .int .i64 lw] 45) = w1 at *
      clear HS hq wr
      obtain ⟨x, hx⟩ : ∃ x, (gt N j a).length = x := ⟨_, rfl⟩
      obtain ⟨y, hy⟩ : ∃ y, (gt N j b).length = y := ⟨_, rfl⟩
      have HXY : Hid ((gt N j a).length = x ∧ (gt N j b).length = y) := ⟨hx, hy⟩
      have hxd := gt_le N j a
      have hyd := gt_le N j b
      have hxf := ofs_fit HV.out (v := a) (by rw [HLS.out]; omega)
      have hyf := ofs_fit HV.out (v := b) (by rw [HLS.out]; omega)
      rw [HLL.out, HM.out] at hxf hyf
      have hx9 : x ≤ 32768 := by omega
      have hy9 : y ≤ 32768 := by omega
      have qx : IntKind.i64.wrap ((x : Int) + 1) = (x : Int) + 1 := IntWalk.i64_in _ ⟨by omega, by omega⟩
      have qy : IntKind.i64.wrap ((y : Int) + 1) = (y : Int) + 1 := IntWalk.i64_in _ ⟨by omega, by omega⟩
      have d0 : w1.cell? ⟨q, 0, none⟩ = some (.int .i64 (a : Int)) := cell_of_blk HX1.out rfl
      have d1 : w1.cell? ⟨g, a, none⟩ = some (.int .i64 (x : Int)) := by rw [← hx]; exact hold_x HS1.out.cn (cl_at (by rw [HLS.out]; omega))
      have d2 : w1.frozen? ⟨g, a, none⟩ = false := HS1.out.cn.free _
      clear hx hy hxd hyd hxf hyf
      go_upto_region 6 with fail
      have ho := Only.setCell w1 ⟨g, a, none⟩ (.int .i64 ((x : Int) + 1))
      have HC2 := Lib.hid (hold_y HS1.out.cn (k := a) ((x : Int) + 1) (by rw [cl_len, HLS.out]; omega))
      have HB2 : Hid (Bx w N A n c (some ⟨bb, o, none⟩) m c' (w1.setCell ⟨g, a, none⟩ (.int .i64 ((x : Int) + 1)))) := HS1.out.bx.only ho (by have := HS1.out.cn.le; show w.heap.size < g; omega)
      have HX2 := Lib.hid (ho.at HX1.out (show ¬ q = g by omega))
      clear ho d0 d1 d2 HS1 HX1
      generalize w1.setCell ⟨g, a, none⟩ (.int .i64 ((x : Int) + 1)) = w2 at *
      have d0 : w2.cell? ⟨q, 1, none⟩ = some (.int .i64 (b : Int)) := cell_of_blk HX2.out rfl
      have d1 : w2.cell? ⟨g, b, none⟩ = some (.int .i64 (y : Int)) := by
        rw [← HXY.out.2]
        exact hold_x HC2.out (by rw [List.getElem?_set, if_neg (by omega)]; exact cl_at (by rw [HLS.out]; omega))
      have d2 : w2.frozen? ⟨g, b, none⟩ = false := HC2.out.free _
      have HSN : Hid (La w N A n c (some ⟨bb, o, none⟩) m c' g (j + 1) (w2.setCell ⟨g, b, none⟩ (.int .i64 ((y : Int) + 1)))) := by
        refine ⟨HB2.out.only (Only.setCell w2 ⟨g, b, none⟩ (.int .i64 ((y : Int) + 1))) (by have := HC2.out.le; show w.heap.size < g; omega), ?_⟩
        have h1 := hold_y HC2.out (k := b) ((y : Int) + 1) (by rw [List.length_set, cl_len, HLS.out]; omega)
        rw [← HXY.out.1, ← HXY.out.2, cl_next HL.out rfl rfl (by omega)] at h1
        rw [← HXY.out.2]
        exact h1
      clear HC2 HB2 HX2 HXY
      go_wp2
      go_roundw
      case rel => exact ⟨j + 1, by omega, by go_num, HSN⟩
      case measure => simp [intOf]; omega
    · obtain rfl : j = m := by omega
      have z1 : wr.cell? ⟨w.heap.size, 1, none⟩ = some (.slice A n c) := cell_of_blk HS.out.bx.blk rfl
      have hbs := HS.out.bx.lt
      go_upto_region 9 with (at_make; go_loud (refine wpList_make_full _ rfl _ _ 49 rfl (w.heap.size + 1) 23 i1 (.slice none 0 0) 1 Try.underlying49 hi1 hz10 hz11 _ _ _ _ n rfl rfl rfl rfl (by rw [hz12]; omega) (by unfold maxLen; omega) hbs ?_); intro w2 hown2 hg2; rw [made_nil] at hown2; have HO2 := Lib.hid (blk_of hown2); have HG2 := Lib.hid hg2; clear hown2 hg2)
      have HS2 := Lib.hid (HS.out.below ((Below.refl wr.heap.size wr).grown HG2.out (Nat.le_refl _) (fun j hj => by cases hj)))
      have hgt := HS.out.cn.lt
      obtain ⟨t, ht⟩ : ∃ t, wr.heap.size = t := ⟨_, rfl⟩
      rw [ht] at HO2 hbs hgt
      try rw [ht]
      have z2 : w2.cell? ⟨w.heap.size, 2, none⟩ = some (.slice A' j c') := cell_of_blk HS2.out.bx.blk rfl
      have hta : t < w2.heap.size := (Array.getElem?_eq_some_iff.1 HO2.out).1
      have hb2 : w.heap.size + 1 ≤ w2.heap.size := by omega
      clear z1 HG2 HS ht
      clear wr
      go_upto_region 10 with (at_make; go_loud (refine wpList_make_full _ rfl _ _ 23 rfl (w.heap.size + 1) 45 i2 (.agg #[.int .i64 0, .int .i64 0, .int .i64 0]) 3 Try.underlying23 hi2 hz20 hz21 _ _ _ _ M rfl rfl rfl rfl (by rw [hz22]; omega) (by unfold maxLen; omega) hb2 ?_); intro w3 hown3 hg3; rw [made_lks] at hown3; have HO3 := Lib.hid (Hold.of_own (S := lkS) hown3).1; have HG3 := Lib.hid hg3; clear hown3 hg3)
      have HB3 : Hid (Below w2.heap.size w2 w3) := (Below.refl w2.heap.size w2).grown HG3.out (Nat.le_refl _) (fun j hj => by cases hj)
      have HS3 := Lib.hid (HS2.out.below HB3.out)
      have HT3 := Lib.hid ((HB3.out.block t hta).trans HO2.out)
      obtain ⟨a, ha⟩ : ∃ a, w2.heap.size = a := ⟨_, rfl⟩
      rw [ha] at HO3 hta
      try rw [ha]
      have HSB : Hid (Lb w N A n c A' j c' g t a (Vk N a 0) (gt N 0) w3) :=
        ⟨HS3.out, by rw [vk_zero, HLS.out]; exact HT3.out, ⟨_, by rw [HM.out]; exact HO3.out, Ly.start (by rw [List.length_replicate, HLL.out, HM.out])⟩, by omega, by omega, by omega, by omega⟩
      have hlow : w.heap.size < g := by have := HS3.out.cn.le; omega
      clear HS2 HO2 z2 hb2 HB3 HG3 HS3 HT3 HO3 ha
      clear w2
      go_wp2
      go_loopw [7, 8, 9, 49] (fun v7 _ _ i wr => ∃ k : Nat, k ≤ n ∧ i = .int .i64 (k : Int) ∧ v7 = .slice (some ⟨a, pos N k, none⟩) (M - ofs N k) (M - ofs N k) ∧ Hid (Lb w N A n c A' j c' g t a (Vk N a k) (gt N 0) wr)) (fun _ _ _ i _ => n - (intOf i).toNat)
      case atStart => exact ⟨0, Nat.zero_le _, rfl, rfl, HSB⟩
      case round =>
        clear HSB
        obtain ⟨k, hk, rfl, rfl, HS⟩ := hrel
        by_cases hlt : k < n
        · have hfit := ofs_fit HV.out (v := k) (by rw [HLS.out]; exact hlt)
          rw [HLL.out, HM.out] at hfit
          have c0 : wr.cell? ⟨g, k, none⟩ = some (.int .i64 ((deg N k : Nat) : Int)) := by
            have h1 := HS.out.la.cn
            rw [← HLL.out] at h1
            exact hold_x h1 (cl_all (by rw [HLS.out]; exact hlt))
          have c1 : wr.cell? ⟨t, k, none⟩ = some (.slice none 0 0) := cell_of_blk HS.out.blk (by rw [List.getElem?_toArray, vk_at (by rw [HLS.out]; exact hlt), if_neg (by omega)])
          have f1 : wr.frozen? ⟨t, k, none⟩ = false := free_of_blk HS.out.blk
          have HSN : Hid (Lb w N A n c A' j c' g t a (Vk N a (k + 1)) (gt N 0) (wr.setCell ⟨t, k, none⟩ (.slice (some ⟨a, pos N k, none⟩) 0 (deg N k)))) := by
            have ho := Only.setCell wr ⟨t, k, none⟩ (.slice (some ⟨a, pos N k, none⟩) 0 (deg N k))
            obtain ⟨all, h1, h2⟩ := HS.out.row
            have hne := HS.out.ne
            refine ⟨⟨HS.out.la.bx.only ho (show w.heap.size < t by omega), HS.out.la.cn.keep (ho.block g (by have := HS.out.la.cn.lt; exact this) (fun e => hne.1 e.symm))⟩, ?_, ⟨all, h1.keep (ho.block a h1.lt (fun e => hne.2.2 e.symm)), h2⟩, HS.out.low, hne⟩
            have h3 := set_blk (j := k) (u := .slice (some ⟨a, pos N k, none⟩) 0 (deg N k)) HS.out.blk
            rw [List.setIfInBounds_toArray, vk_next] at h3
            exact h3
          obtain ⟨d, hd⟩ : ∃ d, deg N k = d := ⟨_, rfl⟩
          obtain ⟨o, ho⟩ : ∃ o, ofs N k = o := ⟨_, rfl⟩
          obtain ⟨p, hp⟩ : ∃ p, pos N k = p := ⟨_, rfl⟩
          have HOS : Hid (ofs N (k + 1) = o + d ∧ pos N (k + 1) = if M - o = d then p else p + d * 3) := ⟨by rw [ofs_succ, hd, ho], by rw [pos, HLL.out, HM.out, ho, hd, hp]⟩
          rw [hd, ho] at hfit
          rw [hd] at c0
          rw [hd, hp] at HSN
          rw [ho, hp]
          obtain ⟨r, hr⟩ : ∃ r, M - o = r := ⟨_, rfl⟩
          rw [hr]
          have HR := Lib.hid hr
          have a1 : (0 : Int) ≤ (d : Int) := by omega
          have a2 : (d : Int) ≤ (r : Int) := by omega
          have a3 : (0 : Int) ≤ (k : Int) := by omega
          have a4 : (k : Int) < (n : Int) := by omega
          have qj : IntKind.i64.wrap ((k : Int) + 1) = (k : Int) + 1 := IntWalk.i64_in _ ⟨by omega, by omega⟩
          clear hr hd ho hp HS
          go_wp2
          go_roundw
          case rel => exact ⟨k + 1, by omega, by go_num, by rw [HOS.out.1, HOS.out.2, ← HR.out, Nat.sub_sub]; split <;> rfl, HSN⟩
          case measure => simp [intOf]; omega
        · obtain rfl : k = n := by omega
          have hz2 := HS.out
          have HS2 : Hid (Lb w N A k c A' j c' g t a (Vl N a (fun v => (gt N 0 v).length)) (gt N 0) wr) := by
            have h1 := HS.out
            rw [← HLS.out, vk_all] at h1
            rw [← HLS.out]
            exact h1
          have z3 : wr.cell? ⟨w.heap.size, 2, none⟩ = some (.slice A' j c') := cell_of_blk HS2.out.la.bx.blk rfl
          clear HS
          go_wp2
          go_loopw [11, 67] (fun _ i wr => ∃ q : Nat, q ≤ j ∧ i = .int .i64 (q : Int) ∧ Hid (Lb w N A k c A' j c' g t a (Vl N a (fun v => (gt N q v).length)) (gt N q) wr)) (fun _ i _ => j - (intOf i).toNat)
          case atStart => exact ⟨0, Nat.zero_le _, rfl, HS2⟩
          case round =>
            clear HS2 z3
            obtain ⟨q, hq, rfl, HS⟩ := hrel
            by_cases hlt : q < j
            · obtain ⟨bb, o, l, rfl, -, hl, c0, c1, c2⟩ := lk_at HS.out.la.bx.at_.lk hlt
              obtain ⟨x, y, hx, hy, hxy, hyn⟩ := HLA.out l (List.mem_of_getElem? hl)
              obtain ⟨lx, ly, lw⟩ := l
              simp only at hx hy c0 c1 c2
              subst hx hy
              have HL := Lib.hid hl
              have a1 : (0 : Int) ≤ (x : Int) := by omega
              have a2 : (x : Int) < (k : Int) := by omega
              have a3 : (0 : Int) ≤ (y : Int) := by omega
              have a4 : (y : Int) < (k : Int) := by omega
              have a5 : (0 : Int) ≤ (q : Int) := by omega
              have a6 : (q : Int) < (j : Int) := by omega
              have qj : IntKind.i64.wrap ((q : Int) + 1) = (q : Int) + 1 := IntWalk.i64_in _ ⟨by omega, by omega⟩
              obtain ⟨all0, -, hLy0⟩ := HS.out.row
              obtain ⟨fx, fy, -⟩ := hLy0.next HV.out hl rfl rfl (by omega) (by rw [HLS.out]; omega) (by rw [HLS.out]; omega)
              have HFX := Lib.hid fx
              have HFY := Lib.hid fy
              have htl : t < wr.heap.size := (Array.getElem?_eq_some_iff.1 HS.out.blk).1
              have hal : a < wr.heap.size := by obtain ⟨_, h1, _⟩ := HS.out.row; exact h1.lt
              clear hl fx fy hLy0 all0
              go_upto_region 19 with fail
              clear c0 c1 c2
              have HS1 := Lib.hid (HS.out.below ((Below.refl wr.heap.size wr).alloc (Nat.le_refl _) (.cells #[.int .i64 (x : Int), .int .i64 (y : Int), .int .i64 lw] 45)))
              have HX1 := Lib.hid (heap_alloc_new wr (.cells #[.int .i64 (x : Int), .int .i64 (y : Int), .int .i64 lw] 45))
              obtain ⟨qb, hqb⟩ : ∃ qb, wr.heap.size = qb := ⟨_, rfl⟩
              rw [hqb] at HX1 htl hal
              try rw [hqb]
              generalize wr.alloc (.cells #[.int .i64 (x : Int), .int .i64 (y : Int), .int .i64 lw] 45) = w1 at *
              clear HS hqb wr

              obtain ⟨ι, hneI, W, i0', h0, hWp, hC⟩ := Ent.fam_sub (fun u => u.heap[qb]? = some (.cells #[.int .i64 (x : Int), .int .i64 (y : Int), .int .i64 lw] 45 (0, 0)) ∧ u.heap[t]? = some (.cells (Vl N a (fun v => (gt N q v).length)).toArray 23 (0, 0))) w1 ⟨HX1.out, HS1.out.blk⟩
              have d0 : ∀ i, (W i).cell? ⟨qb, 0, none⟩ = some (.int .i64 (x : Int)) := fun i => cell_of_blk (hWp i).1 rfl
              have d1 : ∀ i, (W i).cell? ⟨qb, 1, none⟩ = some (.int .i64 (y : Int)) := fun i => cell_of_blk (hWp i).1 rfl
              have d2 : ∀ i, (W i).cell? ⟨qb, 2, none⟩ = some (.int .i64 lw) := fun i => cell_of_blk (hWp i).1 rfl
              have dt : ∀ i, (W i).cell? ⟨t, x, none⟩ = some (.slice (some ⟨a, pos N x, none⟩) (gt N q x).length (deg N x)) := fun i => cell_of_blk (hWp i).2 (by rw [List.getElem?_toArray]; exact vl_at (by rw [HLS.out]; omega))
              have HA : Hid (Lb w N A k c (some ⟨bb, o, none⟩) j c' g t a (Vl N a (fun v => (gt N q v).length)) (gt N q) (W i0')) := by rw [← h0]; exact HS1.out.below (Below.refl _ _).drew
              clear HS1 HX1
              refine Mix.wp_region_lexZ (z := 12) (fun w' => ∃ i, w' = W i) rfl (by kernel_rfl) (by kernel_rfl) (by kernel_rfl) ⟨i0', h0⟩ ?_
              rw [h0]
              clear h0
              simp only [List.take_succ_cons, List.take_zero]
              repeat (first | (refine Mix.lex_step rfl ?_; intro K hK; go_big_quiet_step (fail); refine Mix.lex_on hK ?_; clear hK K) | (refine Mix.lex_skip rfl ?_; simp only [Act.put, List.setIfInBounds_toArray, List.set_cons_zero, List.set_cons_succ]))
              have hb7 := (Below.refl (W i0').heap.size (W i0')).alloc (Nat.le_refl _) (.cells #[.int .i64 (x : Int), .int .i64 (y : Int), .int .i64 lw] 45)
              obtain ⟨j1, hj1⟩ := hC _ ⟨(hb7.block _ (Array.getElem?_eq_some_iff.1 (hWp i0').1).1).trans (hWp i0').1, (hb7.block _ (Array.getElem?_eq_some_iff.1 (hWp i0').2).1).trans (hWp i0').2⟩
              have HB1 := Lib.hid (HA.out.below hb7)
              have HZ1 := Lib.hid (heap_alloc_new (W i0') (.cells #[.int .i64 (x : Int), .int .i64 (y : Int), .int .i64 lw] 45))
              refine Mix.lex_build (ps := #[(0, .agg #[.int .i64 (x : Int), .int .i64 (y : Int), .int .i64 lw])]) rfl (by simp [Act.eval]) (build_lk ((x : Int), (y : Int), lw) (W i0')) rfl ⟨j1, hj1⟩ ?_
              rw [hj1] at HB1 HZ1
              try rw [hj1]
              simp only [Act.put, List.setIfInBounds_toArray, List.set_cons_zero, List.set_cons_succ]
              repeat (first | (refine Mix.lex_step rfl ?_; intro K hK; go_big_quiet_step (fail); refine Mix.lex_on hK ?_; clear hK K) | (refine Mix.lex_skip rfl ?_; simp only [Act.put, List.setIfInBounds_toArray, List.set_cons_zero, List.set_cons_succ]))
              have hrun := fun ty => lb_run (ty := ty) (l := ((x : Int), (y : Int), lw)) hi2 hz21 HB1.out HV.out HLL.out (x := x) (by rw [HLS.out]; omega) HFX.out HZ1.out
              obtain ⟨w2, hw2⟩ : ∃ w2, w2 = (W j1).setCells a ((ofs N x + (gt N q x).length) * 3) (lkS.f ((x : Int), (y : Int), lw)) := ⟨_, rfl⟩
              rw [← hw2] at hrun
              obtain ⟨k1, k2, k3⟩ := HB1.out.push HV.out HLL.out (x := x) (by rw [HLS.out]; omega) HFX.out hw2
              have k4 := k2.at (hWp j1).1 (show ¬ qb = a by omega)
              obtain ⟨j3, hj3⟩ := hC w2 ⟨k4, k1⟩
              refine Mix.lex_act rfl rfl (Ent.exec_append rfl (by simp [Act.eval]) (by simp [Act.eval]) (hrun _)) ⟨j3, hj3⟩ ?_
              simp only [Act.put, List.setIfInBounds_toArray, List.set_cons_zero, List.set_cons_succ]
              rw [hj3]
              repeat (first | (refine Mix.lex_step rfl ?_; intro K hK; go_big_quiet_step (fail); refine Mix.lex_on hK ?_; clear hK K) | (refine Mix.lex_skip rfl ?_; simp only [Act.put, List.setIfInBounds_toArray, List.set_cons_zero, List.set_cons_succ]))
              rw [← hj3]
              refine Mix.lexZ_skip rfl rfl (Sto.exec_store_one (b := t) (off := x) (A := some ⟨a, pos N x, none⟩) (n := (gt N q x).length + 1) (c := deg N x) rfl (by simp [Act.eval]) rfl (by rw [hj3, dt j3]; rfl) (free_of_blk k1) (by kernel_rfl)) ?_
              have HX5 := Lib.hid ((Only.setCell w2 ⟨t, x, none⟩ (.slice (some ⟨a, pos N x, none⟩) ((gt N q x).length + 1) (deg N x))).at k4 (show ¬ qb = t by omega))
              have HK3 := Lib.hid k3
              clear k1 k2 k3 k4 hj3 hrun hw2 HB1 HZ1 hj1 hb7 HA d0 d1 d2 dt hWp hC j1 j3
              generalize w2.setCell ⟨t, x, none⟩ (.slice (some ⟨a, pos N x, none⟩) ((gt N q x).length + 1) (deg N x)) = w5 at *
              clear w2
              obtain ⟨G1, hG1⟩ : ∃ G1, G1 = (fun v => if v = x then gt N q x ++ [((x : Int), (y : Int), lw)] else gt N q v) := ⟨_, rfl⟩
              have HS5 : Hid (Lb w N A k c (some ⟨bb, o, none⟩) j c' g t a (Vl N a (fun v => (G1 v).length)) G1 w5) := by rw [hG1]; exact HK3.out
              have HG1 := Lib.hid hG1
              have HFZ : Hid ((G1 y).length < deg N y) := by rw [hG1]; simp only [if_neg (show ¬ y = x by omega)]; exact HFY.out
              clear HK3 hG1
              simp only [List.getElem_toArray, List.getElem_cons_succ, List.getElem_cons_zero, Act.put]
              go_upto_region 20 with fail
              have HX1 := HX5
              clear HX5
              obtain ⟨ι, hneI, W, i0', h0, hWp, hC⟩ := Ent.fam_sub (fun u => u.heap[qb]? = some (.cells #[.int .i64 (x : Int), .int .i64 (y : Int), .int .i64 lw] 45 (0, 0)) ∧ u.heap[t]? = some (.cells (Vl N a (fun v => (G1 v).length)).toArray 23 (0, 0))) w5 ⟨HX1.out, HS5.out.blk⟩
              have d0 : ∀ i, (W i).cell? ⟨qb, 0, none⟩ = some (.int .i64 (x : Int)) := fun i => cell_of_blk (hWp i).1 rfl
              have d1 : ∀ i, (W i).cell? ⟨qb, 1, none⟩ = some (.int .i64 (y : Int)) := fun i => cell_of_blk (hWp i).1 rfl
              have d2 : ∀ i, (W i).cell? ⟨qb, 2, none⟩ = some (.int .i64 lw) := fun i => cell_of_blk (hWp i).1 rfl
              have dt : ∀ i, (W i).cell? ⟨t, y, none⟩ = some (.slice (some ⟨a, pos N y, none⟩) (G1 y).length (deg N y)) := fun i => cell_of_blk (hWp i).2 (by rw [List.getElem?_toArray]; exact vl_at (by rw [HLS.out]; omega))
              have HA : Hid (Lb w N A k c (some ⟨bb, o, none⟩) j c' g t a (Vl N a (fun v => (G1 v).length)) (G1) (W i0')) := by rw [← h0]; exact HS5.out.below (Below.refl _ _).drew
              clear HS5 HX1
              refine Mix.wp_region_lexZ (z := 18) (fun w' => ∃ i, w' = W i) rfl (by kernel_rfl) (by kernel_rfl) (by kernel_rfl) ⟨i0', h0⟩ ?_
              rw [h0]
              clear h0
              simp only [List.take_succ_cons, List.take_zero]
              repeat (first | (refine Mix.lex_step rfl ?_; intro K hK; go_big_quiet_step (fail); refine Mix.lex_on hK ?_; clear hK K) | (refine Mix.lex_skip rfl ?_; simp only [Act.put, List.setIfInBounds_toArray, List.set_cons_zero, List.set_cons_succ]))
              have hb7 := (Below.refl (W i0').heap.size (W i0')).alloc (Nat.le_refl _) (.cells #[.int .i64 (y : Int), .int .i64 (x : Int), .int .i64 lw] 45)
              obtain ⟨j1, hj1⟩ := hC _ ⟨(hb7.block _ (Array.getElem?_eq_some_iff.1 (hWp i0').1).1).trans (hWp i0').1, (hb7.block _ (Array.getElem?_eq_some_iff.1 (hWp i0').2).1).trans (hWp i0').2⟩
              have HB1 := Lib.hid (HA.out.below hb7)
              have HZ1 := Lib.hid (heap_alloc_new (W i0') (.cells #[.int .i64 (y : Int), .int .i64 (x : Int), .int .i64 lw] 45))
              refine Mix.lex_build (ps := #[(0, .agg #[.int .i64 (y : Int), .int .i64 (x : Int), .int .i64 lw])]) rfl (by simp [Act.eval]) (build_lk ((y : Int), (x : Int), lw) (W i0')) rfl ⟨j1, hj1⟩ ?_
              rw [hj1] at HB1 HZ1
              try rw [hj1]
              simp only [Act.put, List.setIfInBounds_toArray, List.set_cons_zero, List.set_cons_succ]
              repeat (first | (refine Mix.lex_step rfl ?_; intro K hK; go_big_quiet_step (fail); refine Mix.lex_on hK ?_; clear hK K) | (refine Mix.lex_skip rfl ?_; simp only [Act.put, List.setIfInBounds_toArray, List.set_cons_zero, List.set_cons_succ]))
              have hrun := fun ty => lb_run (ty := ty) (l := ((y : Int), (x : Int), lw)) hi2 hz21 HB1.out HV.out HLL.out (x := y) (by rw [HLS.out]; omega) HFZ.out HZ1.out
              obtain ⟨w2, hw2⟩ : ∃ w2, w2 = (W j1).setCells a ((ofs N y + (G1 y).length) * 3) (lkS.f ((y : Int), (x : Int), lw)) := ⟨_, rfl⟩
              rw [← hw2] at hrun
              obtain ⟨k1, k2, k3⟩ := HB1.out.push HV.out HLL.out (x := y) (by rw [HLS.out]; omega) HFZ.out hw2
              have k4 := k2.at (hWp j1).1 (show ¬ qb = a by omega)
              obtain ⟨j3, hj3⟩ := hC w2 ⟨k4, k1⟩
              refine Mix.lex_act rfl rfl (Ent.exec_append rfl (by simp [Act.eval]) (by simp [Act.eval]) (hrun _)) ⟨j3, hj3⟩ ?_
              simp only [Act.put, List.setIfInBounds_toArray, List.set_cons_zero, List.set_cons_succ]
              rw [hj3]
              repeat (first | (refine Mix.lex_step rfl ?_; intro K hK; go_big_quiet_step (fail); refine Mix.lex_on hK ?_; clear hK K) | (refine Mix.lex_skip rfl ?_; simp only [Act.put, List.setIfInBounds_toArray, List.set_cons_zero, List.set_cons_succ]))
              rw [← hj3]
              refine Mix.lexZ_skip rfl rfl (Sto.exec_store_one (b := t) (off := y) (A := some ⟨a, pos N y, none⟩) (n := (G1 y).length + 1) (c := deg N y) rfl (by simp [Act.eval]) rfl (by rw [hj3, dt j3]; rfl) (free_of_blk k1) (by kernel_rfl)) ?_
              have HX5 := Lib.hid ((Only.setCell w2 ⟨t, y, none⟩ (.slice (some ⟨a, pos N y, none⟩) ((G1 y).length + 1) (deg N y))).at k4 (show ¬ qb = t by omega))
              have HK3 := Lib.hid k3
              clear k1 k2 k3 k4 hj3 hrun hw2 HB1 HZ1 hj1 hb7 HA d0 d1 d2 dt hWp hC j1 j3
              generalize w2.setCell ⟨t, y, none⟩ (.slice (some ⟨a, pos N y, none⟩) ((G1 y).length + 1) (deg N y)) = w6 at *
              clear w2
              have HSN : Hid (Lb w N A k c (some ⟨bb, o, none⟩) j c' g t a (Vl N a (fun v => (gt N (q + 1) v).length)) (gt N (q + 1)) w6) := by
                refine HK3.out.one (fun v _ => ?_) (fun v => gt_le N (q + 1) v)
                rw [HG1.out]
                by_cases e1 : v = y
                · subst e1
                  simp only [if_true, if_neg (show ¬ v = x by omega)]
                  exact gt_second HL.out rfl rfl (by omega)
                · simp only [if_neg e1]
                  by_cases e2 : v = x
                  · subst e2
                    simp only [if_true]
                    exact gt_first HL.out rfl rfl (by omega)
                  · simp only [if_neg e2]
                    exact gt_other HL.out rfl rfl e2 e1
              clear HK3 HX5 HFX HFY HFZ HG1
              simp only [List.getElem_toArray, List.getElem_cons_succ, List.getElem_cons_zero, Act.put]
              go_wp2
              go_roundw
              case rel => exact ⟨q + 1, by omega, by go_num, HSN⟩
              case measure => simp [intOf]; omega
            · obtain rfl : q = j := by omega
              go_wp2
              go_ret
              obtain ⟨all, h1, h2⟩ := HS.out.row
              have hb := HS.out.blk
              rw [← HLL.out] at hb h1 h2
              exact ⟨t, _, rfl, rws_of HV.out hb (Array.getElem?_eq_some_iff.1 hb).1 (Nat.le_refl _) h1.lt h1 h2, HS.out.la.bx.bel⟩
end Go.Proofs.Ytdhlbcbgbmgcjaa.Pt

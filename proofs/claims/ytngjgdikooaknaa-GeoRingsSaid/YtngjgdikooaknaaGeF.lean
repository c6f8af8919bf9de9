/- Layer 13 (geo): GeoFits as a walk, out of what the program's functions must do. -/
import Derived.Test.YtngjgdikooaknaaGeW
import Derived.Test.YtngjgdikooaknaaGeV
import Derived.Deep.DeepCutAuto
import Derived.Deep.CutBlock
import Derived.Deep.RegionHeld3
namespace Go.Proofs.Ytngjgdikooaknaa.Ge
open Go.RowKit Rec

theorem info_bool : (Try.prog.info? 4).map (fun i => (i.zero, i.size, i.bytes)) = some (some (.bool false), 1, 1) := by kernel_rfl
theorem made_bools (m : Nat) : (madeCells (Value.bool false).cells (m * 1)).toList = (List.replicate m false).map Value.bool := by
  apply List.ext_getElem
  · simp [madeCells]
  · intro i h1 h2
    simp [madeCells, Value.cells, Nat.mod_one]
/-- The row of marks, in block g. -/
def Met (w0 w' : World) (g M k : Nat) (v : C → Bool) : Prop := ∃ xs : List Bool, w'.ownsRow w0.heap.size 4 1 (.slice (some ⟨g, 0, none⟩) M M) M (xs.map Value.bool) ∧ Marks k xs v
/-- The places, in block G. -/
structure Pn (w0 : World) (a b c : Int × Int) (w' : World) : Prop where
  blk : w'.heap[w0.heap.size]? = some (.cells #[.int .i64 a.1, .int .i64 a.2, .int .i64 b.1, .int .i64 b.2, .int .i64 c.1, .int .i64 c.2] 37 (0, 0))
  bel : Below w0.heap.size w0 w'
theorem Pn.below {w0 w1 w2 : World} {a b c : Int × Int} (h : Pn w0 a b c w1) (hb : Below w1.heap.size w1 w2) : Pn w0 a b c w2 :=
  ⟨(hb.block _ (Array.getElem?_eq_some_iff.1 h.blk).1).trans h.blk, h.bel.trans (hb.mono h.bel.size)⟩
theorem Pn.only {w0 w1 w2 : World} {a b c : Int × Int} {g : Nat} (h : Pn w0 a b c w1) (ho : Only (fun i => i = g) w1 w2) (hg : w0.heap.size < g) : Pn w0 a b c w2 :=
  ⟨ho.at h.blk (by omega), h.bel.trans (ho.below h.bel.size (fun i hi => by omega))⟩

/-- What the places' block holds, cell by cell. -/
abbrev Six (g : Nat) (a b c : Int × Int) (wx : World) : Prop := wx.cell? ⟨g, 0, none⟩ = some (.int .i64 a.1) ∧ wx.cell? ⟨g, 1, none⟩ = some (.int .i64 a.2) ∧ wx.cell? ⟨g, 2, none⟩ = some (.int .i64 b.1) ∧ wx.cell? ⟨g, 3, none⟩ = some (.int .i64 b.2) ∧ wx.cell? ⟨g, 4, none⟩ = some (.int .i64 c.1) ∧ wx.cell? ⟨g, 5, none⟩ = some (.int .i64 c.2)
theorem six_alloc {g : Nat} {a b c : Int × Int} {wx : World} (h : Six g a b c wx) (o : Obj) : Six g a b c (wx.alloc o) := by
  obtain ⟨h0, h1, h2, h3, h4, h5⟩ := h
  exact ⟨by rw [World.cell?_alloc_some _ _ _ (by rw [h0]; rfl)]; exact h0, by rw [World.cell?_alloc_some _ _ _ (by rw [h1]; rfl)]; exact h1, by rw [World.cell?_alloc_some _ _ _ (by rw [h2]; rfl)]; exact h2,
    by rw [World.cell?_alloc_some _ _ _ (by rw [h3]; rfl)]; exact h3, by rw [World.cell?_alloc_some _ _ _ (by rw [h4]; rfl)]; exact h4, by rw [World.cell?_alloc_some _ _ _ (by rw [h5]; rfl)]; exact h5⟩
theorem six_set {g : Nat} {a b c : Int × Int} {wx : World} (h : Six g a b c wx) (p : Addr) (v : Value) (hp : p.block ≠ g) : Six g a b c (wx.setCell p v) := by
  obtain ⟨h0, h1, h2, h3, h4, h5⟩ := h
  exact ⟨by rw [World.cell?_setCell_far _ _ _ _ hp]; exact h0, by rw [World.cell?_setCell_far _ _ _ _ hp]; exact h1, by rw [World.cell?_setCell_far _ _ _ _ hp]; exact h2,
    by rw [World.cell?_setCell_far _ _ _ _ hp]; exact h3, by rw [World.cell?_setCell_far _ _ _ _ hp]; exact h4, by rw [World.cell?_setCell_far _ _ _ _ hp]; exact h5⟩
theorem mul_in2 {u v : Int} (hu : 0 ≤ u ∧ u < 67108864) (hv : 0 ≤ v ∧ v < 67108864) : 0 ≤ (u + v) * (u + v) ∧ (u + v) * (u + v) ≤ 18014398509481984 := by
  have h1 : (u + v).natAbs * (u + v).natAbs ≤ 134217728 * 134217728 := Nat.mul_le_mul (by omega) (by omega)
  rw [← Int.natAbs_mul] at h1
  have h2 := sqn (u + v)
  omega
theorem three_0 (w : World) (o1 o2 o3 : Obj) : (((w.alloc o1).alloc o2).alloc o3).heap[w.heap.size]? = some o1 := alloc_at (alloc_at (heap_alloc_new w _))
theorem three_1 (w : World) (o1 o2 o3 : Obj) : (((w.alloc o1).alloc o2).alloc o3).heap[w.heap.size + 1]? = some o2 := alloc_at (by have := heap_alloc_new (w.alloc o1) o2; rwa [World.size_alloc] at this)
theorem three_2 (w : World) (o1 o2 o3 : Obj) : (((w.alloc o1).alloc o2).alloc o3).heap[w.heap.size + 2]? = some o3 := by have := heap_alloc_new ((w.alloc o1).alloc o2) o3; rwa [World.size_alloc, World.size_alloc] at this
theorem three_b (w : World) (o1 o2 o3 : Obj) : Below w.heap.size w (((w.alloc o1).alloc o2).alloc o3).drew := ((((Below.refl _ _).alloc (Nat.le_refl _) _).alloc (by simp) _).alloc (by simp; omega) _).drew
/-- Three places in three blocks. -/
structure Tri (w0 : World) (a b c : Int × Int) (ga gb gc : Nat) (w' : World) : Prop where
  ab : w'.heap[ga]? = some (.cells #[.int .i64 a.1, .int .i64 a.2] 23 (0, 0))
  bb : w'.heap[gb]? = some (.cells #[.int .i64 b.1, .int .i64 b.2] 23 (0, 0))
  cb : w'.heap[gc]? = some (.cells #[.int .i64 c.1, .int .i64 c.2] 23 (0, 0))
  bel : Below w0.heap.size w0 w'
theorem Tri.below {w0 w1 w2 : World} {a b c : Int × Int} {ga gb gc : Nat} (h : Tri w0 a b c ga gb gc w1) (hb : Below w1.heap.size w1 w2) : Tri w0 a b c ga gb gc w2 :=
  ⟨(hb.block _ (Array.getElem?_eq_some_iff.1 h.ab).1).trans h.ab, (hb.block _ (Array.getElem?_eq_some_iff.1 h.bb).1).trans h.bb, (hb.block _ (Array.getElem?_eq_some_iff.1 h.cb).1).trans h.cb, h.bel.trans (hb.mono h.bel.size)⟩
theorem Met.not_ {w0 w' : World} {g M k : Nat} {v : C → Bool} (h : Met w0 w' g M k v) {o : Nat} {x : Int} (hc : w'.cell? ⟨g, o, none⟩ = some (.int .i64 x)) : False := by
  obtain ⟨xs, h1, -⟩ := h
  rcases h1.2 with ⟨e, _⟩ | ⟨g', cap, cur, e, _, hg, _, _, hcs, ht⟩
  · injection e with e1; cases e1
  · injection e with e1 e2 e3
    injection e1 with e1
    injection e1 with e1
    subst e1 e3
    rw [cell_of_row w' g o cur _ (0, 0) hg] at hc
    have hl : o < cur.size := (Array.getElem?_eq_some_iff.1 hc).1
    have h2 : (cur.toList.take (M * 1))[o]? = some (.int .i64 x) := by
      rw [List.getElem?_take_of_lt (by omega)]
      simpa using hc
    rw [ht, List.getElem?_map] at h2
    cases hx : xs[o]? with
    | none => rw [hx] at h2; cases h2
    | some b => rw [hx] at h2; simp at h2

set_option maxHeartbeats 6400000 in
set_option maxRecDepth 100000 in
theorem fits_walk (k : Oks) (r : Nat) (a b c : Int × Int) (n : Int) (w : World) (hr : r ≤ 255) (ha : B64p a) (hb : B64p b) (hc : B64p c) (hn : B64 n) :
    Calls Try.prog 5 #[.int .u8 (r : Int), .agg #[.int .i64 a.1, .int .i64 a.2, .int .i64 b.1, .int .i64 b.2, .int .i64 c.1, .int .i64 c.2], .int .i64 n] w fun e w' => e = .returned (.bool true) ∧ Below w.heap.size w w' := by
  obtain ⟨i0, hi, hz0, hz1, hz2⟩ := info_of info_bool
  have HA := Lib.hid ha
  have HB := Lib.hid hb
  have HC := Lib.hid hc
  have HN := Lib.hid hn
  have HP : Hid (Pn w a b c (w.alloc (.cells #[.int .i64 a.1, .int .i64 a.2, .int .i64 b.1, .int .i64 b.2, .int .i64 c.1, .int .i64 c.2] 37))) := ⟨heap_alloc_new w _, (Below.refl _ _).alloc (Nat.le_refl _) _⟩
  clear ha hb hc hn
  obtain ⟨q, hq⟩ : ∃ q, r % 12 = q := ⟨_, rfl⟩
  have hq11 : q ≤ 11 := by omega
  have er : IntKind.i64.wrap (r : Int) = (r : Int) := IntWalk.i64_in _ ⟨by omega, by omega⟩
  have et : (r : Int) % 12 = (q : Int) := by omega
  have et' : Int.tmod (r : Int) 12 = (q : Int) := by rw [Int.tmod_eq_emod_of_nonneg (by omega)]; exact et
  have eq_ : IntKind.i64.wrap (q : Int) = (q : Int) := IntWalk.i64_in _ ⟨by omega, by omega⟩
  obtain ⟨M, hM⟩ : ∃ M, (2 * q + 1) * (2 * q + 1) = M := ⟨_, rfl⟩
  have hMb : M ≤ 529 := by rw [← hM]; exact Nat.mul_le_mul (show 2 * q + 1 ≤ 23 by omega) (show 2 * q + 1 ≤ 23 by omega)
  have hM' : (2 * (q : Int) + 1) * (2 * (q : Int) + 1) = (M : Int) := by rw [← hM]; push_cast; rfl
  have m1 : IntKind.i64.wrap (2 * (q : Int)) = 2 * (q : Int) := IntWalk.i64_in _ ⟨by omega, by omega⟩
  have m2 : IntKind.i64.wrap (2 * (q : Int) + 1) = 2 * (q : Int) + 1 := IntWalk.i64_in _ ⟨by omega, by omega⟩
  have m3 : IntKind.i64.wrap ((2 * (q : Int) + 1) * (2 * (q : Int) + 1)) = (M : Int) := by rw [hM']; exact IntWalk.i64_in _ ⟨by omega, by omega⟩
  have HM := Lib.hid hM
  have HQ := Lib.hid hq
  have HM3 := Lib.hid hM'
  clear hM' hM hq
  go_enter Try.func5, Try.ntmps5
  go_wp2_with fail
  refine (awake_any k _).mono ?_
  rintro e1 w1 ⟨rfl, hb1⟩
  have HP1 := Lib.hid (HP.out.below hb1)
  clear hb1 HP
  have hs1 : w.heap.size < w1.heap.size := (Array.getElem?_eq_some_iff.1 HP1.out.blk).1
  go_wp2_with (at_make; go_loud (refine wpList_make_full _ rfl _ _ 38 rfl w.heap.size 4 i0 (.bool false) 1 Try.underlying38 hi hz0 hz1 _ _ _ _ M rfl rfl rfl rfl (by rw [hz2]; omega) (by unfold maxLen; omega) (by omega) ?_); intro w2 hown2 hg2; rw [made_bools] at hown2; have HO2 := Lib.hid hown2; have HG2 := Lib.hid hg2; clear hown2 hg2)
  have hP2 : Pn w a b c w2 := HP1.out.below ((Below.refl _ _).grown HG2.out (Nat.le_refl _) (fun j hj => by cases hj))
  have HME2 : Hid (Met w w2 w1.heap.size M q (vs 0 0)) := ⟨_, HO2.out, by have := marks_start q; rw [HM.out] at this; exact this⟩
  have HP2 := Lib.hid hP2
  have hs2 : w1.heap.size < w2.heap.size := (HO2.out.lt _ rfl).2
  clear hP2 HO2 HG2 HP1
  obtain ⟨G, hG⟩ : ∃ G, w1.heap.size = G := ⟨_, rfl⟩
  rw [hG] at HME2 hs1 hs2 ⊢
  go_wp2
  go_loopw [9] (fun i wr => ∃ j : Nat, j ≤ q + 1 ∧ i = .int .i64 (j : Int) ∧ Hid (Met w wr G M q (vs j 0)) ∧ Hid (Pn w a b c wr) ∧ G < wr.heap.size) (fun i _ => q + 1 - (intOf i).toNat)
  case atStart => exact ⟨0, Nat.zero_le _, rfl, HME2, HP2, hs2⟩
  case round =>
    obtain ⟨j, hj, rfl, HME, HP, hsz⟩ := hrel
    clear HME2 HP2 hs2
    by_cases hlt : j < q + 1
    · have e1 : decide ((j : Int) ≤ (q : Int)) = true := decide_eq_true (by omega)
      have HT := Lib.hid (ringT_yes (r := (j : Int)) rfl (by omega))
      go_wp2_with fail
      refine (k.ring (j : Int) wr ⟨by omega, by omega⟩).mono ?_
      rw [HT.out]
      rintro e3 w3 ⟨v3, rfl, A3, n3, c3, rfl, hr3, -, hnc3, -, hb3⟩
      obtain rfl := hr3.len
      have HR3 := Lib.hid hr3
      have HP3 := Lib.hid (HP.out.below hb3)
      have HME3 : Hid (Met w w3 G M q (vs j 0)) := by obtain ⟨xs, h1, h2⟩ := HME.out; exact ⟨xs, ownr_below h1 hb3, h2⟩
      have hs3 : G < w3.heap.size := by have := hb3.size; omega
      have hB3 : w3.heap.size = w3.heap.size := rfl
      have hlen : (ring j).length ≤ 40000 := by
        rcases Nat.eq_zero_or_pos j with h | h
        · subst h; show 1 ≤ 40000; omega
        · rw [ring_len h]; omega
      have HVR : Hid (∀ c, vs j (ring j).length c = vs (j + 1) 0 c) := fun c => vs_ring c
      have HVN : Hid (∀ m c, (ring j)[m]? = some c → vs j m c = false ∧ far c = j ∧ ∀ d, vs j (m + 1) d = (vs j m d || decide (d = c))) := fun m c h => ⟨vs_new h, ring_far (List.mem_of_getElem? h), fun d => vs_next h⟩
      clear hr3 hb3 HP HME HT hB3
      obtain ⟨l, hl⟩ : ∃ l, ring j = l := ⟨_, rfl⟩
      rw [hl] at HR3 hnc3 hlen HVR HVN ⊢
      clear hl
      obtain ⟨N, hN⟩ : ∃ N, l.length = N := ⟨_, rfl⟩
      rw [hN] at HR3 hnc3 hlen HVR ⊢
      clear hN
      go_wp2
      go_loopw [49] (fun i wr => ∃ m : Nat, m ≤ N ∧ i = .int .i64 (m : Int) ∧ Hid (Met w wr G M q (vs j m)) ∧ Hid (Pn w a b c wr) ∧ Hid (RRow twoS wr w3.heap.size A3 N l) ∧ w3.heap.size ≤ wr.heap.size) (fun i _ => N - (intOf i).toNat)
      case atStart => exact ⟨0, Nat.zero_le _, rfl, HME3, HP3, HR3, Nat.le_refl _⟩
      case round =>
        obtain ⟨m, hm, rfl, HME, HP, HR, hsw⟩ := hrel
        clear HME3 HP3
        by_cases hmt : m < N
        · obtain ⟨bb, o, p, rfl, hbl, hp, c0, c1⟩ := two_at HR.out hmt
          obtain ⟨hv, hf, hx⟩ := HVN.out m p hp
          have hfq : far p ≤ q := by omega
          have hfl := far_le hfq
          have hml := mark_lo hfq
          have HV := Lib.hid hv
          have HX := Lib.hid hx
          have HF := Lib.hid hf
          clear hp hv hx hf
          obtain ⟨J, hJ⟩ : ∃ J, (mark q p).toNat = J := ⟨_, rfl⟩
          have hJM : J < M := by rw [HM3.out] at hml; omega
          have hJ' : (p.1 + (q : Int)) * (2 * (q : Int) + 1) + p.2 + (q : Int) = (J : Int) := by have h1 : mark q p = (p.1 + (q : Int)) * (2 * (q : Int) + 1) + p.2 + (q : Int) := rfl; omega
          obtain ⟨px, py⟩ := p
          simp only at c0 c1 hfl hJ'
          have n1 : IntKind.i64.wrap (px + (q : Int)) = px + (q : Int) := IntWalk.i64_in _ ⟨by omega, by omega⟩
          obtain ⟨pr, hpr⟩ : ∃ pr, (px + (q : Int)) * (2 * (q : Int) + 1) = pr := ⟨_, rfl⟩
          rw [hpr] at hJ'
          have n3 : IntKind.i64.wrap ((px + (q : Int)) * (2 * (q : Int) + 1)) = pr := by rw [hpr]; exact IntWalk.i64_in _ ⟨by omega, by omega⟩
          have n4 : IntKind.i64.wrap (pr + py) = pr + py := IntWalk.i64_in _ ⟨by omega, by omega⟩
          have n5 : IntKind.i64.wrap (pr + py + (q : Int)) = (J : Int) := by rw [hJ']; exact IntWalk.i64_in _ ⟨by omega, by omega⟩
          have h1p : -4294967296 ≤ px ∧ px ≤ 4294967296 := by omega
          have h2p : -4294967296 ≤ py ∧ py ≤ 4294967296 := by omega
          have hba : Below wr.heap.size wr (wr.alloc (.cells #[.int .i64 px, .int .i64 py] 35)) := (Below.refl _ _).alloc (Nat.le_refl _) _
          have hbk := heap_alloc_new wr (.cells #[.int .i64 px, .int .i64 py] 35)
          have HBA := Lib.hid hba
          have HBK := Lib.hid hbk
          have H12 := Lib.hid (And.intro h1p h2p)
          have HJJ := Lib.hid hJ
          clear hpr hJ' hba hbk h1p h2p hml hfl hJ
          go_wp2_with fail
          obtain ⟨gC, hgC⟩ : ∃ gC, wr.heap.size = gC := ⟨_, rfl⟩
          rw [hgC] at HBK hsw ⊢
          generalize wr.alloc (.cells #[.int .i64 px, .int .i64 py] 35) = wA at *
          refine (reffar_any (px, py) wA H12.out.1 H12.out.2).mono ?_
          rw [HF.out]
          rintro e5 w5 ⟨rfl, hb5⟩
          have hb := HBA.out.trans (hb5.mono HBA.out.size)
          have HP5 := Lib.hid (HP.out.below hb)
          obtain ⟨xs, hx1, hx2⟩ := HME.out
          have hx3 := ownr_below hx1 hb
          have HME5 : Hid (Met w w5 G M q (vs j m)) := ⟨xs, hx3, hx2⟩
          have HR5 := Lib.hid ((HR.out.more hsw).below (by rw [← hgC]; exact hb))
          have HR5' : Hid (RRow twoS w5 w3.heap.size (some ⟨bb, o, none⟩) N l) := HR.out.below (hb.mono (by omega))
          have c0' := (hb.cell (p := ⟨bb, o + m * 2, none⟩) (by show bb < _; omega)).trans c0
          have hne : bb ≠ G := fun e => by subst e; exact HME5.out.not_ c0'
          have k5 := (hb5.block _ (Array.getElem?_eq_some_iff.1 HBK.out).1).trans HBK.out
          have y0 : w5.cell? ⟨gC, 0, none⟩ = some (.int .i64 px) := cell_of_blk k5 rfl
          have y1 : w5.cell? ⟨gC, 1, none⟩ = some (.int .i64 py) := cell_of_blk k5 rfl
          have z0 : w5.cell? ⟨G, J, none⟩ = some (.bool false) := by
            rw [hx3.cellAt J (by omega), List.getElem?_map, ← HJJ.out, hx2.2 (px, py) hfq, HV.out]
            rfl
          have z1 : w5.frozen? ⟨G, J, none⟩ = false := hx3.frozenAt J
          have HST := Lib.hid (hx3.stored J (.bool true)).1
          have HSO := Lib.hid (Only.setCell w5 ⟨G, J, none⟩ (.bool true))
          have HMK : Hid (Marks q (xs.set J true) (vs j (m + 1))) := by
            have h3 := marks_set hx2 hfq
            rw [HJJ.out] at h3
            exact marks_same h3 (fun d => (HX.out d).symm)
          have hsz5 : w3.heap.size ≤ w5.heap.size := by have := hb.size; omega
          clear hb hb5 hx1 hx2 hx3 HBA HBK HP HME HR HR5 c0 c1 c0' k5 HV HX HF
          have f0 : ((j : Int) != (j : Int)) = false := bne_self_eq_false _
          go_wp2
          go_roundw
          case rel =>
            refine ⟨m + 1, by omega, by go_num, ⟨xs.set J true, by rw [List.map_set]; exact HST.out, HMK.out⟩, HP5.out.only HSO.out hs1, HR5'.out.only HSO.out (by omega) (fun b' o' e _ => ?_), by simp [World.setCell]; omega⟩
            injection e with e
            injection e with e e'
            subst e
            exact hne
          case measure => simp [intOf]; omega
        · have hmn : m = N := by omega
          subst hmn
          have HME' : Hid (Met w wr G M q (vs (j + 1) 0)) := by obtain ⟨xs, h1, h2⟩ := HME.out; exact ⟨xs, h1, marks_same h2 HVR.out⟩
          clear HME
          go_wp2
          go_roundw
          case rel => exact ⟨j + 1, by omega, by go_num, HME', HP, by omega⟩
          case measure => simp [intOf]; omega
    · have hjq : j = q + 1 := by omega
      subst hjq
      have e1 : decide (((q + 1 : Nat) : Int) ≤ (q : Int)) = false := decide_eq_false (by omega)
      obtain ⟨xs, hx1, hx2⟩ := HME.out
      have ZZ : Hid (∀ m, m < M → wr.cell? ⟨G, m, none⟩ = some (.bool true)) := fun m hm => by
        rw [hx1.cellAt m (by omega), List.getElem?_map, marks_all hx2 (by rw [HM.out]; exact hm)]
        rfl
      clear hx1 hx2 HME
      go_wp2
      go_loopw [93] (fun i wx => ∃ m : Nat, m ≤ M ∧ i = .int .i64 (m : Int) ∧ Hid (wx = wr)) (fun i _ => M - (intOf i).toNat)
      case atStart => exact ⟨0, Nat.zero_le _, rfl, by unfold Hid; trivial⟩
      case round =>
        obtain ⟨m, hm, rfl, hw⟩ := hrel
        obtain rfl := hw.out
        clear hw
        by_cases hmt : m < M
        · have z0 := ZZ.out m hmt
          go_wp2
          go_roundw
          case rel => exact ⟨m + 1, by omega, by go_num, by unfold Hid; trivial⟩
          case measure => simp [intOf]; omega
        · go_wp2_with fail
          refine (k.root n wr HN.out).mono ?_
          rintro e7 w7 ⟨x, rfl, hx, hb7⟩
          have HX := Lib.hid hx
          have HP7 := Lib.hid (HP.out.below hb7)
          have hxb := root_b64 hx HN.out.2
          clear hx hb7 HP ZZ
          go_upto_region 25 with fail
          go_cut [131] (fun v wr => v = .bool false ∧ w7 = wr)
          case first =>
            by_cases hn0 : 0 < n
            · obtain ⟨r1, r2, r3⟩ := root_pos HX.out hn0
              have hnb : -9223372036854775808 ≤ n ∧ n ≤ 9223372036854775807 := HN.out
              have g1 : decide (0 < n) = true := decide_eq_true hn0
              have g2 : decide (x < 1) = false := decide_eq_false (by omega)
              have g6 : decide (n ≤ 0) = false := decide_eq_false (by omega)
              have d1 : Int.tdiv n x = n / x := Int.tdiv_eq_ediv_of_nonneg (by omega)
              have d2 : Int.tdiv n (x + 1) = n / (x + 1) := Int.tdiv_eq_ediv_of_nonneg (by omega)
              have b1 : 0 ≤ n / x ∧ n / x ≤ n := ⟨Int.ediv_nonneg (by omega) (by omega), Int.ediv_le_self _ (by omega)⟩
              have b2 : 0 ≤ n / (x + 1) ∧ n / (x + 1) ≤ n := ⟨Int.ediv_nonneg (by omega) (by omega), Int.ediv_le_self _ (by omega)⟩
              generalize n / x = q1 at *
              generalize n / (x + 1) = q2 at *
              have g3 : decide (q1 < x) = false := decide_eq_false (by omega)
              have g4 : IntKind.i64.wrap (x + 1) = x + 1 := IntWalk.i64_in _ ⟨by omega, by omega⟩
              have g5 : decide (x + 1 ≤ q2) = false := decide_eq_false (by omega)
              have w1_ : IntKind.i64.wrap q1 = q1 := IntWalk.i64_in _ ⟨by omega, by omega⟩
              have w2_ : IntKind.i64.wrap q2 = q2 := IntWalk.i64_in _ ⟨by omega, by omega⟩
              have s1 : (x == 0) = false := beq_eq_false_iff_ne.2 (by omega)
              have s2 : (x + 1 == 0) = false := beq_eq_false_iff_ne.2 (by omega)
              go_wp2
              go_meet
              exact ⟨rfl, rfl⟩
            · obtain rfl := root_neg HX.out (by omega)
              have g1 : decide (0 < n) = false := decide_eq_false hn0
              have g6 : decide (n ≤ 0) = true := decide_eq_true (by omega)
              go_wp2
              go_meet
              exact ⟨rfl, rfl⟩
          case rest =>
            obtain ⟨rfl, rfl⟩ := hcut
            have a0 : w7.cell? ⟨w.heap.size, 0, none⟩ = some (.int .i64 a.1) := cell_of_blk HP7.out.blk rfl
            have a1 : w7.cell? ⟨w.heap.size, 1, none⟩ = some (.int .i64 a.2) := cell_of_blk HP7.out.blk rfl
            have b0 : w7.cell? ⟨w.heap.size, 2, none⟩ = some (.int .i64 b.1) := cell_of_blk HP7.out.blk rfl
            have b1 : w7.cell? ⟨w.heap.size, 3, none⟩ = some (.int .i64 b.2) := cell_of_blk HP7.out.blk rfl
            have c0 : w7.cell? ⟨w.heap.size, 4, none⟩ = some (.int .i64 c.1) := cell_of_blk HP7.out.blk rfl
            have c1 : w7.cell? ⟨w.heap.size, 5, none⟩ = some (.int .i64 c.2) := cell_of_blk HP7.out.blk rfl
            go_upto_region 27 with fail
            go_cut [17, 18, 19] (fun pa pb pc wr => ∃ ga gb gc, pa = .pointer (some ⟨ga, 0, none⟩) ∧ pb = .pointer (some ⟨gb, 0, none⟩) ∧ pc = .pointer (some ⟨gc, 0, none⟩) ∧ Hid (Tri w a b c ga gb gc wr))
            case first =>
              have hs7 : w.heap.size < w7.heap.size := (Array.getElem?_eq_some_iff.1 HP7.out.blk).1
              have six : Six w.heap.size a b c w7 := ⟨a0, a1, b0, b1, c0, c1⟩
              go_region_held3 (Six w.heap.size a b c) (first | exact six | exact six_alloc (by assumption) _ | exact six_alloc (six_alloc (six_alloc six _) _) _ | exact six_set (by assumption) _ _ (by show _ ≠ _; simp; omega) | exact six_set (six_set (by assumption) _ _ (by show _ ≠ _; simp; omega)) _ _ (by show _ ≠ _; simp; omega)) (fail)
              all_goals
                go_wp2_with fail
                go_meet
                exact ⟨_, _, _, rfl, rfl, rfl, ⟨by first | exact three_0 _ _ _ _ | exact three_1 _ _ _ _ | exact three_2 _ _ _ _, by first | exact three_0 _ _ _ _ | exact three_1 _ _ _ _ | exact three_2 _ _ _ _, by first | exact three_0 _ _ _ _ | exact three_1 _ _ _ _ | exact three_2 _ _ _ _, HP7.out.bel.trans ((three_b w7 _ _ _).mono HP7.out.bel.size)⟩⟩
            case rest =>
              obtain ⟨ga, gb, gc, rfl, rfl, rfl, HT⟩ := hcut
              clear a0 a1 b0 b1 c0 c1 HP7 HX
              have a0 : wc.cell? ⟨ga, 0, none⟩ = some (.int .i64 a.1) := cell_of_blk HT.out.ab rfl
              have a1 : wc.cell? ⟨ga, 1, none⟩ = some (.int .i64 a.2) := cell_of_blk HT.out.ab rfl
              have b0 : wc.cell? ⟨gb, 0, none⟩ = some (.int .i64 b.1) := cell_of_blk HT.out.bb rfl
              have b1 : wc.cell? ⟨gb, 1, none⟩ = some (.int .i64 b.2) := cell_of_blk HT.out.bb rfl
              have c0 : wc.cell? ⟨gc, 0, none⟩ = some (.int .i64 c.1) := cell_of_blk HT.out.cb rfl
              have c1 : wc.cell? ⟨gc, 1, none⟩ = some (.int .i64 c.2) := cell_of_blk HT.out.cb rfl
              go_wp2_with fail
              refine (k.square a b wc HA.out HB.out).mono ?_
              rintro e8 w8 ⟨rfl, hb8⟩
              have HT8 := Lib.hid (HT.out.below hb8)
              clear hb8 a0 a1 b0 b1 c0 c1 HT
              have HSS : Hid (sq b.1 b.2 a.1 a.2 = sq a.1 a.2 b.1 b.2) := sq_sym _ _ _ _
              have HST : Hid (side b.1 b.2 a.1 a.2 c.1 c.2 = -side a.1 a.2 b.1 b.2 c.1 c.2) := side_turn _ _ _ _ _ _
              have HSF : Hid (side a.1 a.2 b.1 b.2 a.1 a.2 = 0) := side_self _ _ _ _
              have hsm := side_small a b c
              have hsb : B64 (sq a.1 a.2 b.1 b.2) := sq_b64 a b
              obtain ⟨s, hs⟩ : ∃ s, sq a.1 a.2 b.1 b.2 = s := ⟨_, rfl⟩
              obtain ⟨t, ht⟩ : ∃ t, side a.1 a.2 b.1 b.2 c.1 c.2 = t := ⟨_, rfl⟩
              have HT1 := Lib.hid ht
              have HS1 := Lib.hid hs
              rw [hs] at HSS hsb ⊢
              rw [ht] at HST hsm
              clear hs ht
              have f1 : (s != s) = false := bne_self_eq_false _
              have f2 : (t != t) = false := bne_self_eq_false _
              have f3 : IntKind.i64.wrap t = t := IntWalk.i64_in _ ⟨by omega, by omega⟩
              have f4 : IntKind.i64.wrap (- -t) = t := by rw [Int.neg_neg]; exact f3
              go_wp2_with fail
              obtain ⟨ι, hne, W, i0, h0, hW, hC⟩ := fam_of w8
              have HTW : ∀ i, Hid (Tri w a b c ga gb gc (W i)) := fun i => HT8.out.below (hW i)
              have a0 : ∀ i, (W i).cell? ⟨ga, 0, none⟩ = some (.int .i64 a.1) := fun i => cell_of_blk (HTW i).out.ab rfl
              have a1 : ∀ i, (W i).cell? ⟨ga, 1, none⟩ = some (.int .i64 a.2) := fun i => cell_of_blk (HTW i).out.ab rfl
              have b0 : ∀ i, (W i).cell? ⟨gb, 0, none⟩ = some (.int .i64 b.1) := fun i => cell_of_blk (HTW i).out.bb rfl
              have b1 : ∀ i, (W i).cell? ⟨gb, 1, none⟩ = some (.int .i64 b.2) := fun i => cell_of_blk (HTW i).out.bb rfl
              have c0 : ∀ i, (W i).cell? ⟨gc, 0, none⟩ = some (.int .i64 c.1) := fun i => cell_of_blk (HTW i).out.cb rfl
              have c1 : ∀ i, (W i).cell? ⟨gc, 1, none⟩ = some (.int .i64 c.2) := fun i => cell_of_blk (HTW i).out.cb rfl
              refine Mix.wp_region_lex (fun w' => ∃ i, w' = W i) (by kernel_rfl) (by kernel_rfl) ⟨i0, h0⟩ ?_
              rw [h0]
              clear h0
              repeat (first | (refine Mix.lex_step rfl ?_; intro K hK; go_big_quiet_step (fail); refine Mix.lex_on hK ?_; clear hK K) | (refine Mix.lex_skip rfl ?_; simp only [Act.put, List.setIfInBounds_toArray, List.set_cons_zero, List.set_cons_succ]))
              refine Mix.lex_call (k.square b a (W i0) HB.out HA.out) rfl rfl rfl (fun _ => rfl) ?_
              rw [HSS.out]
              rintro e20 w20 ⟨rfl, hb20⟩
              obtain ⟨j20, rfl⟩ := hC _ w20 hb20
              clear hb20
              refine ⟨_, rfl, ⟨j20, rfl⟩, ?_⟩
              simp only [Act.put, List.setIfInBounds_toArray, List.set_cons_zero, List.set_cons_succ]
              repeat (first | (refine Mix.lex_step rfl ?_; intro K hK; go_big_quiet_step (fail); refine Mix.lex_on hK ?_; clear hK K) | (refine Mix.lex_skip rfl ?_; simp only [Act.put, List.setIfInBounds_toArray, List.set_cons_zero, List.set_cons_succ]))
              refine Mix.lex_call (k.side a b c (W j20) HA.out HB.out HC.out) rfl rfl rfl (fun _ => rfl) ?_
              rw [HT1.out]
              rintro e21 w21 ⟨rfl, hb21⟩
              obtain ⟨j21, rfl⟩ := hC _ w21 hb21
              clear hb21
              refine ⟨_, rfl, ⟨j21, rfl⟩, ?_⟩
              simp only [Act.put, List.setIfInBounds_toArray, List.set_cons_zero, List.set_cons_succ]
              repeat (first | (refine Mix.lex_step rfl ?_; intro K hK; go_big_quiet_step (fail); refine Mix.lex_on hK ?_; clear hK K) | (refine Mix.lex_skip rfl ?_; simp only [Act.put, List.setIfInBounds_toArray, List.set_cons_zero, List.set_cons_succ]))
              refine Mix.lex_call (k.side b a c (W j21) HB.out HA.out HC.out) rfl rfl rfl (fun _ => rfl) ?_
              rw [HST.out]
              rintro e22 w22 ⟨rfl, hb22⟩
              obtain ⟨j22, rfl⟩ := hC _ w22 hb22
              clear hb22
              refine ⟨_, rfl, ⟨j22, rfl⟩, ?_⟩
              simp only [Act.put, List.setIfInBounds_toArray, List.set_cons_zero, List.set_cons_succ]
              repeat (first | (refine Mix.lex_step rfl ?_; intro K hK; go_big_quiet_step (fail); refine Mix.lex_on hK ?_; clear hK K) | (refine Mix.lex_skip rfl ?_; simp only [Act.put, List.setIfInBounds_toArray, List.set_cons_zero, List.set_cons_succ]))
              refine Mix.lex_call (k.side a b a (W j22) HA.out HB.out HA.out) rfl rfl rfl (fun _ => rfl) ?_
              rw [HSF.out]
              rintro e23 w23 ⟨rfl, hb23⟩
              obtain ⟨j23, rfl⟩ := hC _ w23 hb23
              clear hb23
              refine ⟨_, rfl, ⟨j23, rfl⟩, ?_⟩
              simp only [Act.put, List.setIfInBounds_toArray, List.set_cons_zero, List.set_cons_succ]
              repeat (first | (refine Mix.lex_step rfl ?_; intro K hK; go_big_quiet_step (fail); refine Mix.lex_on hK ?_; clear hK K) | (refine Mix.lex_skip rfl ?_; simp only [Act.put, List.setIfInBounds_toArray, List.set_cons_zero, List.set_cons_succ]))
              refine Mix.lex_nil ?_
              have HT9 := HTW j23
              clear HTW a0 a1 b0 b1 c0 c1 hW hC HT8 HST HSF HSS HT1 f1 f2 f3 f4 hsm
              generalize W j23 = w9 at *
              have a0 : w9.cell? ⟨ga, 0, none⟩ = some (.int .i64 a.1) := cell_of_blk HT9.out.ab rfl
              have a1 : w9.cell? ⟨ga, 1, none⟩ = some (.int .i64 a.2) := cell_of_blk HT9.out.ab rfl
              have b0 : w9.cell? ⟨gb, 0, none⟩ = some (.int .i64 b.1) := cell_of_blk HT9.out.bb rfl
              have b1 : w9.cell? ⟨gb, 1, none⟩ = some (.int .i64 b.2) := cell_of_blk HT9.out.bb rfl
              cases ma : decide (may a.1 a.2) with
              | false =>
                have hz : s = 0 := by have := HS1.out; rw [← this]; unfold sq; rw [if_neg (fun h => of_decide_eq_false ma h.1)]
                subst hz
                go_wp2_with fail
                refine (k.may a.1 a.2 w9 HA.out.1 HA.out.2).mono ?_
                rw [ma]
                rintro e30 w30 ⟨rfl, hb30⟩
                have HT30 := Lib.hid (HT9.out.below hb30)
                clear hb30 a0 a1 b0 b1
                have a0 : w30.cell? ⟨ga, 0, none⟩ = some (.int .i64 a.1) := cell_of_blk HT30.out.ab rfl
                have a1 : w30.cell? ⟨ga, 1, none⟩ = some (.int .i64 a.2) := cell_of_blk HT30.out.ab rfl
                have b0 : w30.cell? ⟨gb, 0, none⟩ = some (.int .i64 b.1) := cell_of_blk HT30.out.bb rfl
                have b1 : w30.cell? ⟨gb, 1, none⟩ = some (.int .i64 b.2) := cell_of_blk HT30.out.bb rfl
                go_wp2
                go_ret
                exact ⟨rfl, HT30.out.bel⟩
              | true =>
                go_wp2_with fail
                refine (k.may a.1 a.2 w9 HA.out.1 HA.out.2).mono ?_
                rw [ma]
                rintro e31 w31 ⟨rfl, hb31⟩
                have HT31 := Lib.hid (HT9.out.below hb31)
                clear hb31 a0 a1 b0 b1
                have a0 : w31.cell? ⟨ga, 0, none⟩ = some (.int .i64 a.1) := cell_of_blk HT31.out.ab rfl
                have a1 : w31.cell? ⟨ga, 1, none⟩ = some (.int .i64 a.2) := cell_of_blk HT31.out.ab rfl
                have b0 : w31.cell? ⟨gb, 0, none⟩ = some (.int .i64 b.1) := cell_of_blk HT31.out.bb rfl
                have b1 : w31.cell? ⟨gb, 1, none⟩ = some (.int .i64 b.2) := cell_of_blk HT31.out.bb rfl
                cases mb : decide (may b.1 b.2) with
                | false =>
                  have hz : s = 0 := by have := HS1.out; rw [← this]; unfold sq; rw [if_neg (fun h => of_decide_eq_false mb h.2)]
                  subst hz
                  go_wp2_with fail
                  refine (k.may b.1 b.2 w31 HB.out.1 HB.out.2).mono ?_
                  rw [mb]
                  rintro e32 w32 ⟨rfl, hb32⟩
                  have HT32 := Lib.hid (HT31.out.below hb32)
                  clear hb32 a0 a1 b0 b1
                  have a0 : w32.cell? ⟨ga, 0, none⟩ = some (.int .i64 a.1) := cell_of_blk HT32.out.ab rfl
                  have a1 : w32.cell? ⟨ga, 1, none⟩ = some (.int .i64 a.2) := cell_of_blk HT32.out.ab rfl
                  have b0 : w32.cell? ⟨gb, 0, none⟩ = some (.int .i64 b.1) := cell_of_blk HT32.out.bb rfl
                  have b1 : w32.cell? ⟨gb, 1, none⟩ = some (.int .i64 b.2) := cell_of_blk HT32.out.bb rfl
                  go_wp2
                  go_ret
                  exact ⟨rfl, HT32.out.bel⟩
                | true =>
                  go_wp2_with fail
                  refine (k.may b.1 b.2 w31 HB.out.1 HB.out.2).mono ?_
                  rw [mb]
                  rintro e33 w33 ⟨rfl, hb33⟩
                  have HT33 := Lib.hid (HT31.out.below hb33)
                  clear hb33 a0 a1 b0 b1
                  have a0 : w33.cell? ⟨ga, 0, none⟩ = some (.int .i64 a.1) := cell_of_blk HT33.out.ab rfl
                  have a1 : w33.cell? ⟨ga, 1, none⟩ = some (.int .i64 a.2) := cell_of_blk HT33.out.ab rfl
                  have b0 : w33.cell? ⟨gb, 0, none⟩ = some (.int .i64 b.1) := cell_of_blk HT33.out.bb rfl
                  have b1 : w33.cell? ⟨gb, 1, none⟩ = some (.int .i64 b.2) := cell_of_blk HT33.out.bb rfl
                  have va : may a.1 a.2 := of_decide_eq_true ma
                  have vb : may b.1 b.2 := of_decide_eq_true mb
                  obtain ⟨s1, s2⟩ := sq_both va vb
                  rw [HS1.out] at s1 s2
                  have ax := diff_in va.1 vb.1
                  have ay := diff_in va.2 vb.2
                  have px := ab_nn a.1 b.1
                  have py := ab_nn a.2 b.2
                  have qx : ab a.1 b.1 < 67108864 := by unfold ab; split <;> omega
                  have qy : ab a.2 b.2 < 67108864 := by unfold ab; split <;> omega
                  have hx : (if a.1 - b.1 < b.1 - a.1 then b.1 - a.1 else a.1 - b.1) = ab a.1 b.1 := rfl
                  have hy : (if a.2 - b.2 < b.2 - a.2 then b.2 - a.2 else a.2 - b.2) = ab a.2 b.2 := rfl
                  have m1 : IntKind.i64.wrap (a.1 - b.1) = a.1 - b.1 := IntWalk.i64_in _ ⟨by omega, by omega⟩
                  have m2 : IntKind.i64.wrap (b.1 - a.1) = b.1 - a.1 := IntWalk.i64_in _ ⟨by omega, by omega⟩
                  have m3 : IntKind.i64.wrap (a.2 - b.2) = a.2 - b.2 := IntWalk.i64_in _ ⟨by omega, by omega⟩
                  have m4 : IntKind.i64.wrap (b.2 - a.2) = b.2 - a.2 := IntWalk.i64_in _ ⟨by omega, by omega⟩
                  have HXY := Lib.hid (And.intro hx hy)
                  have HPQ := Lib.hid (And.intro (And.intro px qx) (And.intro py qy))
                  have HSB := Lib.hid (And.intro s1 s2)
                  clear va vb ax ay px py qx qy s1 s2 hx hy
                  by_cases gx : a.1 - b.1 < b.1 - a.1
                  · by_cases gy : a.2 - b.2 < b.2 - a.2
                    · obtain ⟨⟨px, qx⟩, py, qy⟩ := HPQ.out
                      obtain ⟨s1, s2⟩ := HSB.out
                      obtain ⟨ex, ey⟩ := HXY.out
                      rw [if_pos gx] at ex
                      rw [if_pos gy] at ey
                      rw [← ex, ← ey] at s1 s2
                      rw [← ex] at px qx
                      rw [← ey] at py qy
                      clear ex ey
                      have hq := mul_in2 (u := b.1 - a.1) (v := b.2 - a.2) ⟨px, qx⟩ ⟨py, qy⟩
                      have m5 : IntKind.i64.wrap (b.1 - a.1 + (b.2 - a.2)) = b.1 - a.1 + (b.2 - a.2) := IntWalk.i64_in _ ⟨by omega, by omega⟩
                      have m6 : IntKind.i64.wrap ((b.1 - a.1 + (b.2 - a.2)) * (b.1 - a.1 + (b.2 - a.2))) = (b.1 - a.1 + (b.2 - a.2)) * (b.1 - a.1 + (b.2 - a.2)) := IntWalk.i64_in _ ⟨by omega, by omega⟩
                      have m7 : IntKind.i64.wrap (2 * s) = 2 * s := IntWalk.i64_in _ ⟨by omega, by omega⟩
                      have g1 : decide (s ≤ (b.1 - a.1 + (b.2 - a.2)) * (b.1 - a.1 + (b.2 - a.2))) = true := decide_eq_true s1
                      have g2 : decide ((b.1 - a.1 + (b.2 - a.2)) * (b.1 - a.1 + (b.2 - a.2)) ≤ 2 * s) = true := decide_eq_true s2
                      clear px qx py qy s1 s2 hq
                      go_wp2
                      go_ret
                      exact ⟨rfl, HT33.out.bel⟩
                    · have iy : (if a.2 - b.2 < b.2 - a.2 then b.2 - a.2 else a.2 - b.2) = a.2 - b.2 := if_neg gy
                      obtain ⟨⟨px, qx⟩, py, qy⟩ := HPQ.out
                      obtain ⟨s1, s2⟩ := HSB.out
                      obtain ⟨ex, ey⟩ := HXY.out
                      rw [if_pos gx] at ex
                      rw [if_neg gy] at ey
                      rw [← ex, ← ey] at s1 s2
                      rw [← ex] at px qx
                      rw [← ey] at py qy
                      clear ex ey
                      have hq := mul_in2 (u := b.1 - a.1) (v := a.2 - b.2) ⟨px, qx⟩ ⟨py, qy⟩
                      have m5 : IntKind.i64.wrap (b.1 - a.1 + (a.2 - b.2)) = b.1 - a.1 + (a.2 - b.2) := IntWalk.i64_in _ ⟨by omega, by omega⟩
                      have m6 : IntKind.i64.wrap ((b.1 - a.1 + (a.2 - b.2)) * (b.1 - a.1 + (a.2 - b.2))) = (b.1 - a.1 + (a.2 - b.2)) * (b.1 - a.1 + (a.2 - b.2)) := IntWalk.i64_in _ ⟨by omega, by omega⟩
                      have m7 : IntKind.i64.wrap (2 * s) = 2 * s := IntWalk.i64_in _ ⟨by omega, by omega⟩
                      have g1 : decide (s ≤ (b.1 - a.1 + (a.2 - b.2)) * (b.1 - a.1 + (a.2 - b.2))) = true := decide_eq_true s1
                      have g2 : decide ((b.1 - a.1 + (a.2 - b.2)) * (b.1 - a.1 + (a.2 - b.2)) ≤ 2 * s) = true := decide_eq_true s2
                      clear px qx py qy s1 s2 hq
                      go_wp2
                      go_ret
                      exact ⟨rfl, HT33.out.bel⟩
                  · have ix : (if a.1 - b.1 < b.1 - a.1 then b.1 - a.1 else a.1 - b.1) = a.1 - b.1 := if_neg gx
                    by_cases gy : a.2 - b.2 < b.2 - a.2
                    · obtain ⟨⟨px, qx⟩, py, qy⟩ := HPQ.out
                      obtain ⟨s1, s2⟩ := HSB.out
                      obtain ⟨ex, ey⟩ := HXY.out
                      rw [if_neg gx] at ex
                      rw [if_pos gy] at ey
                      rw [← ex, ← ey] at s1 s2
                      rw [← ex] at px qx
                      rw [← ey] at py qy
                      clear ex ey
                      have hq := mul_in2 (u := a.1 - b.1) (v := b.2 - a.2) ⟨px, qx⟩ ⟨py, qy⟩
                      have m5 : IntKind.i64.wrap (a.1 - b.1 + (b.2 - a.2)) = a.1 - b.1 + (b.2 - a.2) := IntWalk.i64_in _ ⟨by omega, by omega⟩
                      have m6 : IntKind.i64.wrap ((a.1 - b.1 + (b.2 - a.2)) * (a.1 - b.1 + (b.2 - a.2))) = (a.1 - b.1 + (b.2 - a.2)) * (a.1 - b.1 + (b.2 - a.2)) := IntWalk.i64_in _ ⟨by omega, by omega⟩
                      have m7 : IntKind.i64.wrap (2 * s) = 2 * s := IntWalk.i64_in _ ⟨by omega, by omega⟩
                      have g1 : decide (s ≤ (a.1 - b.1 + (b.2 - a.2)) * (a.1 - b.1 + (b.2 - a.2))) = true := decide_eq_true s1
                      have g2 : decide ((a.1 - b.1 + (b.2 - a.2)) * (a.1 - b.1 + (b.2 - a.2)) ≤ 2 * s) = true := decide_eq_true s2
                      clear px qx py qy s1 s2 hq
                      go_wp2
                      go_ret
                      exact ⟨rfl, HT33.out.bel⟩
                    · have iy : (if a.2 - b.2 < b.2 - a.2 then b.2 - a.2 else a.2 - b.2) = a.2 - b.2 := if_neg gy
                      obtain ⟨⟨px, qx⟩, py, qy⟩ := HPQ.out
                      obtain ⟨s1, s2⟩ := HSB.out
                      obtain ⟨ex, ey⟩ := HXY.out
                      rw [if_neg gx] at ex
                      rw [if_neg gy] at ey
                      rw [← ex, ← ey] at s1 s2
                      rw [← ex] at px qx
                      rw [← ey] at py qy
                      clear ex ey
                      have hq := mul_in2 (u := a.1 - b.1) (v := a.2 - b.2) ⟨px, qx⟩ ⟨py, qy⟩
                      have m5 : IntKind.i64.wrap (a.1 - b.1 + (a.2 - b.2)) = a.1 - b.1 + (a.2 - b.2) := IntWalk.i64_in _ ⟨by omega, by omega⟩
                      have m6 : IntKind.i64.wrap ((a.1 - b.1 + (a.2 - b.2)) * (a.1 - b.1 + (a.2 - b.2))) = (a.1 - b.1 + (a.2 - b.2)) * (a.1 - b.1 + (a.2 - b.2)) := IntWalk.i64_in _ ⟨by omega, by omega⟩
                      have m7 : IntKind.i64.wrap (2 * s) = 2 * s := IntWalk.i64_in _ ⟨by omega, by omega⟩
                      have g1 : decide (s ≤ (a.1 - b.1 + (a.2 - b.2)) * (a.1 - b.1 + (a.2 - b.2))) = true := decide_eq_true s1
                      have g2 : decide ((a.1 - b.1 + (a.2 - b.2)) * (a.1 - b.1 + (a.2 - b.2)) ≤ 2 * s) = true := decide_eq_true s2
                      clear px qx py qy s1 s2 hq
                      go_wp2
                      go_ret
                      exact ⟨rfl, HT33.out.bel⟩
end Go.Proofs.Ytngjgdikooaknaa.Ge

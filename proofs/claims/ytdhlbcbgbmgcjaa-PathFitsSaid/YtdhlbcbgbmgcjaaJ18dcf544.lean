/- Lemmas that the proof stands on, in build order: PtF Shut. -/
import Derived.BigQuiet
import Derived.WalkKit
import Derived.ProofKit
import Derived.OpenShut
import Derived.Carry
import Derived.JoinedCond
import Derived.Test.YtdhlbcbgbmgcjaaJ11d43469
import Derived.Test.YtdhlbcbgbmgcjaaJ1518f928
import Derived.Test.YtdhlbcbgbmgcjaaJ17936be0
import Derived.Test.YtdhlbcbgbmgcjaaJ1a85310
/- Layer 17 (path): PathFits' walk. -/
namespace Go.Proofs.Ytdhlbcbgbmgcjaa.Pt
open Go.RowKit Rec Ints Ge Gf Pa

theorem dis_le2 {N : Nt} (h : Valid N) (s v : Nat) : fz (dis N s v) ≤ 140737488355328 := by
  have hb : Bd (N.st.length * 34359738368) (dis N s) := turns_bd (fun l hl => by
    unfold nlk at hl
    obtain ⟨k, hk, rfl⟩ := List.mem_map.1 hl
    have := link_at h hk
    show k.2.2.toNat ≤ _
    omega) (by unfold nlk; rw [List.length_map]; exact h.nl) (fun x m hm => by
    unfold Pa.start at hm
    by_cases hx : x = s
    · rw [if_pos hx] at hm; cases hm; exact Nat.le_refl _
    · rw [if_neg hx] at hm; cases hm) _
  have hn := h.ns
  cases hd : dis N s v with
  | none => show (-1 : Int) ≤ _; omega
  | some m =>
    have := hb v m hd
    show (m : Int) ≤ _
    omega
theorem fz_ge (o : Option Nat) : -1 ≤ fz o := by
  cases o with
  | none => simp [fz]
  | some m => show (-1 : Int) ≤ (m : Int); omega
theorem fz_pos {o : Option Nat} (h : 0 ≤ fz o) : ∃ m, o = some m ∧ fz o = (m : Int) := by
  cases o with
  | none => simp [fz] at h
  | some m => exact ⟨m, rfl, rfl⟩
/-- No distance is longer than over a third stop. -/
theorem over_of {N : Nt} (h : Valid N) {s t r : Nat} (h1 : 0 ≤ fz (dis N s t)) (h2 : 0 ≤ fz (dis N t r)) : 0 ≤ fz (dis N s r) ∧ fz (dis N s r) ≤ fz (dis N s t) + fz (dis N t r) := by
  obtain ⟨a, e1, f1⟩ := fz_pos h1
  obtain ⟨b, e2, f2⟩ := fz_pos h2
  obtain ⟨c, e3, h3⟩ := (dis_is h s).over (dis_is h t) e1 e2
  rw [f1, f2, e3]
  show 0 ≤ (c : Int) ∧ (c : Int) ≤ _
  omega
/-- A link's ends. -/
theorem link_of {N : Nt} (h : Valid N) {s : Nat} {l : L3} (hl : l ∈ N.lk) :
    (fz (dis N s l.1.toNat) < 0 ↔ fz (dis N s l.2.1.toNat) < 0) ∧ fz (dis N s l.1.toNat) ≤ fz (dis N s l.2.1.toNat) + l.2.2 ∧ fz (dis N s l.2.1.toNat) ≤ fz (dis N s l.1.toNat) + l.2.2 := by
  have hk := link_at h hl
  have he : E (nlk N.lk) l.1.toNat l.2.1.toNat l.2.2.toNat := .inl (List.mem_map.2 ⟨l, hl, rfl⟩)
  have key : ∀ {u v : Nat}, E (nlk N.lk) u v l.2.2.toNat → 0 ≤ fz (dis N s u) → 0 ≤ fz (dis N s v) ∧ fz (dis N s v) ≤ fz (dis N s u) + l.2.2 := fun he hu => by
    obtain ⟨a, e1, f1⟩ := fz_pos hu
    obtain ⟨b, e2, h2⟩ := (dis_is h s).step he e1
    rw [e2, f1]
    show 0 ≤ (b : Int) ∧ (b : Int) ≤ _
    omega
  have g1 := key he
  have g2 := key he.symm
  have m1 := fz_ge (dis N s l.1.toNat)
  have m2 := fz_ge (dis N s l.2.1.toNat)
  by_cases c1 : 0 ≤ fz (dis N s l.1.toNat)
  · have := g1 c1
    have := g2 this.1
    exact ⟨by omega, by omega, by omega⟩
  · by_cases c2 : 0 ≤ fz (dis N s l.2.1.toNat)
    · have := g2 c2
      omega
    · exact ⟨by omega, by omega, by omega⟩

structure Ft (w : World) (N : Nt) (A : Option Addr) (n c : Nat) (A' : Option Addr) (m c' : Nat) (p0 p1 p2 : Int) (wr : World) : Prop where
  nat : NAt w w.heap.size N A n c A' m c'
  blk : wr.heap[w.heap.size]? = some (.cells #[.int .i64 N.ver, .slice A n c, .slice A' m c'] 25)
  at_ : wr.heap[w.heap.size + 1]? = some (.cells #[.int .u8 p0, .int .u8 p1, .int .u8 p2] 43)
  bel : Below w.heap.size w wr
theorem Ft.lt {w wr : World} {N : Nt} {A A' : Option Addr} {n c m c' : Nat} {p0 p1 p2 : Int} (h : Ft w N A n c A' m c' p0 p1 p2 wr) : w.heap.size < wr.heap.size := (Array.getElem?_eq_some_iff.1 h.blk).1
theorem Ft.up {w wr w2 : World} {N : Nt} {A A' : Option Addr} {n c m c' : Nat} {p0 p1 p2 : Int} (h : Ft w N A n c A' m c' p0 p1 p2 wr) (hb : Below wr.heap.size wr w2) : Ft w N A n c A' m c' p0 p1 p2 w2 :=
  ⟨h.nat, (hb.block _ h.lt).trans h.blk, (hb.block _ (Array.getElem?_eq_some_iff.1 h.at_).1).trans h.at_, h.bel.trans (hb.mono h.bel.size)⟩
theorem Ft.at {w wr : World} {N : Nt} {A A' : Option Addr} {n c m c' : Nat} {p0 p1 p2 : Int} (h : Ft w N A n c A' m c' p0 p1 p2 wr) : NAt wr wr.heap.size N A n c A' m c' := (h.nat.below h.bel).more h.bel.size
theorem Ft.cells {w wr : World} {N : Nt} {A A' : Option Addr} {n c m c' : Nat} {p0 p1 p2 : Int} (h : Ft w N A n c A' m c' p0 p1 p2 wr) :
    wr.cell? ⟨w.heap.size, 0, none⟩ = some (.int .i64 N.ver) ∧ wr.cell? ⟨w.heap.size, 1, none⟩ = some (.slice A n c) ∧ wr.cell? ⟨w.heap.size, 2, none⟩ = some (.slice A' m c') ∧
    wr.cell? ⟨w.heap.size + 1, 0, none⟩ = some (.int .u8 p0) ∧ wr.cell? ⟨w.heap.size + 1, 1, none⟩ = some (.int .u8 p1) ∧ wr.cell? ⟨w.heap.size + 1, 2, none⟩ = some (.int .u8 p2) :=
  ⟨cell_of_blk h.blk rfl, cell_of_blk h.blk rfl, cell_of_blk h.blk rfl, cell_of_blk h.at_ rfl, cell_of_blk h.at_ rfl, cell_of_blk h.at_ rfl⟩

set_option maxHeartbeats 8000000 in
set_option maxRecDepth 100000 in
theorem fits_walk (K : Oks) (N : Nt) (A A' : Option Addr) (n c m c' : Nat) (p0 p1 p2 : Int) (w : World) (h : NAt w w.heap.size N A n c A' m c') (hbd : Bnd N)
    (hp : (0 ≤ p0 ∧ p0 < 256) ∧ (0 ≤ p1 ∧ p1 < 256) ∧ (0 ≤ p2 ∧ p2 < 256)) :
    Calls Try.prog 5 #[.agg #[.int .i64 N.ver, .slice A n c, .slice A' m c'], .agg #[.int .u8 p0, .int .u8 p1, .int .u8 p2]] w fun e w' => e = .returned (.bool true) ∧ Below w.heap.size w w' := by
  have hb1 := (Below.refl w.heap.size w).alloc (Nat.le_refl _) (.cells #[.int .i64 N.ver, .slice A n c, .slice A' m c'] 25)
  have hsz1 : (w.alloc (.cells #[.int .i64 N.ver, .slice A n c, .slice A' m c'] 25)).heap.size = w.heap.size + 1 := by simp
  have hb2 := (Below.refl (w.alloc (.cells #[.int .i64 N.ver, .slice A n c, .slice A' m c'] 25)).heap.size _).alloc (Nat.le_refl _) (.cells #[.int .u8 p0, .int .u8 p1, .int .u8 p2] 43)
  have hbt : Ft w N A n c A' m c' p0 p1 p2 ((w.alloc (.cells #[.int .i64 N.ver, .slice A n c, .slice A' m c'] 25)).alloc (.cells #[.int .u8 p0, .int .u8 p1, .int .u8 p2] 43)) :=
    ⟨h, (hb2.block _ (by omega)).trans (heap_alloc_new w _), by rw [← hsz1]; exact heap_alloc_new _ _, hb1.trans (hb2.mono (by omega))⟩
  have HT := Lib.hid hbt
  have HLS : Hid (N.st.length = n) := h.st.len
  have HLL : Hid (N.lk.length = m) := h.lk.len
  have HBD := Lib.hid hbd
  have HP := Lib.hid hp
  clear hb1 hsz1 hb2 hbt h hbd hp
  go_enter Try.func5, Try.ntmps5
  go_wp2_with fail
  generalize (w.alloc (.cells #[.int .i64 N.ver, .slice A n c, .slice A' m c'] 25)).alloc (.cells #[.int .u8 p0, .int .u8 p1, .int .u8 p2] 43) = w1 at *
  refine (awake_any K w1).mono ?_
  rintro e2 w2 ⟨rfl, hb2⟩
  have HT2 := Lib.hid (HT.out.up hb2)
  clear HT hb2
  obtain ⟨z0, z1, z2, -, -, -⟩ := HT2.out.cells
  go_wp2_with fail
  refine (few_any N A A' n c m c' w2 HT2.out.at).mono ?_
  rintro e3 w3 ⟨rfl, hb3⟩
  have HT3 := Lib.hid (HT2.out.up hb3)
  clear HT2 hb3 z0 z1 z2
  cases hfew : (decide (n ≤ 60) && decide (m ≤ 120)) with
  | false =>
    have HBE := Lib.hid HT3.out.bel
    go_wp2
    go_ret
    exact ⟨rfl, HBE.out⟩
  | true =>
    simp only [Bool.and_eq_true, decide_eq_true_eq] at hfew
    obtain ⟨z0, z1, z2, -, -, -⟩ := HT3.out.cells
    by_cases hk0 : n = 0
    · have e0 : ((n : Int) == 0) = true := beq_iff_eq.2 (by omega)
      have HBE := Lib.hid HT3.out.bel
      clear hk0
      go_wp2
      go_ret
      exact ⟨rfl, HBE.out⟩
    · have e0 : ((n : Int) == 0) = false := beq_eq_false_iff_ne.2 (by omega)
      go_wp2_with fail
      refine (refcheck_any N A A' n c m c' w3 HT3.out.at (by omega) (by omega)).mono ?_
      rintro e4 w4 ⟨rfl, hb4⟩
      have HT4 := Lib.hid (HT3.out.up hb4)
      clear HT3 hb4 z0 z1 z2
      by_cases hc : check N = 0
      · have hc0 : ((check N : Nat) : Int) = 0 := by rw [hc]; rfl
        have HC := Lib.hid hc
        rw [hc0]
        clear hc0 hc
        obtain ⟨z0, z1, z2, z3, z4, z5⟩ := HT4.out.cells
        have hmod : ∀ p : Int, 0 ≤ p → ∃ s : Nat, s < n ∧ p.tmod (n : Int) = (s : Int) := fun p h0 => ⟨(p.tmod (n : Int)).toNat, by
          have h1 := Int.tmod_lt_of_pos p (show (0 : Int) < (n : Int) by omega)
          have h2 := Int.tmod_nonneg (n : Int) h0
          omega, by
          have h2 := Int.tmod_nonneg (n : Int) h0
          omega⟩
        obtain ⟨s, hs, es⟩ := hmod p0 HP.out.1.1
        obtain ⟨t, ht, et⟩ := hmod p1 HP.out.2.1.1
        obtain ⟨r, hr, er⟩ := hmod p2 HP.out.2.2.1
        have i0 : IntKind.i64.wrap p0 = p0 := IntWalk.i64_in _ ⟨by have := HP.out; omega, by have := HP.out; omega⟩
        have i1 : IntKind.i64.wrap p1 = p1 := IntWalk.i64_in _ ⟨by have := HP.out; omega, by have := HP.out; omega⟩
        have i2 : IntKind.i64.wrap p2 = p2 := IntWalk.i64_in _ ⟨by have := HP.out; omega, by have := HP.out; omega⟩
        have j0 : IntKind.i64.wrap (s : Int) = (s : Int) := IntWalk.i64_in _ ⟨by omega, by omega⟩
        have j1 : IntKind.i64.wrap (t : Int) = (t : Int) := IntWalk.i64_in _ ⟨by omega, by omega⟩
        have j2 : IntKind.i64.wrap (r : Int) = (r : Int) := IntWalk.i64_in _ ⟨by omega, by omega⟩
        have hn0 : (n : Int) ≠ 0 := by omega
        clear hmod
        go_upto_region 1 with fail
        go_quiet (fail)
        have HT5 := Lib.hid (HT4.out.up (below_drewN (Below.refl w4.heap.size w4) nq))
        generalize w4.drewN nq = w5 at *
        clear HT4 z0 z1 z2 z3 z4 z5 i0 i1 i2 j0 j1 j2 es et er
        obtain ⟨z0, z1, z2, -, -, -⟩ := HT5.out.cells
        have hgs : ¬ ((s : Int) < 0 ∨ (N.st.length : Int) ≤ (s : Int)) := by have := HLS.out; omega
        have hgt : ¬ ((t : Int) < 0 ∨ (N.st.length : Int) ≤ (t : Int)) := by have := HLS.out; omega
        have HGS := Lib.hid (from_good HC.out hgs)
        have HGT := Lib.hid (from_good HC.out hgt)
        rw [Int.toNat_natCast] at HGS HGT
        clear hgs hgt
        have HV := Lib.hid (valid_of HC.out)
        go_wp2_with fail
        refine (K.from_ N A A' n c m c' (s : Int) w5 HT5.out.at HBD.out (by omega) (by omega) ⟨by omega, by omega⟩).mono ?_
        rw [HGS.out.1, HGS.out.2]
        rintro e6 w6 ⟨v6, rfl, A6, n6, c6, rfl, hr6, -, -, -, hb6⟩
        have HT6 := Lib.hid (HT5.out.up hb6)
        have HX6 := Lib.hid hr6
        clear HT5 hb6 hr6 z0 z1 z2 HGS
        obtain ⟨z0, z1, z2, -, -, -⟩ := HT6.out.cells
        go_wp2_with fail
        refine (K.from_ N A A' n c m c' (t : Int) w6 HT6.out.at HBD.out (by omega) (by omega) ⟨by omega, by omega⟩).mono ?_
        rw [HGT.out.1, HGT.out.2]
        rintro e7 w7 ⟨v7, rfl, A7, n7, c7, rfl, hr7, -, -, -, hb7⟩
        have HT7 := Lib.hid (HT6.out.up hb7)
        have HX7 := Lib.hid ((HX6.out.below hb7).more hb7.size)
        have HY7 := Lib.hid hr7
        clear HT6 hb7 hr7 HX6 z0 z1 z2 HGT
        obtain ⟨hn6, bx, ox, rfl, -⟩ := far_row HX7.out HLS.out (by omega)
        obtain ⟨hn7, by_, oy, rfl, -⟩ := far_row HY7.out HLS.out (by omega)
        subst hn6
        subst hn7
        have hnn : ((n7 : Int) == (n7 : Int)) = true := beq_self_eq_true _
        have xs := far_cells HX7.out HLS.out hs
        have xt := far_cells HX7.out HLS.out ht
        have ys := far_cells HY7.out HLS.out hs
        rw [show fz (dis N s s) = 0 from by rw [(dis_is HV.out s).zero]; rfl] at xs
        rw [(dis_is HV.out t).sym (dis_is HV.out s)] at ys
        have e00 : ((0 : Int) == 0) = true := rfl
        obtain ⟨v1, hv1⟩ : ∃ v, fz (dis N s t) = v := ⟨_, rfl⟩
        rw [hv1] at xt ys
        have e11 : (v1 == v1) = true := beq_self_eq_true v1
        have HV1 := Lib.hid hv1
        clear hv1
        go_upto_region 1 with fail
        go_quiet (fail)
        have HT8 := Lib.hid (HT7.out.up (below_drewN (Below.refl w7.heap.size w7) nq))
        have HX8 : Hid (RRow intS (w7.drewN nq) (w7.drewN nq).heap.size (some ⟨bx, ox, none⟩) n7 (farL N s)) := Lib.hid (HX7.out.below (below_drewN (Below.refl w7.heap.size w7) nq))
        have HY8 : Hid (RRow intS (w7.drewN nq) (w7.drewN nq).heap.size (some ⟨by_, oy, none⟩) n7 (farL N t)) := Lib.hid (HY7.out.below (below_drewN (Below.refl w7.heap.size w7) nq))
        generalize w7.drewN nq = w8 at *
        clear HT7 HX7 HY7 xs xt ys e00 e11 hnn
        go_upto_region 1 with fail
        go_cut [131] (fun vv wx => vv = .bool false ∧ Hid (Ft w N A n7 c A' m c' p0 p1 p2 wx) ∧ Hid (RRow intS wx wx.heap.size (some ⟨bx, ox, none⟩) n7 (farL N s)))
        case first =>
          have xt := far_cells HX8.out HLS.out ht
          have xr := far_cells HX8.out HLS.out hr
          have yr := far_cells HY8.out HLS.out hr
          rw [HV1.out] at xt
          have ho := over_of HV.out (s := s) (t := t) (r := r)
          rw [HV1.out] at ho
          have b1 := dis_le2 HV.out s t
          rw [HV1.out] at b1
          have b2 := dis_le2 HV.out t r
          obtain ⟨v2, hv2⟩ : ∃ v, fz (dis N t r) = v := ⟨_, rfl⟩
          obtain ⟨v3, hv3⟩ : ∃ v, fz (dis N s r) = v := ⟨_, rfl⟩
          rw [hv2] at yr ho b2
          rw [hv3] at xr ho
          clear hv2 hv3
          by_cases h1 : 0 ≤ v1
          · have d1 : decide (0 ≤ v1) = true := decide_eq_true h1
            by_cases h2 : 0 ≤ v2
            · have d2 : decide (0 ≤ v2) = true := decide_eq_true h2
              have h3 := ho h1 h2
              have d3 : decide (v3 < 0) = false := decide_eq_false (by omega)
              have wr' : IntKind.i64.wrap (v1 + v2) = v1 + v2 := IntWalk.i64_in _ ⟨by omega, by omega⟩
              have d4 : decide (v1 + v2 < v3) = false := decide_eq_false (by omega)
              clear h3 ho
              go_quiet (fail)
              go_wp2
              go_meet
              exact ⟨rfl, HT8.out.up (below_drewN (Below.refl _ _) _), HX8.out.below (below_drewN (Below.refl _ _) _)⟩
            · have d2 : decide (0 ≤ v2) = false := decide_eq_false h2
              clear ho
              go_quiet (fail)
              go_wp2
              go_meet
              exact ⟨rfl, HT8.out.up (below_drewN (Below.refl _ _) _), HX8.out.below (below_drewN (Below.refl _ _) _)⟩
          · have d1 : decide (0 ≤ v1) = false := decide_eq_false h1
            clear ho
            go_quiet (fail)
            go_wp2
            go_meet
            exact ⟨rfl, HT8.out.up (below_drewN (Below.refl _ _) _), HX8.out.below (below_drewN (Below.refl _ _) _)⟩
        case rest =>
          obtain ⟨rfl, HT9, HX9⟩ := hcut
          clear HT8 HX8 HY8 HV1
          obtain ⟨z0, z1, z2, -, -, -⟩ := HT9.out.cells
          go_wp2
          go_loopw [135] (fun i wr => ∃ j : Nat, j ≤ m ∧ i = .int .i64 (j : Int) ∧ Hid (Ft w N A n7 c A' m c' p0 p1 p2 wr) ∧ Hid (RRow intS wr wr.heap.size (some ⟨bx, ox, none⟩) n7 (farL N s))) (fun i _ => m - (intOf i).toNat)
          case atStart => exact ⟨0, Nat.zero_le _, rfl, HT9, HX9⟩
          case round =>
            clear HT9 HX9 z0 z1 z2
            obtain ⟨j, hj, rfl, HT, HX⟩ := hrel
            by_cases hlt : j < m
            · obtain ⟨bb, o, p, rfl, hbb, hp, c0, c1, c2⟩ := lk_at HT.out.at.lk hlt
              have hmem : p ∈ N.lk := List.mem_of_getElem? hp
              have hln := link_at HV.out hmem
              have hlk := link_of HV.out (s := s) hmem
              obtain ⟨la, lb, lw⟩ := p
              simp only at c0 c1 c2 hln hlk
              obtain ⟨ia, rfl⟩ : ∃ i : Nat, la = (i : Int) := ⟨la.toNat, by omega⟩
              obtain ⟨ib, rfl⟩ : ∃ i : Nat, lb = (i : Int) := ⟨lb.toNat, by omega⟩
              rw [Int.toNat_natCast, Int.toNat_natCast] at hlk
              have hia : ia < n7 := by have := HLS.out; omega
              have hib : ib < n7 := by have := HLS.out; omega
              have q1 := dis_le2 HV.out s ia
              have q2 := dis_le2 HV.out s ib
              have q3 := fz_ge (dis N s ia)
              have q4 := fz_ge (dis N s ib)
              have HT2 := Lib.hid (HT.out.up ((Below.refl wr.heap.size wr).alloc (Nat.le_refl _) (.cells #[.int .i64 (ia : Int), .int .i64 (ib : Int), .int .i64 lw] 45)))
              have HX2 : Hid (RRow intS (wr.alloc (.cells #[.int .i64 (ia : Int), .int .i64 (ib : Int), .int .i64 lw] 45)) (wr.alloc (.cells #[.int .i64 (ia : Int), .int .i64 (ib : Int), .int .i64 lw] 45)).heap.size (some ⟨bx, ox, none⟩) n7 (farL N s)) := (HX.out.below ((Below.refl wr.heap.size wr).alloc (Nat.le_refl _) _)).more (by simp)
              have hk2 := heap_alloc_new wr (.cells #[.int .i64 (ia : Int), .int .i64 (ib : Int), .int .i64 lw] 45)
              go_upto_region 1 with fail
              obtain ⟨gl, hgl⟩ : ∃ g, wr.heap.size = g := ⟨_, rfl⟩
              rw [hgl] at hk2 ⊢
              generalize wr.alloc (.cells #[.int .i64 (ia : Int), .int .i64 (ib : Int), .int .i64 lw] 45) = wk at *
              have l0 : wk.cell? ⟨gl, 0, none⟩ = some (.int .i64 (ia : Int)) := cell_of_blk hk2 rfl
              have l1 : wk.cell? ⟨gl, 1, none⟩ = some (.int .i64 (ib : Int)) := cell_of_blk hk2 rfl
              have l2 : wk.cell? ⟨gl, 2, none⟩ = some (.int .i64 lw) := cell_of_blk hk2 rfl
              have xa := far_cells HX2.out HLS.out hia
              have xb := far_cells HX2.out HLS.out hib
              obtain ⟨va, hva⟩ : ∃ v, fz (dis N s ia) = v := ⟨_, rfl⟩
              obtain ⟨vb, hvb⟩ : ∃ v, fz (dis N s ib) = v := ⟨_, rfl⟩
              rw [hva] at xa hlk q1 q3
              rw [hvb] at xb hlk q2 q4
              have wa : IntKind.i64.wrap (va + lw) = va + lw := IntWalk.i64_in _ ⟨by omega, by omega⟩
              have wb : IntKind.i64.wrap (vb + lw) = vb + lw := IntWalk.i64_in _ ⟨by omega, by omega⟩
              have d3 : decide (vb + lw < va) = false := decide_eq_false (by omega)
              have d4 : decide (va + lw < vb) = false := decide_eq_false (by omega)
              clear hk2 hva hvb hgl c0 c1 c2 hp hmem
              by_cases h1 : va < 0
              · have d1 : decide (va < 0) = true := decide_eq_true h1
                have d2 : decide (vb < 0) = true := decide_eq_true (by omega)
                clear hlk
                go_quiet (fail)
                go_wp2
                go_roundw
                case rel => exact ⟨j + 1, by omega, by go_num, HT2.out.up (below_drewN (Below.refl _ _) _), HX2.out.below (below_drewN (Below.refl _ _) _)⟩
                case measure => simp [intOf]; omega
              · have d1 : decide (va < 0) = false := decide_eq_false h1
                have d2 : decide (vb < 0) = false := decide_eq_false (by omega)
                clear hlk
                go_quiet (fail)
                go_wp2
                go_roundw
                case rel => exact ⟨j + 1, by omega, by go_num, HT2.out.up (below_drewN (Below.refl _ _) _), HX2.out.below (below_drewN (Below.refl _ _) _)⟩
                case measure => simp [intOf]; omega
            · have HBE := Lib.hid HT.out.bel
              go_wp2
              go_ret
              exact ⟨rfl, HBE.out⟩
      · obtain ⟨g, hg⟩ : ∃ g, check N = g := ⟨_, rfl⟩
        rw [hg] at hc ⊢
        have e1 : ((g : Int) == 0) = false := beq_eq_false_iff_ne.2 (by omega)
        have HBE := Lib.hid HT4.out.bel
        clear hg
        go_wp2
        go_ret
        exact ⟨rfl, HBE.out⟩
end Go.Proofs.Ytdhlbcbgbmgcjaa.Pt

/- The last step of a law's row, over any program: a call that returned true and left all old memory as it was meets 'true; the input reads as it did'. -/
namespace Go.Proofs.Ytdhlbcbgbmgcjaa
open Go.ChangeShapes Go.WideShapes Go.ChangeAt Go.RowKit

section
variable {H : Type} {enc : TypeId × Value → H} {P : Program} {W W' : World}

theorem trodAll_stays (hl : laidOutB P = true) (hb : Below W.heap.size W W') : ∀ {ts : List TypeId} {vs : List Value} {ds : List (DataW H)} {ps : List MemPlace},
    ts.all (fun t => P.readableRec t && decide (t < P.types.size)) = true → DataW.TrodAll enc P W 0 (fun _ => true) true ts vs ds ps → (∀ x ∈ ps, x.block < W.heap.size) →
    DataW.TrodAll enc P W' 0 (fun b => decide (b < W.heap.size)) true ts vs ds ps
  | [], _, _, _, _, h, _ => by
    obtain ⟨rfl, rfl, rfl⟩ := trodAll_nil h
    exact trodAll_mk0
  | t :: ts, _, _, _, ht, h, hp => by
    obtain ⟨v, vs, d, ds, a, b, rfl, rfl, rfl, h1, h2⟩ := trodAll_cons h
    simp only [List.all_cons, Bool.and_eq_true, decide_eq_true_eq] at ht
    exact trodAll_cons_mk (Below.trod hl ht.1.1 ht.1.2 h1 hb (fun x hx => hp x (List.mem_append_left _ hx)))
      (trodAll_stays hl hb (by simpa using ht.2) h2 (fun x hx => hp x (List.mem_append_right _ hx)))

/-- A law's post: true came back, old memory is as it was. -/
theorem law_post {f : Func} {s : ChangeSpec} {tb : TypeId} {args : Array Value} {ds : List (DataW H)} {before : List MemPlace}
    (hl : laidOutB P = true) (hts : f.params.toList.all (fun t => P.readableRec t && decide (t < P.types.size)) = true) (hr : f.resultTypes = #[tb]) (htb : P.underlying tb = some .bool) (hv : s.vars = [])
    (hW : DataW.Whole enc P f.params.toList s.vars false W args.toList ds [] before) (hfn : s.fn H ds = { results := [.lit (.bool true)], args := ds }) (hb : Below W.heap.size W W') :
    s.post enc P f false true false false W args (.bool true) W' := by
  have hW' := hW
  obtain ⟨p, q, hA, hV, rfl, _, _⟩ := hW
  rw [hv] at hV
  obtain ⟨_, rfl⟩ := trodVars_none hV
  refine ⟨ds, [], p ++ [], [], p, [], hW', ?_, ?_, ?_, hb.frame _, fun h => by cases h⟩
  · rw [List.append_nil, hfn, hr]
    exact trodAll_cons_mk (shut_bool htb _) trodAll_mk0
  · rw [List.append_nil, hfn]
    exact trodAll_stays hl hb hts hA (fun x hx => hW'.lt x (List.mem_append_left _ hx))
  · rw [List.append_nil, hfn, hv]
    rfl
end

/-- What opening a slice of integers gives, as 'Row'. -/
theorem row_of_open {k : IntKind} {w : World} {a : Addr} {len : Nat} {zs : List Int} (hl : len ≤ zs.length) (hc : ∀ i, i < zs.length → w.cell? (a.add i) = some (.int k (zs.getD i 0))) : Row k w w.heap.size (some a) len (zs.take len) := by
  refine ⟨by simp; omega, fun hn => ?_⟩
  obtain ⟨b, o, rfl, hcell⟩ := ints_at hc (by omega)
  refine ⟨b, o, rfl, World.block_lt_of_cell? w _ (hcell 0 (by omega)), fun j hj => ?_⟩
  rw [hcell j (by omega)]
  simp [List.getD, hj]
end Go.Proofs.Ytdhlbcbgbmgcjaa

/- Lemmas that the proof stands on, in build order: GfSw GfS GfRh. -/
import Derived.StillTailTactics
import Derived.Test.YtdgaaghkhkklpaaJ63e688c
/- Layer 15 (graph): the reference's Weight, as a contract. -/
namespace Go.Proofs.Ytdgaaghkhkklpaa.Gf
open Go.RowKit Rec Ints Ge

/-- The weight among the links from one on. -/
theorem wt_drop {L : List L3} {j : Nat} {l : L3} (h : L[j]? = some l) (a b : Int) : wt (L.drop j) a b = if joins a b l then l.2.2 else wt (L.drop (j + 1)) a b := by
  obtain ⟨hj, e⟩ := List.getElem?_eq_some_iff.1 h
  rw [List.drop_eq_getElem_cons hj, e]
  rfl

set_option maxHeartbeats 1600000 in
set_option maxRecDepth 100000 in
theorem refweight_any (N : Nt) (A A' : Option Addr) (n c m c' : Nat) (a b : Int) (w : World) (h : NAt w w.heap.size N A n c A' m c') (hm : m ≤ 1073741824) :
    Calls Try.prog 20 #[.agg #[.int .i64 N.ver, .slice A n c, .slice A' m c'], .int .i64 a, .int .i64 b] w fun e w' => e = .returned (.int .i64 (wt N.lk a b)) ∧ Below w.heap.size w w' := by
  obtain ⟨ver, st, lk⟩ := N
  have HB := Lib.hid (Bx.start h)
  have HLL : Hid (lk.length = m) := h.lk.len
  have HQ : Hid (wt (lk.drop 0) a b = wt lk a b) := by unfold Hid; rw [List.drop_zero]
  clear h
  simp only at HB ⊢
  obtain ⟨R, hR⟩ : ∃ R, wt lk a b = R := ⟨_, rfl⟩
  rw [hR] at HQ ⊢
  clear hR
  go_enter Try.func20, Try.ntmps20
  go_wp2
  generalize w.alloc (.cells #[.int .i64 ver, .slice A n c, .slice A' m c'] 25) = wA at *
  go_loopw [7] (fun i wr => ∃ j : Nat, j ≤ m ∧ i = .int .i64 (j : Int) ∧ Hid (wt (lk.drop j) a b = R) ∧ Hid (Bx w ⟨ver, st, lk⟩ A n c A' m c' wr)) (fun i _ => m - (intOf i).toNat)
  case atStart => exact ⟨0, Nat.zero_le _, rfl, HQ, HB⟩
  case round =>
    clear HQ HB
    obtain ⟨j, hj, rfl, HQ, HB⟩ := hrel
    have z2 : wr.cell? ⟨w.heap.size, 2, none⟩ = some (.slice A' m c') := cell_of_blk HB.out.blk rfl
    by_cases hlt : j < m
    · obtain ⟨bb, o, p, rfl, hbb, hp, c0, c1, c2⟩ := lk_at HB.out.at_.lk hlt
      have hd := wt_drop hp a b
      obtain ⟨la, lb, lw⟩ := p
      simp only at c0 c1 c2 hd
      have HB2 : Hid (Below w.heap.size w (wr.alloc (.cells #[.int .i64 la, .int .i64 lb, .int .i64 lw] 50))) := HB.out.bel.alloc HB.out.bel.size _
      have HBX := Lib.hid (HB.out.below ((Below.refl wr.heap.size wr).alloc (Nat.le_refl _) (.cells #[.int .i64 la, .int .i64 lb, .int .i64 lw] 50)))
      rw [HQ.out] at hd
      by_cases g1 : la = a
      · have dg1 : ((la : Int) == a) = true := beq_iff_eq.2 g1
        by_cases g2 : lb = b
        · have dg2 : ((lb : Int) == b) = true := beq_iff_eq.2 g2
          have HR : Hid (R = lw) := by rw [if_pos (joins_iff.2 (.inl ⟨g1, g2⟩))] at hd; exact hd
          clear hd hp HQ
          try clear g1
          try clear g2
          try clear g3
          try clear g4
          go_wp2
          go_ret
          exact ⟨by rw [HR.out]; rfl, HB2.out⟩
        · have dg2 : ((lb : Int) == b) = false := beq_eq_false_iff_ne.2 g2
          by_cases g3 : la = b
          · have dg3 : ((la : Int) == b) = true := beq_iff_eq.2 g3
            by_cases g4 : lb = a
            · have dg4 : ((lb : Int) == a) = true := beq_iff_eq.2 g4
              have HR : Hid (R = lw) := by rw [if_pos (joins_iff.2 (.inr ⟨g3, g4⟩))] at hd; exact hd
              clear hd hp HQ
              try clear g1
              try clear g2
              try clear g3
              try clear g4
              go_wp2
              go_ret
              exact ⟨by rw [HR.out]; rfl, HB2.out⟩
            · have dg4 : ((lb : Int) == a) = false := beq_eq_false_iff_ne.2 g4
              have HR : Hid (wt (lk.drop (j + 1)) a b = R) := by rw [if_neg (fun hh => by have h3 := joins_iff.1 hh; simp only at h3; omega)] at hd; exact hd.symm
              clear hd hp HQ
              try clear g1
              try clear g2
              try clear g3
              try clear g4
              go_wp2
              go_roundw
              case rel => exact ⟨j + 1, by omega, by go_num, HR, HBX⟩
              case measure => simp [intOf]; omega
          · have dg3 : ((la : Int) == b) = false := beq_eq_false_iff_ne.2 g3
            have HR : Hid (wt (lk.drop (j + 1)) a b = R) := by rw [if_neg (fun hh => by have h3 := joins_iff.1 hh; simp only at h3; omega)] at hd; exact hd.symm
            clear hd hp HQ
            try clear g1
            try clear g2
            try clear g3
            try clear g4
            go_wp2
            go_roundw
            case rel => exact ⟨j + 1, by omega, by go_num, HR, HBX⟩
            case measure => simp [intOf]; omega
      · have dg1 : ((la : Int) == a) = false := beq_eq_false_iff_ne.2 g1
        by_cases g3 : la = b
        · have dg3 : ((la : Int) == b) = true := beq_iff_eq.2 g3
          by_cases g4 : lb = a
          · have dg4 : ((lb : Int) == a) = true := beq_iff_eq.2 g4
            have HR : Hid (R = lw) := by rw [if_pos (joins_iff.2 (.inr ⟨g3, g4⟩))] at hd; exact hd
            clear hd hp HQ
            try clear g1
            try clear g2
            try clear g3
            try clear g4
            go_wp2
            go_ret
            exact ⟨by rw [HR.out]; rfl, HB2.out⟩
          · have dg4 : ((lb : Int) == a) = false := beq_eq_false_iff_ne.2 g4
            have HR : Hid (wt (lk.drop (j + 1)) a b = R) := by rw [if_neg (fun hh => by have h3 := joins_iff.1 hh; simp only at h3; omega)] at hd; exact hd.symm
            clear hd hp HQ
            try clear g1
            try clear g2
            try clear g3
            try clear g4
            go_wp2
            go_roundw
            case rel => exact ⟨j + 1, by omega, by go_num, HR, HBX⟩
            case measure => simp [intOf]; omega
        · have dg3 : ((la : Int) == b) = false := beq_eq_false_iff_ne.2 g3
          have HR : Hid (wt (lk.drop (j + 1)) a b = R) := by rw [if_neg (fun hh => by have h3 := joins_iff.1 hh; simp only at h3; omega)] at hd; exact hd.symm
          clear hd hp HQ
          try clear g1
          try clear g2
          try clear g3
          try clear g4
          go_wp2
          go_roundw
          case rel => exact ⟨j + 1, by omega, by go_num, HR, HBX⟩
          case measure => simp [intOf]; omega
    · have HR : Hid (R = 0) := by
        have h1 := HQ.out
        rw [List.drop_eq_nil_of_le (by have := HLL.out; omega)] at h1
        exact h1.symm
      go_wp2
      go_ret
      exact ⟨by rw [HR.out]; rfl, HB.out.bel⟩
end Go.Proofs.Ytdgaaghkhkklpaa.Gf

/- Layer 15 (graph): the reference's Same (of equal networks), as a contract. -/
namespace Go.Proofs.Ytdgaaghkhkklpaa.Gf
open Go.RowKit Rec Ints Ge

set_option maxHeartbeats 1600000 in
set_option maxRecDepth 100000 in
/-- One network, in two places, is the same. -/
theorem refsame_yes (N : Nt) (A A' D D' : Option Addr) (n c m c' k d j d' B B' : Nat) (w : World) (h : NAt w B N A n c A' m c') (h' : NAt w B' N D k d D' j d') (hB : B ≤ w.heap.size) (hB' : B' ≤ w.heap.size) (hn9 : n ≤ 1073741824) (hm9 : m ≤ 1073741824) :
    Calls Try.prog 15 #[.agg #[.int .i64 N.ver, .slice A n c, .slice A' m c'], .agg #[.int .i64 N.ver, .slice D k d, .slice D' j d']] w fun e w' => e = .returned (.bool true) ∧ Below w.heap.size w w' := by
  obtain ⟨ver, st, lk⟩ := N
  obtain rfl : n = k := by have a := h.st.len; have b := h'.st.len; omega
  obtain rfl : m = j := by have a := h.lk.len; have b := h'.lk.len; omega
  simp only at h h' ⊢
  have hbA : Below w.heap.size w ((w.alloc (.cells #[.int .i64 ver, .slice A n c, .slice A' m c'] 25)).alloc (.cells #[.int .i64 ver, .slice D n d, .slice D' m d'] 25)) := ((Below.refl _ _).alloc (Nat.le_refl _) _).alloc (by simp) _
  have HBA := Lib.hid hbA
  have HK1 : Hid (((w.alloc (.cells #[.int .i64 ver, .slice A n c, .slice A' m c'] 25)).alloc (.cells #[.int .i64 ver, .slice D n d, .slice D' m d'] 25)).heap[w.heap.size]? = some (.cells #[.int .i64 ver, .slice A n c, .slice A' m c'] 25 (0, 0))) := (((Below.refl _ _).alloc (Nat.le_refl _) _).block _ (by simp)).trans (heap_alloc_new w _)
  have HK2 : Hid (((w.alloc (.cells #[.int .i64 ver, .slice A n c, .slice A' m c'] 25)).alloc (.cells #[.int .i64 ver, .slice D n d, .slice D' m d'] 25)).heap[w.heap.size + 1]? = some (.cells #[.int .i64 ver, .slice D n d, .slice D' m d'] 25 (0, 0))) := by have := heap_alloc_new (w.alloc (.cells #[.int .i64 ver, .slice A n c, .slice A' m c'] 25)) (.cells #[.int .i64 ver, .slice D n d, .slice D' m d'] 25); rwa [World.size_alloc] at this
  have H1 := Lib.hid (h.below (hbA.mono hB))
  have H2 := Lib.hid (h'.below (hbA.mono hB'))
  clear h h' hbA
  go_enter Try.func15, Try.ntmps15
  go_wp2
  generalize (w.alloc (.cells #[.int .i64 ver, .slice A n c, .slice A' m c'] 25)).alloc (.cells #[.int .i64 ver, .slice D n d, .slice D' m d'] 25) = wA at *
  go_loopw [5] (fun i wr => ∃ i0 q : Nat, i0 ≤ n ∧ i = .int .i64 (i0 : Int) ∧ Hid (wr = wA.drewN q)) (fun i _ => n - (intOf i).toNat)
  case atStart => exact ⟨0, 0, Nat.zero_le _, rfl, rfl⟩
  case round =>
    obtain ⟨i0, q, hi, rfl, HW⟩ := hrel
    have HE : Hid (wr.heap = wA.heap) := by unfold Hid; rw [HW.out]; rfl
    have z0 : wr.cell? ⟨w.heap.size, 1, none⟩ = some (.slice A n c) := cell_of_blk (by rw [HE.out]; exact HK1.out) rfl
    have z1 : wr.cell? ⟨w.heap.size + 1, 1, none⟩ = some (.slice D n d) := cell_of_blk (by rw [HE.out]; exact HK2.out) rfl
    have z2 : wr.cell? ⟨w.heap.size, 2, none⟩ = some (.slice A' m c') := cell_of_blk (by rw [HE.out]; exact HK1.out) rfl
    by_cases hlt : i0 < n
    · have h1 : RRow twoS wr B A n st := by rw [HW.out]; exact H1.out.st.drewN q
      have h2 : RRow twoS wr B' D n st := by rw [HW.out]; exact H2.out.st.drewN q
      obtain ⟨b, o, p, rfl, _, hp, c0, c1⟩ := two_at h1 hlt
      obtain ⟨b', o', p', rfl, _, hp', e0, e1⟩ := two_at h2 hlt
      rw [hp] at hp'
      injection hp' with hp'
      subst hp'
      obtain ⟨px, py⟩ := p
      simp only at c0 c1 e0 e1
      clear h1 h2 hp
      go_wp2
      go_quiet (fail)
      go_wp2
      go_roundw
      case rel => exact ⟨i0 + 1, q + nq, by omega, by go_num, by unfold Hid; rw [HW.out]; exact World.drewN_drewN wA q nq⟩
      case measure => simp [intOf]; omega
    go_wp2
    go_loopw [6] (fun i wr => ∃ i0 q : Nat, i0 ≤ m ∧ i = .int .i64 (i0 : Int) ∧ Hid (wr = wA.drewN q)) (fun i _ => m - (intOf i).toNat)
    case atStart => exact ⟨0, q, Nat.zero_le _, rfl, HW⟩
    case round =>
      clear z0 z1 z2 HE HW hlt hi
      obtain ⟨i0, q, hi, rfl, HW⟩ := hrel
      have HE : Hid (wr.heap = wA.heap) := by unfold Hid; rw [HW.out]; rfl
      have z0 : wr.cell? ⟨w.heap.size, 2, none⟩ = some (.slice A' m c') := cell_of_blk (by rw [HE.out]; exact HK1.out) rfl
      have z1 : wr.cell? ⟨w.heap.size + 1, 2, none⟩ = some (.slice D' m d') := cell_of_blk (by rw [HE.out]; exact HK2.out) rfl
      by_cases hlt : i0 < m
      · have h1 : RRow lkS wr B A' m lk := by rw [HW.out]; exact H1.out.lk.drewN q
        have h2 : RRow lkS wr B' D' m lk := by rw [HW.out]; exact H2.out.lk.drewN q
        obtain ⟨b, o, p, rfl, _, hp, c0, c1, c2⟩ := lk_at h1 hlt
        obtain ⟨b', o', p', rfl, _, hp', e0, e1, e2⟩ := lk_at h2 hlt
        rw [hp] at hp'
        injection hp' with hp'
        subst hp'
        obtain ⟨la, lb, lw⟩ := p
        simp only at c0 c1 c2 e0 e1 e2
        clear h1 h2 hp
        go_wp2
        go_quiet (fail)
        go_wp2
        go_roundw
        case rel => exact ⟨i0 + 1, q + nq, by omega, by go_num, by unfold Hid; rw [HW.out]; exact World.drewN_drewN wA q nq⟩
        case measure => simp [intOf]; omega
      · go_wp2
        go_ret
        exact ⟨rfl, by rw [HW.out]; exact below_drewN HBA.out q⟩
end Go.Proofs.Ytdgaaghkhkklpaa.Gf

/- Layer 15 (graph): what the reference's Parts keeps while it goes on. -/
namespace Go.Proofs.Ytdgaaghkhkklpaa.Gf
open Go.RowKit Rec Ints Ge

/-- A list as a function, itself beyond its end. -/
def rdF (xs : List Nat) : Nat → Nat := fun v => xs.getD v v
theorem rdF_at {xs : List Nat} {v x : Nat} (h : xs[v]? = some x) : rdF xs v = x := by unfold rdF; rw [List.getD_eq_getElem?_getD, h]; rfl
theorem rdF_range (n : Nat) : rdF (List.range n) = id := by
  funext v
  unfold rdF
  rw [List.getD_eq_getElem?_getD]
  rcases Nat.lt_or_ge v n with h | h
  · rw [List.getElem?_range h]; rfl
  · rw [List.getElem?_eq_none (by rw [List.length_range]; exact h)]; rfl
theorem rdF_set {xs : List Nat} {b y : Nat} (h : b < xs.length) : rdF (xs.set b y) = fun v => if v = b then y else rdF xs v := by
  funext v
  unfold rdF
  rw [List.getD_eq_getElem?_getD, List.getD_eq_getElem?_getD, List.getElem?_set]
  by_cases e : b = v
  · subst e; rw [if_pos rfl, if_pos h, if_pos rfl]; rfl
  · rw [if_neg e, if_neg (fun h => e h.symm)]
theorem pl_yes {xs : List Nat} {a b : Nat} (hb : b < xs.length) (h : rdF xs a < rdF xs b) : Gh.pl (rdF xs) a b = rdF (xs.set b (rdF xs a)) := by
  rw [rdF_set hb]
  funext v
  unfold Gh.pl
  by_cases e : v = b
  · rw [if_pos ⟨e, h⟩, if_pos e]
  · rw [if_neg (fun h => e h.1), if_neg e]
theorem pl_no {d : Nat → Nat} {a b : Nat} (h : ¬ d a < d b) : Gh.pl d a b = d := by
  funext v
  unfold Gh.pl
  rw [if_neg (fun h' => h h'.2)]
/-- One link: what it does to the list. -/
theorem plk_1 {xs : List Nat} {a b w : Nat} (hb : b < xs.length) (hab : a ≠ b) (h : rdF xs a < rdF xs b) : Gh.plk (rdF xs) (a, b, w) = rdF (xs.set b (rdF xs a)) := by
  unfold Gh.plk
  simp only
  rw [pl_yes hb h]
  refine pl_no ?_
  rw [rdF_set hb]
  simp only [if_true]
  rw [if_neg hab]
  exact Nat.lt_irrefl _
theorem plk_2 {xs : List Nat} {a b w : Nat} (ha : a < xs.length) (h : ¬ rdF xs a < rdF xs b) (h' : rdF xs b < rdF xs a) : Gh.plk (rdF xs) (a, b, w) = rdF (xs.set a (rdF xs b)) := by
  unfold Gh.plk
  simp only
  rw [pl_no h, pl_yes ha h']
theorem plk_3 {d : Nat → Nat} {a b w : Nat} (h : ¬ d a < d b) (h' : ¬ d b < d a) : Gh.plk d (a, b, w) = d := by
  unfold Gh.plk
  simp only
  rw [pl_no h, pl_no h']
theorem fold_more {L : List L3} {j : Nat} {l : L3} (h : L[j]? = some l) (d : Nat → Nat) : ((nlk L).take (j + 1)).foldl Gh.plk d = Gh.plk (((nlk L).take j).foldl Gh.plk d) (l.1.toNat, l.2.1.toNat, l.2.2.toNat) := by
  have e : (nlk L)[j]? = some (l.1.toNat, l.2.1.toNat, l.2.2.toNat) := by unfold nlk; rw [List.getElem?_map, h]; rfl
  rw [List.take_add_one, e, List.foldl_append]
  rfl
theorem fold_all {L : List L3} {n : Nat} (h : L.length = n) (d : Nat → Nat) : ((nlk L).take n).foldl Gh.plk d = Gh.pturn (nlk L) d := by
  rw [List.take_of_length_le (by unfold nlk; rw [List.length_map]; omega)]
  rfl
theorem parts_rd {N : Nt} {xs : List Nat} (hl : xs.length = N.st.length) (h : rdF xs = Gh.pturns (nlk N.lk) N.st.length id) : xs = partsT N := by
  refine List.ext_getElem? fun v => ?_
  rcases Nat.lt_or_ge v N.st.length with hv | hv
  · rw [parts_at hv, ← h, List.getElem?_eq_getElem (by omega)]
    exact congrArg some (rdF_at (List.getElem?_eq_getElem (by omega))).symm
  · rw [List.getElem?_eq_none (by omega), List.getElem?_eq_none (by rw [parts_len]; omega)]
theorem Bx.belowP {w w1 w2 : World} {N : Nt} {A A' : Option Addr} {n c m c' : Nat} (h : Bx w N A n c A' m c' w1) (hb : Below (w.heap.size + 1) w1 w2) : Bx w N A n c A' m c' w2 :=
  ⟨(hb.block _ (by omega)).trans h.blk, h.bel.trans (hb.mono (by omega)), h.at_.below (hb.mono (by omega))⟩
/-- What there is: the network, and the list in block g. -/
structure Pp (w : World) (N : Nt) (A : Option Addr) (n c : Nat) (A' : Option Addr) (m c' g cap : Nat) (xs : List Nat) (wr : World) : Prop where
  bx : Bx w N A n c A' m c' wr
  own : wr.ownsRow (w.heap.size + 1) 3 1 (.slice (some ⟨g, 0, none⟩) n cap) n (intS.flat (nums xs))
  len : xs.length = n
theorem flat_ints (l : List Int) : intS.flat l = l.map (Value.int .i64) := by
  induction l with
  | nil => rfl
  | cons a t ih => rw [flat_cons, ih]; rfl
theorem Pp.cell {w wr : World} {N : Nt} {A A' : Option Addr} {n c m c' g cap : Nat} {xs : List Nat} (h : Pp w N A n c A' m c' g cap xs wr) {i : Nat} (hi : i < n) : wr.cell? ⟨g, i, none⟩ = some (.int .i64 ((rdF xs i : Nat) : Int)) := by
  have hl := h.len
  rw [h.own.cellAt i (by omega), flat_ints, List.getElem?_map, nums, List.getElem?_map, List.getElem?_eq_getElem (by omega), rdF_at (List.getElem?_eq_getElem (by omega))]
  rfl
theorem Pp.lt {w wr : World} {N : Nt} {A A' : Option Addr} {n c m c' g cap : Nat} {xs : List Nat} (h : Pp w N A n c A' m c' g cap xs wr) : w.heap.size + 1 ≤ g ∧ g < wr.heap.size := h.own.lt g rfl
theorem Pp.alloc {w wr : World} {N : Nt} {A A' : Option Addr} {n c m c' g cap : Nat} {xs : List Nat} (h : Pp w N A n c A' m c' g cap xs wr) (o : Obj) : Pp w N A n c A' m c' g cap xs (wr.alloc o) :=
  ⟨h.bx.below ((Below.refl _ _).alloc (Nat.le_refl _) _), ownr_alloc h.own o, h.len⟩
theorem Pp.drewN {w wr : World} {N : Nt} {A A' : Option Addr} {n c m c' g cap : Nat} {xs : List Nat} (h : Pp w N A n c A' m c' g cap xs wr) (q : Nat) : Pp w N A n c A' m c' g cap xs (wr.drewN q) :=
  ⟨h.bx.below (below_drewN (Below.refl _ _) q), h.own, h.len⟩
theorem Bx.only {w w1 w2 : World} {N : Nt} {A A' : Option Addr} {n c m c' g : Nat} (h : Bx w N A n c A' m c' w1) (ho : Only (fun k => k = g) w1 w2) (hg : w.heap.size < g) : Bx w N A n c A' m c' w2 := by
  have hb := ho.below (B := w.heap.size) h.bel.size (fun k hk => by omega)
  exact ⟨ho.at h.blk (by omega), h.bel.trans hb, h.at_.below hb⟩
theorem Pp.set {w wr : World} {N : Nt} {A A' : Option Addr} {n c m c' g cap : Nat} {xs : List Nat} (h : Pp w N A n c A' m c' g cap xs wr) (i y : Nat) : Pp w N A n c A' m c' g cap (xs.set i y) (wr.setCell ⟨g, i, none⟩ (.int .i64 (y : Int))) := by
  have hg := h.lt
  refine ⟨h.bx.only (Only.setCell wr ⟨g, i, none⟩ (.int .i64 (y : Int))) (show w.heap.size < g by omega), ?_, by rw [List.length_set]; exact h.len⟩
  have h1 := (h.own.stored i (.int .i64 (y : Int))).1
  have e : intS.flat (nums (xs.set i y)) = (intS.flat (nums xs)).set i (.int .i64 (y : Int)) := by
    rw [flat_ints, flat_ints, nums, nums, List.map_set, List.map_set]
  rw [e]
  exact h1
theorem Pp.free {w wr : World} {N : Nt} {A A' : Option Addr} {n c m c' g cap : Nat} {xs : List Nat} (h : Pp w N A n c A' m c' g cap xs wr) (i : Nat) : wr.frozen? ⟨g, i, none⟩ = false := h.own.frozenAt i
end Go.Proofs.Ytdgaaghkhkklpaa.Gf

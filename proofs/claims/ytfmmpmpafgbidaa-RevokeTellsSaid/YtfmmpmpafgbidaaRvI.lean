/- Layer 12 (revoke), the landed program: merged and Merge, as contracts. -/
import Derived.Test.YtfmmpmpafgbidaaRvH
import Derived.Deep.DeepCutAuto
namespace Go.Proofs.Ytfmmpmpafgbidaa.Rv
open Go.RowKit Rec

/-- A list that came in, or what is left of it. -/
structure Lft (w : World) (v : Value) (l : List P) : Prop where
  ex : ∃ A n c, v = .slice A n c ∧ RRow rvS w w.heap.size A n l ∧ (A = none → c = 0) ∧ n ≤ c ∧ c ≤ maxLen
theorem mg_lt {x y : P} {a b : List P} (h : x.1 < y.1) : mg (x :: a) (y :: b) = x :: mg a (y :: b) := by rw [mg, if_pos h]
theorem mg_gt {x y : P} {a b : List P} (h : y.1 < x.1) : mg (x :: a) (y :: b) = y :: mg (x :: a) b := by rw [mg, if_neg (by omega), if_pos h]
theorem mg_eq {x y : P} {a b : List P} (h : x.1 = y.1) : mg (x :: a) (y :: b) = (x.1, mx x.2 y.2) :: mg a b := by rw [mg, if_neg (by omega), if_neg (by omega)]
theorem mg_end {a b : List P} (h : a = [] ∨ b = []) : mg a b = a ++ b := by
  rcases h with rfl | rfl
  · rw [mg]; rfl
  · cases a with
    | nil => rw [mg]; rfl
    | cons x a => rw [mg]; simp
/-- A slice's length. -/
def lnOf : Value → Nat
  | .slice _ n _ => n
  | _ => 0
/-- What is left behind the first element. -/
theorem tail_row {w : World} {B n c : Nat} {b o : Nat} {x : P} {l : List P} (h : RRow rvS w B (some ⟨b, o, none⟩) n (x :: l)) (A' : Option Addr) (hA : 1 < c → A' = some ⟨b, o + 1 * 2, none⟩) (hnc : n ≤ c) : RRow rvS w B A' (n - 1) l := by
  have hl := h.len
  rw [List.length_cons] at hl
  by_cases h1 : 1 < c
  · have := h.drop (k := 1) (by omega)
    rw [hA h1]
    exact this
  · have h0 : l = [] := List.eq_nil_of_length_eq_zero (by omega)
    subst h0
    rw [show n - 1 = 0 by omega]
    exact RRow.nil_

/-- Both elements lie in blocks of their own. -/
structure Two (w0 : World) (x y : P) (gx gy : Nat) (w : World) : Prop where
  bx : w.heap[gx]? = some (.cells #[.int .i64 x.1, .int .i64 x.2] 24 (0, 0))
  by_ : w.heap[gy]? = some (.cells #[.int .i64 y.1, .int .i64 y.2] 24 (0, 0))
  ne : gx ≠ gy
  lx : w0.heap.size ≤ gx
  bel : Below w0.heap.size w0 w
theorem Two.xy (w : World) (x y : P) (t : TypeId) (ht : t = 24 := by rfl) : Two w x y w.heap.size (w.heap.size + 1) ((w.alloc (.cells #[.int .i64 x.1, .int .i64 x.2] t)).alloc (.cells #[.int .i64 y.1, .int .i64 y.2] t)).drew := by
  subst ht
  exact ⟨heap_alloc2_old w _ _, heap_alloc2_new w _ _, by omega, Nat.le_refl _, (((Below.refl _ w).alloc (Nat.le_refl _) _).alloc (by simp) _).drew⟩
theorem Two.yx (w : World) (x y : P) (t : TypeId) (ht : t = 24 := by rfl) : Two w x y (w.heap.size + 1) w.heap.size ((w.alloc (.cells #[.int .i64 y.1, .int .i64 y.2] t)).alloc (.cells #[.int .i64 x.1, .int .i64 x.2] t)).drew := by
  subst ht
  exact ⟨heap_alloc2_new w _ _, heap_alloc2_old w _ _, by omega, by omega, (((Below.refl _ w).alloc (Nat.le_refl _) _).alloc (by simp) _).drew⟩

set_option maxHeartbeats 3200000 in
set_option maxRecDepth 100000 in
theorem merged_any (A A' : Option Addr) (n n' c c' : Nat) (a b : List P) (w : World) (h : RRow rvS w w.heap.size A n a) (hnil : A = none → c = 0) (hnc : n ≤ c) (hcm : c ≤ maxLen) (h' : RRow rvS w w.heap.size A' n' b) (hnil' : A' = none → c' = 0) (hnc' : n' ≤ c') (hcm' : c' ≤ maxLen) (hn : n ≤ 100000) (hn' : n' ≤ 100000) :
    Calls Try.prog 23 #[.slice A n c, .slice A' n' c'] w fun e w' => ∃ v m, e = .returned v ∧ w'.ownsRow w.heap.size 24 2 v m (rvS.flat (mg a b)) ∧ m = (mg a b).length ∧ Below w.heap.size w w' := by
  obtain ⟨i0, hi, hz0, hz1, hz2⟩ := info_of info_rev
  have HA0 : Hid (Lft w (.slice A n c) a) := ⟨A, n, c, rfl, h, hnil, hnc, hcm⟩
  have HB0 : Hid (Lft w (.slice A' n' c') b) := ⟨A', n', c', rfl, h', hnil', hnc', hcm'⟩
  have HL0 : Hid (a.length + b.length ≤ 200000) := by unfold Hid; have := h.len; have := h'.len; omega
  clear h hnil hnc hcm h' hnil' hnc' hcm'
  have mixed : Try.prog.follows .mixedOrders = true := by kernel_rfl
  go_enter Try.func23, Try.ntmps23
  go_wp2
  go_loopw [0, 1, 5] (fun u0 u1 u5 wr => ∃ (a1 b1 out : List P), Hid (Lft w u0 a1) ∧ Hid (Lft w u1 b1) ∧ Hid (out ++ mg a1 b1 = mg a b) ∧ Hid (wr.ownsRow w.heap.size 24 2 u5 out.length (rvS.flat out)) ∧ out.length + a1.length + b1.length ≤ 200000 ∧ Hid (Below w.heap.size w wr)) (fun u0 u1 _ _ => lnOf u0 + lnOf u1)
  case atStart => exact ⟨a, b, [], HA0, HB0, by unfold Hid; rfl, World.ownsRow_nil _ _ _ _, by have := HL0.out; simp; omega, Below.refl _ _⟩
  case round =>
    obtain ⟨a1, b1, out, HA, HB, HM, HO, hol, HW⟩ := hrel
    obtain ⟨A1, n1, c1, rfl, hr1, hnil1, hnc1, hcm1⟩ := HA.out.ex
    obtain ⟨A2, n2, c2, rfl, hr2, hnil2, hnc2, hcm2⟩ := HB.out.ex
    have hl1 := hr1.len
    have hl2 := hr2.len
    by_cases hboth : 0 < n1 ∧ 0 < n2
    · obtain ⟨x, a2, rfl⟩ : ∃ x t, a1 = x :: t := by
        cases a1 with
        | nil => simp at hl1; omega
        | cons x t => exact ⟨x, t, rfl⟩
      obtain ⟨y, b2, rfl⟩ : ∃ y t, b1 = y :: t := by
        cases b1 with
        | nil => simp at hl2; omega
        | cons y t => exact ⟨y, t, rfl⟩
      obtain ⟨k1, o1, p1, rfl, hk1, hp1, x0, x1⟩ := rv_at (hr1.below HW.out) hboth.1
      obtain ⟨k2, o2, p2, rfl, hk2, hp2, y0, y1⟩ := rv_at (hr2.below HW.out) hboth.2
      simp only [List.getElem?_cons_zero, Option.some.injEq] at hp1 hp2
      subst hp1 hp2
      rw [Nat.zero_mul, Nat.add_zero] at x0 x1 y0 y1
      have g1 : decide ((0 : Int) < (n1 : Int)) = true := decide_eq_true (by omega)
      have g2 : decide ((0 : Int) < (n2 : Int)) = true := decide_eq_true (by omega)
      have g3 : (0 : Int) < (n1 : Int) := by omega
      have g4 : (0 : Int) < (n2 : Int) := by omega
      have g5 : 0 < n1 := hboth.1
      have g6 : 0 < n2 := hboth.2
      have HBA : ∀ s t, Hid (Below w.heap.size w ((wr.drew.alloc (.cells s 24)).alloc (.cells t 24))) := fun s t => (HW.out.drew.alloc HW.out.size _).alloc (by rw [World.size_alloc]; have := HW.out.size; show _ ≤ wr.heap.size + 1; omega) _
      have al1 : ∀ (s : Array Value) (k o : Nat) (v : Value), k < w.heap.size → wr.cell? ⟨k, o, none⟩ = some v → (wr.alloc (.cells s 24)).cell? ⟨k, o, none⟩ = some v := fun s k o v hk hv => (((Below.refl wr.heap.size wr).alloc (Nat.le_refl _) (.cells s 24)).cell (p := ⟨k, o, none⟩) (by have := HW.out.size; show k < _; omega)).trans hv
      have al2 : ∀ (s t : Array Value) (k o : Nat) (v : Value), k < w.heap.size → wr.cell? ⟨k, o, none⟩ = some v → ((wr.alloc (.cells s 24)).alloc (.cells t 24)).cell? ⟨k, o, none⟩ = some v := fun s t k o v hk hv => (((Below.refl wr.heap.size wr).alloc (Nat.le_refl _) (.cells s 24)).alloc (by simp) (.cells t 24)).cell (p := ⟨k, o, none⟩) (by have := HW.out.size; show k < _; omega) |>.trans hv
      have x0a := fun s => al1 s _ _ _ hk1 x0
      have x1a := fun s => al1 s _ _ _ hk1 x1
      have y0a := fun s => al1 s _ _ _ hk2 y0
      have y1a := fun s => al1 s _ _ _ hk2 y1
      have x0b := fun s t => al2 s t _ _ _ hk1 x0
      have x1b := fun s t => al2 s t _ _ _ hk1 x1
      have y0b := fun s t => al2 s t _ _ _ hk2 y0
      have y1b := fun s t => al2 s t _ _ _ hk2 y1
      clear hnil1 hnil2 al1 al2
      have q1 : (1 : Int) ≤ (n1 : Int) := by omega
      have q2 : (1 : Int) ≤ (n2 : Int) := by omega
      have q3 : 1 ≤ n1 := by omega
      have q4 : 1 ≤ n2 := by omega
      have hc1 : 0 < c1 := by omega
      have hc2 : 0 < c2 := by omega
      go_upto_region 3 with fail
      go_cut [6, 7] (fun px py w3 => ∃ gx gy, px = .pointer (some ⟨gx, 0, none⟩) ∧ py = .pointer (some ⟨gy, 0, none⟩) ∧ Hid (Two wr x y gx gy w3))
      case first =>
        go_region
        all_goals
          go_wp2_with fail
          go_meet
          first
            | exact ⟨wr.heap.size, wr.heap.size + 1, rfl, rfl, Two.xy wr x y 24⟩
            | exact ⟨wr.heap.size + 1, wr.heap.size, rfl, rfl, Two.yx wr x y 24⟩
      case rest =>
        obtain ⟨gx, gy, rfl, rfl, HT⟩ := hcut
        revert HT; generalize wc = w3; intro HT
        have ex0 := cell_of_blk (j := 0) HT.out.bx rfl
        have ex1 := cell_of_blk (j := 1) HT.out.bx rfl
        have ey0 := cell_of_blk (j := 0) HT.out.by_ rfl
        have ey1 := cell_of_blk (j := 1) HT.out.by_ rfl
        have hs0 : Hid (w.heap.size ≤ wr.heap.size) := HW.out.size
        have HW3 : Hid (Below w.heap.size w w3) := HW.out.trans (HT.out.bel.mono HW.out.size)
        obtain ⟨A3, c3, rfl, -⟩ := ownr_slice HO.out
        have HO3 : Hid (w3.ownsRow w.heap.size 24 rvS.c (.slice A3 out.length c3) out.length (rvS.flat out)) := ownr_below HO.out HT.out.bel
        simp only [List.length_cons] at hl1 hl2 hol
        by_cases hq : x.1 < y.1
        · have e1 : decide (x.1 < y.1) = true := decide_eq_true hq
          have HM4 : Hid ((out ++ [x]) ++ mg a2 (y :: b2) = mg a b) := by unfold Hid; rw [← HM.out, mg_lt hq]; simp
          clear HM HA HB
          by_cases hca : c1 = 1
          · obtain rfl : c1 = 1 := by omega
            have HT1 : Hid (RRow rvS w w.heap.size (some ⟨k1, o1, none⟩) 0 a2) := by have h0 := tail_row hr1 (some ⟨k1, o1, none⟩) (fun h => absurd h (by omega)) hnc1; rwa [show n1 - 1 = 0 by omega] at h0
            have HC1 : Hid (0 ≤ 0) := Nat.le_refl _
            have HM1 : Hid (0 ≤ maxLen) := Nat.zero_le _
            have HDO : Hid ((w3.alloc (.cells #[.int .i64 x.1, .int .i64 x.2] 24)).drew.ownsRow w.heap.size 24 rvS.c (.slice A3 out.length c3) out.length (rvS.flat out)) := ownr_alloc HO3.out (.cells #[.int .i64 x.1, .int .i64 x.2] 24)
            have HNEW : Hid (∀ j u, (rvS.flat [x])[j]? = some u → (w3.alloc (.cells #[.int .i64 x.1, .int .i64 x.2] 24)).drew.cell? ((⟨w3.heap.size, 0, none⟩ : Addr).add j) = some u) := by unfold Hid; rw [flat_single]; exact new_rv w3 x 24
            have HSZ : Hid (w.heap.size ≤ (w3.alloc (.cells #[.int .i64 x.1, .int .i64 x.2] 24)).drew.heap.size) := by unfold Hid; show _ ≤ (w3.alloc (.cells #[.int .i64 x.1, .int .i64 x.2] 24)).heap.size; rw [World.size_alloc]; have := HW3.out.size; omega
            have HBA : Hid (Below w.heap.size w (w3.alloc (.cells #[.int .i64 x.1, .int .i64 x.2] 24)).drew) := (HW3.out.alloc HW3.out.size _).drew
            have hol' : out.length + 1 ≤ 1099511627776 := by omega
            go_wp2_with fail
            go_region_law_o (refine step_rec rvS rfl (.tmp 42) (.tmp 44) 22 rfl w.heap.size 24 i0 (.agg #[.int .i64 0, .int .i64 0]) 16 Try.underlying22 hi hz0 rfl hz1 hz2 _ out.length out (by simp [Act.eval]) HDO.out ⟨w3.heap.size, 0, none⟩ 1 1 [x] (by simp [Act.eval]) rfl HNEW.out hol' (by omega) HSZ.out ?_; intro v4 w4 hown4 _ hb4; have HO4 := Lib.hid hown4; have HB4 := Lib.hid (HBA.out.trans hb4); clear hown4 hb4)
            all_goals
              try simp only [Act.put, List.getElem_toArray, List.getElem_cons_succ, List.getElem_cons_zero, List.setIfInBounds_toArray, List.set_cons_succ, List.set_cons_zero]
              go_wp2
              go_roundw
              case rel => exact ⟨a2, (y :: b2), out ++ [x], ⟨some ⟨k1, o1, none⟩, 0, 0, rfl, HT1.out, fun h => (by cases h), HC1.out, HM1.out⟩, ⟨_, n2, c2, rfl, hr2, fun h => (by cases h), hnc2, hcm2⟩, HM4.out, by rw [List.length_append]; exact HO4.out, by simp only [List.length_append, List.length_cons, List.length_nil] at hol ⊢; omega, HB4.out⟩
              case measure => simp [lnOf]; omega
          · have hd1 : ¬ (c1 = 1) := by omega
            have he1 : 1 < c1 := by omega
            have HT1 : Hid (RRow rvS w w.heap.size (some ⟨k1, o1 + 1 * 2, none⟩) (n1 - 1) a2) := tail_row hr1 _ (fun _ => rfl) hnc1
            have HC1 : Hid (n1 - 1 ≤ c1 - 1) := by unfold Hid; omega
            have HM1 : Hid (c1 - 1 ≤ maxLen) := by unfold Hid; omega
            have HDO : Hid ((w3.alloc (.cells #[.int .i64 x.1, .int .i64 x.2] 24)).drew.ownsRow w.heap.size 24 rvS.c (.slice A3 out.length c3) out.length (rvS.flat out)) := ownr_alloc HO3.out (.cells #[.int .i64 x.1, .int .i64 x.2] 24)
            have HNEW : Hid (∀ j u, (rvS.flat [x])[j]? = some u → (w3.alloc (.cells #[.int .i64 x.1, .int .i64 x.2] 24)).drew.cell? ((⟨w3.heap.size, 0, none⟩ : Addr).add j) = some u) := by unfold Hid; rw [flat_single]; exact new_rv w3 x 24
            have HSZ : Hid (w.heap.size ≤ (w3.alloc (.cells #[.int .i64 x.1, .int .i64 x.2] 24)).drew.heap.size) := by unfold Hid; show _ ≤ (w3.alloc (.cells #[.int .i64 x.1, .int .i64 x.2] 24)).heap.size; rw [World.size_alloc]; have := HW3.out.size; omega
            have HBA : Hid (Below w.heap.size w (w3.alloc (.cells #[.int .i64 x.1, .int .i64 x.2] 24)).drew) := (HW3.out.alloc HW3.out.size _).drew
            have hol' : out.length + 1 ≤ 1099511627776 := by omega
            go_wp2_with fail
            go_region_law_o (refine step_rec rvS rfl (.tmp 42) (.tmp 44) 22 rfl w.heap.size 24 i0 (.agg #[.int .i64 0, .int .i64 0]) 16 Try.underlying22 hi hz0 rfl hz1 hz2 _ out.length out (by simp [Act.eval]) HDO.out ⟨w3.heap.size, 0, none⟩ 1 1 [x] (by simp [Act.eval]) rfl HNEW.out hol' (by omega) HSZ.out ?_; intro v4 w4 hown4 _ hb4; have HO4 := Lib.hid hown4; have HB4 := Lib.hid (HBA.out.trans hb4); clear hown4 hb4)
            all_goals
              try simp only [Act.put, List.getElem_toArray, List.getElem_cons_succ, List.getElem_cons_zero, List.setIfInBounds_toArray, List.set_cons_succ, List.set_cons_zero]
              go_wp2
              go_roundw
              case rel => exact ⟨a2, (y :: b2), out ++ [x], ⟨some ⟨k1, o1 + 1 * 2, none⟩, n1 - 1, c1 - 1, rfl, HT1.out, fun h => (by cases h), HC1.out, HM1.out⟩, ⟨_, n2, c2, rfl, hr2, fun h => (by cases h), hnc2, hcm2⟩, HM4.out, by rw [List.length_append]; exact HO4.out, by simp only [List.length_append, List.length_cons, List.length_nil] at hol ⊢; omega, HB4.out⟩
              case measure => simp [lnOf]; omega
        · by_cases hq2 : y.1 < x.1
          · have e1 : decide (x.1 < y.1) = false := decide_eq_false hq
            have e2 : decide (y.1 < x.1) = true := decide_eq_true hq2
            have HM4 : Hid ((out ++ [y]) ++ mg (x :: a2) b2 = mg a b) := by unfold Hid; rw [← HM.out, mg_gt hq2]; simp
            clear HM HA HB
            by_cases hcb : c2 = 1
            · obtain rfl : c2 = 1 := by omega
              have HT2 : Hid (RRow rvS w w.heap.size (some ⟨k2, o2, none⟩) 0 b2) := by have h0 := tail_row hr2 (some ⟨k2, o2, none⟩) (fun h => absurd h (by omega)) hnc2; rwa [show n2 - 1 = 0 by omega] at h0
              have HC2 : Hid (0 ≤ 0) := Nat.le_refl _
              have HM2 : Hid (0 ≤ maxLen) := Nat.zero_le _
              have HDO : Hid ((w3.alloc (.cells #[.int .i64 y.1, .int .i64 y.2] 24)).drew.ownsRow w.heap.size 24 rvS.c (.slice A3 out.length c3) out.length (rvS.flat out)) := ownr_alloc HO3.out (.cells #[.int .i64 y.1, .int .i64 y.2] 24)
              have HNEW : Hid (∀ j u, (rvS.flat [y])[j]? = some u → (w3.alloc (.cells #[.int .i64 y.1, .int .i64 y.2] 24)).drew.cell? ((⟨w3.heap.size, 0, none⟩ : Addr).add j) = some u) := by unfold Hid; rw [flat_single]; exact new_rv w3 y 24
              have HSZ : Hid (w.heap.size ≤ (w3.alloc (.cells #[.int .i64 y.1, .int .i64 y.2] 24)).drew.heap.size) := by unfold Hid; show _ ≤ (w3.alloc (.cells #[.int .i64 y.1, .int .i64 y.2] 24)).heap.size; rw [World.size_alloc]; have := HW3.out.size; omega
              have HBA : Hid (Below w.heap.size w (w3.alloc (.cells #[.int .i64 y.1, .int .i64 y.2] 24)).drew) := (HW3.out.alloc HW3.out.size _).drew
              have hol' : out.length + 1 ≤ 1099511627776 := by omega
              go_wp2_with fail
              go_region_law_o (refine step_rec rvS rfl (.tmp 54) (.tmp 56) 22 rfl w.heap.size 24 i0 (.agg #[.int .i64 0, .int .i64 0]) 16 Try.underlying22 hi hz0 rfl hz1 hz2 _ out.length out (by simp [Act.eval]) HDO.out ⟨w3.heap.size, 0, none⟩ 1 1 [y] (by simp [Act.eval]) rfl HNEW.out hol' (by omega) HSZ.out ?_; intro v4 w4 hown4 _ hb4; have HO4 := Lib.hid hown4; have HB4 := Lib.hid (HBA.out.trans hb4); clear hown4 hb4)
              all_goals
                try simp only [Act.put, List.getElem_toArray, List.getElem_cons_succ, List.getElem_cons_zero, List.setIfInBounds_toArray, List.set_cons_succ, List.set_cons_zero]
                go_wp2
                go_roundw
                case rel => exact ⟨(x :: a2), b2, out ++ [y], ⟨_, n1, c1, rfl, hr1, fun h => (by cases h), hnc1, hcm1⟩, ⟨some ⟨k2, o2, none⟩, 0, 0, rfl, HT2.out, fun h => (by cases h), HC2.out, HM2.out⟩, HM4.out, by rw [List.length_append]; exact HO4.out, by simp only [List.length_append, List.length_cons, List.length_nil] at hol ⊢; omega, HB4.out⟩
                case measure => simp [lnOf]; omega
            · have hd2 : ¬ (c2 = 1) := by omega
              have he2 : 1 < c2 := by omega
              have HT2 : Hid (RRow rvS w w.heap.size (some ⟨k2, o2 + 1 * 2, none⟩) (n2 - 1) b2) := tail_row hr2 _ (fun _ => rfl) hnc2
              have HC2 : Hid (n2 - 1 ≤ c2 - 1) := by unfold Hid; omega
              have HM2 : Hid (c2 - 1 ≤ maxLen) := by unfold Hid; omega
              have HDO : Hid ((w3.alloc (.cells #[.int .i64 y.1, .int .i64 y.2] 24)).drew.ownsRow w.heap.size 24 rvS.c (.slice A3 out.length c3) out.length (rvS.flat out)) := ownr_alloc HO3.out (.cells #[.int .i64 y.1, .int .i64 y.2] 24)
              have HNEW : Hid (∀ j u, (rvS.flat [y])[j]? = some u → (w3.alloc (.cells #[.int .i64 y.1, .int .i64 y.2] 24)).drew.cell? ((⟨w3.heap.size, 0, none⟩ : Addr).add j) = some u) := by unfold Hid; rw [flat_single]; exact new_rv w3 y 24
              have HSZ : Hid (w.heap.size ≤ (w3.alloc (.cells #[.int .i64 y.1, .int .i64 y.2] 24)).drew.heap.size) := by unfold Hid; show _ ≤ (w3.alloc (.cells #[.int .i64 y.1, .int .i64 y.2] 24)).heap.size; rw [World.size_alloc]; have := HW3.out.size; omega
              have HBA : Hid (Below w.heap.size w (w3.alloc (.cells #[.int .i64 y.1, .int .i64 y.2] 24)).drew) := (HW3.out.alloc HW3.out.size _).drew
              have hol' : out.length + 1 ≤ 1099511627776 := by omega
              go_wp2_with fail
              go_region_law_o (refine step_rec rvS rfl (.tmp 54) (.tmp 56) 22 rfl w.heap.size 24 i0 (.agg #[.int .i64 0, .int .i64 0]) 16 Try.underlying22 hi hz0 rfl hz1 hz2 _ out.length out (by simp [Act.eval]) HDO.out ⟨w3.heap.size, 0, none⟩ 1 1 [y] (by simp [Act.eval]) rfl HNEW.out hol' (by omega) HSZ.out ?_; intro v4 w4 hown4 _ hb4; have HO4 := Lib.hid hown4; have HB4 := Lib.hid (HBA.out.trans hb4); clear hown4 hb4)
              all_goals
                try simp only [Act.put, List.getElem_toArray, List.getElem_cons_succ, List.getElem_cons_zero, List.setIfInBounds_toArray, List.set_cons_succ, List.set_cons_zero]
                go_wp2
                go_roundw
                case rel => exact ⟨(x :: a2), b2, out ++ [y], ⟨_, n1, c1, rfl, hr1, fun h => (by cases h), hnc1, hcm1⟩, ⟨some ⟨k2, o2 + 1 * 2, none⟩, n2 - 1, c2 - 1, rfl, HT2.out, fun h => (by cases h), HC2.out, HM2.out⟩, HM4.out, by rw [List.length_append]; exact HO4.out, by simp only [List.length_append, List.length_cons, List.length_nil] at hol ⊢; omega, HB4.out⟩
                case measure => simp [lnOf]; omega
          · have e1 : decide (x.1 < y.1) = false := decide_eq_false hq
            have e2 : decide (y.1 < x.1) = false := decide_eq_false hq2
            have em : mx x.2 y.2 = max x.2 y.2 := by unfold mx; rw [Int.max_def]; split <;> split <;> omega
            have HM4 : Hid ((out ++ [(x.1, max x.2 y.2)]) ++ mg a2 b2 = mg a b) := by unfold Hid; rw [← HM.out, mg_eq (by omega), em]; simp
            have HBX : Hid ((w3.setCell ⟨gx, 1, none⟩ (.int .i64 (max x.2 y.2))).heap[gx]? = some (.cells #[.int .i64 x.1, .int .i64 (max x.2 y.2)] 24 (0, 0))) := set_blk HT.out.bx
            have HOX : Hid (w3.ownsRow w.heap.size 24 rvS.c (.slice A3 out.length c3) out.length (rvS.flat out) → (w3.setCell ⟨gx, 1, none⟩ (.int .i64 (max x.2 y.2))).ownsRow w.heap.size 24 rvS.c (.slice A3 out.length c3) out.length (rvS.flat out)) := fun h => ownr_only h (Only.setCell w3 _ _) (fun k hk hx => by have h1 : k = gx := hx; have h2 := (HO.out.lt k hk).2; have h3 := HT.out.lx; omega)
            have HWX : Hid (Below w.heap.size w (w3.setCell ⟨gx, 1, none⟩ (.int .i64 (max x.2 y.2)))) := HW3.out.trans ((Only.setCell w3 _ _).below HW3.out.size (fun k hk => by have h1 : k = gx := hk; have h3 := HT.out.lx; have := hs0.out; omega))
            have fx1 := free_of_blk (j := 1) HT.out.bx
            have HOZ := Lib.hid (HOX.out HO3.out)
            clear HM HA HB HOX
            go_wp2_with fail
            generalize hwz : w3.setCell ⟨gx, 1, none⟩ (.int .i64 (max x.2 y.2)) = wz at HBX HOZ HWX ⊢
            clear hwz ex0 ex1 ey0 ey1 fx1
            have zx0 := cell_of_blk (j := 0) HBX.out rfl
            have zx1 := cell_of_blk (j := 1) HBX.out rfl
            have HDO : Hid ((wz.alloc (.cells #[.int .i64 x.1, .int .i64 (max x.2 y.2)] 24)).drew.ownsRow w.heap.size 24 rvS.c (.slice A3 out.length c3) out.length (rvS.flat out)) := ownr_alloc HOZ.out (.cells #[.int .i64 x.1, .int .i64 (max x.2 y.2)] 24)
            have HNEW : Hid (∀ j u, (rvS.flat [((x.1, max x.2 y.2) : P)])[j]? = some u → (wz.alloc (.cells #[.int .i64 x.1, .int .i64 (max x.2 y.2)] 24)).drew.cell? ((⟨wz.heap.size, 0, none⟩ : Addr).add j) = some u) := by unfold Hid; rw [flat_single]; exact new_rv wz ((x.1, max x.2 y.2) : P) 24
            have HSZ : Hid (w.heap.size ≤ (wz.alloc (.cells #[.int .i64 x.1, .int .i64 (max x.2 y.2)] 24)).drew.heap.size) := by unfold Hid; show _ ≤ (wz.alloc (.cells #[.int .i64 x.1, .int .i64 (max x.2 y.2)] 24)).heap.size; rw [World.size_alloc]; have := HWX.out.size; omega
            have HBA : Hid (Below w.heap.size w (wz.alloc (.cells #[.int .i64 x.1, .int .i64 (max x.2 y.2)] 24)).drew) := (HWX.out.alloc HWX.out.size _).drew
            have hol' : out.length + 1 ≤ 1099511627776 := by omega
            by_cases hca : c1 = 1
            · by_cases hcb : c2 = 1
              · obtain rfl : c1 = 1 := by omega
                have HT1 : Hid (RRow rvS w w.heap.size (some ⟨k1, o1, none⟩) 0 a2) := by have h0 := tail_row hr1 (some ⟨k1, o1, none⟩) (fun h => absurd h (by omega)) hnc1; rwa [show n1 - 1 = 0 by omega] at h0
                have HC1 : Hid (0 ≤ 0) := Nat.le_refl _
                have HM1 : Hid (0 ≤ maxLen) := Nat.zero_le _
                obtain rfl : c2 = 1 := by omega
                have HT2 : Hid (RRow rvS w w.heap.size (some ⟨k2, o2, none⟩) 0 b2) := by have h0 := tail_row hr2 (some ⟨k2, o2, none⟩) (fun h => absurd h (by omega)) hnc2; rwa [show n2 - 1 = 0 by omega] at h0
                have HC2 : Hid (0 ≤ 0) := Nat.le_refl _
                have HM2 : Hid (0 ≤ maxLen) := Nat.zero_le _
                go_region_law_o (refine step_rec rvS rfl (.tmp 28) (.tmp 30) 22 rfl w.heap.size 24 i0 (.agg #[.int .i64 0, .int .i64 0]) 16 Try.underlying22 hi hz0 rfl hz1 hz2 _ out.length out (by simp [Act.eval]) HDO.out ⟨wz.heap.size, 0, none⟩ 1 1 [((x.1, max x.2 y.2) : P)] (by simp [Act.eval]) rfl HNEW.out hol' (by omega) HSZ.out ?_; intro v4 w4 hown4 _ hb4; have HO4 := Lib.hid hown4; have HB4 := Lib.hid (HBA.out.trans hb4); clear hown4 hb4)
                all_goals
                  try simp only [Act.put, List.getElem_toArray, List.getElem_cons_succ, List.getElem_cons_zero, List.setIfInBounds_toArray, List.set_cons_succ, List.set_cons_zero]
                  go_wp2
                  go_roundw
                  case rel => exact ⟨a2, b2, out ++ [((x.1, max x.2 y.2) : P)], ⟨some ⟨k1, o1, none⟩, 0, 0, rfl, HT1.out, fun h => (by cases h), HC1.out, HM1.out⟩, ⟨some ⟨k2, o2, none⟩, 0, 0, rfl, HT2.out, fun h => (by cases h), HC2.out, HM2.out⟩, HM4.out, by rw [List.length_append]; exact HO4.out, by simp only [List.length_append, List.length_cons, List.length_nil] at hol ⊢; omega, HB4.out⟩
                  case measure => simp [lnOf]; omega
              · obtain rfl : c1 = 1 := by omega
                have HT1 : Hid (RRow rvS w w.heap.size (some ⟨k1, o1, none⟩) 0 a2) := by have h0 := tail_row hr1 (some ⟨k1, o1, none⟩) (fun h => absurd h (by omega)) hnc1; rwa [show n1 - 1 = 0 by omega] at h0
                have HC1 : Hid (0 ≤ 0) := Nat.le_refl _
                have HM1 : Hid (0 ≤ maxLen) := Nat.zero_le _
                have hd2 : ¬ (c2 = 1) := by omega
                have he2 : 1 < c2 := by omega
                have HT2 : Hid (RRow rvS w w.heap.size (some ⟨k2, o2 + 1 * 2, none⟩) (n2 - 1) b2) := tail_row hr2 _ (fun _ => rfl) hnc2
                have HC2 : Hid (n2 - 1 ≤ c2 - 1) := by unfold Hid; omega
                have HM2 : Hid (c2 - 1 ≤ maxLen) := by unfold Hid; omega
                go_region_law_o (refine step_rec rvS rfl (.tmp 28) (.tmp 30) 22 rfl w.heap.size 24 i0 (.agg #[.int .i64 0, .int .i64 0]) 16 Try.underlying22 hi hz0 rfl hz1 hz2 _ out.length out (by simp [Act.eval]) HDO.out ⟨wz.heap.size, 0, none⟩ 1 1 [((x.1, max x.2 y.2) : P)] (by simp [Act.eval]) rfl HNEW.out hol' (by omega) HSZ.out ?_; intro v4 w4 hown4 _ hb4; have HO4 := Lib.hid hown4; have HB4 := Lib.hid (HBA.out.trans hb4); clear hown4 hb4)
                all_goals
                  try simp only [Act.put, List.getElem_toArray, List.getElem_cons_succ, List.getElem_cons_zero, List.setIfInBounds_toArray, List.set_cons_succ, List.set_cons_zero]
                  go_wp2
                  go_roundw
                  case rel => exact ⟨a2, b2, out ++ [((x.1, max x.2 y.2) : P)], ⟨some ⟨k1, o1, none⟩, 0, 0, rfl, HT1.out, fun h => (by cases h), HC1.out, HM1.out⟩, ⟨some ⟨k2, o2 + 1 * 2, none⟩, n2 - 1, c2 - 1, rfl, HT2.out, fun h => (by cases h), HC2.out, HM2.out⟩, HM4.out, by rw [List.length_append]; exact HO4.out, by simp only [List.length_append, List.length_cons, List.length_nil] at hol ⊢; omega, HB4.out⟩
                  case measure => simp [lnOf]; omega
            · by_cases hcb : c2 = 1
              · have hd1 : ¬ (c1 = 1) := by omega
                have he1 : 1 < c1 := by omega
                have HT1 : Hid (RRow rvS w w.heap.size (some ⟨k1, o1 + 1 * 2, none⟩) (n1 - 1) a2) := tail_row hr1 _ (fun _ => rfl) hnc1
                have HC1 : Hid (n1 - 1 ≤ c1 - 1) := by unfold Hid; omega
                have HM1 : Hid (c1 - 1 ≤ maxLen) := by unfold Hid; omega
                obtain rfl : c2 = 1 := by omega
                have HT2 : Hid (RRow rvS w w.heap.size (some ⟨k2, o2, none⟩) 0 b2) := by have h0 := tail_row hr2 (some ⟨k2, o2, none⟩) (fun h => absurd h (by omega)) hnc2; rwa [show n2 - 1 = 0 by omega] at h0
                have HC2 : Hid (0 ≤ 0) := Nat.le_refl _
                have HM2 : Hid (0 ≤ maxLen) := Nat.zero_le _
                go_region_law_o (refine step_rec rvS rfl (.tmp 28) (.tmp 30) 22 rfl w.heap.size 24 i0 (.agg #[.int .i64 0, .int .i64 0]) 16 Try.underlying22 hi hz0 rfl hz1 hz2 _ out.length out (by simp [Act.eval]) HDO.out ⟨wz.heap.size, 0, none⟩ 1 1 [((x.1, max x.2 y.2) : P)] (by simp [Act.eval]) rfl HNEW.out hol' (by omega) HSZ.out ?_; intro v4 w4 hown4 _ hb4; have HO4 := Lib.hid hown4; have HB4 := Lib.hid (HBA.out.trans hb4); clear hown4 hb4)
                all_goals
                  try simp only [Act.put, List.getElem_toArray, List.getElem_cons_succ, List.getElem_cons_zero, List.setIfInBounds_toArray, List.set_cons_succ, List.set_cons_zero]
                  go_wp2
                  go_roundw
                  case rel => exact ⟨a2, b2, out ++ [((x.1, max x.2 y.2) : P)], ⟨some ⟨k1, o1 + 1 * 2, none⟩, n1 - 1, c1 - 1, rfl, HT1.out, fun h => (by cases h), HC1.out, HM1.out⟩, ⟨some ⟨k2, o2, none⟩, 0, 0, rfl, HT2.out, fun h => (by cases h), HC2.out, HM2.out⟩, HM4.out, by rw [List.length_append]; exact HO4.out, by simp only [List.length_append, List.length_cons, List.length_nil] at hol ⊢; omega, HB4.out⟩
                  case measure => simp [lnOf]; omega
              · have hd1 : ¬ (c1 = 1) := by omega
                have he1 : 1 < c1 := by omega
                have HT1 : Hid (RRow rvS w w.heap.size (some ⟨k1, o1 + 1 * 2, none⟩) (n1 - 1) a2) := tail_row hr1 _ (fun _ => rfl) hnc1
                have HC1 : Hid (n1 - 1 ≤ c1 - 1) := by unfold Hid; omega
                have HM1 : Hid (c1 - 1 ≤ maxLen) := by unfold Hid; omega
                have hd2 : ¬ (c2 = 1) := by omega
                have he2 : 1 < c2 := by omega
                have HT2 : Hid (RRow rvS w w.heap.size (some ⟨k2, o2 + 1 * 2, none⟩) (n2 - 1) b2) := tail_row hr2 _ (fun _ => rfl) hnc2
                have HC2 : Hid (n2 - 1 ≤ c2 - 1) := by unfold Hid; omega
                have HM2 : Hid (c2 - 1 ≤ maxLen) := by unfold Hid; omega
                go_region_law_o (refine step_rec rvS rfl (.tmp 28) (.tmp 30) 22 rfl w.heap.size 24 i0 (.agg #[.int .i64 0, .int .i64 0]) 16 Try.underlying22 hi hz0 rfl hz1 hz2 _ out.length out (by simp [Act.eval]) HDO.out ⟨wz.heap.size, 0, none⟩ 1 1 [((x.1, max x.2 y.2) : P)] (by simp [Act.eval]) rfl HNEW.out hol' (by omega) HSZ.out ?_; intro v4 w4 hown4 _ hb4; have HO4 := Lib.hid hown4; have HB4 := Lib.hid (HBA.out.trans hb4); clear hown4 hb4)
                all_goals
                  try simp only [Act.put, List.getElem_toArray, List.getElem_cons_succ, List.getElem_cons_zero, List.setIfInBounds_toArray, List.set_cons_succ, List.set_cons_zero]
                  go_wp2
                  go_roundw
                  case rel => exact ⟨a2, b2, out ++ [((x.1, max x.2 y.2) : P)], ⟨some ⟨k1, o1 + 1 * 2, none⟩, n1 - 1, c1 - 1, rfl, HT1.out, fun h => (by cases h), HC1.out, HM1.out⟩, ⟨some ⟨k2, o2 + 1 * 2, none⟩, n2 - 1, c2 - 1, rfl, HT2.out, fun h => (by cases h), HC2.out, HM2.out⟩, HM4.out, by rw [List.length_append]; exact HO4.out, by simp only [List.length_append, List.length_cons, List.length_nil] at hol ⊢; omega, HB4.out⟩
                  case measure => simp [lnOf]; omega
    · obtain ⟨A3, c3, rfl, hcn3, hcl3, -⟩ := ownr_slice HO.out
      have HR3 : Hid (RRow rvS wr wr.heap.size A3 out.length out) := RRow.of_own (S := rvS) HO.out
      have HR1 := Lib.hid ((hr1.below HW.out).more HW.out.size)
      have HR2 := Lib.hid ((hr2.below HW.out).more HW.out.size)
      have HNL : Hid ((A3 = none → c3 = 0) ∧ (A1 = none → c1 = 0) ∧ (A2 = none → c2 = 0)) := ⟨hcl3, hnil1, hnil2⟩
      have HE : Hid (a1 = [] ∨ b1 = []) := by
        by_cases h1 : 0 < n1
        · exact .inr (List.eq_nil_of_length_eq_zero (by omega))
        · exact .inl (List.eq_nil_of_length_eq_zero (by omega))
      have HL1 := Lib.hid hl1
      have HL2 := Lib.hid hl2
      obtain ⟨wA, hwA⟩ : ∃ wA, wA = wr.alloc (.cells #[.slice A3 out.length c3, .slice A1 n1 c1, .slice A2 n2 c2] 22) := ⟨_, rfl⟩
      have hblk : wA.heap[wr.heap.size]? = some (.cells #[.slice A3 out.length c3, .slice A1 n1 c1, .slice A2 n2 c2] 22 (0, 0)) := by rw [hwA]; exact heap_alloc_new wr _
      have hbA : Below wr.heap.size wr wA := by rw [hwA]; exact (Below.refl _ _).alloc (Nat.le_refl _) _
      have HC := Lib.hid (concat_any [(A3, out.length, c3, out), (A1, n1, c1, a1), (A2, n2, c2, b1)] wr.heap.size 3 wr.heap.size wA
        (fun j hj => by
          rcases j with _ | _ | _ | j
          · exact cell_of_blk hblk rfl
          · exact cell_of_blk hblk rfl
          · exact cell_of_blk hblk rfl
          · simp at hj; omega)
        (fun p hp => by
          simp only [List.mem_cons, List.not_mem_nil, or_false] at hp
          rcases hp with rfl | rfl | rfl
          · exact ⟨HR3.out.below hbA, HNL.out.1⟩
          · exact ⟨HR1.out.below hbA, HNL.out.2.1⟩
          · exact ⟨HR2.out.below hbA, HNL.out.2.2⟩)
        hbA.size (Array.getElem?_eq_some_iff.1 hblk).1 (by simp only [tot, List.map_cons, List.map_nil, List.sum_cons, List.sum_nil]; omega) (by simp))
      have HBA : Hid (Below w.heap.size w wA) := HW.out.trans (hbA.mono HW.out.size)
      clear hr1 hr2 hnil1 hnil2 hcl3 hl1 hl2 hblk hbA
      by_cases h1 : 0 < n1
      · have e1 : decide ((0 : Int) < (n1 : Int)) = true := decide_eq_true (by omega)
        have e2 : decide ((0 : Int) < (n2 : Int)) = false := decide_eq_false (by omega)
        have e3 : decide (0 < n1) = true := decide_eq_true (by omega)
        have e4 : decide (0 < n2) = false := decide_eq_false (by omega)
        go_wp2_with fail
        rw [← hwA]
        refine HC.out.mono ?_
        rintro e5 w5 ⟨v5, rfl, hown5, hb5⟩
        have HO5 := Lib.hid hown5
        have HB5 : Hid (Below w.heap.size w w5) := HBA.out.trans (hb5.mono HBA.out.size)
        clear hown5 hb5
        go_wp2
        go_ret
        have hM := HM.out
        rw [mg_end HE.out] at hM
        have e5 : whl [(A3, out.length, c3, out), (A1, n1, c1, a1), (A2, n2, c2, b1)] = mg a b := by
          rw [← hM]
          simp [whl]
        have h6 := HO5.out
        rw [e5] at h6
        exact ⟨v5, _, rfl, ownr_base h6 HBA.out.size, by have := h6.1; rw [flat_len] at this; exact (Nat.eq_of_mul_eq_mul_right (by decide : 0 < 2) this).symm, HB5.out⟩
      · have e1 : decide ((0 : Int) < (n1 : Int)) = false := decide_eq_false (by omega)
        have e3 : decide (0 < n1) = false := decide_eq_false (by omega)
        go_wp2_with fail
        rw [← hwA]
        refine HC.out.mono ?_
        rintro e5 w5 ⟨v5, rfl, hown5, hb5⟩
        have HO5 := Lib.hid hown5
        have HB5 : Hid (Below w.heap.size w w5) := HBA.out.trans (hb5.mono HBA.out.size)
        clear hown5 hb5
        go_wp2
        go_ret
        have hM := HM.out
        rw [mg_end HE.out] at hM
        have e5 : whl [(A3, out.length, c3, out), (A1, n1, c1, a1), (A2, n2, c2, b1)] = mg a b := by
          rw [← hM]
          simp [whl]
        have h6 := HO5.out
        rw [e5] at h6
        exact ⟨v5, _, rfl, ownr_base h6 HBA.out.size, by have := h6.1; rw [flat_len] at this; exact (Nat.eq_of_mul_eq_mul_right (by decide : 0 < 2) this).symm, HB5.out⟩

set_option maxHeartbeats 1600000 in
set_option maxRecDepth 100000 in
theorem merge_any (A A' : Option Addr) (n n' c c' : Nat) (a b : List P) (w : World) (h : RRow rvS w w.heap.size A n a) (hnil : A = none → c = 0) (hnc : n ≤ c) (hcm : c ≤ maxLen) (hn : n ≤ 100000) (h' : RRow rvS w w.heap.size A' n' b) (hnil' : A' = none → c' = 0) (hnc' : n' ≤ c') (hcm' : c' ≤ maxLen) (hn' : n' ≤ 100000) :
    Calls Try.prog 16 #[.slice A n c, .slice A' n' c'] w fun e w' => ∃ v, e = .returned (.tuple #[v, .int .i64 ((mergeT a b).2 : Int)]) ∧ RvTo w.heap.size w (mergeT a b).1 v w' := by
  have H := Lib.hid h
  have H' := Lib.hid h'
  have HX := Lib.hid (And.intro hnil (And.intro hnc (And.intro hcm (And.intro hnil' (And.intro hnc' hcm')))))
  clear h h' hnil hnc hcm hnil' hnc' hcm'
  cases hr : decide (Rt a) with
  | false =>
    have E1 : Hid (mergeT a b = ([], 2)) := by unfold Hid mergeT; rw [if_neg (fun hh => (of_decide_eq_false hr) hh.1)]
    go_enter Try.func16, Try.ntmps16
    go_wp2_with fail
    refine (right_any A n c a w H.out hn).mono ?_
    rw [hr]
    rintro e2 w2 ⟨rfl, hb2⟩
    have HB2 := Lib.hid hb2
    clear hb2
    go_wp2
    go_ret2
    rw [E1.out]
    exact ⟨_, rfl, RvTo.of_own (World.ownsRow_nil _ _ 24 _) HB2.out⟩
  | true =>
    have HRA := Lib.hid (of_decide_eq_true hr)
    go_enter Try.func16, Try.ntmps16
    go_wp2_with fail
    refine (right_any A n c a w H.out hn).mono ?_
    rw [hr]
    rintro e2 w2 ⟨rfl, hb2⟩
    have HB2 := Lib.hid hb2
    clear hb2 hr
    cases hr : decide (Rt b) with
    | false =>
      have E1 : Hid (mergeT a b = ([], 2)) := by unfold Hid mergeT; rw [if_neg (fun hh => (of_decide_eq_false hr) hh.2)]
      go_wp2_with fail
      refine (right_any A' n' c' b w2 ((H'.out.below HB2.out).more HB2.out.size) hn').mono ?_
      rw [hr]
      rintro e3 w3 ⟨rfl, hb3⟩
      have HB3 : Hid (Below w.heap.size w w3) := HB2.out.trans (hb3.mono HB2.out.size)
      clear hb3
      go_wp2
      go_ret2
      rw [E1.out]
      exact ⟨_, rfl, RvTo.of_own (World.ownsRow_nil _ _ 24 _) HB3.out⟩
    | true =>
      have HRB := Lib.hid (of_decide_eq_true hr)
      go_wp2_with fail
      refine (right_any A' n' c' b w2 ((H'.out.below HB2.out).more HB2.out.size) hn').mono ?_
      rw [hr]
      rintro e3 w3 ⟨rfl, hb3⟩
      have HB3 : Hid (Below w.heap.size w w3) := HB2.out.trans (hb3.mono HB2.out.size)
      clear hb3 hr
      go_wp2_with fail
      refine (merged_any A A' n n' c c' a b w3 ((H.out.below HB3.out).more HB3.out.size) HX.out.1 HX.out.2.1 HX.out.2.2.1 ((H'.out.below HB3.out).more HB3.out.size) HX.out.2.2.2.1 HX.out.2.2.2.2.1 HX.out.2.2.2.2.2 hn hn').mono ?_
      rintro e4 w4 ⟨v4, m, rfl, hown4, hm, hb4⟩
      have HB4 : Hid (Below w.heap.size w w4) := HB3.out.trans (hb4.mono HB3.out.size)
      have HO4 := Lib.hid (ownr_base hown4 HB3.out.size)
      have HMM := Lib.hid (mg_adds HRA.out.asc HRB.out.asc)
      have HM := Lib.hid hm
      obtain ⟨A4, c4, rfl, -⟩ := ownr_slice hown4
      clear hown4 hb4 hm
      by_cases hbig : m ≤ 4096
      · have e1 : decide ((4096 : Int) < (m : Int)) = false := decide_eq_false (by omega)
        have E1 : Hid (mergeT a b = (adds a b, 0)) := by unfold Hid mergeT; rw [if_pos ⟨HRA.out, HRB.out⟩, if_pos (by rw [← HMM.out, ← HM.out]; exact hbig)]
        go_wp2
        go_ret2
        rw [E1.out, ← HMM.out]
        exact ⟨_, rfl, RvTo.of_own HO4.out HB4.out⟩
      · have e1 : decide ((4096 : Int) < (m : Int)) = true := decide_eq_true (by omega)
        have E1 : Hid (mergeT a b = ([], 3)) := by unfold Hid mergeT; rw [if_pos ⟨HRA.out, HRB.out⟩, if_neg (by rw [← HMM.out, ← HM.out]; exact hbig)]
        go_wp2
        go_ret2
        rw [E1.out]
        exact ⟨_, rfl, RvTo.of_own (World.ownsRow_nil _ _ 24 _) HB4.out⟩
end Go.Proofs.Ytfmmpmpafgbidaa.Rv

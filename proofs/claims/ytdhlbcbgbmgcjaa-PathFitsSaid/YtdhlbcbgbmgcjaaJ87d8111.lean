/- Lemmas that the proof stands on, in build order: GfC. -/
import Derived.Deep.RegionHeld
import Derived.Deep.QuietTactic
import Derived.BigQuiet
import Derived.WalkMore
import Derived.Test.YtdhlbcbgbmgcjaaJ6ea7323
import Derived.Test.YtdhlbcbgbmgcjaaJ774df6f
/- Layer 15 (graph): the reference's Check, as a contract. -/
namespace Go.Proofs.Ytdhlbcbgbmgcjaa.Gf
open Go.RowKit Rec Ints Ge

theorem st_bad {l : List C} {k : Nat} {p : C} (h : l[k]? = some p) (hp : ¬ may p.1 p.2) : ¬ StsOk l := fun hs => by
  obtain ⟨q, hq, h2⟩ := hs k (List.getElem?_eq_some_iff.1 h).1
  rw [h] at hq
  injection hq with hq
  rw [hq] at hp
  exact hp h2
theorem lk_bad {n : Nat} {L : List L3} {k : Nat} {l : L3} (h : L[k]? = some l) (hb : (l.1 < 0 ∨ l.2.1 ≤ l.1 ∨ (n : Int) ≤ l.2.1 ∨ l.2.2 < 1 ∨ 1048576 ≤ l.2.2) ∨ (0 < k ∧ ∃ x, L[k - 1]? = some x ∧ ¬ (x.1 < l.1 ∨ (x.1 = l.1 ∧ x.2.1 < l.2.1)))) : ¬ LksOk n L := fun hs => by
  obtain ⟨q, hq, a, b, c, d, e, f⟩ := hs k (List.getElem?_eq_some_iff.1 h).1
  rw [h] at hq
  injection hq with hq
  subst hq
  rcases hb with hb | ⟨h0, x, hx, hn⟩
  · omega
  · obtain ⟨y, hy, h1⟩ := f h0
    rw [hx] at hy
    injection hy with hy
    subst hy
    exact hn h1
theorem lk_ok {n : Nat} {L : List L3} {k : Nat} {l : L3} (h : L[k]? = some l) (hb : ¬ (l.1 < 0 ∨ l.2.1 ≤ l.1 ∨ (n : Int) ≤ l.2.1 ∨ l.2.2 < 1 ∨ 1048576 ≤ l.2.2)) (hf : 0 < k → ∃ x, L[k - 1]? = some x ∧ (x.1 < l.1 ∨ (x.1 = l.1 ∧ x.2.1 < l.2.1))) : LkOk n L k :=
  ⟨l, h, by omega, by omega, by omega, by omega, by omega, hf⟩
/-- A network's value in a block. -/
structure Bx (w : World) (N : Nt) (A : Option Addr) (n c : Nat) (A' : Option Addr) (m c' : Nat) (wr : World) : Prop where
  blk : wr.heap[w.heap.size]? = some (.cells #[.int .i64 N.ver, .slice A n c, .slice A' m c'] 25 (0, 0))
  bel : Below w.heap.size w wr
  at_ : NAt wr w.heap.size N A n c A' m c'
theorem Bx.below {w w1 w2 : World} {N : Nt} {A A' : Option Addr} {n c m c' : Nat} (h : Bx w N A n c A' m c' w1) (hb : Below w1.heap.size w1 w2) : Bx w N A n c A' m c' w2 :=
  ⟨(hb.block _ (Array.getElem?_eq_some_iff.1 h.blk).1).trans h.blk, h.bel.trans (hb.mono h.bel.size), h.at_.below (hb.mono h.bel.size)⟩
theorem Bx.start {w : World} {N : Nt} {A A' : Option Addr} {n c m c' : Nat} (h : NAt w w.heap.size N A n c A' m c') : Bx w N A n c A' m c' (w.alloc (.cells #[.int .i64 N.ver, .slice A n c, .slice A' m c'] 25)) :=
  ⟨heap_alloc_new w _, (Below.refl _ _).alloc (Nat.le_refl _) _, h.below ((Below.refl _ _).alloc (Nat.le_refl _) _)⟩
theorem Bx.lt {w wr : World} {N : Nt} {A A' : Option Addr} {n c m c' : Nat} (h : Bx w N A n c A' m c' wr) : w.heap.size < wr.heap.size := (Array.getElem?_eq_some_iff.1 h.blk).1

set_option maxHeartbeats 1600000 in
set_option maxRecDepth 100000 in
theorem refcheck_any (N : Nt) (A A' : Option Addr) (n c m c' : Nat) (w : World) (h : NAt w w.heap.size N A n c A' m c') (hn : n ≤ 1048576) (hm : m ≤ 1048576) :
    Calls Try.prog 10 #[.agg #[.int .i64 N.ver, .slice A n c, .slice A' m c']] w fun e w' => e = .returned (.int .i64 ((check N : Nat) : Int)) ∧ Below w.heap.size w w' := by
  obtain ⟨ver, st, lk⟩ := N
  have HB := Lib.hid (Bx.start h)
  have hls : st.length = n := h.st.len
  have hll : lk.length = m := h.lk.len
  have HLS := Lib.hid hls
  have HLL := Lib.hid hll
  clear h
  simp only at HB ⊢
  by_cases h4 : 4096 < n
  · have hr : check ⟨ver, st, lk⟩ = 3 := check_3 (.inl (by simp only; omega))
    rw [hr]
    have e0 : decide ((4096 : Int) < (n : Int)) = true := decide_eq_true (by omega)
    have e0' : decide (4096 < n) = true := decide_eq_true h4
    clear hls hll hr
    go_enter Try.func10, Try.ntmps10
    go_wp2
    go_ret
    exact ⟨rfl, HB.out.bel⟩
  have e0 : decide ((4096 : Int) < (n : Int)) = false := decide_eq_false (by omega)
  have e0' : decide (4096 < n) = false := decide_eq_false h4
  by_cases h5 : 16384 < m
  · have hr : check ⟨ver, st, lk⟩ = 3 := check_3 (.inr (by simp only; omega))
    rw [hr]
    have e1 : decide ((16384 : Int) < (m : Int)) = true := decide_eq_true (by omega)
    have e1' : decide (16384 < m) = true := decide_eq_true h5
    clear hls hll hr
    go_enter Try.func10, Try.ntmps10
    go_wp2
    go_ret
    exact ⟨rfl, HB.out.bel⟩
  have e1 : decide ((16384 : Int) < (m : Int)) = false := decide_eq_false (by omega)
  have e1' : decide (16384 < m) = false := decide_eq_false h5
  have HL3 : Hid (¬ (4096 < (⟨ver, st, lk⟩ : Nt).st.length ∨ 16384 < (⟨ver, st, lk⟩ : Nt).lk.length)) := by unfold Hid; simp only; omega
  by_cases h6 : ver < 1
  · have hr : check ⟨ver, st, lk⟩ = 2 := check_2 HL3.out (.inl h6)
    rw [hr]
    have e2 : decide (ver < 1) = true := decide_eq_true h6
    clear hls hll hr
    go_enter Try.func10, Try.ntmps10
    go_wp2
    go_ret
    exact ⟨rfl, HB.out.bel⟩
  have e2 : decide (ver < 1) = false := decide_eq_false h6
  by_cases h7 : 1048576 < ver
  · have hr : check ⟨ver, st, lk⟩ = 2 := check_2 HL3.out (.inr h7)
    rw [hr]
    have e3 : decide (1048576 < ver) = true := decide_eq_true h7
    clear hls hll hr
    go_enter Try.func10, Try.ntmps10
    go_wp2
    go_ret
    exact ⟨rfl, HB.out.bel⟩
  have e3 : decide (1048576 < ver) = false := decide_eq_false h7
  have HV2 : Hid (¬ ((⟨ver, st, lk⟩ : Nt).ver < 1 ∨ 1048576 < (⟨ver, st, lk⟩ : Nt).ver)) := by unfold Hid; simp only; omega
  have HA0 : Hid (∀ j, j < 0 → ∃ p, st[j]? = some p ∧ may p.1 p.2) := fun j hj => by omega
  clear hls hll
  go_enter Try.func10, Try.ntmps10
  go_wp2
  generalize w.alloc (.cells #[.int .i64 ver, .slice A n c, .slice A' m c'] 25) = w1 at *
  go_loopw [3] (fun i wr => ∃ k : Nat, k ≤ n ∧ i = .int .i64 (k : Int) ∧ Hid (∀ j, j < k → ∃ p, st[j]? = some p ∧ may p.1 p.2) ∧ Hid (Bx w ⟨ver, st, lk⟩ A n c A' m c' wr)) (fun i _ => n - (intOf i).toNat)
  case atStart => exact ⟨0, Nat.zero_le _, rfl, HA0, HB⟩
  case round =>
    clear HA0 HB
    obtain ⟨k, hk, rfl, HA, HB⟩ := hrel
    have z0 : wr.cell? ⟨w.heap.size, 0, none⟩ = some (.int .i64 ver) := cell_of_blk HB.out.blk rfl
    have z1 : wr.cell? ⟨w.heap.size, 1, none⟩ = some (.slice A n c) := cell_of_blk HB.out.blk rfl
    have z2 : wr.cell? ⟨w.heap.size, 2, none⟩ = some (.slice A' m c') := cell_of_blk HB.out.blk rfl
    by_cases hlt : k < n
    · obtain ⟨b, o, p, rfl, _, hp, c0, c1⟩ := two_at HB.out.at_.st hlt
      obtain ⟨px, py⟩ := p
      simp only at c0 c1 hp
      cases hm : decide (may px py) with
      | true =>
        have HM : Hid (∀ wx : World, Calls Try.prog 20 #[.int .i64 px, .int .i64 py] wx fun e w' => e = .returned (.bool true) ∧ w' = wx) := fun wx => by have := refmay_any px py wx; rw [hm] at this; exact this
        have HA2 : Hid (∀ j, j < k + 1 → ∃ p, st[j]? = some p ∧ may p.1 p.2) := fun j hj => by
          rcases Nat.lt_or_ge j k with h | h
          · exact HA.out j h
          · obtain rfl : j = k := by omega
            exact ⟨_, hp, of_decide_eq_true hm⟩
        clear hp HA hm
        go_wp2
        go_quiet ((go_at_call 20; refine Calls.quiet_of_same (HM.out _)))
        go_wp2
        go_roundw
        case rel => exact ⟨k + 1, by omega, by go_num, HA2, HB.out.below (below_drewN (Below.refl _ _) _)⟩
        case measure => simp [intOf]; omega
      | false =>
        have HM : Hid (∀ wx : World, Calls Try.prog 20 #[.int .i64 px, .int .i64 py] wx fun e w' => e = .returned (.bool false) ∧ w' = wx) := fun wx => by have := refmay_any px py wx; rw [hm] at this; exact this
        have HR := Lib.hid (check_no (N := ⟨ver, st, lk⟩) HL3.out HV2.out fun h => st_bad (p := (px, py)) hp (of_decide_eq_false hm) h.1)
        clear hp HA hm
        go_wp2
        go_quiet ((go_at_call 20; refine Calls.quiet_of_same (HM.out _)))
        go_wp2
        go_ret
        exact ⟨by rw [HR.out]; rfl, below_drewN HB.out.bel _⟩
    have HSO : Hid (StsOk st) := fun j hj => HA.out j (by have := HLS.out; omega)
    have HL0 : Hid (∀ j, j < 0 → LkOk n lk j) := fun j hj => by omega
    clear HA
    go_wp2
    clear z0 z1 z2
    go_loopw [4] (fun i wr => ∃ k : Nat, k ≤ m ∧ i = .int .i64 (k : Int) ∧ Hid (∀ j, j < k → LkOk n lk j) ∧ Hid (Bx w ⟨ver, st, lk⟩ A n c A' m c' wr)) (fun i _ => m - (intOf i).toNat)
    case atStart => exact ⟨0, Nat.zero_le _, rfl, HL0, HB⟩
    case round =>
      clear HL0 HB hlt hk
      obtain ⟨j, hj, rfl, HA, HB⟩ := hrel
      have z1 : wr.cell? ⟨w.heap.size, 1, none⟩ = some (.slice A n c) := cell_of_blk HB.out.blk rfl
      have z2 : wr.cell? ⟨w.heap.size, 2, none⟩ = some (.slice A' m c') := cell_of_blk HB.out.blk rfl
      by_cases hlt : j < m
      · obtain ⟨b, o, p, rfl, hbb, hp, c0, c1, c2⟩ := lk_at HB.out.at_.lk hlt
        obtain ⟨la, lb, lw⟩ := p
        simp only at c0 c1 c2 hp
        have HB2 : Hid (Below w.heap.size w (wr.alloc (.cells #[.int .i64 la, .int .i64 lb, .int .i64 lw] 45))) := HB.out.bel.alloc HB.out.bel.size _
        have y1 : (wr.alloc (.cells #[.int .i64 la, .int .i64 lb, .int .i64 lw] 45)).cell? ⟨w.heap.size, 1, none⟩ = some (.slice A n c) := by rw [World.cell?_alloc_some _ _ _ (by rw [z1]; rfl)]; exact z1
        have y2 : (wr.alloc (.cells #[.int .i64 la, .int .i64 lb, .int .i64 lw] 45)).cell? ⟨w.heap.size, 2, none⟩ = some (.slice (some ⟨b, o, none⟩) m c') := by rw [World.cell?_alloc_some _ _ _ (by rw [z2]; rfl)]; exact z2
        by_cases c1 : la < 0
        · have d1 : decide (la < 0) = true := decide_eq_true c1
          have HR := Lib.hid (check_no (N := ⟨ver, st, lk⟩) HL3.out HV2.out fun h => lk_bad (n := n) hp (.inl (by simp only; omega)) (by have h2 := h.2; simp only at h2; rw [HLS.out] at h2; exact h2))
          clear hp HA
          go_wp2
          go_ret
          exact ⟨by rw [HR.out]; rfl, HB2.out⟩
        have d1 : decide (la < 0) = false := decide_eq_false c1
        by_cases c2 : lb ≤ la
        · have d2 : decide (lb ≤ la) = true := decide_eq_true c2
          have HR := Lib.hid (check_no (N := ⟨ver, st, lk⟩) HL3.out HV2.out fun h => lk_bad (n := n) hp (.inl (by simp only; omega)) (by have h2 := h.2; simp only at h2; rw [HLS.out] at h2; exact h2))
          clear hp HA
          go_wp2
          go_ret
          exact ⟨by rw [HR.out]; rfl, HB2.out⟩
        have d2 : decide (lb ≤ la) = false := decide_eq_false c2
        by_cases c3 : (n : Int) ≤ lb
        · have d3 : decide ((n : Int) ≤ lb) = true := decide_eq_true c3
          have HR := Lib.hid (check_no (N := ⟨ver, st, lk⟩) HL3.out HV2.out fun h => lk_bad (n := n) hp (.inl (by simp only; omega)) (by have h2 := h.2; simp only at h2; rw [HLS.out] at h2; exact h2))
          clear hp HA
          go_wp2
          go_ret
          exact ⟨by rw [HR.out]; rfl, HB2.out⟩
        have d3 : decide ((n : Int) ≤ lb) = false := decide_eq_false c3
        by_cases c4 : lw < 1
        · have d4 : decide (lw < 1) = true := decide_eq_true c4
          have HR := Lib.hid (check_no (N := ⟨ver, st, lk⟩) HL3.out HV2.out fun h => lk_bad (n := n) hp (.inl (by simp only; omega)) (by have h2 := h.2; simp only at h2; rw [HLS.out] at h2; exact h2))
          clear hp HA
          go_wp2
          go_ret
          exact ⟨by rw [HR.out]; rfl, HB2.out⟩
        have d4 : decide (lw < 1) = false := decide_eq_false c4
        by_cases c5 : 1048576 ≤ lw
        · have d5 : decide (1048576 ≤ lw) = true := decide_eq_true c5
          have HR := Lib.hid (check_no (N := ⟨ver, st, lk⟩) HL3.out HV2.out fun h => lk_bad (n := n) hp (.inl (by simp only; omega)) (by have h2 := h.2; simp only at h2; rw [HLS.out] at h2; exact h2))
          clear hp HA
          go_wp2
          go_ret
          exact ⟨by rw [HR.out]; rfl, HB2.out⟩
        have d5 : decide (1048576 ≤ lw) = false := decide_eq_false c5
        have hok : ¬ (la < 0 ∨ lb ≤ la ∨ (n : Int) ≤ lb ∨ lw < 1 ∨ 1048576 ≤ lw) := by omega
        by_cases h0 : j = 0
        · subst h0
          simp only [Nat.zero_mul, Nat.add_zero] at c0 c1 c2
          have HA2 : Hid (∀ i, i < 0 + 1 → LkOk n lk i) := fun i hi => by
            obtain rfl : i = 0 := by omega
            exact lk_ok hp hok (fun h => absurd h (by omega))
          clear hp HA
          go_wp2
          go_roundw
          case rel => exact ⟨0 + 1, by omega, by go_num, HA2, HB.out.below ((Below.refl _ _).alloc (Nat.le_refl _) _)⟩
          case measure => simp [intOf]; omega
        have g0 : decide ((0 : Int) < (j : Int)) = true := decide_eq_true (by omega)
        have g0' : decide (0 < j) = true := decide_eq_true (by omega)
        obtain ⟨b', o', x, e5, _, hx, x0, x1, x2⟩ := lk_at HB.out.at_.lk (show j - 1 < m by omega)
        injection e5 with e5
        injection e5 with e5 e6
        subst e5 e6
        obtain ⟨ka, kb, kw⟩ := x
        simp only at x0 x1 x2 hx
        have x0a : (wr.alloc (.cells #[.int .i64 la, .int .i64 lb, .int .i64 lw] 45)).cell? ⟨b, o + (j - 1) * 3, none⟩ = some (.int .i64 ka) := by rw [World.cell?_alloc_some _ _ _ (by rw [x0]; rfl)]; exact x0
        have x1a : (wr.alloc (.cells #[.int .i64 la, .int .i64 lb, .int .i64 lw] 45)).cell? ⟨b, o + (j - 1) * 3 + 1, none⟩ = some (.int .i64 kb) := by rw [World.cell?_alloc_some _ _ _ (by rw [x1]; rfl)]; exact x1
        have x2a : (wr.alloc (.cells #[.int .i64 la, .int .i64 lb, .int .i64 lw] 45)).cell? ⟨b, o + (j - 1) * 3 + 2, none⟩ = some (.int .i64 kw) := by rw [World.cell?_alloc_some _ _ _ (by rw [x2]; rfl)]; exact x2
        clear x0 x1 x2
        have m1 : IntKind.i64.wrap ((j : Int) - 1) = (j : Int) - 1 := IntWalk.i64_in _ ⟨by omega, by omega⟩
        have p1 : (0 : Int) ≤ (j : Int) - 1 := by omega
        have p2 : (1 : Int) ≤ (j : Int) := by omega
        have p3 : (j : Int) - 1 < (m : Int) := by omega
        have hlw := HB.out.lt
        have HB3 : Hid (Below w.heap.size w ((wr.alloc (.cells #[.int .i64 la, .int .i64 lb, .int .i64 lw] 45)).alloc (.cells #[.int .i64 ka, .int .i64 kb, .int .i64 kw] 45))) := HB2.out.alloc (by simp; omega) _
        have HBX : Hid (Bx w ⟨ver, st, lk⟩ A n c (some ⟨b, o, none⟩) m c' ((wr.alloc (.cells #[.int .i64 la, .int .i64 lb, .int .i64 lw] 45)).alloc (.cells #[.int .i64 ka, .int .i64 kb, .int .i64 kw] 45))) := (HB.out.below ((Below.refl _ _).alloc (Nat.le_refl _) _)).below ((Below.refl _ _).alloc (Nat.le_refl _) _)
        by_cases c6 : la < ka
        · have d6 : decide (la < ka) = true := decide_eq_true c6
          have HR := Lib.hid (check_no (N := ⟨ver, st, lk⟩) HL3.out HV2.out fun h => lk_bad (n := n) hp (.inr ⟨by omega, _, hx, by simp only; omega⟩) (by have h2 := h.2; simp only at h2; rw [HLS.out] at h2; exact h2))
          clear hp hx HA
          go_wp2
          go_ret
          exact ⟨by rw [HR.out]; rfl, HB3.out⟩
        have d6 : decide (la < ka) = false := decide_eq_false c6
        by_cases c7 : la = ka
        · have d7 : ((la : Int) == ka) = true := beq_iff_eq.2 c7
          by_cases c8 : lb ≤ kb
          · have d8 : decide (lb ≤ kb) = true := decide_eq_true c8
            have HR := Lib.hid (check_no (N := ⟨ver, st, lk⟩) HL3.out HV2.out fun h => lk_bad (n := n) hp (.inr ⟨by omega, _, hx, by simp only; omega⟩) (by have h2 := h.2; simp only at h2; rw [HLS.out] at h2; exact h2))
            clear hp hx HA c7
            go_wp2
            go_ret
            exact ⟨by rw [HR.out]; rfl, HB3.out⟩
          have d8 : decide (lb ≤ kb) = false := decide_eq_false c8
          have HA2 : Hid (∀ i, i < j + 1 → LkOk n lk i) := fun i hi => by
            rcases Nat.lt_or_ge i j with h | h
            · exact HA.out i h
            · obtain rfl : i = j := by omega
              exact lk_ok hp hok (fun _ => ⟨_, hx, by simp only; omega⟩)
          clear hp hx HA c7
          go_wp2
          go_roundw
          case rel => exact ⟨j + 1, by omega, by go_num, HA2, HBX⟩
          case measure => simp [intOf]; omega
        have d7 : ((la : Int) == ka) = false := beq_eq_false_iff_ne.2 c7
        have HA2 : Hid (∀ i, i < j + 1 → LkOk n lk i) := fun i hi => by
          rcases Nat.lt_or_ge i j with h | h
          · exact HA.out i h
          · obtain rfl : i = j := by omega
            exact lk_ok hp hok (fun _ => ⟨_, hx, by simp only; omega⟩)
        clear hp hx HA
        go_wp2
        go_roundw
        case rel => exact ⟨j + 1, by omega, by go_num, HA2, HBX⟩
        case measure => simp [intOf]; omega
      · have HR := Lib.hid (check_0 (N := ⟨ver, st, lk⟩) HL3.out HV2.out ⟨HSO.out, fun i hi => by have h1 := HLS.out; have h2 := HLL.out; have h3 := HA.out i (by simp only at hi; omega); simp only; rw [h1]; exact h3⟩)
        clear HA
        go_wp2
        go_ret
        exact ⟨by rw [HR.out]; rfl, HB.out.bel⟩
end Go.Proofs.Ytdhlbcbgbmgcjaa.Gf

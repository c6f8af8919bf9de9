/- Lemmas that the proof stands on, in build order: GfA. -/
import Derived.Deep.DeepCutAuto
import Derived.Test.YtdhlbcbgbmgcjaaJ10828d9b
import Derived.Test.YtdhlbcbgbmgcjaaJ38af2189
import Derived.Test.YtdhlbcbgbmgcjaaJ87d8111
import Derived.Test.YtdhlbcbgbmgcjaaJ97acb16
/- Layer 15 (graph): the landed program's Check, as a contract. -/
namespace Go.Proofs.Ytdhlbcbgbmgcjaa.Gf
open Go.RowKit Rec Ints Ge

/-- May there be such a link among so many stops? -/
def mayL (n : Nat) (l : L3) : Prop := 0 ≤ l.1 ∧ l.1 < l.2.1 ∧ l.2.1 < (n : Int) ∧ 1 ≤ l.2.2 ∧ l.2.2 < 1048576
instance (n : Nat) (l : L3) : Decidable (mayL n l) := inferInstanceAs (Decidable (_ ∧ _ ∧ _ ∧ _ ∧ _))
def ahd (a b : L3) : Prop := a.1 < b.1 ∨ (a.1 = b.1 ∧ a.2.1 < b.2.1)
instance (a b : L3) : Decidable (ahd a b) := inferInstanceAs (Decidable (_ ∨ _))

set_option maxHeartbeats 800000 in
set_option maxRecDepth 100000 in
theorem mayLink_any (n : Nat) (l : L3) (w : World) :
    Calls Try.prog 44 #[.agg #[.int .i64 l.1, .int .i64 l.2.1, .int .i64 l.2.2], .int .i64 (n : Int)] w fun e w' => e = .returned (.bool (decide (mayL n l))) ∧ Below w.heap.size w w' := by
  obtain ⟨a, b, c⟩ := l
  have HB := Lib.hid ((Below.refl w.heap.size w).alloc (Nat.le_refl _) (.cells #[.int .i64 a, .int .i64 b, .int .i64 c] 45))
  simp only
  cases h0 : decide ((0 : Int) ≤ a) with
  | false =>
    rw [show decide (mayL n (a, b, c)) = false from decide_eq_false fun h => of_decide_eq_false h0 h.1]
    go_enter Try.func44, Try.ntmps44
    go_wp2
    go_ret
    exact ⟨rfl, HB.out⟩
  | true =>
    cases h1 : decide (a < b) with
    | false =>
      rw [show decide (mayL n (a, b, c)) = false from decide_eq_false fun h => of_decide_eq_false h1 h.2.1]
      go_enter Try.func44, Try.ntmps44
      go_wp2
      go_ret
      exact ⟨rfl, HB.out⟩
    | true =>
      cases h2 : decide (b < (n : Int)) with
      | false =>
        rw [show decide (mayL n (a, b, c)) = false from decide_eq_false fun h => of_decide_eq_false h2 h.2.2.1]
        go_enter Try.func44, Try.ntmps44
        go_wp2
        go_ret
        exact ⟨rfl, HB.out⟩
      | true =>
        cases h3 : decide ((1 : Int) ≤ c) with
        | false =>
          rw [show decide (mayL n (a, b, c)) = false from decide_eq_false fun h => of_decide_eq_false h3 h.2.2.2.1]
          go_enter Try.func44, Try.ntmps44
          go_wp2
          go_ret
          exact ⟨rfl, HB.out⟩
        | true =>
          rw [show decide (mayL n (a, b, c)) = decide (c < 1048576) from decide_eq_decide.2 ⟨fun h => h.2.2.2.2, fun h => ⟨of_decide_eq_true h0, of_decide_eq_true h1, of_decide_eq_true h2, of_decide_eq_true h3, h⟩⟩]
          go_enter Try.func44, Try.ntmps44
          go_wp2
          go_ret
          exact ⟨rfl, HB.out⟩
set_option maxHeartbeats 800000 in
set_option maxRecDepth 100000 in
theorem ahead_any (k l : L3) (w : World) :
    Calls Try.prog 45 #[.agg #[.int .i64 k.1, .int .i64 k.2.1, .int .i64 k.2.2], .agg #[.int .i64 l.1, .int .i64 l.2.1, .int .i64 l.2.2]] w fun e w' => e = .returned (.bool (decide (ahd k l))) ∧ Below w.heap.size w w' := by
  obtain ⟨a, b, c⟩ := k
  obtain ⟨a', b', c'⟩ := l
  have HB := Lib.hid (((Below.refl w.heap.size w).alloc (Nat.le_refl _) (.cells #[.int .i64 a, .int .i64 b, .int .i64 c] 45)).alloc (by simp) (.cells #[.int .i64 a', .int .i64 b', .int .i64 c'] 45))
  simp only
  cases h0 : decide (a < a') with
  | true =>
    rw [show decide (ahd (a, b, c) (a', b', c')) = true from decide_eq_true (.inl (of_decide_eq_true h0))]
    go_enter Try.func45, Try.ntmps45
    go_wp2
    go_ret
    exact ⟨rfl, HB.out⟩
  | false =>
    cases h1 : (a == a') with
    | false =>
      rw [show decide (ahd (a, b, c) (a', b', c')) = false from decide_eq_false fun h => h.elim (of_decide_eq_false h0) (fun h => beq_eq_false_iff_ne.1 h1 h.1)]
      go_enter Try.func45, Try.ntmps45
      go_wp2
      go_ret
      exact ⟨rfl, HB.out⟩
    | true =>
      rw [show decide (ahd (a, b, c) (a', b', c')) = decide (b < b') from decide_eq_decide.2 ⟨fun h => h.elim (fun h => absurd h (of_decide_eq_false h0)) (fun h => h.2), fun h => .inr ⟨beq_iff_eq.1 h1, h⟩⟩]
      go_enter Try.func45, Try.ntmps45
      go_wp2
      go_ret
      exact ⟨rfl, HB.out⟩

/-- All but how many there are. -/
def valP (N : Nt) : Prop := 1 ≤ N.ver ∧ N.ver ≤ 1048576 ∧ StsOk N.st ∧ LksOk N.st.length N.lk
open Classical in
set_option maxHeartbeats 1600000 in
set_option maxRecDepth 100000 in
theorem valid_any (N : Nt) (A A' : Option Addr) (n c m c' : Nat) (w : World) (h : NAt w w.heap.size N A n c A' m c') (hn : n ≤ 1048576) (hm : m ≤ 1048576) :
    Calls Try.prog 34 #[.agg #[.int .i64 N.ver, .slice A n c, .slice A' m c']] w fun e w' => e = .returned (.bool (decide (valP N))) ∧ Below w.heap.size w w' := by
  obtain ⟨ver, st, lk⟩ := N
  have HB := Lib.hid (Bx.start h)
  have hls : st.length = n := h.st.len
  have hll : lk.length = m := h.lk.len
  have HLS := Lib.hid hls
  have HLL := Lib.hid hll
  clear h
  simp only at HB ⊢
  by_cases h6 : ver < 1
  · rw [decide_eq_false (p := valP ⟨ver, st, lk⟩) (fun h => by have h := h.1; simp only at h; omega)]
    have e2 : decide (ver < 1) = true := decide_eq_true h6
    clear hls hll
    go_enter Try.func34, Try.ntmps34
    go_wp2
    go_ret
    exact ⟨rfl, HB.out.bel⟩
  have e2 : decide (ver < 1) = false := decide_eq_false h6
  by_cases h7 : 1048576 < ver
  · rw [decide_eq_false (p := valP ⟨ver, st, lk⟩) (fun h => by have h := h.2.1; simp only at h; omega)]
    have e3 : decide (1048576 < ver) = true := decide_eq_true h7
    clear hls hll
    go_enter Try.func34, Try.ntmps34
    go_wp2
    go_ret
    exact ⟨rfl, HB.out.bel⟩
  have e3 : decide (1048576 < ver) = false := decide_eq_false h7
  have HA0 : Hid (∀ j, j < 0 → ∃ p, st[j]? = some p ∧ may p.1 p.2) := fun j hj => by omega
  have HV1 : Hid (1 ≤ ver ∧ ver ≤ 1048576) := by unfold Hid; omega
  clear hls hll
  go_enter Try.func34, Try.ntmps34
  go_wp2
  generalize w.alloc (.cells #[.int .i64 ver, .slice A n c, .slice A' m c'] 25) = w1 at *
  go_loopw [4, 18] (fun v i wr => ∃ k : Nat, k ≤ n ∧ i = .int .i64 (k : Int) ∧ Hid (∀ j, j < k → ∃ p, st[j]? = some p ∧ may p.1 p.2) ∧ Hid (Bx w ⟨ver, st, lk⟩ A n c A' m c' wr)) (fun _ i _ => n - (intOf i).toNat)
  case atStart => exact ⟨0, Nat.zero_le _, rfl, HA0, HB⟩
  case round =>
    clear HA0 HB
    obtain ⟨k, hk, rfl, HA, HB⟩ := hrel
    have z0 : wr.cell? ⟨w.heap.size, 0, none⟩ = some (.int .i64 ver) := cell_of_blk HB.out.blk rfl
    have z1 : wr.cell? ⟨w.heap.size, 1, none⟩ = some (.slice A n c) := cell_of_blk HB.out.blk rfl
    have z2 : wr.cell? ⟨w.heap.size, 2, none⟩ = some (.slice A' m c') := cell_of_blk HB.out.blk rfl
    by_cases hlt : k < n
    · obtain ⟨b, o, p, rfl, _, hp, c0, c1⟩ := two_at HB.out.at_.st hlt
      obtain ⟨px, py⟩ := p
      simp only at c0 c1 hp
      have HBA : Hid (Bx w ⟨ver, st, lk⟩ (some ⟨b, o, none⟩) n c A' m c' (wr.alloc (.cells #[.int .i64 px, .int .i64 py] 54))) := HB.out.below ((Below.refl _ _).alloc (Nat.le_refl _) _)
      cases hm : decide (may px py) with
      | true =>
        have HM : Hid (∀ wx : World, Calls Try.prog 43 #[.int .i64 px, .int .i64 py] wx fun e w' => e = .returned (.bool true) ∧ w' = wx) := fun wx => by have := may_any px py wx; rw [hm] at this; exact this
        have HA2 : Hid (∀ j, j < k + 1 → ∃ p, st[j]? = some p ∧ may p.1 p.2) := fun j hj => by
          rcases Nat.lt_or_ge j k with h | h
          · exact HA.out j h
          · obtain rfl : j = k := by omega
            exact ⟨_, hp, of_decide_eq_true hm⟩
        clear hp HA hm
        go_wp2_with fail
        refine (HM.out _).mono ?_
        rintro e3 w3 ⟨rfl, rfl⟩
        go_wp2
        go_roundw
        case rel => exact ⟨k + 1, by omega, by go_num, HA2, HBA⟩
        case measure => simp [intOf]; omega
      | false =>
        have HM : Hid (∀ wx : World, Calls Try.prog 43 #[.int .i64 px, .int .i64 py] wx fun e w' => e = .returned (.bool false) ∧ w' = wx) := fun wx => by have := may_any px py wx; rw [hm] at this; exact this
        have HR : Hid (decide (valP ⟨ver, st, lk⟩) = false) := decide_eq_false fun h => st_bad (p := (px, py)) hp (of_decide_eq_false hm) h.2.2.1
        clear hp HA hm
        go_wp2_with fail
        refine (HM.out _).mono ?_
        rintro e3 w3 ⟨rfl, rfl⟩
        go_wp2
        go_ret
        exact ⟨by rw [HR.out]; rfl, HBA.out.bel⟩
    have HSO : Hid (StsOk st) := fun j hj => HA.out j (by have := HLS.out; omega)
    have HL0 : Hid (∀ j, j < 0 → LkOk n lk j) := fun j hj => by omega
    clear HA
    go_wp2
    clear z0 z1 z2
    go_loopw [5, 6, 32] (fun v v' i wr => ∃ k : Nat, k ≤ m ∧ i = .int .i64 (k : Int) ∧ Hid (∀ j, j < k → LkOk n lk j) ∧ Hid (Bx w ⟨ver, st, lk⟩ A n c A' m c' wr)) (fun _ _ i _ => m - (intOf i).toNat)
    case atStart => exact ⟨0, Nat.zero_le _, rfl, HL0, HB⟩
    case round =>
      clear HL0 HB hlt hk
      obtain ⟨j, hj, rfl, HA, HB⟩ := hrel
      by_cases hlt : j < m
      · obtain ⟨b, o, p, rfl, hbb, hp, c0, c1, c2⟩ := lk_at HB.out.at_.lk hlt
        obtain ⟨la, lb, lw⟩ := p
        simp only at c0 c1 c2 hp
        have HPV : Hid (∀ i, i + 1 = j → ∃ x : L3, lk[i]? = some x ∧ wr.cell? ⟨b, o + i * 3, none⟩ = some (.int .i64 x.1) ∧ wr.cell? ⟨b, o + i * 3 + 1, none⟩ = some (.int .i64 x.2.1) ∧ wr.cell? ⟨b, o + i * 3 + 2, none⟩ = some (.int .i64 x.2.2)) := fun i hi => by
          obtain ⟨b', o', x, e5, _, hx, x0, x1, x2⟩ := lk_at HB.out.at_.lk (show i < m by omega)
          injection e5 with e5
          injection e5 with e5 e6
          subst e5 e6
          exact ⟨x, hx, x0, x1, x2⟩
        have hbl : b < wr.heap.size := Nat.lt_of_lt_of_le hbb HB.out.bel.size
        have HBL0 : Hid (Below wr.heap.size wr (wr.alloc (.cells #[.int .i64 la, .int .i64 lb, .int .i64 lw] 45))) := (Below.refl _ _).alloc (Nat.le_refl _) _
        have hks : wr.heap.size < (wr.alloc (.cells #[.int .i64 la, .int .i64 lb, .int .i64 lw] 45)).heap.size := by simp
        have HB2 : Hid (Bx w ⟨ver, st, lk⟩ A n c (some ⟨b, o, none⟩) m c' (wr.alloc (.cells #[.int .i64 la, .int .i64 lb, .int .i64 lw] 45))) := HB.out.below ((Below.refl _ _).alloc (Nat.le_refl _) _)
        have HKA := Lib.hid (heap_alloc_new wr (.cells #[.int .i64 la, .int .i64 lb, .int .i64 lw] 45))
        go_upto_region 12 with fail
        generalize wr.alloc (.cells #[.int .i64 la, .int .i64 lb, .int .i64 lw] 45) = w2 at HB2 HKA HBL0 hks ⊢
        have hbl2 : Below wr.heap.size wr w2 := HBL0.out
        have HKS := Lib.hid hks
        clear hks HBL0
        obtain ⟨ι, hne, W, i0, h0, hW, hC⟩ := fam_of w2
        have HWW : ∀ i, Hid (Bx w ⟨ver, st, lk⟩ A n c (some ⟨b, o, none⟩) m c' (W i)) := fun i => HB2.out.below (hW i)
        have hkb : ∀ i, (W i).heap[wr.heap.size]? = some (.cells #[.int .i64 la, .int .i64 lb, .int .i64 lw] 45 (0, 0)) := fun i => ((hW i).block _ HKS.out).trans HKA.out
        have d0 : ∀ i, (W i).cell? ⟨wr.heap.size, 0, none⟩ = some (.int .i64 la) := fun i => cell_of_blk (hkb i) rfl
        have d1 : ∀ i, (W i).cell? ⟨wr.heap.size, 0 + 1, none⟩ = some (.int .i64 lb) := fun i => cell_of_blk (hkb i) rfl
        have d2 : ∀ i, (W i).cell? ⟨wr.heap.size, 0 + 2, none⟩ = some (.int .i64 lw) := fun i => cell_of_blk (hkb i) rfl
        have z1 : ∀ i, (W i).cell? ⟨w.heap.size, 1, none⟩ = some (.slice A n c) := fun i => cell_of_blk (HWW i).out.blk rfl
        have z2 : ∀ i, (W i).cell? ⟨w.heap.size, 2, none⟩ = some (.slice (some ⟨b, o, none⟩) m c') := fun i => cell_of_blk (HWW i).out.blk rfl
        have HMY := fun wx => Lib.hid (mayLink_any n (la, lb, lw) wx)
        have HPW : ∀ i, Hid (Below wr.heap.size wr (W i)) := fun i => hbl2.trans ((hW i).mono hbl2.size)
        clear hkb c0 c1 c2 hbl2
        cases hml : decide (mayL n (la, lb, lw)) with
        | false =>
          have HF : Hid (decide (valP ⟨ver, st, lk⟩) = false) := decide_eq_false fun h => lk_bad (n := n) hp (.inl (by have := of_decide_eq_false hml; unfold mayL at this; simp only at this ⊢; omega)) (by have h2 := h.2.2.2; simp only at h2; rw [HLS.out] at h2; exact h2)
          clear hp HA
          refine Mix.wp_region_lex (fun w' => ∃ i, w' = W i) (by kernel_rfl) (by kernel_rfl) ⟨i0, h0⟩ ?_
          rw [h0]
          clear h0
          repeat (first | (refine Mix.lex_step rfl ?_; intro K hK; go_big_quiet_step (fail); refine Mix.lex_on hK ?_; clear hK K) | (refine Mix.lex_skip rfl ?_; simp only [Act.put, List.setIfInBounds_toArray, List.set_cons_zero, List.set_cons_succ]))
          refine Mix.lex_call (HMY (W i0)).out rfl rfl rfl (fun _ => rfl) ?_
          rw [hml]
          rintro e3 w3 ⟨rfl, hb3⟩
          obtain ⟨j3, rfl⟩ := hC _ w3 hb3
          refine ⟨_, rfl, ⟨j3, rfl⟩, ?_⟩
          simp only [Act.put, List.setIfInBounds_toArray, List.set_cons_zero, List.set_cons_succ]
          repeat (first | (refine Mix.lex_step rfl ?_; intro K hK; go_big_quiet_step (fail); refine Mix.lex_on hK ?_; clear hK K) | (refine Mix.lex_skip rfl ?_; simp only [Act.put, List.setIfInBounds_toArray, List.set_cons_zero, List.set_cons_succ]))
          refine Mix.lex_nil ?_
          have HB9 := HWW j3
          generalize W j3 = w9 at HB9 ⊢
          clear HWW hW hC d0 d1 d2 z1 z2
          go_wp2
          go_ret
          exact ⟨by rw [HF.out]; rfl, HB9.out.bel⟩
        | true =>
          have HMO := Lib.hid (of_decide_eq_true hml)
          by_cases q0 : j = 0
          · subst q0
            have g0 : decide ((0 : Int) < ((0 : Nat) : Int)) = false := by decide
            have HA2 : Hid (∀ i, i < 0 + 1 → LkOk n lk i) := fun i hi => by
              obtain rfl : i = 0 := by omega
              exact lk_ok hp (by have := HMO.out; unfold mayL at this; simp only at this ⊢; omega) (fun h => absurd h (by omega))
            clear hp HA
            refine Mix.wp_region_lex (fun w' => ∃ i, w' = W i) (by kernel_rfl) (by kernel_rfl) ⟨i0, h0⟩ ?_
            rw [h0]
            clear h0
            repeat (first | (refine Mix.lex_step rfl ?_; intro K hK; go_big_quiet_step (fail); refine Mix.lex_on hK ?_; clear hK K) | (refine Mix.lex_skip rfl ?_; simp only [Act.put, List.setIfInBounds_toArray, List.set_cons_zero, List.set_cons_succ]))
            refine Mix.lex_call (HMY (W i0)).out rfl rfl rfl (fun _ => rfl) ?_
            rw [hml]
            rintro e3 w3 ⟨rfl, hb3⟩
            obtain ⟨j3, rfl⟩ := hC _ w3 hb3
            refine ⟨_, rfl, ⟨j3, rfl⟩, ?_⟩
            simp only [Act.put, List.setIfInBounds_toArray, List.set_cons_zero, List.set_cons_succ]
            repeat (first | (refine Mix.lex_step rfl ?_; intro K hK; go_big_quiet_step (fail); refine Mix.lex_on hK ?_; clear hK K) | (refine Mix.lex_skip rfl ?_; simp only [Act.put, List.setIfInBounds_toArray, List.set_cons_zero, List.set_cons_succ]))
            refine Mix.lex_nil ?_
            have HB9 := HWW j3
            generalize W j3 = w9 at HB9 ⊢
            clear HWW hW hC d0 d1 d2 z1 z2
            go_wp2
            go_roundw
            case rel => exact ⟨0 + 1, by omega, by go_num, HA2, HB9⟩
            case measure => simp [intOf]; omega
          obtain ⟨x, hx, x0, x1, x2⟩ := HPV.out (j - 1) (by omega)
          have hbw : b < wr.heap.size := hbl
          have y0 : ∀ i, (W i).cell? ⟨b, o + (j - 1) * 3, none⟩ = some (.int .i64 x.1) := fun i => ((HPW i).out.cell (p := ⟨b, o + (j - 1) * 3, none⟩) hbw).trans x0
          have y1 : ∀ i, (W i).cell? ⟨b, o + (j - 1) * 3 + 1, none⟩ = some (.int .i64 x.2.1) := fun i => ((HPW i).out.cell (p := ⟨b, o + (j - 1) * 3 + 1, none⟩) hbw).trans x1
          have y2 : ∀ i, (W i).cell? ⟨b, o + (j - 1) * 3 + 2, none⟩ = some (.int .i64 x.2.2) := fun i => ((HPW i).out.cell (p := ⟨b, o + (j - 1) * 3 + 2, none⟩) hbw).trans x2
          clear x0 x1 x2
          have g0 : decide ((0 : Int) < (j : Int)) = true := decide_eq_true (by omega)
          have g0' : decide (0 < j) = true := decide_eq_true (by omega)
          have m1 : IntKind.i64.wrap ((j : Int) - 1) = (j : Int) - 1 := IntWalk.i64_in _ ⟨by omega, by omega⟩
          have p1 : (0 : Int) ≤ (j : Int) - 1 := by omega
          have p2 : (1 : Int) ≤ (j : Int) := by omega
          have p3 : (j : Int) - 1 < (m : Int) := by omega
          have HAH := fun wx => Lib.hid (ahead_any x (la, lb, lw) wx)
          cases hah : decide (ahd x (la, lb, lw)) with
          | false =>
            have HF : Hid (decide (valP ⟨ver, st, lk⟩) = false) := decide_eq_false fun h => lk_bad (n := n) hp (.inr ⟨by omega, _, hx, of_decide_eq_false hah⟩) (by have h2 := h.2.2.2; simp only at h2; rw [HLS.out] at h2; exact h2)
            clear hp hx HA
            refine Mix.wp_region_lex (fun w' => ∃ i, w' = W i) (by kernel_rfl) (by kernel_rfl) ⟨i0, h0⟩ ?_
            rw [h0]
            clear h0
            repeat (first | (refine Mix.lex_step rfl ?_; intro K hK; go_big_quiet_step (fail); refine Mix.lex_on hK ?_; clear hK K) | (refine Mix.lex_skip rfl ?_; simp only [Act.put, List.setIfInBounds_toArray, List.set_cons_zero, List.set_cons_succ]))
            refine Mix.lex_call (HMY (W i0)).out rfl rfl rfl (fun _ => rfl) ?_
            rw [hml]
            rintro e3 w3 ⟨rfl, hb3⟩
            obtain ⟨j3, rfl⟩ := hC _ w3 hb3
            refine ⟨_, rfl, ⟨j3, rfl⟩, ?_⟩
            simp only [Act.put, List.setIfInBounds_toArray, List.set_cons_zero, List.set_cons_succ]
            repeat (first | (refine Mix.lex_step rfl ?_; intro K hK; go_big_quiet_step (fail); refine Mix.lex_on hK ?_; clear hK K) | (refine Mix.lex_skip rfl ?_; simp only [Act.put, List.setIfInBounds_toArray, List.set_cons_zero, List.set_cons_succ]))
            refine Mix.lex_call (HAH (W j3)).out rfl rfl rfl (fun _ => rfl) ?_
            rw [hah]
            rintro e4 w4 ⟨rfl, hb4⟩
            obtain ⟨j4, rfl⟩ := hC _ w4 hb4
            refine ⟨_, rfl, ⟨j4, rfl⟩, ?_⟩
            simp only [Act.put, List.setIfInBounds_toArray, List.set_cons_zero, List.set_cons_succ]
            repeat (first | (refine Mix.lex_step rfl ?_; intro K hK; go_big_quiet_step (fail); refine Mix.lex_on hK ?_; clear hK K) | (refine Mix.lex_skip rfl ?_; simp only [Act.put, List.setIfInBounds_toArray, List.set_cons_zero, List.set_cons_succ]))
            refine Mix.lex_nil ?_
            have HB9 := HWW j4
            generalize W j4 = w9 at HB9 ⊢
            clear HWW hW hC d0 d1 d2 z1 z2 y0 y1 y2
            go_wp2
            go_ret
            exact ⟨by rw [HF.out]; rfl, HB9.out.bel⟩
          | true =>
            have HA2 : Hid (∀ i, i < j + 1 → LkOk n lk i) := fun i hi => by
              rcases Nat.lt_or_ge i j with h | h
              · exact HA.out i h
              · obtain rfl : i = j := by omega
                exact lk_ok hp (by have := HMO.out; unfold mayL at this; simp only at this ⊢; omega) (fun _ => ⟨_, hx, of_decide_eq_true hah⟩)
            clear hp hx HA
            refine Mix.wp_region_lex (fun w' => ∃ i, w' = W i) (by kernel_rfl) (by kernel_rfl) ⟨i0, h0⟩ ?_
            rw [h0]
            clear h0
            repeat (first | (refine Mix.lex_step rfl ?_; intro K hK; go_big_quiet_step (fail); refine Mix.lex_on hK ?_; clear hK K) | (refine Mix.lex_skip rfl ?_; simp only [Act.put, List.setIfInBounds_toArray, List.set_cons_zero, List.set_cons_succ]))
            refine Mix.lex_call (HMY (W i0)).out rfl rfl rfl (fun _ => rfl) ?_
            rw [hml]
            rintro e3 w3 ⟨rfl, hb3⟩
            obtain ⟨j3, rfl⟩ := hC _ w3 hb3
            refine ⟨_, rfl, ⟨j3, rfl⟩, ?_⟩
            simp only [Act.put, List.setIfInBounds_toArray, List.set_cons_zero, List.set_cons_succ]
            repeat (first | (refine Mix.lex_step rfl ?_; intro K hK; go_big_quiet_step (fail); refine Mix.lex_on hK ?_; clear hK K) | (refine Mix.lex_skip rfl ?_; simp only [Act.put, List.setIfInBounds_toArray, List.set_cons_zero, List.set_cons_succ]))
            refine Mix.lex_call (HAH (W j3)).out rfl rfl rfl (fun _ => rfl) ?_
            rw [hah]
            rintro e4 w4 ⟨rfl, hb4⟩
            obtain ⟨j4, rfl⟩ := hC _ w4 hb4
            refine ⟨_, rfl, ⟨j4, rfl⟩, ?_⟩
            simp only [Act.put, List.setIfInBounds_toArray, List.set_cons_zero, List.set_cons_succ]
            repeat (first | (refine Mix.lex_step rfl ?_; intro K hK; go_big_quiet_step (fail); refine Mix.lex_on hK ?_; clear hK K) | (refine Mix.lex_skip rfl ?_; simp only [Act.put, List.setIfInBounds_toArray, List.set_cons_zero, List.set_cons_succ]))
            refine Mix.lex_nil ?_
            have HB9 := HWW j4
            generalize W j4 = w9 at HB9 ⊢
            clear HWW hW hC d0 d1 d2 z1 z2 y0 y1 y2
            go_wp2
            go_roundw
            case rel => exact ⟨j + 1, by omega, by go_num, HA2, HB9⟩
            case measure => simp [intOf]; omega
      · have HR : Hid (decide (valP ⟨ver, st, lk⟩) = true) := decide_eq_true ⟨HV1.out.1, HV1.out.2, HSO.out, fun i hi => by have h1 := HLS.out; have h2 := HLL.out; have h3 := HA.out i (by simp only at hi; omega); simp only; rw [h1]; exact h3⟩
        clear HA
        go_wp2
        go_ret
        exact ⟨by rw [HR.out]; rfl, HB.out.bel⟩
open Classical in
set_option maxHeartbeats 800000 in
set_option maxRecDepth 100000 in
theorem check_any (N : Nt) (A A' : Option Addr) (n c m c' : Nat) (w : World) (h : NAt w w.heap.size N A n c A' m c') (hn : n ≤ 1048576) (hm : m ≤ 1048576) :
    Calls Try.prog 23 #[.agg #[.int .i64 N.ver, .slice A n c, .slice A' m c']] w fun e w' => e = .returned (.int .i64 ((check N : Nat) : Int)) ∧ Below w.heap.size w w' := by
  have HB := Lib.hid (Bx.start h)
  have hls : N.st.length = n := h.st.len
  have hll : N.lk.length = m := h.lk.len
  have hb1 := HB.out.lt
  by_cases h4 : 4096 < n
  · rw [check_3 (N := N) (.inl (by omega))]
    have e0 : decide ((4096 : Int) < (n : Int)) = true := decide_eq_true (by omega)
    have e0' : decide (4096 < n) = true := decide_eq_true h4
    clear hls hll
    go_enter Try.func23, Try.ntmps23
    go_wp2
    go_ret
    exact ⟨rfl, HB.out.bel⟩
  have e0 : decide ((4096 : Int) < (n : Int)) = false := decide_eq_false (by omega)
  have e0' : decide (4096 < n) = false := decide_eq_false h4
  by_cases h5 : 16384 < m
  · rw [check_3 (N := N) (.inr (by omega))]
    have e1 : decide ((16384 : Int) < (m : Int)) = true := decide_eq_true (by omega)
    have e1' : decide (16384 < m) = true := decide_eq_true h5
    clear hls hll
    go_enter Try.func23, Try.ntmps23
    go_wp2
    go_ret
    exact ⟨rfl, HB.out.bel⟩
  have e1 : decide ((16384 : Int) < (m : Int)) = false := decide_eq_false (by omega)
  have e1' : decide (16384 < m) = false := decide_eq_false h5
  have HV := Lib.hid (fun (w1 : World) (hw : NAt w1 w1.heap.size N A n c A' m c') => valid_any N A A' n c m c' w1 hw hn hm)
  have HN1 : Hid (NAt (w.alloc (.cells #[.int .i64 N.ver, .slice A n c, .slice A' m c'] 25)) (w.alloc (.cells #[.int .i64 N.ver, .slice A n c, .slice A' m c'] 25)).heap.size N A n c A' m c') := HB.out.at_.more (Nat.le_of_lt hb1)
  by_cases hv : valP N
  · have HD : Hid (decide (valP N) = true) := decide_eq_true hv
    rw [check_0 (N := N) (by omega) (by have := hv.1; have := hv.2.1; omega) ⟨hv.2.2.1, hv.2.2.2⟩]
    clear hls hll hv h
    go_enter Try.func23, Try.ntmps23
    go_wp2_with fail
    refine (HV.out _ HN1.out).mono ?_
    rw [HD.out]
    rintro e3 w3 ⟨rfl, hb3⟩
    have HB3 := Lib.hid (HB.out.bel.trans (hb3.mono HB.out.bel.size))
    go_wp2
    go_ret
    exact ⟨rfl, HB3.out⟩
  · have HD : Hid (decide (valP N) = false) := decide_eq_false hv
    have HR : Hid (check N = 2) := by
      by_cases hvv : N.ver < 1 ∨ 1048576 < N.ver
      · exact check_2 (by omega) hvv
      · exact check_no (by omega) hvv fun h => hv ⟨by omega, by omega, h⟩
    rw [HR.out]
    clear hls hll hv h
    go_enter Try.func23, Try.ntmps23
    go_wp2_with fail
    refine (HV.out _ HN1.out).mono ?_
    rw [HD.out]
    rintro e3 w3 ⟨rfl, hb3⟩
    have HB3 := Lib.hid (HB.out.bel.trans (hb3.mono HB.out.bel.size))
    go_wp2
    go_ret
    exact ⟨rfl, HB3.out⟩
end Go.Proofs.Ytdhlbcbgbmgcjaa.Gf

/- Lemmas that the proof stands on, in build order: PdW. -/
import Derived.Lib.MinMax
import Derived.Test.YtdhlbcbgbmgcjaaJ38af2189
import Derived.Test.YtdhlbcbgbmgcjaaJ39ba08a4
/- Layer 17 (path), the landed program: weight, check, as contracts. -/
namespace Go.Proofs.Ytdhlbcbgbmgcjaa.Pt
open Go.RowKit Rec Ints Ge Gf Pa Gd

/-- A pair's link, as the search finds it. -/
theorem wt_found {N : Nt} (hN : Valid N) {a b : Int} {l : L3} (hl : l ∈ N.lk) (h1 : l.1 = min a b) (h2 : l.2.1 = max a b) : wt N.lk a b = l.2.2 ∧ wt N.lk a b ≠ 0 := by
  have hlk := link_at hN hl
  have hj : joins a b l = true := joins_iff.2 (by omega)
  have h3 := wt_is (fun x hx => (link_at hN hx).2.1) (asc_of hN.lk) l hl hj
  exact ⟨h3, by omega⟩
theorem wt_lost {N : Nt} (hN : Valid N) {a b : Int} (h : ∀ l ∈ N.lk, ¬ (l.1 = min a b ∧ l.2.1 = max a b)) : wt N.lk a b = 0 := by
  apply Classical.byContradiction
  intro h0
  obtain ⟨l, hl, hj, -⟩ := wt_ex h0
  have hlk := link_at hN hl
  refine h l hl ?_
  rcases joins_iff.1 hj with ⟨e1, e2⟩ | ⟨e1, e2⟩ <;> omega
set_option maxHeartbeats 1600000 in
set_option maxRecDepth 100000 in
theorem weight_any (N : Nt) (A A' : Option Addr) (n c m c' : Nat) (a b : Int) (w : World) (h : NAt w w.heap.size N A n c A' m c') (hc : check N = 0) :
    Calls Try.prog 21 #[.agg #[.int .i64 N.ver, .slice A n c, .slice A' m c'], .int .i64 a, .int .i64 b] w fun e w' => e = .returned (.tuple #[.int .i64 (wt N.lk a b), .bool (decide (wt N.lk a b ≠ 0))]) ∧ Below w.heap.size w w' := by
  have hv := valid_of hc
  have HV := Lib.hid hv
  have HB := Lib.hid (Bx.start h)
  have hll : N.lk.length = m := h.lk.len
  have hm9 := hv.nl
  rw [hll] at hm9
  have HPW := Lib.hid (lks_pair hv.lk)
  clear h hc hv hll
  go_enter Try.func21, Try.ntmps21
  go_upto_region 1 with fail
  generalize w.alloc (.cells #[.int .i64 N.ver, .slice A n c, .slice A' m c'] 25) = w1 at *
  have z2 : w1.cell? ⟨w.heap.size, 2, none⟩ = some (.slice A' m c') := cell_of_blk HB.out.blk rfl
  go_wp2_with fail
  refine (search_any A' m c' N.lk (min a b, max a b, 0) w1 (HB.out.at_.lk.more (Nat.le_of_lt HB.out.lt)) hm9 HPW.out).mono ?_
  rintro e2 w2 ⟨i, f, rfl, ht, hf, hb2⟩
  have HB2 := Lib.hid (HB.out.below hb2)
  have z3 : w2.cell? ⟨w.heap.size, 2, none⟩ = some (.slice A' m c') := cell_of_blk HB2.out.blk rfl
  clear z2 hb2
  cases f with
  | false =>
    have e0 := wt_lost HV.out (a := a) (b := b) (hf rfl)
    have HE := Lib.hid e0
    clear ht hf e0
    go_wp2
    go_ret2
    exact ⟨by rw [HE.out]; rfl, HB2.out.bel⟩
  | true =>
    obtain ⟨l, hl, h1, h2⟩ := ht rfl
    obtain ⟨e1, e2⟩ := wt_found HV.out (List.mem_of_getElem? hl) h1 h2
    rw [e1] at e2
    have HE := Lib.hid e1
    have hlen := HB2.out.at_.lk.len
    have him : i < m := by have := (List.getElem?_eq_some_iff.1 hl).1; omega
    obtain ⟨bb, o, l', rfl, -, hl', -, -, c2⟩ := lk_at HB2.out.at_.lk him
    rw [hl] at hl'
    injection hl' with hl'
    subst hl'
    have HDC : Hid (decide (l.2.2 ≠ 0) = true) := decide_eq_true e2
    have a1 : (0 : Int) ≤ (i : Int) := by omega
    have a2 : (i : Int) < (m : Int) := by omega
    clear ht hf hl h1 h2 e1 e2 hlen
    go_wp2
    go_ret2
    exact ⟨by rw [HE.out, HDC.out]; rfl, HB2.out.bel⟩

open Classical in
/-- What check tells of some stops. -/
noncomputable def chk (N : Nt) (S : List Int) : Nat := if check N ≠ 0 then check N else if ∃ s ∈ S, s < 0 ∨ (N.st.length : Int) ≤ s then 2 else 0
theorem chk_bad {N : Nt} {S : List Int} (h : check N ≠ 0) : chk N S = check N := by unfold chk; rw [if_pos h]
theorem chk_two {N : Nt} {S : List Int} (h : check N = 0) {s : Int} (hs : s ∈ S) (hb : s < 0 ∨ (N.st.length : Int) ≤ s) : chk N S = 2 := by unfold chk; rw [if_neg (fun h' => h' h), if_pos ⟨s, hs, hb⟩]
theorem chk_ok {N : Nt} {S : List Int} (h : check N = 0) (hs : ∀ s ∈ S, ¬ (s < 0 ∨ (N.st.length : Int) ≤ s)) : chk N S = 0 := by
  unfold chk
  rw [if_neg (fun h' => h' h), if_neg]
  rintro ⟨s, h1, h2⟩
  exact hs s h1 h2
set_option maxHeartbeats 1600000 in
set_option maxRecDepth 100000 in
theorem check_stops (N : Nt) (A A' : Option Addr) (n c m c' : Nat) (B : Option Addr) (k d : Nat) (S : List Int) (w : World) (h : NAt w w.heap.size N A n c A' m c') (hn : n ≤ 1048576) (hm : m ≤ 1048576) (hr : RRow intS w w.heap.size B k S) (hk : k ≤ 1048576) :
    Calls Try.prog 16 #[.agg #[.int .i64 N.ver, .slice A n c, .slice A' m c'], .slice B k d] w fun e w' => e = .returned (.int .i64 ((chk N S : Nat) : Int)) ∧ Below w.heap.size w w' := by
  have HB := Lib.hid (Bx.start h)
  have HR := Lib.hid hr
  have HSL := Lib.hid hr.len
  have hls : N.st.length = n := h.st.len
  have HLS := Lib.hid hls
  clear h hr hls
  go_enter Try.func16, Try.ntmps16
  go_upto_region 1 with fail
  generalize w.alloc (.cells #[.int .i64 N.ver, .slice A n c, .slice A' m c'] 25) = w1 at *
  have z0 : w1.cell? ⟨w.heap.size, 0, none⟩ = some (.int .i64 N.ver) := cell_of_blk HB.out.blk rfl
  have z1 : w1.cell? ⟨w.heap.size, 1, none⟩ = some (.slice A n c) := cell_of_blk HB.out.blk rfl
  have z2 : w1.cell? ⟨w.heap.size, 2, none⟩ = some (.slice A' m c') := cell_of_blk HB.out.blk rfl
  go_wp2_with fail
  refine (Gf.check_any N A A' n c m c' w1 (HB.out.at_.more (Nat.le_of_lt HB.out.lt)) hn hm).mono ?_
  rintro e2 w2 ⟨rfl, hb2⟩
  have HB2 := Lib.hid (HB.out.below hb2)
  clear z0 z1 z2 hb2 HB
  by_cases hc : check N = 0
  · have HC := Lib.hid hc
    rw [hc]
    clear hc
    go_wp2
    go_loopw [7, 15] (fun _ i wr => ∃ j : Nat, i = .int .i64 (j : Int) ∧ j ≤ k ∧ Hid (Bx w N A n c A' m c' wr) ∧ Hid (∀ q s, q < j → S[q]? = some s → ¬ (s < 0 ∨ (n : Int) ≤ s))) (fun _ i _ => k - (intOf i).toNat)
    case atStart => exact ⟨0, rfl, Nat.zero_le _, HB2, fun q s hq => absurd hq (Nat.not_lt_zero _)⟩
    case round =>
      clear HB2
      obtain ⟨j, rfl, hj, HB, HN⟩ := hrel
      by_cases hlt : j < k
      · obtain ⟨bb, o, x, rfl, -, hx, c0⟩ := int_at (HR.out.below HB.out.bel) hlt
        have HX := Lib.hid hx
        have z1 : wr.cell? ⟨w.heap.size, 1, none⟩ = some (.slice A n c) := cell_of_blk HB.out.blk rfl
        have a1 : (0 : Int) ≤ (j : Int) := by omega
        have a2 : (j : Int) < (k : Int) := by omega
        have qj : IntKind.i64.wrap ((j : Int) + 1) = (j : Int) + 1 := IntWalk.i64_in _ ⟨by omega, by omega⟩
        clear hx
        by_cases h0 : x < 0
        · have e0 : decide (x < 0) = true := decide_eq_true h0
          have HF : Hid (((chk N S : Nat) : Int) = 2) := by
            unfold Hid
            rw [chk_two HC.out (List.mem_of_getElem? HX.out) (.inl h0)]
            rfl
          go_wp2
          go_ret
          exact ⟨by rw [HF.out]; rfl, HB.out.bel⟩
        · have e0 : decide (x < 0) = false := decide_eq_false h0
          by_cases h1 : (n : Int) ≤ x
          · have e1 : decide ((n : Int) ≤ x) = true := decide_eq_true h1
            have HF : Hid (((chk N S : Nat) : Int) = 2) := by
              unfold Hid
              rw [chk_two HC.out (List.mem_of_getElem? HX.out) (.inr (by rw [HLS.out]; exact h1))]
              rfl
            go_wp2
            go_ret
            exact ⟨by rw [HF.out]; rfl, HB.out.bel⟩
          · have e1 : decide ((n : Int) ≤ x) = false := decide_eq_false h1
            have HN2 : Hid (∀ q s, q < j + 1 → S[q]? = some s → ¬ (s < 0 ∨ (n : Int) ≤ s)) := fun q s hq hs => by
              rcases Nat.lt_or_ge q j with h2 | h2
              · exact HN.out q s h2 hs
              · obtain rfl : q = j := by omega
                rw [HX.out] at hs
                injection hs with hs
                subst hs
                omega
            go_wp2
            go_roundw
            case rel => exact ⟨j + 1, by go_num, by omega, HB, HN2⟩
            case measure => simp [intOf]; omega
      · obtain rfl : j = k := by omega
        have HF : Hid (((chk N S : Nat) : Int) = 0) := by
          unfold Hid
          rw [chk_ok HC.out (fun s hs => by
            obtain ⟨q, hq, hqe⟩ := List.getElem_of_mem hs
            rw [HLS.out]
            exact HN.out q s (by have := HSL.out; omega) (by rw [List.getElem?_eq_getElem hq, hqe]))]
          rfl
        go_wp2
        go_ret
        exact ⟨by rw [HF.out]; rfl, HB.out.bel⟩
  · have HF : Hid (chk N S = check N) := chk_bad hc
    have e1 : (((check N : Nat) : Int) == 0) = false := beq_eq_false_iff_ne.2 (by omega)
    obtain ⟨z, hz⟩ : ∃ z, ((check N : Nat) : Int) = z := ⟨_, rfl⟩
    rw [hz] at e1
    rw [hz]
    have HZ := Lib.hid hz
    clear hz hc
    go_wp2
    go_ret
    exact ⟨by rw [HF.out, HZ.out]; rfl, HB2.out.bel⟩
end Go.Proofs.Ytdhlbcbgbmgcjaa.Pt

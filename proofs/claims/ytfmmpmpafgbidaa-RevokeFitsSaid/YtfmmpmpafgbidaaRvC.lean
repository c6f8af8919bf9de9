/- Layer 12 (revoke), the landed program: may, Right, bisected, place, Has, as contracts. -/
import Derived.Test.YtfmmpmpafgbidaaRvA
import Derived.Deep.RegionHeld3
namespace Go.Proofs.Ytfmmpmpafgbidaa.Rv
open Go.RowKit Rec

/-- An element in a box of its own. -/
theorem boxed (w : World) (p : P) : (w.alloc (.cells #[.int .i64 p.1, .int .i64 p.2] 24)).cell? ⟨w.heap.size, 0, none⟩ = some (.int .i64 p.1) ∧ (w.alloc (.cells #[.int .i64 p.1, .int .i64 p.2] 24)).cell? ⟨w.heap.size, 0 + 1, none⟩ = some (.int .i64 p.2) :=
  ⟨cell_of_blk (heap_alloc_new w _) rfl, cell_of_blk (heap_alloc_new w _) rfl⟩

set_option maxHeartbeats 800000 in
set_option maxRecDepth 100000 in
theorem may_any (p : P) (w : World) :
    Calls Try.prog 17 #[.agg #[.int .i64 p.1, .int .i64 p.2]] w fun e w' => e = .returned (.bool (decide (okp p))) ∧ Below w.heap.size w w' := by
  obtain ⟨b0, b1⟩ := boxed w p
  have HB := Lib.hid ((Below.refl w.heap.size w).alloc (Nat.le_refl _) (.cells #[.int .i64 p.1, .int .i64 p.2] 24))
  by_cases d1 : 1 ≤ p.1
  · have e1 : decide (1 ≤ p.1) = true := decide_eq_true d1
    by_cases d2 : p.1 ≤ 2147483648
    · have e2 : decide (p.1 ≤ 2147483648) = true := decide_eq_true d2
      by_cases d3 : 0 ≤ p.2
      · have e3 : decide (0 ≤ p.2) = true := decide_eq_true d3
        have hk : decide (okp p) = decide (p.2 ≤ 1099511627776) := decide_eq_decide.2 ⟨fun h => h.2.2, fun h => ⟨⟨d1, d2⟩, d3, h⟩⟩
        rw [hk]
        clear hk
        go_enter Try.func17, Try.ntmps17
        go_wp2
        go_ret
        exact ⟨rfl, HB.out⟩
      · have e3 : decide (0 ≤ p.2) = false := decide_eq_false d3
        have hk : decide (okp p) = false := decide_eq_false fun h => d3 h.2.1
        rw [hk]
        clear hk
        go_enter Try.func17, Try.ntmps17
        go_wp2
        go_ret
        exact ⟨rfl, HB.out⟩
    · have e2 : decide (p.1 ≤ 2147483648) = false := decide_eq_false d2
      have hk : decide (okp p) = false := decide_eq_false fun h => d2 h.1.2
      rw [hk]
      clear hk
      go_enter Try.func17, Try.ntmps17
      go_wp2
      go_ret
      exact ⟨rfl, HB.out⟩
  · have e1 : decide (1 ≤ p.1) = false := decide_eq_false d1
    have hk : decide (okp p) = false := decide_eq_false fun h => d1 h.1.1
    rw [hk]
    clear hk
    go_enter Try.func17, Try.ntmps17
    go_wp2
    go_ret
    exact ⟨rfl, HB.out⟩

set_option maxHeartbeats 800000 in
set_option maxRecDepth 100000 in
theorem cond_ge (p : P) (t : Int) (pb : Nat) (w : World) (hb : w.cell? ⟨pb, 0, none⟩ = some (.int .i64 t)) (h1 : pb < w.heap.size) :
    Calls Try.prog 26 #[.agg #[.int .i64 p.1, .int .i64 p.2], .pointer (some ⟨pb, 0, none⟩)] w fun e w' => e = .returned (.bool (decide (t ≤ p.1))) ∧ Below w.heap.size w w' := by
  obtain ⟨b0, b1⟩ := boxed w p
  have HB := Lib.hid ((Below.refl w.heap.size w).alloc (Nat.le_refl _) (.cells #[.int .i64 p.1, .int .i64 p.2] 24))
  have hb' := (HB.out.cell (p := ⟨pb, 0, none⟩) h1).trans hb
  clear hb
  go_enter Try.func26, Try.ntmps26
  go_wp2
  go_ret
  exact ⟨rfl, HB.out⟩

set_option maxHeartbeats 800000 in
set_option maxRecDepth 100000 in
theorem cond_lt (p : P) (t : Int) (pb : Nat) (w : World) (hb : w.cell? ⟨pb, 0, none⟩ = some (.int .i64 t)) (h1 : pb < w.heap.size) :
    Calls Try.prog 20 #[.agg #[.int .i64 p.1, .int .i64 p.2], .pointer (some ⟨pb, 0, none⟩)] w fun e w' => e = .returned (.bool (decide (p.2 < t))) ∧ Below w.heap.size w w' := by
  obtain ⟨b0, b1⟩ := boxed w p
  have HB := Lib.hid ((Below.refl w.heap.size w).alloc (Nat.le_refl _) (.cells #[.int .i64 p.1, .int .i64 p.2] 24))
  have hb' := (HB.out.cell (p := ⟨pb, 0, none⟩) h1).trans hb
  clear hb
  go_enter Try.func20, Try.ntmps20
  go_wp2
  go_ret
  exact ⟨rfl, HB.out⟩

set_option maxHeartbeats 1600000 in
set_option maxRecDepth 100000 in
theorem bisected_any (A : Option Addr) (n c fn : Nat) (q : Value) (hold : P → Bool) (l : List P) (w : World) (h : RRow rvS w w.heap.size A n l) (hn : n ≤ 100000) (hent : ∀ (args : Array Value) (w : World), (callFunc fn args).run Try.prog w = .ok (.enter fn args) w)
    (how : ∀ (p : P) (w' : World), Below w.heap.size w w' → Calls Try.prog fn #[.agg #[.int .i64 p.1, .int .i64 p.2], q] w' fun e w'' => e = .returned (.bool (hold p)) ∧ Below w'.heap.size w' w'')
    (hup : ∀ (i j : Nat) (a b : P), i ≤ j → l[i]? = some a → l[j]? = some b → hold a = true → hold b = true) :
    Calls Try.prog 25 #[.slice A n c, .func (.func fn) #[] #[q]] w fun e w' =>
      ∃ k : Nat, k ≤ n ∧ e = .returned (.int .i64 (k : Int)) ∧ (∀ (j : Nat) (a : P), l[j]? = some a → (hold a = true ↔ k ≤ j)) ∧ Below w.heap.size w w' := by
  have H := Lib.hid h
  have HH := Lib.hid how
  have HU := Lib.hid hup
  have HL := Lib.hid h.len
  clear h how hup
  go_enter Try.func25, Try.ntmps25
  go_wp2
  go_loopw [5, 6] (fun lo hi wr => ∃ a b : Nat, a ≤ b ∧ b ≤ n ∧ lo = .int .i64 (a : Int) ∧ hi = .int .i64 (b : Int) ∧ Hid (∀ (j : Nat) (p : P), l[j]? = some p → (j < a → hold p = false) ∧ (b ≤ j → hold p = true)) ∧ Hid (Below w.heap.size w wr)) (fun lo hi _ => (intOf hi).toNat - (intOf lo).toNat)
  case atStart => exact ⟨0, n, Nat.zero_le _, Nat.le_refl _, rfl, rfl, by unfold Hid; exact fun j p hj => ⟨fun h => absurd h (by omega), fun h => absurd (List.getElem?_eq_some_iff.1 hj).1 (by have := HL.out; omega)⟩, Below.refl _ _⟩
  case round =>
    obtain ⟨a, b, hab, hbn, rfl, rfl, HI, HB⟩ := hrel
    by_cases hlt : a < b
    · obtain ⟨m, hm⟩ : ∃ m, m = a + (b - a) / 2 := ⟨_, rfl⟩
      have hm1 : a ≤ m := by omega
      have hm2 : m < b := by omega
      have e1 : IntKind.i64.wrap ((b : Int) - (a : Int)) = ((b - a : Nat) : Int) := by rw [IntWalk.i64_in _ ⟨by omega, by omega⟩]; omega
      have e2 : Int.tdiv (((b - a : Nat)) : Int) 2 = (((b - a) / 2 : Nat) : Int) := rfl
      have e3 : IntKind.i64.wrap ((((b - a) / 2 : Nat)) : Int) = (((b - a) / 2 : Nat) : Int) := IntWalk.i64_in _ ⟨by omega, by omega⟩
      have e4 : IntKind.i64.wrap ((a : Int) + (((b - a) / 2 : Nat) : Int)) = (m : Int) := by rw [IntWalk.i64_in _ ⟨by omega, by omega⟩]; omega
      have e7 : (a : Int) + ((b - a : Nat) : Int) / 2 = (m : Int) := by omega
      have e5 : IntKind.i64.wrap ((m : Int) + 1) = (m : Int) + 1 := IntWalk.i64_in _ ⟨by omega, by omega⟩
      have hmn : m < n := by omega
      obtain ⟨bk, o, p, rfl, hbl, hp, c0, c1⟩ := rv_at (H.out.below HB.out) hmn
      have HP := Lib.hid hp
      have HM := Lib.hid hm
      have h1 : (0 : Int) ≤ (m : Int) := by omega
      have h2 : (m : Int) < (n : Int) := by omega
      have h3 : (a : Int) < (b : Int) := by omega
      clear hm hp
      go_wp2_with fail
      refine (HH.out p wr HB.out).mono ?_
      rintro e6 w6 ⟨rfl, hb6⟩
      have HB6 := Lib.hid (HB.out.trans (hb6.mono HB.out.size))
      clear hb6
      cases hf : hold p with
      | true =>
        have HN : Hid (∀ (j : Nat) (p : P), l[j]? = some p → (j < a → hold p = false) ∧ (m ≤ j → hold p = true)) := fun j x hj => ⟨(HI.out j x hj).1, fun hle => HU.out m j p x hle HP.out hj hf⟩
        go_wp2
        go_roundw
        case rel => exact ⟨a, m, hm1, by omega, rfl, rfl, HN, HB6⟩
        case measure => simp [intOf]; omega
      | false =>
        have HN : Hid (∀ (j : Nat) (p : P), l[j]? = some p → (j < m + 1 → hold p = false) ∧ (b ≤ j → hold p = true)) := fun j x hj => ⟨fun hle => (by
          cases hx : hold x with
          | false => rfl
          | true => exact absurd (HU.out j m x p (by omega) hj HP.out hx) (by rw [hf]; simp)), (HI.out j x hj).2⟩
        go_wp2
        go_roundw
        case rel => exact ⟨m + 1, b, by omega, hbn, by go_num, rfl, HN, HB6⟩
        case measure => simp [intOf]; omega
    · have hba : a = b := by omega
      subst hba
      go_wp2
      go_ret
      refine ⟨a, hbn, rfl, fun j x hj => ⟨fun hx => ?_, fun hle => (HI.out j x hj).2 hle⟩, HB.out⟩
      by_cases hja : a ≤ j
      · exact hja
      · rw [(HI.out j x hj).1 (by omega)] at hx
        cases hx
end Go.Proofs.Ytfmmpmpafgbidaa.Rv

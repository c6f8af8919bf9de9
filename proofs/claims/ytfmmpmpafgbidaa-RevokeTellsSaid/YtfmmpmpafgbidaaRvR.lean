/- Layer 12 (revoke): the reference's Right, Has, Same, as contracts. -/
import Derived.Deep.QuietTactic
import Derived.BigQuiet
import Derived.WalkMore
import Derived.Test.YtfmmpmpafgbidaaRvN
import Derived.Test.YtfmmpmpafgbidaaRvO
namespace Go.Proofs.Ytfmmpmpafgbidaa.Rv
open Go.RowKit Rec

set_option maxHeartbeats 1600000 in
set_option maxRecDepth 100000 in
theorem refright_any (A : Option Addr) (n c B : Nat) (l : List P) (w : World) (h : RRow rvS w B A n l) (hn : n ≤ 100000) :
    Calls Try.prog 7 #[.slice A n c] w fun e w' => e = .returned (.bool (decide (Rt l))) ∧ ∃ q, w' = w.drewN q := by
  have H := Lib.hid h
  have HL := Lib.hid h.len
  clear h
  go_enter Try.func7, Try.ntmps7
  go_wp2
  go_loopw [3] (fun i wr => ∃ k q : Nat, k ≤ n ∧ i = .int .i64 (k : Int) ∧ Hid (okf (l.take k)) ∧ Hid (wr = w.drewN q)) (fun i _ => n - (intOf i).toNat)
  case atStart => exact ⟨0, 0, Nat.zero_le _, rfl, okf_nil, rfl⟩
  case round =>
    obtain ⟨k, q, hk, rfl, HO, hw⟩ := hrel
    obtain rfl := hw.out
    clear hw
    by_cases hlt : k < n
    · obtain ⟨b, o, p, rfl, _, hp, c0, c1⟩ := rv_at H.out hlt
      have HP := Lib.hid hp
      have BAD : Hid (¬ okp p → decide (Rt l) = false) := fun hx => decide_eq_false fun hr => okf_bad HP.out (.inl hx) ((rt_okf l).1 hr).1
      clear hp
      by_cases d1 : p.1 < 1
      · have e1 : decide (p.1 < 1) = true := decide_eq_true d1
        have HF := Lib.hid (BAD.out (fun h => by have := h.1.1; omega))
        go_wp2
        go_ret
        exact ⟨by rw [HF.out]; rfl, _, rfl⟩
      have e1 : decide (p.1 < 1) = false := decide_eq_false d1
      by_cases d2 : 2147483648 < p.1
      · have e2 : decide (2147483648 < p.1) = true := decide_eq_true d2
        have HF := Lib.hid (BAD.out (fun h => by have := h.1.2; omega))
        go_wp2
        go_ret
        exact ⟨by rw [HF.out]; rfl, _, rfl⟩
      have e2 : decide (2147483648 < p.1) = false := decide_eq_false d2
      by_cases d3 : p.2 < 0
      · have e3 : decide (p.2 < 0) = true := decide_eq_true d3
        have HF := Lib.hid (BAD.out (fun h => by have := h.2.1; omega))
        go_wp2
        go_ret
        exact ⟨by rw [HF.out]; rfl, _, rfl⟩
      have e3 : decide (p.2 < 0) = false := decide_eq_false d3
      by_cases d4 : 1099511627776 < p.2
      · have e4 : decide (1099511627776 < p.2) = true := decide_eq_true d4
        have HF := Lib.hid (BAD.out (fun h => by have := h.2.2; omega))
        go_wp2
        go_ret
        exact ⟨by rw [HF.out]; rfl, _, rfl⟩
      have e4 : decide (1099511627776 < p.2) = false := decide_eq_false d4
      have HK : Hid (okp p) := ⟨⟨by omega, by omega⟩, by omega, by omega⟩
      by_cases q3 : k = 0
      · subst q3
        have hd7 : decide ((0 : Int) < 0) = false := by decide
        rw [Nat.zero_mul, Nat.add_zero] at c0 c1
        have HN := Lib.hid (okf_next HP.out HO.out HK.out (fun h => absurd h (by omega)))
        go_wp2_with fail
        go_quiet (fail)
        go_wp2
        go_roundw
        case rel => exact ⟨0 + 1, _, by omega, by go_num, HN, by unfold Hid; rfl⟩
        case measure => simp [intOf]; omega
      · obtain ⟨b', o', z, e5, _, hz, z0, _⟩ := rv_at H.out (show k - 1 < n by omega)
        injection e5 with e5
        injection e5 with e5 e6
        subst e5 e6
        have HZ := Lib.hid hz
        clear hz
        have m1 : IntKind.i64.wrap ((k : Int) - 1) = (k : Int) - 1 := IntWalk.i64_in _ ⟨by omega, by omega⟩
        have p1 : (0 : Int) ≤ (k : Int) - 1 := by omega
        have p2 : (1 : Int) ≤ (k : Int) := by omega
        have p3 : (k : Int) - 1 < (n : Int) := by omega
        have p4 : (0 : Int) < (k : Int) := by omega
        have p5 : (k : Int) < (n : Int) := by omega
        have p6 : 0 < k := by omega
        by_cases d5 : p.1 ≤ z.1
        · have e5 : decide (p.1 ≤ z.1) = true := decide_eq_true d5
          have HF : Hid (decide (Rt l) = false) := decide_eq_false fun hr => okf_bad HP.out (.inr ⟨p6, z, HZ.out, d5⟩) ((rt_okf l).1 hr).1
          go_wp2_with fail
          go_quiet (fail)
          go_wp2
          go_ret
          exact ⟨by rw [HF.out]; rfl, q + nq, by simp [World.drewN, Nat.add_assoc]⟩
        · have e5 : decide (p.1 ≤ z.1) = false := decide_eq_false d5
          have HN := Lib.hid (okf_next HP.out HO.out HK.out (fun _ y hy => by
            have hz' := HZ.out
            rw [hz'] at hy
            injection hy with hy
            subst hy
            omega))
          go_wp2_with fail
          go_quiet (fail)
          go_wp2
          go_roundw
          case rel => exact ⟨k + 1, _, by omega, by go_num, HN, by unfold Hid; rfl⟩
          case measure => simp [intOf]; omega
    · have hkn : k = n := by omega
      have ht : l.take k = l := List.take_of_length_le (by rw [HL.out]; omega)
      rw [ht] at HO
      have HF : Hid (decide (Rt l) = decide (n ≤ 4096)) := by
        refine decide_eq_decide.2 ?_
        rw [rt_okf, HL.out]
        exact ⟨fun h => h.2, fun h => ⟨HO.out, h⟩⟩
      have e9 : decide ((n : Int) ≤ 4096) = decide (n ≤ 4096) := decide_eq_decide.2 (by omega)
      go_wp2
      go_ret
      exact ⟨by rw [HF.out]; first | rfl | exact congrArg (fun b => Ending.returned (.bool b)) e9, _, rfl⟩

set_option maxHeartbeats 1600000 in
set_option maxRecDepth 100000 in
theorem refhas_any (A : Option Addr) (n c B : Nat) (l : List P) (t nw : Int) (w : World) (h : RRow rvS w B A n l) (hn : n ≤ 100000) :
    Calls Try.prog 13 #[.slice A n c, .int .i64 t, .int .i64 nw] w fun e w' => e = .returned (.bool (has l t nw)) ∧ ∃ q, w' = w.drewN q := by
  have H := Lib.hid h
  have HL := Lib.hid h.len
  clear h
  go_enter Try.func13, Try.ntmps13
  go_wp2
  go_loopw [7] (fun i wr => ∃ k : Nat, k ≤ n ∧ i = .int .i64 (k : Int) ∧ Hid (has l t nw = has (l.drop k) t nw) ∧ Hid (wr = w)) (fun i _ => n - (intOf i).toNat)
  case atStart => exact ⟨0, Nat.zero_le _, rfl, rfl, rfl⟩
  case round =>
    obtain ⟨k, hk, rfl, HO, hw⟩ := hrel
    obtain rfl := hw.out
    clear hw
    by_cases hlt : k < n
    · obtain ⟨b, o, p, rfl, _, hp, c0, c1⟩ := rv_at H.out hlt
      have HD := Lib.hid (HO.out.trans (by rw [drop_at hp, has_cons]))
      clear hp
      by_cases d1 : p.1 = t
      · subst d1
        have HE : Hid (has l p.1 nw = decide (nw ≤ p.2)) := by have := HD.out; rwa [if_pos rfl] at this
        have e1 : (p.1 == p.1) = true := beq_self_eq_true _
        go_wp2
        go_ret
        exact ⟨by rw [HE.out]; rfl, 0, rfl⟩
      · have HE : Hid (has l t nw = has (l.drop (k + 1)) t nw) := by have := HD.out; rwa [if_neg d1] at this
        have e1 : (p.1 == t) = false := beq_eq_false_iff_ne.2 d1
        go_wp2
        go_roundw
        case rel => exact ⟨k + 1, by omega, by go_num, HE, by unfold Hid; trivial⟩
        case measure => simp [intOf]; omega
    · have hkn : k = n := by omega
      have ht : l.drop k = [] := List.drop_of_length_le (by rw [HL.out]; omega)
      have HE : Hid (has l t nw = false) := by have := HO.out; rwa [ht] at this
      go_wp2
      go_ret
      exact ⟨by rw [HE.out]; rfl, 0, rfl⟩

set_option maxHeartbeats 1600000 in
set_option maxRecDepth 100000 in
theorem refsame_any (A A' : Option Addr) (n c c' B B' : Nat) (l : List P) (w : World) (hn : n ≤ 4398046511104) (h1 : RRow rvS w B A n l) (h2 : RRow rvS w B' A' n l) :
    Calls Try.prog 9 #[.slice A n c, .slice A' n c'] w fun e w' => e = .returned (.bool true) ∧ ∃ q, w' = w.drewN q := by
  have H1 := Lib.hid h1
  have H2 := Lib.hid h2
  clear h1 h2
  go_enter Try.func9, Try.ntmps9
  go_wp2
  go_loopw [5] (fun i wr => ∃ k q : Nat, k ≤ n ∧ i = .int .i64 (k : Int) ∧ Hid (wr = w.drewN q)) (fun i _ => n - (intOf i).toNat)
  case atStart => exact ⟨0, 0, Nat.zero_le _, rfl, rfl⟩
  case round =>
    obtain ⟨k, q, hk, rfl, hw⟩ := hrel
    obtain rfl := hw.out
    clear hw
    by_cases hlt : k < n
    · obtain ⟨b, o, s, rfl, _, hs, c0, c1⟩ := rv_at H1.out hlt
      obtain ⟨b', o', s', rfl, _, hs', d0, d1⟩ := rv_at H2.out hlt
      rw [hs] at hs'
      injection hs' with hs'
      subst hs'
      clear hs
      go_wp2_with fail
      go_quiet (fail)
      go_wp2
      go_roundw
      case rel => exact ⟨k + 1, _, by omega, by go_num, by unfold Hid; rfl⟩
      case measure => simp [intOf]; omega
    · go_wp2
      go_ret
      exact ⟨rfl, _, rfl⟩
end Go.Proofs.Ytfmmpmpafgbidaa.Rv

/- The reference's Same of two slices of ints, as a contract. -/
import Derived.Test.YthhnemanaciikaaInts
namespace Go.Proofs.Ythhnemanaciikaa.Ints
open Go.RowKit Rec

set_option maxHeartbeats 800000 in
set_option maxRecDepth 100000 in
/-- Are two lists one? -/
theorem isame_any (A A' : Option Addr) (n n' c c' B B' : Nat) (l m : List Int) (w : World) (hn : n ≤ 4398046511104) (h1 : RRow intS w B A n l) (h2 : RRow intS w B' A' n' m) :
    Calls Try.prog 7 #[.slice A n c, .slice A' n' c'] w fun e w' => e = .returned (.bool (decide (l = m))) ∧ ∃ q, w' = w.drewN q := by
  have H1 := Lib.hid h1
  have H2 := Lib.hid h2
  clear h1 h2
  by_cases hl : n = n'
  · subst hl
    have HAG : Hid (∀ j, j < 0 → l[j]? = m[j]?) := fun j hj => by omega
    go_enter Try.func7, Try.ntmps7
    go_wp2
    go_loopw [5] (fun i wr => ∃ k q : Nat, k ≤ n ∧ i = .int .i64 (k : Int) ∧ Hid (∀ j, j < k → l[j]? = m[j]?) ∧ Hid (wr = w.drewN q)) (fun i _ => n - (intOf i).toNat)
    case atStart => exact ⟨0, 0, Nat.zero_le _, rfl, HAG, rfl⟩
    case round =>
      clear HAG
      obtain ⟨k, q, hk, rfl, HA, hw⟩ := hrel
      obtain rfl := hw.out
      clear hw
      by_cases hlt : k < n
      · obtain ⟨b, o, x, rfl, _, hx, hc1⟩ := int_at H1.out hlt
        obtain ⟨b', o', y, rfl, _, hy, hc2⟩ := int_at H2.out hlt
        by_cases hxy : x = y
        · subst hxy
          have HA2 : Hid (∀ j, j < k + 1 → l[j]? = m[j]?) := fun j hj => by
            rcases Nat.lt_or_ge j k with h | h
            · exact HA.out j h
            · obtain rfl : j = k := by omega
              rw [hx, hy]
          clear hx hy HA
          go_wp2
          go_quiet (fail)
          go_wp2
          go_roundw
          case rel => exact ⟨k + 1, _, by omega, by go_num, HA2, by unfold Hid; rfl⟩
          case measure => simp [intOf]; omega
        · have e1 : (x == y) = false := beq_eq_false_iff_ne.2 hxy
          have HD := Lib.hid (show decide (l = m) = false from decide_eq_false fun e => by rw [e, hy] at hx; injection hx with hx; exact hxy hx.symm)
          clear hx hy HA
          go_wp2
          go_quiet (fail)
          go_wp2
          go_ret
          exact ⟨by rw [HD.out]; rfl, q + nq, World.drewN_drewN w q nq⟩
      · have HD := Lib.hid (show decide (l = m) = true from decide_eq_true (List.ext_getElem? fun j => by
          rcases Nat.lt_or_ge j k with h | h
          · exact HA.out j h
          · rw [List.getElem?_eq_none (by have := H1.out.len; omega), List.getElem?_eq_none (by have := H2.out.len; omega)]))
        go_wp2
        go_ret
        exact ⟨by rw [HD.out]; rfl, _, rfl⟩
  · have e0 : ((n : Int) == (n' : Int)) = false := beq_eq_false_iff_ne.2 (by omega)
    have HD := Lib.hid (show decide (l = m) = false from decide_eq_false fun e => by have a := H1.out.len; have b := H2.out.len; rw [e] at a; omega)
    go_enter Try.func7, Try.ntmps7
    go_wp2
    go_ret
    exact ⟨by rw [HD.out]; rfl, 0, rfl⟩
end Go.Proofs.Ythhnemanaciikaa.Ints

/- Layer 5 (sample): Same of two slices of samples that read alike; SampleTakes as a walk. -/
import Derived.Test.YtefnpibikebmdaaSmpU
import Derived.Test.YtefnpibikebmdaaSmpA
namespace Go.Proofs.Ytefnpibikebmdaa.Smp
open Go.RowKit Var Fld

set_option maxHeartbeats 1600000 in
set_option maxRecDepth 100000 in
theorem alike_any (A A' : Option Addr) (n c c' B B' : Nat) (ss : List S) (w : World) (hn : n ≤ 4398046511104) (h1 : SRow w B A n ss) (h2 : SRow w B' A' n ss) :
    Calls Try.prog 14 #[.slice A n c, .slice A' n c'] w fun e w' => e = .returned (.bool true) ∧ ∃ q, w' = w.drewN q := by
  have H1 := Lib.hid h1
  have H2 := Lib.hid h2
  clear h1 h2
  go_enter Try.func14, Try.ntmps14
  go_wp2
  go_loopw [5] (fun i wr => ∃ k q : Nat, k ≤ n ∧ i = .int .i64 (k : Int) ∧ Hid (wr = w.drewN q)) (fun i _ => n - (intOf i).toNat)
  case atStart => exact ⟨0, 0, Nat.zero_le _, rfl, rfl⟩
  case round =>
    obtain ⟨k, q, hk, rfl, hw⟩ := hrel
    obtain rfl := hw.out
    clear hw
    by_cases hlt : k < n
    · obtain ⟨b, o, s, rfl, _, hs, _, c0, c1, c2⟩ := H1.out.at hlt
      obtain ⟨b', o', s', rfl, _, hs', _, d0, d1, d2⟩ := H2.out.at hlt
      rw [hs] at hs'
      injection hs' with hs'
      subst hs'
      clear hs
      go_wp2_with fail
      go_quiet (fail)
      go_wp2
      go_roundw
      case rel => exact ⟨k + 1, _, by omega, by go_num, by unfold Hid; rfl⟩
      case measure => simp [intOf]; omega
    · go_wp2
      go_ret
      exact ⟨rfl, _, rfl⟩

theorem tkL_good {bs : List Int} {k : Int} (hb : ∀ x ∈ bs, 0 ≤ x ∧ x ≤ 255) : good (tkL bs k) = true ∧ (tkL bs k).length ≤ 2048 := by
  unfold tkL
  by_cases he : tkE bs k = 0
  · rw [if_pos he]
    unfold tkE at he
    split at he
    · omega
    · rename_i hk
      obtain ⟨a, b, _⟩ := tk_ok k.toNat [] bs hb good_nil he
      refine ⟨a, ?_⟩
      rw [b]
      simp
      omega
  · rw [if_neg he]
    exact ⟨good_nil, by simp⟩
theorem tkL_ok {bs : List Int} {k : Int} (hb : ∀ x ∈ bs, 0 ≤ x ∧ x ≤ 255) : ∀ s ∈ tkL bs k, s.ok := fun _ hs => may_ok (good_may (tkL_good hb).1 hs)
theorem tkL_len {bs : List Int} {k : Int} (hb : ∀ x ∈ bs, 0 ≤ x ∧ x ≤ 255) : (tkL bs k).length ≤ 2048 := (tkL_good hb).2

set_option maxHeartbeats 1600000 in
set_option maxRecDepth 100000 in
theorem takes_walk (A : Option Addr) (n c : Nat) (bs : List Int) (k : Int) (w : World) (h : Row .u8 w w.heap.size A n bs) (hnil : A = none → c = 0) (hnc : n ≤ c) (hn : n ≤ maxLen) (hbyt : ∀ x ∈ bs, 0 ≤ x ∧ x ≤ 255) :
    Calls Try.prog 4 #[.slice A n c, .int .i64 k] w fun e w' => e = .returned (.bool true) ∧ Below w.heap.size w w' := by
  have H := Lib.hid h
  have HN := Lib.hid hn
  have HI := Lib.hid hnil
  have HC := Lib.hid hnc
  have HY := Lib.hid hbyt
  clear h hn hnil hnc hbyt
  go_enter Try.func4, Try.ntmps4
  go_wp2_with fail
  refine (awake_any _).mono ?_
  rintro e1 w1 ⟨rfl, hb1⟩
  have HB1 := Lib.hid hb1
  clear hb1
  by_cases hbig : 3000 < n
  · go_wp2
    go_ret
    exact ⟨rfl, HB1.out⟩
  · go_wp2_with fail
    refine (take_any A n c bs k w1 ((H.out.below HB1.out).more HB1.out.size) HI.out (by omega) HY.out).mono ?_
    rintro e2 w2 ⟨v2, rfl, hown2, hb2⟩
    obtain ⟨A2, c2, rfl, -⟩ := own3_slice hown2
    have HO2 := Lib.hid hown2
    have HB2 := Lib.hid (HB1.out.trans (hb2.mono HB1.out.size))
    clear hown2 hb2
    go_wp2_with fail
    refine (reftake_any A n c bs k w2 ((H.out.below HB2.out).more HB2.out.size) HI.out HC.out (by omega) HY.out).mono ?_
    rintro e3 w3 ⟨v3, rfl, hown3, hb3⟩
    obtain ⟨A3, c3, rfl, -⟩ := own3_slice hown3
    have hok : ∀ s ∈ tkL bs k, s.ok := fun s hs => tkL_ok HY.out s hs
    have hl := tkL_len HY.out (k := k)
    have R2 := Lib.hid ((SRow.of_own HO2.out hok).below hb3)
    have R3 := Lib.hid (SRow.of_own hown3 hok)
    have HL := Lib.hid hl
    have HB3 := Lib.hid (HB2.out.trans (hb3.mono HB2.out.size))
    clear hown3 hb3 hok hl HO2
    go_wp2_with fail
    refine (alike_any A2 A3 _ c2 c3 _ _ (tkL bs k) w3 (by have := HL.out; omega) R2.out R3.out).mono ?_
    rintro e4 w4 ⟨rfl, q, rfl⟩
    go_wp2
    go_ret
    have hb := HB3.out
    exact ⟨rfl, ⟨hb.os, hb.tape, hb.output, hb.size, hb.block⟩⟩
end Go.Proofs.Ytefnpibikebmdaa.Smp

/- What the functions of layer 1 (varint) and of its reference return, each for every input, as contracts over the program. -/
import Derived.Test.YtefnpibikebmdaaProg
import Derived.Test.YtefnpibikebmdaaBase
import Derived.Test.YtefnpibikebmdaaVarM
import Derived.WalkKit
import Derived.KernelRfl
import Derived.Deep.QuietTactic
import Derived.BigQuiet
import Derived.WalkMore
import Derived.ScopeJumps
namespace Go.Proofs.Ytefnpibikebmdaa.Var
open Go.RowKit

theorem info_u8 : (Try.prog.info? 5).map (fun i => (i.zero, i.size, i.bytes)) = some (some (.int .u8 0), 1, 1) := by kernel_rfl

def PutsTo (n : Nat) (w : World) (e : Ending) (w' : World) : Prop :=
  ∃ v, e = .returned v ∧ w'.ownsRow w.heap.size 5 1 v (put n).length ((put n).map (Value.int .u8)) ∧ Below w.heap.size w w'

set_option maxHeartbeats 800000 in
set_option maxRecDepth 100000 in
theorem put_any (n : Nat) (hn : n < 18446744073709551616) (w : World) :
    Calls Try.prog 39 #[.int .u64 (n : Int)] w (PutsTo n w) := by
  obtain ⟨i0, hi, hz0, hz1, hz2⟩ := info_parts info_u8
  have hL := put_len10 hn
  have HN := Lib.hid hn
  clear hn
  go_enter Try.func39, Try.ntmps39
  go_wp2
  go_loopw [0, 3] (fun a v wr => ∃ (m : Nat) (xs : List Int), a = .int .u64 (m : Int) ∧ m ≤ n ∧ Hid (put n = xs ++ put m) ∧ wr.ownsRow w.heap.size 5 1 v xs.length (xs.map (Value.int .u8)) ∧ Below w.heap.size w wr)
    (fun a _ _ => (intOf a).toNat)
  case atStart => exact ⟨n, [], rfl, Nat.le_refl _, rfl, World.ownsRow_nil _ _ _ _, Below.refl _ _⟩
  case round =>
    obtain ⟨m, xs, rfl, hm, HP, hown, hbl⟩ := hrel
    have hsz := hbl.size
    have hpl : xs.length + (put m).length ≤ 10 := by
      have := congrArg List.length HP.out
      simp at this
      omega
    have hpp := put_pos m
    by_cases hlt : m < 128
    · have hw8 : IntKind.u8.wrap (m : Int) = (m : Int) := by rw [IntKind.wrap_u8']; omega
      have Hm := Lib.hid (put_last hlt)
      go_wp2_with (at_builtin; refine push_own rfl (.tmp 15) (.tmp 18) 24 rfl w.heap.size 5 i0 .u8 1 Try.underlying24 hi hz0 hz1 hz2 _ xs.length xs (m : Int) rfl hown rfl (by omega) (by omega) hsz ?_; intro v1 w1 hown1 hb1)
      go_ret
      exact ⟨v1, rfl, by rw [HP.out, Hm.out]; simpa using hown1, hbl.trans hb1⟩
    · have hd : m / 128 ≤ n := by omega
      have Hm := Lib.hid (put_more hlt)
      have hw8 : IntKind.u8.wrap ((m : Int) % 128) = (m : Int) % 128 := by rw [IntKind.wrap_u8']; omega
      have hwd : IntKind.u64.wrap ((m : Int) / 128) = (m : Int) / 128 := IntWalk.u64_in _ ⟨by omega, by have := HN.out; omega⟩
      have hor := u8_or128_right ((m : Int) % 128) (by omega) (by omega)
      go_wp2_with (at_builtin; refine push_own rfl (.tmp 6) (.tmp 11) 24 rfl w.heap.size 5 i0 .u8 1 Try.underlying24 hi hz0 hz1 hz2 _ xs.length xs ((m : Int) % 128 + 128) rfl hown rfl (by omega) (by omega) hsz ?_; intro v1 w1 hown1 hb1)
      go_roundw
      case rel => exact ⟨m / 128, xs ++ [((m % 128 : Nat) : Int) + 128], by go_num, hd, by unfold Hid; rw [HP.out, Hm.out]; simp, by simpa using hown1, hbl.trans hb1⟩
      case measure => simp [intOf]; omega

set_option maxHeartbeats 800000 in
set_option maxRecDepth 100000 in
theorem refput_any (n : Nat) (hn : n < 18446744073709551616) (w : World) :
    Calls Try.prog 30 #[.int .u64 (n : Int)] w (PutsTo n w) := by
  obtain ⟨i0, hi, hz0, hz1, hz2⟩ := info_parts info_u8
  have hL := put_len10 hn
  have HN := Lib.hid hn
  clear hn
  go_enter Try.func30, Try.ntmps30
  go_wp2
  go_loopw [0, 3] (fun a v wr => ∃ (m : Nat) (xs : List Int), a = .int .u64 (m : Int) ∧ m ≤ n ∧ Hid (put n = xs ++ put m) ∧ wr.ownsRow w.heap.size 5 1 v xs.length (xs.map (Value.int .u8)) ∧ Below w.heap.size w wr)
    (fun a _ _ => (intOf a).toNat)
  case atStart => exact ⟨n, [], rfl, Nat.le_refl _, rfl, World.ownsRow_nil _ _ _ _, Below.refl _ _⟩
  case round =>
    obtain ⟨m, xs, rfl, hm, HP, hown, hbl⟩ := hrel
    have hsz := hbl.size
    have hpl : xs.length + (put m).length ≤ 10 := by
      have := congrArg List.length HP.out
      simp at this
      omega
    have hpp := put_pos m
    by_cases hlt : m < 128
    · have hw8 : IntKind.u8.wrap (m : Int) = (m : Int) := by rw [IntKind.wrap_u8']; omega
      have Hm := Lib.hid (put_last hlt)
      go_wp2_with (at_builtin; refine push_own rfl (.tmp 15) (.tmp 18) 24 rfl w.heap.size 5 i0 .u8 1 Try.underlying24 hi hz0 hz1 hz2 _ xs.length xs (m : Int) rfl hown rfl (by omega) (by omega) hsz ?_; intro v1 w1 hown1 hb1)
      go_ret
      exact ⟨v1, rfl, by rw [HP.out, Hm.out]; simpa using hown1, hbl.trans hb1⟩
    · have hd : m / 128 ≤ n := by omega
      have Hm := Lib.hid (put_more hlt)
      have hw6 : IntKind.u64.wrap (128 + (m : Int) % 128) = 128 + (m : Int) % 128 := IntWalk.u64_in _ ⟨by omega, by omega⟩
      have hw8 : IntKind.u8.wrap (128 + (m : Int) % 128) = (m : Int) % 128 + 128 := by rw [IntKind.wrap_u8']; omega
      have hwd : IntKind.u64.wrap ((m : Int) / 128) = (m : Int) / 128 := IntWalk.u64_in _ ⟨by omega, by have := HN.out; omega⟩
      go_wp2_with (at_builtin; refine push_own rfl (.tmp 6) (.tmp 11) 24 rfl w.heap.size 5 i0 .u8 1 Try.underlying24 hi hz0 hz1 hz2 _ xs.length xs ((m : Int) % 128 + 128) rfl hown rfl (by omega) (by omega) hsz ?_; intro v1 w1 hown1 hb1)
      go_roundw
      case rel => exact ⟨m / 128, xs ++ [((m % 128 : Nat) : Int) + 128], by go_num, hd, by unfold Hid; rw [HP.out, Hm.out]; simp, by simpa using hown1, hbl.trans hb1⟩
      case measure => simp [intOf]; omega

set_option maxHeartbeats 800000 in
set_option maxRecDepth 100000 in
/-- Two slices that read alike are the same. -/
theorem same_yes (A A' : Option Addr) (n c c' B B' : Nat) (xs : List Int) (w : World) (hn : n ≤ 4398046511104) (h1 : Row .u8 w B A n xs) (h2 : Row .u8 w B' A' n xs) :
    Calls Try.prog 9 #[.slice A n c, .slice A' n c'] w fun e w' => e = .returned (.bool true) ∧ ∃ q, w' = w.drewN q := by
  have H1 := Lib.hid h1
  have H2 := Lib.hid h2
  clear h1 h2
  go_enter Try.func9, Try.ntmps9
  go_wp2
  go_loopw [5] (fun i wr => ∃ k q : Nat, k ≤ n ∧ i = .int .i64 (k : Int) ∧ Hid (wr = w.drewN q)) (fun i _ => n - (intOf i).toNat)
  case atStart => exact ⟨0, 0, Nat.zero_le _, rfl, rfl⟩
  case round =>
    obtain ⟨k, q, hk, rfl, hw⟩ := hrel
    obtain rfl := hw.out
    clear hw
    by_cases hlt : k < n
    · obtain ⟨b, o, rfl, _, hc1⟩ := H1.out.cell_at hlt
      obtain ⟨b', o', rfl, _, hc2⟩ := H2.out.cell_at hlt
      go_wp2
      go_quiet (fail)
      go_wp2
      go_roundw
      case rel => exact ⟨k + 1, _, by omega, by go_num, by unfold Hid; rfl⟩
      case measure => simp [intOf]; omega
    · go_wp2
      go_ret
      exact ⟨rfl, _, rfl⟩
end Go.Proofs.Ytefnpibikebmdaa.Var

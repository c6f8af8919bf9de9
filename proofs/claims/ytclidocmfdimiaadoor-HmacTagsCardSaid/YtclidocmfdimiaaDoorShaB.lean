/- Layer 7 (sha): the program's behind (what follows the bytes), as a contract. -/
import Derived.Test.YtclidocmfdimiaaDoorShaP
import Derived.OwnWalk
namespace Go.Proofs.YtclidocmfdimiaaDoor.Sha
open Go.RowKit

/-- What follows n bytes. -/
def tail (n : Nat) : List Int := 128 :: List.replicate (zeros n) 0 ++ be 8 (8 * n)
theorem pad_tail (b : List Int) : pad b = b ++ tail b.length := by simp [pad, stem, tail]
theorem tail_len (n : Nat) : (tail n).length = 9 + zeros n := by simp [tail, be_len]; omega
theorem tail_byt (n : Nat) : ∀ x ∈ tail n, 0 ≤ x ∧ x ≤ 255 := by
  intro x hx
  unfold tail at hx
  simp only [List.cons_append, List.mem_append, List.mem_cons, List.mem_replicate] at hx
  rcases hx with rfl | ⟨_, rfl⟩ | hx
  · omega
  · omega
  · exact be_byt _ _ x hx
theorem be_take (m k : Nat) (hk : k < 8) : (be 8 m).take (k + 1) = (be 8 m).take k ++ [((m / 256 ^ (7 - k) % 256 : Nat) : Int)] := by
  obtain rfl | rfl | rfl | rfl | rfl | rfl | rfl | rfl : k = 0 ∨ k = 1 ∨ k = 2 ∨ k = 3 ∨ k = 4 ∨ k = 5 ∨ k = 6 ∨ k = 7 := by omega
  all_goals rfl
theorem pow_256 (j : Nat) : 256 ^ j = 2 ^ (8 * j) := by rw [Nat.pow_mul]

theorem made_zeros (m : Nat) : (madeCells (Value.int .u8 0).cells (m * 1)).toList = (List.replicate m (0 : Int)).map (Value.int .u8) := by
  apply List.ext_getElem
  · simp [madeCells]
  · intro i h1 h2
    simp [madeCells, Value.cells, Nat.mod_one]

set_option maxHeartbeats 1600000 in
set_option maxRecDepth 100000 in
theorem behind_any (n : Nat) (w : World) (hn : n ≤ 1099511627776) :
    Calls Tryd.prog 22 #[.int .u64 (n : Int)] w fun e w' => ∃ v, e = .returned v ∧ w'.ownsRow w.heap.size 5 1 v (9 + zeros n) ((tail n).map (Value.int .u8)) ∧ Below w.heap.size w w' := by
  obtain ⟨i0, hi, hz0, hz1, hz2⟩ := parts_of info8
  obtain ⟨z, hzz⟩ : ∃ z, zeros n = z := ⟨_, rfl⟩
  have hz : z < 64 := by rw [← hzz]; exact zeros_le n
  have a1 : IntKind.u64.wrap (119 - (n : Int) % 64) = 119 - (n : Int) % 64 := IntWalk.u64_in _ ⟨by omega, by omega⟩
  have a2 : (119 - (n : Int) % 64) % 64 = (z : Int) := by rw [← hzz]; unfold zeros; omega
  have a3 : IntKind.u64.wrap (1 + (z : Int)) = ((z + 1 : Nat) : Int) := by rw [IntWalk.u64_in _ ⟨by omega, by omega⟩]; omega
  rw [hzz]
  have HZ := Lib.hid hzz
  clear hzz
  go_enter Tryd.func22, Tryd.ntmps22
  go_wp2_with (first
        | (at_make; refine wpList_make_full _ rfl _ _ 22 rfl w.heap.size 5 i0 (.int .u8 0) 1 Tryd.underlying22 hi hz0 hz1 _ _ _ _ (z + 1) rfl rfl rfl rfl (by rw [hz2]; omega) (by unfold maxLen; omega) (Nat.le_refl _) ?_; intro w1 hown1 hg1; rw [made_zeros] at hown1; have HO1 := Lib.hid (hown1.stored 0 (.int .u8 128)).1; have HB1 := Lib.hid ((Below.refl w.heap.size w).grown hg1 (Nat.le_refl _) (fun j hj => by cases hj)); have k0 := hown1.cellAt 0 (by omega); have k1 := hown1.frozenAt 0; rw [List.replicate_succ] at k0; clear hown1 hg1))
  have HL : Hid (((List.replicate (z + 1) (0 : Int)).map (Value.int .u8)).set 0 (.int .u8 128) = ((128 :: List.replicate z 0) ++ (be 8 (8 * n)).take 0).map (Value.int .u8)) := by
    unfold Hid
    rw [List.replicate_succ]
    simp
  rw [HL.out] at HO1
  have HB2 := Lib.hid (HB1.out.setCell (p := ⟨w.heap.size, 0, none⟩) (Nat.le_refl _) (.int .u8 128))
  generalize w1.setCell ⟨w.heap.size, 0, none⟩ (.int .u8 128) = w2 at HO1 HB2 ⊢
  clear k0 k1 HL HB1 a1 a2 a3
  obtain ⟨Z, hZ⟩ : ∃ Z, 128 :: List.replicate z (0 : Int) = Z := ⟨_, rfl⟩
  rw [hZ] at HO1
  have HZ2 := Lib.hid hZ
  clear hZ
  have m8 : IntKind.u64.wrap (8 * (n : Int)) = 8 * (n : Int) := IntWalk.u64_in _ ⟨by omega, by omega⟩
  go_wp2_with fail
  go_loopw [4, 5] (fun v i wr => ∃ k : Nat, k ≤ 8 ∧ i = .int .i64 (56 - 8 * (k : Int)) ∧ Hid (wr.ownsRow w.heap.size 5 1 v (z + 1 + k) ((Z ++ (be 8 (8 * n)).take k).map (Value.int .u8))) ∧ Hid (Below w.heap.size w wr)) (fun _ i _ => (64 + intOf i).toNat)
  case atStart => exact ⟨0, Nat.zero_le _, rfl, HO1, HB2⟩
  case round =>
    obtain ⟨k, hk, rfl, HO, HB⟩ := hrel
    obtain ⟨A', c', rfl, -, -⟩ := own_slice HO.out
    by_cases hk8 : k < 8
    · obtain ⟨s, hs⟩ : ∃ s, 7 - k = s := ⟨_, rfl⟩
      have e1 : 56 - 8 * (k : Int) = ((8 * s : Nat) : Int) := by omega
      have hbt := be_take (8 * n) k hk8
      rw [hs, pow_256] at hbt
      rw [e1]
      have e2 : IntKind.i64.wrap (((8 * s : Nat) : Int) - 8) = 56 - 8 * ((k + 1 : Nat) : Int) := by rw [IntWalk.i64_in _ ⟨by omega, by omega⟩]; omega
      obtain ⟨T, hT⟩ : ∃ T, 8 * s = T := ⟨_, rfl⟩
      rw [hT] at hbt e2
      rw [hT]
      have hTb : T ≤ 56 := by omega
      have hT1 : (T : Int) ≤ 56 - 8 * (k : Int) := by omega
      have hT2 : 56 - 8 * (k : Int) ≤ (T : Int) := by omega
      have e3 : (0 : Int) ≤ (T : Int) := by omega
      have hv : IntKind.u8.wrap (8 * (n : Int) / 2 ^ T) = ((8 * n / 2 ^ T % 256 : Nat) : Int) := by rw [IntKind.wrap_u8']; norm_cast
      obtain ⟨x, hx⟩ : ∃ x, 8 * n / 2 ^ T % 256 = x := ⟨_, rfl⟩
      rw [hx] at hbt hv
      have HBT := Lib.hid hbt
      have HK := Lib.hid hk8
      clear hbt hs e1 hT hx
      go_wp2_with (at_builtin; refine push_own rfl (.tmp 19) (.tmp 25) 22 rfl w.heap.size 5 i0 .u8 1 Tryd.underlying22 hi hz0 hz1 hz2 _ (z + 1 + k) (Z ++ (be 8 (8 * n)).take k) (x : Int) rfl HO.out rfl (by omega) (by omega) HB.out.size ?_; intro v3 w3 hown3 hb3; have HO3 := Lib.hid hown3; have HB3 := Lib.hid (HB.out.trans hb3); clear hown3 hb3)
      go_roundw
      case rel =>
        refine ⟨k + 1, by omega, congrArg (Value.int .i64) (by omega), ?_, HB3.out⟩
        rw [HBT.out, ← List.append_assoc]
        exact HO3.out
      case measure => simp [intOf]; omega
    · obtain rfl : k = 8 := by omega
      go_wp2
      go_ret
      refine ⟨_, rfl, ?_, HB.out⟩
      have e : tail n = Z ++ (be 8 (8 * n)).take 8 := by
        unfold tail
        rw [HZ.out, HZ2.out]
        rfl
      rw [e, show 9 + z = z + 1 + 8 by omega]
      exact HO.out
end Go.Proofs.YtclidocmfdimiaaDoor.Sha

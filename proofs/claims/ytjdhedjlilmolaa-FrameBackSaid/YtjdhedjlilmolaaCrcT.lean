/- What crc.table returns, as a contract over the program. -/
import Derived.Test.YtjdhedjlilmolaaProg
import Derived.Test.YtjdhedjlilmolaaBase
import Derived.Test.YtjdhedjlilmolaaCrcM
import Derived.WalkKit
import Derived.KernelRfl
import Derived.WalkMore
import Derived.Deep.WholeRow
import Derived.Laws.ResultCell
namespace Go.Proofs.Ytjdhedjlilmolaa.Crc
open Go.RowKit

/-- The table's cells, the first i filled. -/
def cells (i : Nat) : Array Value := ((tab i).map (Value.int .u32)).toArray
theorem cells_size (i : Nat) : (cells i).size = 16 := by simp [cells, tab]
theorem tab_next {i : Nat} (hi : i < 16) : (tab i).set i ((steps 4 i : Nat) : Int) = tab (i + 1) := by
  apply List.ext_getElem?
  intro j
  simp only [tab, List.getElem?_set, List.length_map, List.length_range, List.getElem?_map]
  by_cases h : i = j
  · subst h; simp [hi]
  · by_cases hj : j < 16
    · have : j < i + 1 ↔ j < i := by omega
      simp [h, hj, this]
    · simp [h, hj]
theorem cells_next {i : Nat} (hi : i < 16) : (cells i).setIfInBounds i (.int .u32 ((steps 4 i : Nat) : Int)) = cells (i + 1) := by
  unfold cells
  rw [← tab_next hi]
  simp
theorem cells_one (i : Nat) : (cells i).all (·.oneCell') = true := by simp [cells, Value.oneCell']

theorem cells_at {i : Nat} (hi : i < 16) : (cells i)[i]? = some (.int .u32 0) := by simp [cells, tab, hi]

theorem heap_first (w : World) (o o' : Obj) : ((w.alloc o).alloc o').heap[w.heap.size]? = some o := by
  show ((w.heap.push o).push o')[w.heap.size]? = some o
  simp [Array.getElem?_push]
theorem results_cell {fn : Func} {p : Tmp} {ty : TypeId} (h : fn.results = #[.cell p ty]) (tmps : Array Value) (P : Program) (w : World) :
    (results fn tmps).run P w = ((asAddr (tmps.getD p undef)).run P w).andThen fun a w₁ => (loadVar ty a).run P w₁ := by
  simp only [results, h]
  simp [Sem.run_bind, Result.andThen]
theorem cells_full : cells 16 = #[.int .u32 0, .int .u32 498536548, .int .u32 997073096, .int .u32 651767980, .int .u32 1994146192, .int .u32 1802195444, .int .u32 1303535960, .int .u32 1342533948, .int .u32 3988292384, .int .u32 4027552580, .int .u32 3604390888, .int .u32 3412177804, .int .u32 2607071920, .int .u32 2262029012, .int .u32 2685067896, .int .u32 3183342108] := by
  have h : tab 16 = [0, 498536548, 997073096, 651767980, 1994146192, 1802195444, 1303535960, 1342533948, 3988292384, 4027552580, 3604390888, 3412177804, 2607071920, 2262029012, 2685067896, 3183342108] := by decide +kernel
  unfold cells
  rw [h]
  rfl
theorem cells_none : cells 0 = #[.int .u32 0, .int .u32 0, .int .u32 0, .int .u32 0, .int .u32 0, .int .u32 0, .int .u32 0, .int .u32 0, .int .u32 0, .int .u32 0, .int .u32 0, .int .u32 0, .int .u32 0, .int .u32 0, .int .u32 0, .int .u32 0] := by rfl

set_option maxHeartbeats 1000000 in
set_option maxRecDepth 100000 in
theorem table_any (w : World) :
    Calls Try.prog 28 #[] w fun e w' => e = .returned (.agg (cells 16)) ∧ Below w.heap.size w w' := by
  go_enter Try.func28, Try.ntmps28
  go_wp2
  go_loopw [5] (fun a wr => ∃ i : Nat, i ≤ 16 ∧ a = .int .i64 (i : Int) ∧ Hid (wr = (w.alloc (.cells (cells 0) 52)).alloc (.cells (cells i) 52))) (fun a _ => 16 - (intOf a).toNat)
  case atStart => exact ⟨0, Nat.zero_le _, rfl, rfl⟩
  case round =>
    obtain ⟨i, hi, rfl, hw⟩ := hrel
    obtain rfl := hw.out
    clear hw
    by_cases hlt : i < 16
    · have hc := Lib.hid (cells_next hlt)
      go_wp2
      go_loop [10, 3] (fun a b => ∃ k r : Nat, k ≤ 4 ∧ a = .int .i64 (k : Int) ∧ b = .int .u32 (r : Int) ∧ Hid (r = steps k i ∧ r < 4294967296)) (fun a _ => 4 - (intOf a).toNat)
      case atStart => exact ⟨0, i, Nat.zero_le _, rfl, by go_num, by unfold Hid; exact ⟨rfl, by omega⟩⟩
      case round =>
        obtain ⟨k, r, hk, rfl, rfl, HR⟩ := hrel
        by_cases hlt4 : k < 4
        · have hr := HR.out.2
          have hxor : bits .xor .u32 ((r : Int) / 2) 3988292384 = ((r / 2 ^^^ 3988292384 : Nat) : Int) := u32_xor_nat (r / 2) 3988292384 (by omega) (by omega)
          by_cases hodd : r % 2 = 1
          · have ho : ((r : Int) % 2 == 1) = true := by simp; omega
            go_wp2
            go_round
            case rel => exact ⟨k + 1, step r, by omega, by go_num, by unfold step; rw [if_pos hodd], by unfold Hid; exact ⟨by rw [HR.out.1]; rfl, step_lt hr⟩⟩
            case measure => simp [intOf]; omega
          · have ho : ((r : Int) % 2 == 1) = false := by simp; omega
            go_wp2
            go_round
            case rel => exact ⟨k + 1, step r, by omega, by go_num, by unfold step; rw [if_neg hodd]; go_num, by unfold Hid; exact ⟨by rw [HR.out.1]; rfl, step_lt hr⟩⟩
            case measure => simp [intOf]; omega
        · obtain rfl : k = 4 := by omega
          have hat := cells_at hlt
          go_wp2
          refine ⟨⟨i + 1, by omega, by go_num, by unfold Hid; rw [← hc.out, ← HR.out.1]⟩, by simp [intOf]; omega⟩
    · obtain rfl : i = 16 := by omega
      have hld := run_loadVar_row (P := Try.prog) ((w.alloc (.cells (cells 16) 52)).alloc (.cells (cells 16) 52)) w.heap.size 52 52 (cells 16) (0, 0) _ (heap_first w _ _) Try.underlying52 rfl (by kernel_rfl)
      have Hld := Lib.hid hld
      clear hld
      rw [cells_full, cells_none]
      go_wp2
      (try simp only [Exit.inBlock, Exit.then])
      rw [cells_full] at Hld
      refine bodyPost_ret (v := .agg (cells 16)) ?_ rfl ⟨rfl, (Below.refl _ _).alloc (Nat.le_refl _) _ |>.alloc (by simp) _⟩
      rw [results_cell rfl, cells_full]
      simp [asAddr, Result.andThen, Hld.out]
end Go.Proofs.Ytjdhedjlilmolaa.Crc

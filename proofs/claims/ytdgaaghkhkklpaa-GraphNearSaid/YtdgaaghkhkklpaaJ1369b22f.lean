/- Lemmas that the proof stands on, in build order: Slc CrcT CrcW. -/
import Derived.Test.YtdgaaghkhkklpaaProg
import Derived.WalkKit
import Derived.KernelRfl
import Derived.WalkMore
import Derived.Lib.Walk
import Derived.Lib.SliceRun
import Derived.Lib.AppendZerosOnto
import Derived.Laws.BytesArg
import Derived.Lib.Bytes
import Derived.Deep.WholeRow
import Derived.Laws.ResultCell
import Derived.Test.YtdgaaghkhkklpaaJ12c8aa12
import Derived.Test.YtdgaaghkhkklpaaJ14943df
import Derived.Test.YtdgaaghkhkklpaaJ7fe623b
/- Calls into Go's library on slices of bytes, as contracts over the program: slices.Grow of nil, slices.Concat, slices.Clone, bytes.Equal. -/
namespace Go.Proofs.Ytdgaaghkhkklpaa.Slc
open Go.RowKit


set_option maxHeartbeats 800000 in
set_option maxRecDepth 100000 in
/-- slices.Grow of nil: no elements, room for n. -/
theorem grow_nil (n : Nat) (hn : n ≤ 4398046511104) (w : World) :
    Calls Try.prog 62 #[.slice none 0 0, .int .i64 (n : Int)] w fun e w' =>
      ∃ v, e = .returned v ∧ w'.ownsRow w.heap.size 5 1 v 0 (([] : List Int).map (Value.int .u8)) ∧ Below w.heap.size w w' := by
  obtain ⟨i0, hi, hz0, hz1, hz2⟩ := info_parts info_u8
  by_cases h0 : n = 0
  · subst h0
    go_enter Try.func62, Try.ntmps62
    go_wp2
    go_ret
    exact ⟨_, rfl, World.ownsRow_nil _ _ _ _, Below.refl _ _⟩
  · have hold : (Builtin.firstCells i0.size 0 (.slice none 0 0)).run Try.prog w.drew = .ok ([] : List Value).toArray w.drew := run_firstCells_none w.drew i0.size 0 0 0
    have hrz : ∀ ty, (Builtin.append_ #[26, 3] ty #[.slice none 0 0, .int .i64 (n : Int)]).run Try.prog w = _ := fun ty =>
      Lib.run_append_grow_zeros w 26 3 ty 5 i0 (.int .u8 0) .i64 .i64 Try.underlying26 Try.underlying3 hi hz0 none 0 0 [] hold n (by omega) (by omega) (by omega) (by omega) (by rw [hz2]; omega) (growslice_fits (by omega) (by rw [hz2]; omega))
    have hge := grownCap_ge w (0 + n) 0 5
    have hle := grownCap_le_maxLen w (0 + n) 0 5 (by unfold maxLen; omega)
    generalize grownCap w (0 + n) 0 5 = G at *
    have hle' : G ≤ 9223372036854775807 := by unfold maxLen at hle; omega
    go_enter Try.func62, Try.ntmps62
    go_wp2_with (at_builtin; refine Lib.wpList_append_run _ rfl _ _ _ _ rfl _ _ rfl rfl _ _ (hrz _) ?_)
    go_ret
    refine ⟨_, rfl, ⟨rfl, .inr ⟨w.heap.size, G, _, rfl, Nat.le_refl _, Array.getElem?_push_size, Nat.zero_le _, hle, ?_, by simp⟩⟩, (Below.refl w.heap.size w).drew.alloc (Nat.le_refl _) _⟩
    simp [size_zeroCells]
    omega

set_option maxHeartbeats 1600000 in
set_option maxRecDepth 100000 in
/-- slices.Concat: all parts, one behind the other, in a row of its own. -/
theorem concat_any (L : List Part) (g c B : Nat) (w : World) (hc : ∀ j (h : j < L.length), w.cell? ⟨g, j, none⟩ = some (L[j]).v) (hL : ∀ p ∈ L, p.Right w B) (hB : B ≤ w.heap.size) (hg : g < w.heap.size) (ht : total L ≤ 4398046511104) (hl : L.length ≤ 1000000) :
    Calls Try.prog 42 #[.slice (some ⟨g, 0, none⟩) L.length c] w fun e w' =>
      ∃ v, e = .returned v ∧ w'.ownsRow w.heap.size 5 1 v (total L) ((whole L).map (Value.int .u8)) ∧ Below w.heap.size w w' := by
  obtain ⟨i0, hi, hz0, hz1, hz2⟩ := info_parts info_u8
  have HC := Lib.hid hc
  have HL := Lib.hid hL
  clear hc hL
  go_enter Try.func42, Try.ntmps42
  go_wp2
  go_loop [11, 3] (fun a s => ∃ i : Nat, i ≤ L.length ∧ a = .int .i64 (i : Int) ∧ s = .int .i64 (total (L.take i) : Int)) (fun a _ => L.length - (intOf a).toNat)
  case atStart => exact ⟨0, Nat.zero_le _, rfl, by simp [total]⟩
  case round =>
    obtain ⟨i, hle, rfl, rfl⟩ := hrel
    by_cases hlt : i < L.length
    · have h1 := HC.out i hlt
      have h2 := total_next hlt
      have h3 := total_le L (i + 1)
      unfold Part.v at h1
      generalize L[i] = p at *
      obtain ⟨A, n, c1, xs⟩ := p
      generalize total (L.take i) = t at *
      have h4 : total (L.take (i + 1)) ≤ 4398046511104 := by omega
      obtain ⟨t1, H1⟩ : ∃ t1, Hid (t1 = total (L.take (i + 1))) := ⟨_, Lib.hid rfl⟩
      rw [← H1.out] at h2 h4
      have h5 : t1 = t + n := h2
      have hw : IntKind.i64.wrap ((t : Int) + (n : Int)) = (t1 : Int) := by rw [IntWalk.i64_in _ ⟨by omega, by omega⟩]; omega
      clear h2 h3 h4 h5
      go_wp2
      go_round
      case rel => exact ⟨i + 1, by omega, by go_num, by rw [H1.out]⟩
      case measure => simp [intOf]; omega
    · obtain rfl : i = L.length := by omega
      rw [List.take_length]
      go_wp2_with fail
      refine (grow_nil (total L) ht w).mono ?_
      rintro e1 w1 ⟨v1, rfl, hown1, hb1⟩
      have HB1 := Lib.hid hb1
      have HO1 := Lib.hid hown1
      clear hb1 hown1
      go_wp2_with fail
      go_loopw [27, 6] (fun a v wr => ∃ i : Nat, i ≤ L.length ∧ a = .int .i64 (i : Int) ∧ Hid (wr.ownsRow w.heap.size 5 1 v (total (L.take i)) ((whole (L.take i)).map (Value.int .u8))) ∧ Hid (Below w.heap.size w wr)) (fun a _ _ => L.length - (intOf a).toNat)
      case atStart => exact ⟨0, Nat.zero_le _, rfl, by simpa [total, whole] using HO1, HB1⟩
      case round =>
        obtain ⟨i, hle, rfl, HO, HB⟩ := hrel
        by_cases hlt : i < L.length
        · have h1 := (HB.out.cell (p := ⟨g, i, none⟩) hg).trans (HC.out i hlt)
          have h2 := Lib.hid (total_next hlt)
          have h2' := Lib.hid (whole_next hlt)
          have h3 := total_le L (i + 1)
          obtain ⟨hr, hnil⟩ := HL.out _ (List.getElem_mem hlt)
          have hsum := total_next hlt
          unfold Part.v at h1
          generalize L[i] = p at *
          obtain ⟨A, n, c1, xs⟩ := p
          have hrow : Hid (Row .u8 wr B A n xs) := hr.below (HB.out.mono hB)
          have hsz := HB.out.size
          have hsm : total (L.take i) + n ≤ 4398046511104 := by simp only at hsum; omega
          have HN := Lib.hid hnil
          clear hr hnil hsum h3
          go_wp2_with (at_builtin; refine cat_own rfl (.tmp 31) (.tmp 32) 26 rfl w.heap.size 5 i0 .u8 1 Try.underlying26 hi hz0 hz1 hz2 _ (total (L.take i)) (whole (L.take i)) rfl HO.out B A n c1 xs rfl HN.out hrow.out hsm (by omega) hsz ?_; intro v2 w2 hown2 hb2; have HO2 := Lib.hid hown2; have HB2 := Lib.hid (HB.out.trans hb2); clear hown2 hb2)
          go_roundw
          case rel => exact ⟨i + 1, by omega, by go_num, by unfold Hid; rw [h2.out, h2'.out]; exact HO2.out, HB2⟩
          case measure => simp [intOf]; omega
        · obtain rfl : i = L.length := by omega
          rw [List.take_length] at HO
          go_wp2
          go_ret
          exact ⟨_, rfl, HO.out, HB.out⟩

set_option maxRecDepth 100000 in
/-- Bytes as a string. -/
theorem convert_row {A : Option Addr} {n c B : Nat} {xs : List Int} {w : World} (hr : Row .u8 w B A n xs) : (convert 26 9 (.slice A n c)).run Try.prog w = .ok (.string (strOfNums xs)) w := by
  rcases A with _ | a
  · have hm : n = 0 := by
      rcases Nat.eq_zero_or_pos n with h0 | h0
      · exact h0
      · obtain ⟨_, _, h1, _⟩ := hr.2 h0
        cases h1
    subst hm
    have hx : xs = [] := List.eq_nil_of_length_eq_zero hr.1
    subst hx
    exact run_convert_bytes_nil (P := Try.prog) w 26 5 Try.underlying26 Try.underlying5 0 c 9 Try.underlying9
  · rcases Nat.eq_zero_or_pos n with h0 | h0
    · subst h0
      have hx : xs = [] := List.eq_nil_of_length_eq_zero hr.1
      subst hx
      rw [run_convert_bytes_string w 26 9 5 _ 0 c Try.underlying26 Try.underlying5 Try.underlying9]
      simp [Conv.bytesToString, loadCells, loadCellsFrom, strOfNums]
      rfl
    · obtain ⟨b, o, he, _, hc⟩ := hr.2 h0
      injection he with he
      subst he
      exact run_convert_bytes_arg (P := Try.prog) w 26 5 Try.underlying26 Try.underlying5 b o n c xs hr.1 hc 9 Try.underlying9

theorem strOfNums_inj {xs ys : List Int} (hx : ∀ x ∈ xs, 0 ≤ x ∧ x ≤ 255) (hy : ∀ x ∈ ys, 0 ≤ x ∧ x ≤ 255) (h : (strOfNums xs).toList = (strOfNums ys).toList) : xs = ys := by
  rw [Lib.strOfNums_toList, Lib.strOfNums_toList] at h
  unfold Lib.bytesOf at h
  have key : ∀ (xs ys : List Int), (∀ x ∈ xs, 0 ≤ x ∧ x ≤ 255) → (∀ x ∈ ys, 0 ≤ x ∧ x ≤ 255) → (xs.map fun n => UInt8.ofNat n.toNat) = (ys.map fun n => UInt8.ofNat n.toNat) → xs = ys := by
    intro xs
    induction xs with
    | nil => intro ys _ _ h; cases ys with
      | nil => rfl
      | cons y ys => simp at h
    | cons x xs ih =>
      intro ys hx hy h
      cases ys with
      | nil => simp at h
      | cons y ys =>
        simp only [List.map_cons, List.cons.injEq] at h
        have a1 := hx x (by simp)
        have a2 := hy y (by simp)
        have e := congrArg UInt8.toNat h.1
        simp only [UInt8.toNat_ofNat'] at e
        rw [ih ys (fun z hz => hx z (by simp [hz])) (fun z hz => hy z (by simp [hz])) h.2]
        congr 1
        omega
  exact key xs ys hx hy h

set_option maxHeartbeats 400000 in
set_option maxRecDepth 100000 in
/-- bytes.Equal. -/
theorem equal_any (A A' : Option Addr) (n c n' c' B B' : Nat) (xs ys : List Int) (w : World) (hr : Row .u8 w B A n xs) (hr' : Row .u8 w B' A' n' ys) (hx : ∀ x ∈ xs, 0 ≤ x ∧ x ≤ 255) (hy : ∀ x ∈ ys, 0 ≤ x ∧ x ≤ 255) :
    Calls Try.prog 66 #[.slice A n c, .slice A' n' c'] w fun e w' => e = .returned (.bool (decide (xs = ys))) ∧ w = w' := by
  have h1 := convert_row (c := c) hr
  have h2 := convert_row (c := c') hr'
  have h3 : ((strOfNums xs).toList == (strOfNums ys).toList) = decide (xs = ys) := by
    by_cases h : xs = ys
    · subst h; simp
    · simp only [h, decide_false]
      exact beq_eq_false_iff_ne.2 fun e => h (strOfNums_inj hx hy e)
  go_enter Try.func66, Try.ntmps66
  go_wp2
  go_ret
  exact ⟨by rw [← h3]; rfl, rfl⟩
end Go.Proofs.Ytdgaaghkhkklpaa.Slc

/- What crc.table returns, as a contract over the program. -/
namespace Go.Proofs.Ytdgaaghkhkklpaa.Crc
open Go.RowKit

/-- The table's cells, the first i filled. -/
def cells (i : Nat) : Array Value := ((tab i).map (Value.int .u32)).toArray
theorem cells_size (i : Nat) : (cells i).size = 16 := by simp [cells, tab]
theorem tab_next {i : Nat} (hi : i < 16) : (tab i).set i ((steps 4 i : Nat) : Int) = tab (i + 1) := by
  apply List.ext_getElem?
  intro j
  simp only [tab, List.getElem?_set, List.length_map, List.length_range, List.getElem?_map]
  by_cases h : i = j
  · subst h; simp [hi]
  · by_cases hj : j < 16
    · have : j < i + 1 ↔ j < i := by omega
      simp [h, hj, this]
    · simp [h, hj]
theorem cells_next {i : Nat} (hi : i < 16) : (cells i).setIfInBounds i (.int .u32 ((steps 4 i : Nat) : Int)) = cells (i + 1) := by
  unfold cells
  rw [← tab_next hi]
  simp
theorem cells_one (i : Nat) : (cells i).all (·.oneCell') = true := by simp [cells, Value.oneCell']

theorem cells_at {i : Nat} (hi : i < 16) : (cells i)[i]? = some (.int .u32 0) := by simp [cells, tab, hi]

theorem heap_first (w : World) (o o' : Obj) : ((w.alloc o).alloc o').heap[w.heap.size]? = some o := by
  show ((w.heap.push o).push o')[w.heap.size]? = some o
  simp [Array.getElem?_push]
theorem results_cell {fn : Func} {p : Tmp} {ty : TypeId} (h : fn.results = #[.cell p ty]) (tmps : Array Value) (P : Program) (w : World) :
    (results fn tmps).run P w = ((asAddr (tmps.getD p undef)).run P w).andThen fun a w₁ => (loadVar ty a).run P w₁ := by
  simp only [results, h]
  simp [Sem.run_bind, Result.andThen]
theorem cells_full : cells 16 = #[.int .u32 0, .int .u32 498536548, .int .u32 997073096, .int .u32 651767980, .int .u32 1994146192, .int .u32 1802195444, .int .u32 1303535960, .int .u32 1342533948, .int .u32 3988292384, .int .u32 4027552580, .int .u32 3604390888, .int .u32 3412177804, .int .u32 2607071920, .int .u32 2262029012, .int .u32 2685067896, .int .u32 3183342108] := by
  have h : tab 16 = [0, 498536548, 997073096, 651767980, 1994146192, 1802195444, 1303535960, 1342533948, 3988292384, 4027552580, 3604390888, 3412177804, 2607071920, 2262029012, 2685067896, 3183342108] := by decide +kernel
  unfold cells
  rw [h]
  rfl
theorem cells_none : cells 0 = #[.int .u32 0, .int .u32 0, .int .u32 0, .int .u32 0, .int .u32 0, .int .u32 0, .int .u32 0, .int .u32 0, .int .u32 0, .int .u32 0, .int .u32 0, .int .u32 0, .int .u32 0, .int .u32 0, .int .u32 0, .int .u32 0] := by rfl

set_option maxHeartbeats 1000000 in
set_option maxRecDepth 100000 in
theorem table_any (w : World) :
    Calls Try.prog 75 #[] w fun e w' => e = .returned (.agg (cells 16)) ∧ Below w.heap.size w w' := by
  go_enter Try.func75, Try.ntmps75
  go_wp2
  go_loopw [5] (fun a wr => ∃ i : Nat, i ≤ 16 ∧ a = .int .i64 (i : Int) ∧ Hid (wr = (w.alloc (.cells (cells 0) 124)).alloc (.cells (cells i) 124))) (fun a _ => 16 - (intOf a).toNat)
  case atStart => exact ⟨0, Nat.zero_le _, rfl, rfl⟩
  case round =>
    obtain ⟨i, hi, rfl, hw⟩ := hrel
    obtain rfl := hw.out
    clear hw
    by_cases hlt : i < 16
    · have hc := Lib.hid (cells_next hlt)
      go_wp2
      go_loop [10, 3] (fun a b => ∃ k r : Nat, k ≤ 4 ∧ a = .int .i64 (k : Int) ∧ b = .int .u32 (r : Int) ∧ Hid (r = steps k i ∧ r < 4294967296)) (fun a _ => 4 - (intOf a).toNat)
      case atStart => exact ⟨0, i, Nat.zero_le _, rfl, by go_num, by unfold Hid; exact ⟨rfl, by omega⟩⟩
      case round =>
        obtain ⟨k, r, hk, rfl, rfl, HR⟩ := hrel
        by_cases hlt4 : k < 4
        · have hr := HR.out.2
          have hxor : bits .xor .u32 ((r : Int) / 2) 3988292384 = ((r / 2 ^^^ 3988292384 : Nat) : Int) := u32_xor_nat (r / 2) 3988292384 (by omega) (by omega)
          by_cases hodd : r % 2 = 1
          · have ho : ((r : Int) % 2 == 1) = true := by simp; omega
            go_wp2
            go_round
            case rel => exact ⟨k + 1, step r, by omega, by go_num, by unfold step; rw [if_pos hodd], by unfold Hid; exact ⟨by rw [HR.out.1]; rfl, step_lt hr⟩⟩
            case measure => simp [intOf]; omega
          · have ho : ((r : Int) % 2 == 1) = false := by simp; omega
            go_wp2
            go_round
            case rel => exact ⟨k + 1, step r, by omega, by go_num, by unfold step; rw [if_neg hodd]; go_num, by unfold Hid; exact ⟨by rw [HR.out.1]; rfl, step_lt hr⟩⟩
            case measure => simp [intOf]; omega
        · obtain rfl : k = 4 := by omega
          have hat := cells_at hlt
          go_wp2
          refine ⟨⟨i + 1, by omega, by go_num, by unfold Hid; rw [← hc.out, ← HR.out.1]⟩, by simp [intOf]; omega⟩
    · obtain rfl : i = 16 := by omega
      have hld := run_loadVar_row (P := Try.prog) ((w.alloc (.cells (cells 16) 124)).alloc (.cells (cells 16) 124)) w.heap.size 124 124 (cells 16) (0, 0) _ (heap_first w _ _) Try.underlying124 rfl (by kernel_rfl)
      have Hld := Lib.hid hld
      clear hld
      rw [cells_full, cells_none]
      go_wp2
      (try simp only [Exit.inBlock, Exit.then])
      rw [cells_full] at Hld
      refine bodyPost_ret (v := .agg (cells 16)) ?_ rfl ⟨rfl, (Below.refl _ _).alloc (Nat.le_refl _) _ |>.alloc (by simp) _⟩
      rw [results_cell rfl, cells_full]
      simp [asAddr, Result.andThen, Hld.out]
end Go.Proofs.Ytdgaaghkhkklpaa.Crc

/- What crc.More and crc.Sum, crc.Bytes, and the reference's Sum and Bytes return, as contracts over the program. -/
namespace Go.Proofs.Ytdgaaghkhkklpaa.Crc
open Go.RowKit

theorem cells_get {j : Nat} (hj : j < 16) : (cells 16)[j]? = some (.int .u32 ((steps 4 j : Nat) : Int)) := by simp [cells, tab, hj]

theorem u32_in {x : Int} (h1 : 0 ≤ x) (h2 : x < 4294967296) : IntKind.u32.wrap x = x := by rw [IntKind.wrap_u32']; omega

set_option maxHeartbeats 1000000 in
set_option maxRecDepth 100000 in
theorem more_any (s : Nat) (hs : s < 4294967296) (A : Option Addr) (n c B : Nat) (xs : List Int) (w : World) (hr : Row .u8 w B A n xs) (hx : Bytes xs) (hB : B ≤ w.heap.size) (hn : n ≤ 4398046511104) :
    Calls Try.prog 73 #[.int .u32 (s : Int), .slice A n c] w fun e w' => e = .returned (.int .u32 ((more s xs : Nat) : Int)) ∧ Below w.heap.size w w' := by
  have HR := Lib.hid hr
  have HX := Lib.hid hx
  have hlen := hr.len
  have hnot := not_u32 hs
  clear hr hx
  go_enter Try.func73, Try.ntmps73
  go_wp2_with fail
  refine (table_any _).mono ?_
  rintro e w1 ⟨rfl, hb1⟩
  have HB1 := Lib.hid hb1
  clear hb1
  rw [cells_full]
  go_wp2
  rw [← cells_full]
  generalize hw2 : w1.alloc (Obj.cells (cells 16) 124) = w2
  have HC : Hid (∀ j, j < 16 → w2.cell? ⟨w1.heap.size, j, none⟩ = some (.int .u32 ((steps 4 j : Nat) : Int))) := by
    intro j hj
    rw [← hw2]
    simp [cells_get hj]
  have HB2 : Hid (Below w.heap.size w w2) := by rw [← hw2]; exact HB1.out.alloc HB1.out.size _
  have HR2 : Hid (Row .u8 w2 B A n xs) := Row.keep HR.out (fun p hp => HB2.out.cell (by omega))
  clear hw2 HR
  have hs' := inv_lt s
  go_loop [14, 6] (fun a b => ∃ i r : Nat, i ≤ n ∧ a = .int .i64 (i : Int) ∧ b = .int .u32 (r : Int) ∧ Hid (r < 4294967296 ∧ crc (inv s) xs = crc r (xs.drop i))) (fun a _ => n - (intOf a).toNat)
  case atStart => exact ⟨0, inv s, Nat.zero_le _, rfl, rfl, by unfold Hid; exact ⟨inv_lt s, by simp⟩⟩
  case round =>
    obtain ⟨i, r, hi, rfl, rfl, HI⟩ := hrel
    by_cases hlt : i < n
    · obtain ⟨b, o, rfl, _, hc1⟩ := HR2.out.cell_at hlt
      have hr := HI.out.1
      have h8 := HX.out.getD (i := i) (by omega)
      have HD := Lib.hid (crc_drop (xs := xs) (i := i) (by omega) r)
      have HU := Lib.hid (upd_eq r (xs.getD i 0))
      have HL := Lib.hid (upd_lt hr h8.1 h8.2)
      obtain ⟨x, hx⟩ : ∃ x : Nat, xs.getD i 0 = (x : Int) := ⟨(xs.getD i 0).toNat, by omega⟩
      rw [hx] at hc1 h8 HU HD HL
      clear hx
      have h8' : x < 256 := by omega
      have hwx := u32_in (x := (x : Int)) (by omega) (by omega)
      have hx1 := u32_xor_nat r x hr (by omega)
      have hl1 : r ^^^ x < 4294967296 := Nat.xor_lt_two_pow (n := 32) hr (by omega)
      have HU' : Hid (upd r (x : Int) = steps 4 (steps 4 (r ^^^ x))) := HU.out
      clear HU
      generalize r ^^^ x = r1 at *
      have hc2 := HC.out (r1 % 16) (by omega)
      have hl2 := steps_lt hl1 4
      have hx2 : bits .xor .u32 ((r1 : Int) / 16) ((steps 4 (r1 % 16) : Nat) : Int) = ((steps 4 r1 : Nat) : Int) := by
        rw [← steps4 r1]
        exact u32_xor_nat (r1 / 16) (steps 4 (r1 % 16)) (by omega) (steps_lt (by omega) 4)
      have HT1 : Hid (steps 4 (r1 % 16) < 4294967296) := steps_lt (by omega) 4
      generalize steps 4 r1 = r2 at *
      generalize steps 4 (r1 % 16) = t1 at *
      have hc3 := HC.out (r2 % 16) (by omega)
      have hl3 := steps_lt hl2 4
      have hx3 : bits .xor .u32 ((r2 : Int) / 16) ((steps 4 (r2 % 16) : Nat) : Int) = ((steps 4 r2 : Nat) : Int) := by
        rw [← steps4 r2]
        exact u32_xor_nat (r2 / 16) (steps 4 (r2 % 16)) (by omega) (steps_lt (by omega) 4)
      generalize steps 4 r2 = r3 at *
      generalize steps 4 (r2 % 16) = t2 at *
      go_wp2
      go_round
      case rel => exact ⟨i + 1, r3, by omega, by go_num, rfl, by unfold Hid; exact ⟨hl3, by rw [HI.out.2, HD.out, HU'.out]⟩⟩
      case measure => simp [intOf]; omega
    · obtain rfl : i = n := by omega
      have hdr : xs.drop xs.length = [] := List.drop_eq_nil_of_le (Nat.le_refl _)
      have hr := HI.out.1
      have hnot2 := not_u32 hr
      have HF : Hid (more s xs = inv r) := by unfold Hid more; rw [HI.out.2, ← hlen, hdr]; rfl
      clear hdr
      go_wp2
      go_ret
      exact ⟨by rw [HF.out]; rfl, HB2.out⟩
end Go.Proofs.Ytdgaaghkhkklpaa.Crc

/- Layer 12 (revoke), the landed program: slices.Clone and slices.Concat on lists, as contracts. -/
import Derived.Test.YtfmmpmpafgbidaaRvA
import Derived.Test.YtfmmpmpafgbidaaRecM
import Derived.Lib.Walk
namespace Go.Proofs.Ytfmmpmpafgbidaa.Rv
open Go.RowKit Rec

set_option maxHeartbeats 400000 in
set_option maxRecDepth 100000 in
/-- slices.Clone: the same list in a row of its own; nil of nil. -/
theorem clone_any (A : Option Addr) (n c B : Nat) (l : List P) (w : World) (hr : RRow rvS w B A n l) (hnil : A = none → c = 0) (hB : B ≤ w.heap.size) (hn : n ≤ 100000) :
    Calls Try.prog 19 #[.slice A n c] w fun e w' =>
      ∃ v, e = .returned v ∧ w'.ownsRow w.heap.size 24 2 v n (rvS.flat l) ∧ Below w.heap.size w w' := by
  obtain ⟨i0, hi, hz0, hz1, hz2⟩ := info_of info_rev
  rcases A with _ | a
  · have hm : n = 0 := by
      rcases Nat.eq_zero_or_pos n with h0 | h0
      · exact h0
      · obtain ⟨_, _, h1, _⟩ := hr.2 h0
        cases h1
    subst hm
    have hx : l = [] := List.eq_nil_of_length_eq_zero hr.1
    subst hx
    clear hr
    obtain rfl := hnil rfl
    clear hnil
    have heq : (binOp .eql 22 (.slice none 0 0) (.slice none 0 0)).run Try.prog w = .ok (.bool true) w := Lib.run_eql_slice_nil w 22 24 none 0 0 0 0 Try.underlying22
    go_enter Try.func19, Try.ntmps19
    go_wp2
    go_ret
    exact ⟨_, rfl, World.ownsRow_nil _ _ _ _, Below.refl _ _⟩
  · have HO : Hid ((w.alloc (.cells #[] 24)).ownsRow w.heap.size 24 rvS.c (.slice (some ⟨w.heap.size, 0, none⟩) 0 0) 0 (rvS.flat [])) := ⟨rfl, .inr ⟨w.heap.size, 0, #[], rfl, Nat.le_refl _, heap_alloc_new _ _, Nat.le_refl _, Nat.zero_le _, rfl, rfl⟩⟩
    have HR : Hid (RRow rvS (w.alloc (.cells #[] 24)) B (some a) n l) := hr.below (((Below.refl _ _).alloc (Nat.le_refl _) _).mono hB)
    have HB0 : Hid (Below w.heap.size w (w.alloc (.cells #[] 24))) := (Below.refl _ _).alloc (Nat.le_refl _) _
    clear hr
    have heq : (binOp .eql 22 (.slice (some a) n c) (.slice none 0 0)).run Try.prog w = .ok (.bool false) w := Lib.run_eql_slice_nil w 22 24 (some a) n c 0 0 Try.underlying22
    go_enter Try.func19, Try.ntmps19
    go_wp2_with (at_builtin; refine cat_rec rvS rfl (.tmp 5) (.tmp 6) 22 rfl w.heap.size 24 i0 (.agg #[.int .i64 0, .int .i64 0]) 16 Try.underlying22 hi hz0 rfl hz1 hz2 _ 0 [] rfl HO.out B (some a) n c l rfl (fun h => by (cases h)) HR.out (by omega) (by omega) (by simp) ?_; intro v2 w2 hown2 _ hb2)
    go_ret
    have h3 : w2.ownsRow w.heap.size 24 rvS.c v2 n (rvS.flat l) := by simpa using hown2
    exact ⟨_, rfl, h3, HB0.out.trans hb2⟩

/-- The sum of lengths; all lists, one behind the other. -/
def tot (L : List (Option Addr × Nat × Nat × List P)) : Nat := (L.map fun p => p.2.1).sum
def whl (L : List (Option Addr × Nat × Nat × List P)) : List P := L.flatMap fun p => p.2.2.2
theorem tot_take (L : List (Option Addr × Nat × Nat × List P)) {i : Nat} (h : i < L.length) : tot (L.take (i + 1)) = tot (L.take i) + (L[i]).2.1 := by
  unfold tot
  rw [List.take_succ_eq_append_getElem h]
  simp only [List.map_append, List.map_cons, List.map_nil, List.sum_append, List.sum_cons, List.sum_nil, Nat.add_zero]
theorem whl_take (L : List (Option Addr × Nat × Nat × List P)) {i : Nat} (h : i < L.length) : whl (L.take (i + 1)) = whl (L.take i) ++ (L[i]).2.2.2 := by
  unfold whl
  rw [List.take_succ_eq_append_getElem h]
  simp only [List.flatMap_append, List.flatMap_cons, List.flatMap_nil, List.append_nil]
theorem tot_le (L : List (Option Addr × Nat × Nat × List P)) (i : Nat) : tot (L.take i) ≤ tot L := by
  have : tot L = tot (L.take i) + tot (L.drop i) := by
    unfold tot
    rw [← List.sum_append, ← List.map_append, List.take_append_drop]
  omega

set_option maxHeartbeats 800000 in
set_option maxRecDepth 100000 in
/-- slices.Grow of nil: no elements, room for n. -/
theorem grow_nil (n : Nat) (hn : n ≤ 1000000) (w : World) :
    Calls Try.prog 31 #[.slice none 0 0, .int .i64 (n : Int)] w fun e w' =>
      ∃ v, e = .returned v ∧ w'.ownsRow w.heap.size 24 2 v 0 (rvS.flat []) ∧ Below w.heap.size w w' := by
  obtain ⟨i0, hi, hz0, hz1, hz2⟩ := info_of info_rev
  by_cases h0 : n = 0
  · subst h0
    go_enter Try.func31, Try.ntmps31
    go_wp2
    go_ret
    exact ⟨_, rfl, World.ownsRow_nil _ _ _ _, Below.refl _ _⟩
  · have hold : (Builtin.firstCells i0.size 0 (.slice none 0 0)).run Try.prog w.drew = .ok ([] : List Value).toArray w.drew := run_firstCells_none w.drew i0.size 0 0 0
    have hrz : ∀ ty, (Builtin.append_ #[22, 3] ty #[.slice none 0 0, .int .i64 (n : Int)]).run Try.prog w = _ := fun ty =>
      Lib.run_append_grow_zeros w 22 3 ty 24 i0 (.agg #[.int .i64 0, .int .i64 0]) .i64 .i64 Try.underlying22 Try.underlying3 hi hz0 none 0 0 [] hold n (by omega) (by omega) (by omega) (by omega) (by rw [hz2]; omega) (growslice_fits (by omega) (by rw [hz2]; omega))
    have hge := grownCap_ge w (0 + n) 0 24
    have hle := grownCap_le_maxLen w (0 + n) 0 24 (by unfold maxLen; omega)
    generalize grownCap w (0 + n) 0 24 = G at *
    have hle' : G ≤ 9223372036854775807 := by unfold maxLen at hle; omega
    go_enter Try.func31, Try.ntmps31
    go_wp2_with (at_builtin; refine Lib.wpList_append_run _ rfl _ _ _ _ rfl _ _ rfl rfl _ _ (hrz _) ?_)
    go_ret
    refine ⟨_, rfl, ⟨rfl, .inr ⟨w.heap.size, G, _, rfl, Nat.le_refl _, Array.getElem?_push_size, Nat.zero_le _, hle, ?_, by simp [flat_nil]⟩⟩, (Below.refl w.heap.size w).drew.alloc (Nat.le_refl _) _⟩
    simp [size_zeroCells]
    omega

set_option maxHeartbeats 1600000 in
set_option maxRecDepth 100000 in
/-- slices.Concat: all parts, one behind the other, in a row of its own. -/
theorem concat_any (L : List (Option Addr × Nat × Nat × List P)) (g c B : Nat) (w : World) (hc : ∀ j (h : j < L.length), w.cell? ⟨g, j, none⟩ = some (.slice (L[j]).1 (L[j]).2.1 (L[j]).2.2.1)) (hL : ∀ p ∈ L, RRow rvS w B p.1 p.2.1 p.2.2.2 ∧ (p.1 = none → p.2.2.1 = 0)) (hB : B ≤ w.heap.size) (hg : g < w.heap.size) (ht : tot L ≤ 1000000) (hl : L.length ≤ 1000000) :
    Calls Try.prog 29 #[.slice (some ⟨g, 0, none⟩) L.length c] w fun e w' =>
      ∃ v, e = .returned v ∧ w'.ownsRow w.heap.size 24 2 v (tot L) (rvS.flat (whl L)) ∧ Below w.heap.size w w' := by
  obtain ⟨i0, hi, hz0, hz1, hz2⟩ := info_of info_rev
  have HC := Lib.hid hc
  have HL := Lib.hid hL
  clear hc hL
  go_enter Try.func29, Try.ntmps29
  go_wp2
  go_loop [11, 3] (fun a s => ∃ i : Nat, i ≤ L.length ∧ a = .int .i64 (i : Int) ∧ s = .int .i64 (tot (L.take i) : Int)) (fun a _ => L.length - (intOf a).toNat)
  case atStart => exact ⟨0, Nat.zero_le _, rfl, by simp [tot]⟩
  case round =>
    obtain ⟨i, hle, rfl, rfl⟩ := hrel
    by_cases hlt : i < L.length
    · have h1 := HC.out i hlt
      have h2 := tot_take L hlt
      have h3 := tot_le L (i + 1)
      generalize L[i] = p at *
      obtain ⟨A, n, c1, xs⟩ := p
      simp only at h1 h2
      generalize tot (L.take i) = t at *
      have h4 : tot (L.take (i + 1)) ≤ 1000000 := by omega
      obtain ⟨t1, H1⟩ : ∃ t1, Hid (t1 = tot (L.take (i + 1))) := ⟨_, Lib.hid rfl⟩
      rw [← H1.out] at h2 h4
      have h5 : t1 = t + n := h2
      have hw : IntKind.i64.wrap ((t : Int) + (n : Int)) = (t1 : Int) := by rw [IntWalk.i64_in _ ⟨by omega, by omega⟩]; omega
      clear h2 h3 h4 h5
      go_wp2
      go_round
      case rel => exact ⟨i + 1, by omega, by go_num, by rw [H1.out]⟩
      case measure => simp [intOf]; omega
    · obtain rfl : i = L.length := by omega
      rw [List.take_length]
      go_wp2_with fail
      refine (grow_nil (tot L) ht w).mono ?_
      rintro e1 w1 ⟨v1, rfl, hown1, hb1⟩
      have HB1 := Lib.hid hb1
      have HO1 := Lib.hid hown1
      clear hb1 hown1
      go_wp2_with fail
      go_loopw [27, 6] (fun a v wr => ∃ i : Nat, i ≤ L.length ∧ a = .int .i64 (i : Int) ∧ Hid (wr.ownsRow w.heap.size 24 2 v (tot (L.take i)) (rvS.flat (whl (L.take i)))) ∧ Hid (Below w.heap.size w wr)) (fun a _ _ => L.length - (intOf a).toNat)
      case atStart => exact ⟨0, Nat.zero_le _, rfl, by simpa [tot, whl] using HO1, HB1⟩
      case round =>
        obtain ⟨i, hle, rfl, HO, HB⟩ := hrel
        by_cases hlt : i < L.length
        · have h1 := (HB.out.cell (p := ⟨g, i, none⟩) hg).trans (HC.out i hlt)
          have h2 := Lib.hid (tot_take L hlt)
          have h2' := Lib.hid (whl_take L hlt)
          have h3 := tot_le L (i + 1)
          obtain ⟨hr, hnil⟩ := HL.out _ (List.getElem_mem hlt)
          have hsum := tot_take L hlt
          generalize L[i] = p at *
          obtain ⟨A, n, c1, xs⟩ := p
          have HRW : Hid (RRow rvS wr B A n xs) := hr.below (HB.out.mono hB)
          have hsz := HB.out.size
          have hsm : tot (L.take i) + n ≤ 1000000 := by simp only at hsum; omega
          have HN := Lib.hid hnil
          simp only at h1
          clear hr hnil hsum h3
          go_wp2_with (at_builtin; refine cat_rec rvS rfl (.tmp 31) (.tmp 32) 22 rfl w.heap.size 24 i0 (.agg #[.int .i64 0, .int .i64 0]) 16 Try.underlying22 hi hz0 rfl hz1 hz2 _ (tot (L.take i)) (whl (L.take i)) rfl HO.out B A n c1 xs rfl HN.out HRW.out (by omega) (by omega) hsz ?_; intro v2 w2 hown2 _ hb2; have HO2 := Lib.hid hown2; have HB2 := Lib.hid (HB.out.trans hb2); clear hown2 hb2)
          go_roundw
          case rel => exact ⟨i + 1, by omega, by go_num, by unfold Hid; rw [h2.out, h2'.out]; exact HO2.out, HB2⟩
          case measure => simp [intOf]; omega
        · obtain rfl : i = L.length := by omega
          rw [List.take_length] at HO
          go_wp2
          go_ret
          exact ⟨_, rfl, HO.out, HB.out⟩
end Go.Proofs.Ytfmmpmpafgbidaa.Rv

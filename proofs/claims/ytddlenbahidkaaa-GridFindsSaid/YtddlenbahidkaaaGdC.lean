/- Layer 14 (grid), the landed program: slices.Clone on stops and on ints, as contracts. -/
import Derived.Test.YtddlenbahidkaaaGdO
import Derived.Test.YtddlenbahidkaaaRecM
import Derived.Lib.Walk
namespace Go.Proofs.Ytddlenbahidkaaa.Gd
open Go.RowKit Rec Ints Ge

theorem info_stop : (Try.prog.info? 46).map (fun i => (i.zero, i.size, i.bytes)) = some (some (.agg #[.int .i64 0, .int .i64 0]), 2, 16) := by kernel_rfl

set_option maxHeartbeats 400000 in
set_option maxRecDepth 100000 in
/-- slices.Clone: the same list in a row of its own; nil of nil. -/
theorem clone_any (A : Option Addr) (n c B : Nat) (l : List C) (w : World) (hr : RRow twoS w B A n l) (hnil : A = none → c = 0) (hB : B ≤ w.heap.size) (hn : n ≤ 100000) :
    Calls Try.prog 16 #[.slice A n c] w fun e w' =>
      ∃ v, e = .returned v ∧ w'.ownsRow w.heap.size 46 2 v n (twoS.flat l) ∧ Below w.heap.size w w' := by
  obtain ⟨i0, hi, hz0, hz1, hz2⟩ := info_of info_stop
  rcases A with _ | a
  · have hm : n = 0 := by
      rcases Nat.eq_zero_or_pos n with h0 | h0
      · exact h0
      · obtain ⟨_, _, h1, _⟩ := hr.2 h0
        cases h1
    subst hm
    have hx : l = [] := List.eq_nil_of_length_eq_zero hr.1
    subst hx
    clear hr
    obtain rfl := hnil rfl
    clear hnil
    have heq : (binOp .eql 22 (.slice none 0 0) (.slice none 0 0)).run Try.prog w = .ok (.bool true) w := Lib.run_eql_slice_nil w 22 46 none 0 0 0 0 Try.underlying22
    go_enter Try.func16, Try.ntmps16
    go_wp2
    go_ret
    exact ⟨_, rfl, World.ownsRow_nil _ _ _ _, Below.refl _ _⟩
  · have HO : Hid ((w.alloc (.cells #[] 46)).ownsRow w.heap.size 46 twoS.c (.slice (some ⟨w.heap.size, 0, none⟩) 0 0) 0 (twoS.flat [])) := ⟨rfl, .inr ⟨w.heap.size, 0, #[], rfl, Nat.le_refl _, heap_alloc_new _ _, Nat.le_refl _, Nat.zero_le _, rfl, rfl⟩⟩
    have HR : Hid (RRow twoS (w.alloc (.cells #[] 46)) B (some a) n l) := hr.below (((Below.refl _ _).alloc (Nat.le_refl _) _).mono hB)
    have HB0 : Hid (Below w.heap.size w (w.alloc (.cells #[] 46))) := (Below.refl _ _).alloc (Nat.le_refl _) _
    clear hr
    have heq : (binOp .eql 22 (.slice (some a) n c) (.slice none 0 0)).run Try.prog w = .ok (.bool false) w := Lib.run_eql_slice_nil w 22 46 (some a) n c 0 0 Try.underlying22
    go_enter Try.func16, Try.ntmps16
    go_wp2_with (at_builtin; refine cat_rec twoS rfl (.tmp 5) (.tmp 6) 22 rfl w.heap.size 46 i0 (.agg #[.int .i64 0, .int .i64 0]) 16 Try.underlying22 hi hz0 rfl hz1 hz2 _ 0 [] rfl HO.out B (some a) n c l rfl (fun h => by (cases h)) HR.out (by omega) (by omega) (by simp) ?_; intro v2 w2 hown2 _ hb2)
    go_ret
    have h3 : w2.ownsRow w.heap.size 46 twoS.c v2 n (twoS.flat l) := by simpa using hown2
    exact ⟨_, rfl, h3, HB0.out.trans hb2⟩

set_option maxHeartbeats 400000 in
set_option maxRecDepth 100000 in
/-- slices.Clone: the same list in a row of its own; nil of nil. -/
theorem clone_ints (A : Option Addr) (n c B : Nat) (l : List Int) (w : World) (hr : RRow intS w B A n l) (hnil : A = none → c = 0) (hB : B ≤ w.heap.size) (hn : n ≤ 100000) :
    Calls Try.prog 20 #[.slice A n c] w fun e w' =>
      ∃ v, e = .returned v ∧ w'.ownsRow w.heap.size 3 1 v n (intS.flat l) ∧ Below w.heap.size w w' := by
  obtain ⟨i0, hi, hz0, hz1, hz2⟩ := info_of info_int
  rcases A with _ | a
  · have hm : n = 0 := by
      rcases Nat.eq_zero_or_pos n with h0 | h0
      · exact h0
      · obtain ⟨_, _, h1, _⟩ := hr.2 h0
        cases h1
    subst hm
    have hx : l = [] := List.eq_nil_of_length_eq_zero hr.1
    subst hx
    clear hr
    obtain rfl := hnil rfl
    clear hnil
    have heq : (binOp .eql 34 (.slice none 0 0) (.slice none 0 0)).run Try.prog w = .ok (.bool true) w := Lib.run_eql_slice_nil w 34 3 none 0 0 0 0 Try.underlying34
    go_enter Try.func20, Try.ntmps20
    go_wp2
    go_ret
    exact ⟨_, rfl, World.ownsRow_nil _ _ _ _, Below.refl _ _⟩
  · have HO : Hid ((w.alloc (.cells #[] 3)).ownsRow w.heap.size 3 intS.c (.slice (some ⟨w.heap.size, 0, none⟩) 0 0) 0 (intS.flat [])) := ⟨rfl, .inr ⟨w.heap.size, 0, #[], rfl, Nat.le_refl _, heap_alloc_new _ _, Nat.le_refl _, Nat.zero_le _, rfl, rfl⟩⟩
    have HR : Hid (RRow intS (w.alloc (.cells #[] 3)) B (some a) n l) := hr.below (((Below.refl _ _).alloc (Nat.le_refl _) _).mono hB)
    have HB0 : Hid (Below w.heap.size w (w.alloc (.cells #[] 3))) := (Below.refl _ _).alloc (Nat.le_refl _) _
    clear hr
    have heq : (binOp .eql 34 (.slice (some a) n c) (.slice none 0 0)).run Try.prog w = .ok (.bool false) w := Lib.run_eql_slice_nil w 34 3 (some a) n c 0 0 Try.underlying34
    go_enter Try.func20, Try.ntmps20
    go_wp2_with (at_builtin; refine cat_rec intS rfl (.tmp 5) (.tmp 6) 34 rfl w.heap.size 3 i0 (.int .i64 0) 8 Try.underlying34 hi hz0 rfl hz1 hz2 _ 0 [] rfl HO.out B (some a) n c l rfl (fun h => by (cases h)) HR.out (by omega) (by omega) (by simp) ?_; intro v2 w2 hown2 _ hb2)
    go_ret
    have h3 : w2.ownsRow w.heap.size 3 intS.c v2 n (intS.flat l) := by simpa using hown2
    exact ⟨_, rfl, h3, HB0.out.trans hb2⟩

end Go.Proofs.Ytddlenbahidkaaa.Gd

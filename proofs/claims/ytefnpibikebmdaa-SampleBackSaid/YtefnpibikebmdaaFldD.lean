/- The methods of layer 3's Reader, as contracts: each returns the next field, or nothing behind an error; a nil Reader. -/
import Derived.Test.YtefnpibikebmdaaFldC
namespace Go.Proofs.Ytefnpibikebmdaa.Fld
open Go.RowKit Var

/-- The value that a step returns. -/
def val (e : Nat) (t : Int × Nat × Nat) : Int := if e ≠ 0 ∨ t.2.2 ≠ 0 then 0 else t.1

def Steps (w : World) (g : Nat) (xs : List Int) (e : Nat) (k : IntKind) (t : Int × Nat × Nat) (r : Ending) (w' : World) : Prop :=
  r = .returned (.int k (val e t)) ∧ Rdr w' g (after xs e t.2.1 t.2.2).1 (after xs e t.2.1 t.2.2).2 ∧ Only (fun k => k = g) w w'

theorem steps_ok {w w2 w1 w' : World} {g n c : Nat} {A : Option Addr} {xs : List Int} {k : IntKind} {t : Int × Nat × Nat} {v : Value} {r : Ending} (h1 : Rd w g A n c 0) (h2 : Row .u8 w g A n xs) (h3 : n ≤ c) (h4 : A = none → c = 0) (hbyt : ∀ x ∈ xs, 0 ≤ x ∧ x ≤ 255)
    (hb2 : Below w.heap.size w w2) (hv : v = .int k t.1) (h : ReadsTo w2 g A n c (.int k 0) v t.2.1 t.2.2 w1 r w') : Steps w g xs 0 k t r w' := by
  obtain ⟨a, b, c⟩ := reads_ok h1 h2 h3 h4 hbyt hb2 h
  refine ⟨?_, b, c⟩
  rw [a, hv]
  unfold val
  by_cases he : t.2.2 = 0 <;> simp [he]

theorem steps_bad {w w2 : World} {g e : Nat} {xs : List Int} {k : IntKind} {t : Int × Nat × Nat} (h : Rdr w g xs e) (he : e ≠ 0) (hb2 : Below w.heap.size w w2) : Steps w g xs e k t (.returned (.int k 0)) w2 := by
  have e1 : after xs e t.2.1 t.2.2 = (xs, e) := by unfold after; rw [if_pos he]
  refine ⟨?_, by rw [e1]; exact h.below hb2, Only.of_below hb2⟩
  unfold val
  rw [if_pos (.inl he)]

set_option maxHeartbeats 800000 in
set_option maxRecDepth 100000 in
theorem numberR (g e : Nat) (xs : List Int) (most : Int) (w : World) (h : Rdr w g xs e) (h1 : -9223372036854775808 ≤ most) (h2 : most ≤ 9223372036854775807) :
    Calls Try.prog 34 #[.pointer (some ⟨g, 0, none⟩), .int .i64 most] w (Steps w g xs e .i64 (nxt xs most)) := by
  have HR := Lib.hid h
  have H1 := Lib.hid h1
  have H2 := Lib.hid h2
  clear h h1 h2
  have hb2 : Hid (Below w.heap.size w (w.alloc (.cells #[.int .i64 most] 3))) := ((Below.refl _ _).alloc (Nat.le_refl _) _)
  have hcell : Hid ((w.alloc (.cells #[.int .i64 most] 3)).cell? ⟨w.heap.size, 0, none⟩ = some (.int .i64 most)) := cell_of_one (heap_alloc_new w _)
  have hmf : ∀ (fn : Fn) (first cap : Array Value) (w : World), (Instr.makeFunc fn first cap).run Try.prog w = .ok (.func fn first cap) w := fun _ _ _ _ => rfl
  have fin : Calls Try.prog 41 #[.pointer (some ⟨g, 0, none⟩), .func (.func 42) #[] #[.pointer (some ⟨w.heap.size, 0, none⟩)]] (w.alloc (.cells #[.int .i64 most] 3)) (Steps w g xs e .i64 (nxt xs most)) := by
    obtain ⟨A, n, c, hrd, hrow, hnc, hnil⟩ := HR.out.ex
    have hlt : g < w.heap.size := HR.out.lt
    have hlen := hrow.len
    by_cases he : e = 0
    · subst he
      refine (next_int g n c A 42 (.pointer (some ⟨w.heap.size, 0, none⟩)) (fun v _ => v = .int .i64 (nxt xs most).1) (nxt xs most).2.1 (nxt xs most).2.2 _ (hrd.below hb2.out) hnc (fun h => by have := nxt_ok (most := most) HR.out.byt h; omega) (fun h => Row.some_of hrow h) ent_number (how_number A n c g _ xs most _ (hrow.alloc (Nat.le_of_lt hlt) _) HR.out.byt H1.out H2.out hcell.out)).mono ?_
      rintro r w' ⟨v, w1, hv, hR⟩
      exact steps_ok hrd hrow hnc hnil HR.out.byt hb2.out hv hR
    · refine (next_int_bad g n c A e _ _ (hrd.below hb2.out) (by omega)).mono ?_
      rintro r w' ⟨rfl, rfl⟩
      exact steps_bad HR.out he hb2.out
  have FIN := Lib.hid fin
  clear fin hb2 hcell
  go_enter Try.func34, Try.ntmps34
  go_wp2_with fail
  refine FIN.out.mono ?_
  rintro r w' hst
  obtain ⟨u, hu⟩ : ∃ u, r = .returned u := ⟨_, hst.1⟩
  subst hu
  have HST := Lib.hid hst
  clear hst
  go_wp2
  go_ret
  exact HST.out

set_option maxHeartbeats 800000 in
set_option maxRecDepth 100000 in
theorem numberR_nil (most : Int) (w : World) : Calls Try.prog 34 #[.pointer none, .int .i64 most] w fun r w' => r = .returned (.int .i64 0) ∧ Below w.heap.size w w' := by
  have hmf : ∀ (fn : Fn) (first cap : Array Value) (w : World), (Instr.makeFunc fn first cap).run Try.prog w = .ok (.func fn first cap) w := fun _ _ _ _ => rfl
  go_enter Try.func34, Try.ntmps34
  go_wp2_with fail
  refine (next_int_nil _ _).mono ?_
  rintro r w' ⟨rfl, rfl⟩
  go_wp2
  go_ret
  exact ⟨rfl, ((Below.refl _ _).alloc (Nat.le_refl _) _)⟩

set_option maxHeartbeats 800000 in
set_option maxRecDepth 100000 in
theorem signedR (g e : Nat) (xs : List Int) (most : Int) (w : World) (h : Rdr w g xs e) (h1 : -9223372036854775808 ≤ most) (h2 : most ≤ 9223372036854775807) :
    Calls Try.prog 35 #[.pointer (some ⟨g, 0, none⟩), .int .i64 most] w (Steps w g xs e .i64 (nxs xs most)) := by
  have HR := Lib.hid h
  have H1 := Lib.hid h1
  have H2 := Lib.hid h2
  clear h h1 h2
  have hb2 : Hid (Below w.heap.size w (w.alloc (.cells #[.int .i64 most] 3))) := ((Below.refl _ _).alloc (Nat.le_refl _) _)
  have hcell : Hid ((w.alloc (.cells #[.int .i64 most] 3)).cell? ⟨w.heap.size, 0, none⟩ = some (.int .i64 most)) := cell_of_one (heap_alloc_new w _)
  have hmf : ∀ (fn : Fn) (first cap : Array Value) (w : World), (Instr.makeFunc fn first cap).run Try.prog w = .ok (.func fn first cap) w := fun _ _ _ _ => rfl
  have fin : Calls Try.prog 41 #[.pointer (some ⟨g, 0, none⟩), .func (.func 44) #[] #[.pointer (some ⟨w.heap.size, 0, none⟩)]] (w.alloc (.cells #[.int .i64 most] 3)) (Steps w g xs e .i64 (nxs xs most)) := by
    obtain ⟨A, n, c, hrd, hrow, hnc, hnil⟩ := HR.out.ex
    have hlt : g < w.heap.size := HR.out.lt
    have hlen := hrow.len
    by_cases he : e = 0
    · subst he
      refine (next_int g n c A 44 (.pointer (some ⟨w.heap.size, 0, none⟩)) (fun v _ => v = .int .i64 (nxs xs most).1) (nxs xs most).2.1 (nxs xs most).2.2 _ (hrd.below hb2.out) hnc (fun h => by have := nxs_ok (most := most) HR.out.byt h; omega) (fun h => Row.some_of hrow h) ent_signed (how_signed A n c g _ xs most _ (hrow.alloc (Nat.le_of_lt hlt) _) HR.out.byt H1.out H2.out hcell.out)).mono ?_
      rintro r w' ⟨v, w1, hv, hR⟩
      exact steps_ok hrd hrow hnc hnil HR.out.byt hb2.out hv hR
    · refine (next_int_bad g n c A e _ _ (hrd.below hb2.out) (by omega)).mono ?_
      rintro r w' ⟨rfl, rfl⟩
      exact steps_bad HR.out he hb2.out
  have FIN := Lib.hid fin
  clear fin hb2 hcell
  go_enter Try.func35, Try.ntmps35
  go_wp2_with fail
  refine FIN.out.mono ?_
  rintro r w' hst
  obtain ⟨u, hu⟩ : ∃ u, r = .returned u := ⟨_, hst.1⟩
  subst hu
  have HST := Lib.hid hst
  clear hst
  go_wp2
  go_ret
  exact HST.out

set_option maxHeartbeats 800000 in
set_option maxRecDepth 100000 in
theorem signedR_nil (most : Int) (w : World) : Calls Try.prog 35 #[.pointer none, .int .i64 most] w fun r w' => r = .returned (.int .i64 0) ∧ Below w.heap.size w w' := by
  have hmf : ∀ (fn : Fn) (first cap : Array Value) (w : World), (Instr.makeFunc fn first cap).run Try.prog w = .ok (.func fn first cap) w := fun _ _ _ _ => rfl
  go_enter Try.func35, Try.ntmps35
  go_wp2_with fail
  refine (next_int_nil _ _).mono ?_
  rintro r w' ⟨rfl, rfl⟩
  go_wp2
  go_ret
  exact ⟨rfl, ((Below.refl _ _).alloc (Nat.le_refl _) _)⟩

end Go.Proofs.Ytefnpibikebmdaa.Fld

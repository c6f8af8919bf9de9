/- Bytes, Done and Read of layer 3's Reader, as contracts. -/
import Derived.Test.YtbmbibjkjnjbpaaFldD
import Derived.Test.YtbmbibjkjnjbpaaFldL
namespace Go.Proofs.Ytbmbibjkjnjbpaa.Fld
open Go.RowKit Var

/-- The bytes that a step returns. -/
def vals (e : Nat) (t : List Int × Nat × Nat) : List Int := if e ≠ 0 ∨ t.2.2 ≠ 0 then [] else t.1

def StepsL (w : World) (g : Nat) (xs : List Int) (e : Nat) (t : List Int × Nat × Nat) (r : Ending) (w' : World) : Prop :=
  ∃ v, r = .returned v ∧ w'.ownsRow w.heap.size 5 1 v (vals e t).length ((vals e t).map (Value.int .u8)) ∧ Rdr w' g (after xs e t.2.1 t.2.2).1 (after xs e t.2.1 t.2.2).2 ∧ Only (fun k => k = g) w w'

set_option maxHeartbeats 800000 in
set_option maxRecDepth 100000 in
theorem bytesR (g e : Nat) (xs : List Int) (most : Int) (w : World) (h : Rdr w g xs e) (h1 : -9223372036854775808 ≤ most) (h2 : most ≤ 9223372036854775807) (hx : xs.length ≤ 4398046511104) :
    Calls Try.prog 21 #[.pointer (some ⟨g, 0, none⟩), .int .i64 most] w (StepsL w g xs e (nxl xs most)) := by
  have HR := Lib.hid h
  have H1 := Lib.hid h1
  have H2 := Lib.hid h2
  clear h h1 h2
  have hb2 : Hid (Below w.heap.size w (w.alloc (.cells #[.int .i64 most] 3))) := ((Below.refl _ _).alloc (Nat.le_refl _) _)
  have hcell : Hid ((w.alloc (.cells #[.int .i64 most] 3)).cell? ⟨w.heap.size, 0, none⟩ = some (.int .i64 most)) := cell_of_one (heap_alloc_new w _)
  have hmf : ∀ (fn : Fn) (first cap : Array Value) (w : World), (Instr.makeFunc fn first cap).run Try.prog w = .ok (.func fn first cap) w := fun _ _ _ _ => rfl
  have fin : Calls Try.prog 45 #[.pointer (some ⟨g, 0, none⟩), .func (.func 46) #[] #[.pointer (some ⟨w.heap.size, 0, none⟩)]] (w.alloc (.cells #[.int .i64 most] 3)) (StepsL w g xs e (nxl xs most)) := by
    obtain ⟨A, n, c, hrd, hrow, hnc, hnil⟩ := HR.out.ex
    have hlt : g < w.heap.size := HR.out.lt
    have hlen := hrow.len
    by_cases he : e = 0
    · subst he
      refine (next_bytes g n c A 46 (.pointer (some ⟨w.heap.size, 0, none⟩)) (Mine (w.alloc (.cells #[.int .i64 most] 3)) (nxl xs most).1) (nxl xs most).2.1 (nxl xs most).2.2 _ (hrd.below hb2.out) hnc (fun h => by have := nxl_ok (most := most) HR.out.byt h; omega) (fun h => Row.some_of hrow h) ent_bytes
        (how_bytes A n c g _ xs most _ (hrow.alloc (Nat.le_of_lt hlt) _) (by simp; omega) hnc (by omega) HR.out.byt H1.out H2.out hcell.out)).mono ?_
      rintro r w' ⟨v, w1, hv, hR⟩
      obtain ⟨a, b, c'⟩ := reads_ok hrd hrow hnc hnil HR.out.byt hb2.out hR
      by_cases her : (nxl xs most).2.2 = 0
      · refine ⟨v, by simpa [her] using a, ?_, b, c'⟩
        have hv' := hR.2.2.1.own hv (fun k hk hkg => by have := (hv.lt k hk).1; simp at this; omega)
        unfold vals
        rw [if_neg (by simp [her])]
        exact own_mono hv' (by simp)
      · refine ⟨.slice none 0 0, by simpa [her] using a, ?_, b, c'⟩
        unfold vals
        rw [if_pos (.inr her)]
        exact World.ownsRow_nil _ _ _ _
    · refine (next_bytes_bad g n c A e _ _ (hrd.below hb2.out) (by omega)).mono ?_
      rintro r w' ⟨rfl, rfl⟩
      have e1 : after xs e (nxl xs most).2.1 (nxl xs most).2.2 = (xs, e) := by unfold after; rw [if_pos he]
      refine ⟨.slice none 0 0, rfl, ?_, by rw [e1]; exact HR.out.below hb2.out, Only.of_below hb2.out⟩
      unfold vals
      rw [if_pos (.inl he)]
      exact World.ownsRow_nil _ _ _ _
  have FIN := Lib.hid fin
  clear fin hb2 hcell
  go_enter Try.func21, Try.ntmps21
  go_wp2_with fail
  refine FIN.out.mono ?_
  rintro r w' ⟨u, rfl, hst⟩
  have HST := Lib.hid hst
  clear hst
  go_wp2
  go_ret
  exact ⟨u, rfl, HST.out⟩

set_option maxHeartbeats 800000 in
set_option maxRecDepth 100000 in
theorem bytesR_nil (most : Int) (w : World) : Calls Try.prog 21 #[.pointer none, .int .i64 most] w fun r w' => r = .returned (.slice none 0 0) ∧ Below w.heap.size w w' := by
  have hmf : ∀ (fn : Fn) (first cap : Array Value) (w : World), (Instr.makeFunc fn first cap).run Try.prog w = .ok (.func fn first cap) w := fun _ _ _ _ => rfl
  go_enter Try.func21, Try.ntmps21
  go_wp2_with fail
  refine (next_bytes_nil _ _).mono ?_
  rintro r w' ⟨rfl, rfl⟩
  go_wp2
  go_ret
  exact ⟨rfl, ((Below.refl _ _).alloc (Nat.le_refl _) _)⟩

/-- What Done returns. -/
def done (xs : List Int) (e : Nat) : Nat := if e ≠ 0 then e else if xs.length = 0 then 0 else 13

set_option maxHeartbeats 800000 in
set_option maxRecDepth 100000 in
theorem errorR (g e : Nat) (xs : List Int) (w : World) (h : Rdr w g xs e) : Calls Try.prog 23 #[.pointer (some ⟨g, 0, none⟩)] w fun r w' => r = .returned (.int .i64 (e : Int)) ∧ w = w' := by
  obtain ⟨A, n, c, hrd, _⟩ := h.ex
  exact error_any g n c A e w hrd

set_option maxHeartbeats 800000 in
set_option maxRecDepth 100000 in
theorem doneR (g e : Nat) (xs : List Int) (w : World) (h : Rdr w g xs e) : Calls Try.prog 24 #[.pointer (some ⟨g, 0, none⟩)] w fun r w' => r = .returned (.int .i64 (done xs e : Int)) ∧ w = w' := by
  obtain ⟨A, n, c, hrd, hrow, _⟩ := h.ex
  have HRD := Lib.hid hrd
  have HL := Lib.hid hrow.len
  have d1 := hrd.c1
  clear h hrow hrd
  go_enter Try.func24, Try.ntmps24
  go_wp2_with fail
  refine (error_any g n c A e w HRD.out).mono ?_
  rintro r w' ⟨rfl, rfl⟩
  by_cases he : e = 0
  · subst he
    by_cases hn : n = 0
    · subst hn
      go_wp2
      go_ret
      exact ⟨ret_int (by unfold done; rw [HL.out]; simp), rfl⟩
    · have hne : ((n : Int) == 0) = false := beq_eq_false_iff_ne.2 (by omega)
      go_wp2
      go_ret
      exact ⟨ret_int (by unfold done; rw [HL.out]; simp [hn]), rfl⟩
  · have hne : ((e : Int) == 0) = false := beq_eq_false_iff_ne.2 (by omega)
    go_wp2
    go_ret
    exact ⟨ret_int (by unfold done; simp [he]), rfl⟩

set_option maxHeartbeats 800000 in
set_option maxRecDepth 100000 in
theorem doneR_nil (w : World) : Calls Try.prog 24 #[.pointer none] w fun r w' => r = .returned (.int .i64 1) ∧ w = w' := by
  go_enter Try.func24, Try.ntmps24
  go_wp2_with fail
  refine (error_nil w).mono ?_
  rintro r w' ⟨rfl, rfl⟩
  go_wp2
  go_ret
  exact ⟨rfl, rfl⟩

set_option maxHeartbeats 800000 in
set_option maxRecDepth 100000 in
theorem readR (A : Option Addr) (n c B : Nat) (xs : List Int) (w : World) (h : Row .u8 w B A n xs) (hB : B ≤ w.heap.size) (hnil : A = none → c = 0) (hn : n ≤ 4398046511104) (hbyt : ∀ x ∈ xs, 0 ≤ x ∧ x ≤ 255) :
    Calls Try.prog 13 #[.slice A n c] w fun r w' => ∃ g, r = .returned (.pointer (some ⟨g, 0, none⟩)) ∧ w.heap.size ≤ g ∧ Rdr w' g xs 0 ∧ Below w.heap.size w w' := by
  have H := Lib.hid h
  have HB := Lib.hid hB
  have HN := Lib.hid hnil
  have HY := Lib.hid hbyt
  clear h hB hnil hbyt
  go_enter Try.func13, Try.ntmps13
  go_wp2_with fail
  refine (clone_any A n c B xs w H.out HB.out HN.out hn).mono ?_
  rintro r w1 ⟨v, rfl, hown, hb⟩
  obtain ⟨A1, c1, rfl, hc1, hnil1⟩ := own_slice hown
  have HO := Lib.hid hown
  have HBL := Lib.hid hb
  have HN1 := Lib.hid hnil1
  have HC := Lib.hid hc1
  clear hown hb hnil1 hc1
  go_wp2
  go_ret
  refine ⟨w1.heap.size, rfl, HBL.out.size, ⟨⟨A1, n, c1, ⟨heap_alloc_new w1 _⟩, (Row.of_own HO.out).alloc (Nat.le_refl _) _, HC.out, HN1.out⟩, HY.out⟩, HBL.out.alloc HBL.out.size _⟩
end Go.Proofs.Ytbmbibjkjnjbpaa.Fld

/- Layer 5 (sample): the Reader of layer 3 with a bound from below on its bytes, so that what lies before it may turn; its Number, Signed, Error and Read, as contracts. -/
import Derived.Test.YtefnpibikebmdaaSmpM
namespace Go.Proofs.Ytefnpibikebmdaa.Smp
open Go.RowKit Var Fld

/-- A Reader: what is left of its bytes, which lie at or beyond lo, and its first error. -/
structure Rdl (w : World) (g lo : Nat) (xs : List Int) (e : Nat) : Prop where
  ex : ∃ A n c, Rd w g A n c e ∧ Row .u8 w g A n xs ∧ n ≤ c ∧ (A = none → c = 0) ∧ (∀ b o, A = some ⟨b, o, none⟩ → lo ≤ b)
  byt : ∀ x ∈ xs, 0 ≤ x ∧ x ≤ 255
  low : lo ≤ g

theorem Rdl.rdr {w : World} {g lo e : Nat} {xs : List Int} (h : Rdl w g lo xs e) : Rdr w g xs e := by
  obtain ⟨A, n, c, h1, h2, h3, h4, _⟩ := h.ex
  exact ⟨⟨A, n, c, h1, h2, h3, h4⟩, h.byt⟩
theorem Rdl.lt {w : World} {g lo e : Nat} {xs : List Int} (h : Rdl w g lo xs e) : g < w.heap.size := h.rdr.lt
theorem Rdl.only {M : Nat → Prop} {w w' : World} {g lo e : Nat} {xs : List Int} (h : Rdl w g lo xs e) (ho : Only M w w') (hM : ∀ k, lo ≤ k → k ≤ g → ¬ M k) : Rdl w' g lo xs e := by
  obtain ⟨A, n, c, h1, h2, h3, h4, h5⟩ := h.ex
  have hg := h.lt
  exact ⟨⟨A, n, c, ⟨ho.at h1.blk (hM g h.low (Nat.le_refl _))⟩, ho.row h2 (Nat.le_of_lt hg) (fun b o e hb => hM b (h5 b o e) (by omega)), h3, h4, h5⟩, h.byt, h.low⟩
theorem Rdl.below {w w' : World} {g lo e : Nat} {xs : List Int} (h : Rdl w g lo xs e) (hb : Below w.heap.size w w') : Rdl w' g lo xs e :=
  h.only (M := fun _ => False) (Only.of_below hb) (fun _ _ _ h => h)

/-- What a step leaves. -/
def StepL (w : World) (g lo : Nat) (xs : List Int) (e : Nat) (t : Int × Nat × Nat) (r : Ending) (w' : World) : Prop :=
  r = .returned (.int .i64 (val e t)) ∧ Rdl w' g lo (after xs e t.2.1 t.2.2).1 (after xs e t.2.1 t.2.2).2 ∧ Only (fun k => k = g) w w'

theorem stepL_ok {w w2 w1 w' : World} {g lo n c : Nat} {A : Option Addr} {xs : List Int} {t : Int × Nat × Nat} {v : Value} {r : Ending} (h1 : Rd w g A n c 0) (h2 : Row .u8 w g A n xs) (h3 : n ≤ c) (h4 : A = none → c = 0) (h5 : ∀ b o, A = some ⟨b, o, none⟩ → lo ≤ b) (hlow : lo ≤ g) (hbyt : ∀ x ∈ xs, 0 ≤ x ∧ x ≤ 255)
    (hb2 : Below w.heap.size w w2) (hv : v = .int .i64 t.1) (h : ReadsTo w2 g A n c (.int .i64 0) v t.2.1 t.2.2 w1 r w') : StepL w g lo xs 0 t r w' := by
  obtain ⟨a, b, c'⟩ := steps_ok (k := .i64) (t := t) h1 h2 h3 h4 hbyt hb2 hv h
  refine ⟨a, ?_, c'⟩
  obtain ⟨ok, bad, ho, hb⟩ := h
  have hlt : g < w.heap.size := lt_of_block h1.blk
  have hr : Row .u8 w' g A n xs := c'.row h2 (Nat.le_of_lt hlt) (fun b _ _ hb e => by omega)
  by_cases he : t.2.2 = 0
  · obtain ⟨hv', b, o, o', rfl, hrd, hoo⟩ := ok he
    have : after xs 0 t.2.1 t.2.2 = (xs.drop t.2.1, 0) := by unfold after; simp [he]
    rw [this]
    exact ⟨⟨_, _, _, hrd, Row.drop hr hoo, by omega, (fun h => by cases h), fun b1 o1 e1 => by injection e1 with e1; injection e1 with e1; subst e1; exact h5 _ _ rfl⟩, fun x hx => hbyt x (List.mem_of_mem_drop hx), hlow⟩
  · obtain ⟨hv', hrd⟩ := bad he
    have : after xs 0 t.2.1 t.2.2 = (xs, t.2.2) := by unfold after; simp [he]
    rw [this]
    exact ⟨⟨_, _, _, hrd, hr, h3, h4, h5⟩, hbyt, hlow⟩

theorem stepL_bad {w w2 : World} {g lo e : Nat} {xs : List Int} {t : Int × Nat × Nat} (h : Rdl w g lo xs e) (he : e ≠ 0) (hb2 : Below w.heap.size w w2) : StepL w g lo xs e t (.returned (.int .i64 0)) w2 := by
  have e1 : after xs e t.2.1 t.2.2 = (xs, e) := by unfold after; rw [if_pos he]
  refine ⟨?_, by rw [e1]; exact h.below hb2, Only.of_below hb2⟩
  unfold val
  rw [if_pos (.inl he)]

set_option maxHeartbeats 800000 in
set_option maxRecDepth 100000 in
theorem numberL (g lo e : Nat) (xs : List Int) (most : Int) (w : World) (h : Rdl w g lo xs e) (h1 : -9223372036854775808 ≤ most) (h2 : most ≤ 9223372036854775807) :
    Calls Try.prog 34 #[.pointer (some ⟨g, 0, none⟩), .int .i64 most] w (StepL w g lo xs e (nxt xs most)) := by
  have HR := Lib.hid h
  have H1 := Lib.hid h1
  have H2 := Lib.hid h2
  clear h h1 h2
  have hb2 : Hid (Below w.heap.size w (w.alloc (.cells #[.int .i64 most] 3))) := ((Below.refl _ _).alloc (Nat.le_refl _) _)
  have hcell : Hid ((w.alloc (.cells #[.int .i64 most] 3)).cell? ⟨w.heap.size, 0, none⟩ = some (.int .i64 most)) := cell_of_one (heap_alloc_new w _)
  have hmf : ∀ (fn : Fn) (first cap : Array Value) (w : World), (Instr.makeFunc fn first cap).run Try.prog w = .ok (.func fn first cap) w := fun _ _ _ _ => rfl
  have fin : Calls Try.prog 41 #[.pointer (some ⟨g, 0, none⟩), .func (.func 42) #[] #[.pointer (some ⟨w.heap.size, 0, none⟩)]] (w.alloc (.cells #[.int .i64 most] 3)) (StepL w g lo xs e (nxt xs most)) := by
    obtain ⟨A, n, c, hrd, hrow, hnc, hnil, hlo⟩ := HR.out.ex
    have hlt : g < w.heap.size := HR.out.lt
    have hlen := hrow.len
    by_cases he : e = 0
    · subst he
      refine (next_int g n c A 42 (.pointer (some ⟨w.heap.size, 0, none⟩)) (fun v _ => v = .int .i64 (nxt xs most).1) (nxt xs most).2.1 (nxt xs most).2.2 _ (hrd.below hb2.out) hnc (fun h => by have := nxt_ok (most := most) HR.out.byt h; omega) (fun h => Row.some_of hrow h) ent_number (how_number A n c g _ xs most _ (hrow.alloc (Nat.le_of_lt hlt) _) HR.out.byt H1.out H2.out hcell.out)).mono ?_
      rintro r w' ⟨v, w1, hv, hR⟩
      exact stepL_ok hrd hrow hnc hnil hlo HR.out.low HR.out.byt hb2.out hv hR
    · refine (next_int_bad g n c A e _ _ (hrd.below hb2.out) (by omega)).mono ?_
      rintro r w' ⟨rfl, rfl⟩
      exact stepL_bad HR.out he hb2.out
  have FIN := Lib.hid fin
  clear fin hb2 hcell
  go_enter Try.func34, Try.ntmps34
  go_wp2_with fail
  refine FIN.out.mono ?_
  rintro r w' hst
  obtain ⟨u, hu⟩ : ∃ u, r = .returned u := ⟨_, hst.1⟩
  subst hu
  have HST := Lib.hid hst
  clear hst
  go_wp2
  go_ret
  exact HST.out

set_option maxHeartbeats 800000 in
set_option maxRecDepth 100000 in
theorem signedL (g lo e : Nat) (xs : List Int) (most : Int) (w : World) (h : Rdl w g lo xs e) (h1 : -9223372036854775808 ≤ most) (h2 : most ≤ 9223372036854775807) :
    Calls Try.prog 35 #[.pointer (some ⟨g, 0, none⟩), .int .i64 most] w (StepL w g lo xs e (nxs xs most)) := by
  have HR := Lib.hid h
  have H1 := Lib.hid h1
  have H2 := Lib.hid h2
  clear h h1 h2
  have hb2 : Hid (Below w.heap.size w (w.alloc (.cells #[.int .i64 most] 3))) := ((Below.refl _ _).alloc (Nat.le_refl _) _)
  have hcell : Hid ((w.alloc (.cells #[.int .i64 most] 3)).cell? ⟨w.heap.size, 0, none⟩ = some (.int .i64 most)) := cell_of_one (heap_alloc_new w _)
  have hmf : ∀ (fn : Fn) (first cap : Array Value) (w : World), (Instr.makeFunc fn first cap).run Try.prog w = .ok (.func fn first cap) w := fun _ _ _ _ => rfl
  have fin : Calls Try.prog 41 #[.pointer (some ⟨g, 0, none⟩), .func (.func 44) #[] #[.pointer (some ⟨w.heap.size, 0, none⟩)]] (w.alloc (.cells #[.int .i64 most] 3)) (StepL w g lo xs e (nxs xs most)) := by
    obtain ⟨A, n, c, hrd, hrow, hnc, hnil, hlo⟩ := HR.out.ex
    have hlt : g < w.heap.size := HR.out.lt
    have hlen := hrow.len
    by_cases he : e = 0
    · subst he
      refine (next_int g n c A 44 (.pointer (some ⟨w.heap.size, 0, none⟩)) (fun v _ => v = .int .i64 (nxs xs most).1) (nxs xs most).2.1 (nxs xs most).2.2 _ (hrd.below hb2.out) hnc (fun h => by have := nxs_ok (most := most) HR.out.byt h; omega) (fun h => Row.some_of hrow h) ent_signed (how_signed A n c g _ xs most _ (hrow.alloc (Nat.le_of_lt hlt) _) HR.out.byt H1.out H2.out hcell.out)).mono ?_
      rintro r w' ⟨v, w1, hv, hR⟩
      exact stepL_ok hrd hrow hnc hnil hlo HR.out.low HR.out.byt hb2.out hv hR
    · refine (next_int_bad g n c A e _ _ (hrd.below hb2.out) (by omega)).mono ?_
      rintro r w' ⟨rfl, rfl⟩
      exact stepL_bad HR.out he hb2.out
  have FIN := Lib.hid fin
  clear fin hb2 hcell
  go_enter Try.func35, Try.ntmps35
  go_wp2_with fail
  refine FIN.out.mono ?_
  rintro r w' hst
  obtain ⟨u, hu⟩ : ∃ u, r = .returned u := ⟨_, hst.1⟩
  subst hu
  have HST := Lib.hid hst
  clear hst
  go_wp2
  go_ret
  exact HST.out

/-- The three of a step. -/
theorem stepT (g lo : Nat) (xs : List Int) (w : World) (h : Rdl w g lo xs 0) : Calls Try.prog 34 #[.pointer (some ⟨g, 0, none⟩), .int .i64 1099511627776] w fun r w' =>
    r = .returned (.int .i64 (tT xs)) ∧ Rdl w' g lo (r1 xs).1 (r1 xs).2 ∧ Only (fun k => k = g) w w' := numberL g lo 0 xs 1099511627776 w h (by omega) (by omega)
theorem stepX (g lo : Nat) (xs : List Int) (w : World) (h : Rdl w g lo (r1 xs).1 (r1 xs).2) : Calls Try.prog 35 #[.pointer (some ⟨g, 0, none⟩), .int .i64 67108864] w fun r w' =>
    r = .returned (.int .i64 (tX xs)) ∧ Rdl w' g lo (r2 xs).1 (r2 xs).2 ∧ Only (fun k => k = g) w w' := signedL g lo (r1 xs).2 (r1 xs).1 67108864 w h (by omega) (by omega)
theorem stepY (g lo : Nat) (xs : List Int) (w : World) (h : Rdl w g lo (r2 xs).1 (r2 xs).2) : Calls Try.prog 35 #[.pointer (some ⟨g, 0, none⟩), .int .i64 67108864] w fun r w' =>
    r = .returned (.int .i64 (tY xs)) ∧ Rdl w' g lo (r3 xs).1 (r3 xs).2 ∧ Only (fun k => k = g) w w' := signedL g lo (r2 xs).2 (r2 xs).1 67108864 w h (by omega) (by omega)

set_option maxHeartbeats 800000 in
set_option maxRecDepth 100000 in
theorem readL (A : Option Addr) (n c B : Nat) (xs : List Int) (w : World) (h : Row .u8 w B A n xs) (hB : B ≤ w.heap.size) (hnil : A = none → c = 0) (hn : n ≤ 4398046511104) (hbyt : ∀ x ∈ xs, 0 ≤ x ∧ x ≤ 255) :
    Calls Try.prog 20 #[.slice A n c] w fun r w' => ∃ g, r = .returned (.pointer (some ⟨g, 0, none⟩)) ∧ Rdl w' g w.heap.size xs 0 ∧ Below w.heap.size w w' := by
  have H := Lib.hid h
  have HB := Lib.hid hB
  have HN := Lib.hid hnil
  have HY := Lib.hid hbyt
  clear h hB hnil hbyt
  go_enter Try.func20, Try.ntmps20
  go_wp2_with fail
  refine (clone_any A n c B xs w H.out HB.out HN.out hn).mono ?_
  rintro r w1 ⟨v, rfl, hown, hb⟩
  obtain ⟨A1, c1, rfl, hc1, hnil1⟩ := own_slice hown
  have hlo : ∀ b o, A1 = some ⟨b, o, none⟩ → w.heap.size ≤ b := by
    intro b o e
    subst e
    rcases hown.2 with ⟨h0, _⟩ | ⟨g, cap, cur, h0, h1, _⟩
    · cases h0
    · injection h0 with h0
      injection h0 with h0
      injection h0 with h0
      subst h0
      exact h1
  have HO := Lib.hid hown
  have HBL := Lib.hid hb
  have HN1 := Lib.hid hnil1
  have HC := Lib.hid hc1
  have HLO := Lib.hid hlo
  clear hown hb hnil1 hc1 hlo
  go_wp2
  go_ret
  exact ⟨w1.heap.size, rfl, ⟨⟨A1, n, c1, ⟨heap_alloc_new w1 _⟩, (Row.of_own HO.out).alloc (Nat.le_refl _) _, HC.out, HN1.out, HLO.out⟩, HY.out, HBL.out.size⟩, HBL.out.alloc HBL.out.size _⟩
end Go.Proofs.Ytefnpibikebmdaa.Smp

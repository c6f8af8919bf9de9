/- The closures and the methods of layer 3's Reader, as contracts: each returns the next field, or nothing behind an error. -/
import Derived.Test.YtefnpibikebmdaaFldR
import Derived.Deep.QuietTactic
import Derived.BigQuiet
namespace Go.Proofs.Ytefnpibikebmdaa.Fld
open Go.RowKit Var

theorem Row.drop {k : IntKind} {w : World} {B b o o' n s : Nat} {xs : List Int} (h : Row k w B (some ⟨b, o, none⟩) n xs) (ho : n - s ≠ 0 → o' = o + s) : Row k w B (some ⟨b, o', none⟩) (n - s) (xs.drop s) := by
  refine ⟨by rw [List.length_drop, h.1], fun hn => ?_⟩
  obtain ⟨b1, o1, e, hb, hc⟩ := h.2 (by omega)
  injection e with e
  injection e with e1 e2
  subst e1 e2
  refine ⟨b, o', rfl, hb, fun j hj => ?_⟩
  rw [ho (by omega), Nat.add_assoc, hc (s + j) (by omega)]
  have hl := h.1
  simp [List.getD, List.getElem?_drop]

theorem Row.take_ {k : IntKind} {w : World} {B n m : Nat} {A : Option Addr} {xs : List Int} (h : Row k w B A n xs) (hm : m ≤ n) : Row k w B A m (xs.take m) := by
  refine ⟨by rw [List.length_take, h.1]; omega, fun hn => ?_⟩
  obtain ⟨b, o, e, hb, hc⟩ := h.2 (by omega)
  refine ⟨b, o, e, hb, fun j hj => ?_⟩
  rw [hc j (by omega)]
  simp [List.getD, hj]

theorem Row.some_of {k : IntKind} {w : World} {B n : Nat} {A : Option Addr} {xs : List Int} (h : Row k w B A n xs) (hn : 0 < n) : ∃ b o, A = some ⟨b, o, none⟩ := by
  obtain ⟨b, o, e, _⟩ := h.2 hn
  exact ⟨b, o, e⟩

/-- A Reader: what is left of its bytes, and its first error. -/
structure Rdr (w : World) (g : Nat) (xs : List Int) (e : Nat) : Prop where
  ex : ∃ A n c, Rd w g A n c e ∧ Row .u8 w g A n xs ∧ n ≤ c ∧ (A = none → c = 0)
  byt : ∀ x ∈ xs, 0 ≤ x ∧ x ≤ 255

theorem Rdr.lt {w : World} {g e : Nat} {xs : List Int} (h : Rdr w g xs e) : g < w.heap.size := by
  obtain ⟨A, n, c, h1, _⟩ := h.ex
  exact lt_of_block h1.blk
theorem Rdr.only {M : Nat → Prop} {w w' : World} {g e : Nat} {xs : List Int} (h : Rdr w g xs e) (ho : Only M w w') (hM : ∀ k, k ≤ g → ¬ M k) : Rdr w' g xs e := by
  obtain ⟨A, n, c, h1, h2, h3, h4⟩ := h.ex
  have hg := h.lt
  exact ⟨⟨A, n, c, ⟨ho.at h1.blk (hM g (Nat.le_refl _))⟩, ho.row h2 (Nat.le_of_lt hg) (fun b _ _ hb => hM b (by omega)), h3, h4⟩, h.byt⟩
theorem Rdr.below {w w' : World} {g e : Nat} {xs : List Int} (h : Rdr w g xs e) (hb : Below w.heap.size w w') : Rdr w' g xs e :=
  h.only (M := fun _ => False) (Only.of_below hb) (fun _ _ h => h)

/-- What a step of the Reader leaves. -/
def after (xs : List Int) (e s er : Nat) : List Int × Nat := if e ≠ 0 then (xs, e) else if er ≠ 0 then (xs, er) else (xs.drop s, 0)

theorem reads_ok {w w2 w1 w' : World} {g n c s er : Nat} {A : Option Addr} {xs : List Int} {zero v : Value} {r : Ending} (h1 : Rd w g A n c 0) (h2 : Row .u8 w g A n xs) (h3 : n ≤ c) (h4 : A = none → c = 0) (hbyt : ∀ x ∈ xs, 0 ≤ x ∧ x ≤ 255)
    (hb2 : Below w.heap.size w w2) (h : ReadsTo w2 g A n c zero v s er w1 r w') : r = .returned (if er ≠ 0 then zero else v) ∧ Rdr w' g (after xs 0 s er).1 (after xs 0 s er).2 ∧ Only (fun k => k = g) w w' := by
  obtain ⟨ok, bad, ho, hb⟩ := h
  have hO : Only (fun k => k = g) w w' := ((Only.of_below (hb2.trans (hb.mono hb2.size)) : Only (fun k => k = g) w w1)).trans ho (fun _ _ h => h)
  have hlt : g < w.heap.size := lt_of_block h1.blk
  have hr : Row .u8 w' g A n xs := hO.row h2 (Nat.le_of_lt hlt) (fun b _ _ hb e => by omega)
  by_cases he : er = 0
  · obtain ⟨hv, b, o, o', rfl, hrd, hoo⟩ := ok he
    refine ⟨by simp [he, hv], ?_, hO⟩
    have : after xs 0 s er = (xs.drop s, 0) := by unfold after; simp [he]
    rw [this]
    exact ⟨⟨_, _, _, hrd, Row.drop hr hoo, by omega, fun h => by cases h⟩, fun x hx => hbyt x (List.mem_of_mem_drop hx)⟩
  · obtain ⟨hv, hrd⟩ := bad he
    refine ⟨by simp [he, hv], ?_, hO⟩
    have : after xs 0 s er = (xs, er) := by unfold after; simp [he]
    rw [this]
    exact ⟨⟨_, _, _, hrd, hr, h3, h4⟩, hbyt⟩

theorem ent_number : Enters 42 := fun _ _ => rfl
theorem ent_signed : Enters 44 := fun _ _ => rfl
set_option maxHeartbeats 800000 in
set_option maxRecDepth 100000 in
theorem how_number (A : Option Addr) (n c B mb : Nat) (xs : List Int) (most : Int) (w : World) (h : Row .u8 w B A n xs) (hb : ∀ x ∈ xs, 0 ≤ x ∧ x ≤ 255) (h1 : -9223372036854775808 ≤ most) (h2 : most ≤ 9223372036854775807) (hm : w.cell? ⟨mb, 0, none⟩ = some (.int .i64 most)) :
    Calls Try.prog 42 #[.slice A n c, .pointer (some ⟨mb, 0, none⟩)] w fun e w' =>
      ∃ v, e = Tells v (nxt xs most).2.1 (nxt xs most).2.2 ∧ Below w.heap.size w w' ∧ v = .int .i64 (nxt xs most).1 := by
  have H := Lib.hid h
  have HB := Lib.hid hb
  have H1 := Lib.hid h1
  have H2 := Lib.hid h2
  clear h hb h1 h2
  go_enter Try.func42, Try.ntmps42
  go_wp2_with fail
  refine (numb_any A n c B xs most w H.out HB.out H1.out H2.out).mono ?_
  rintro e1 w1 ⟨rfl, rfl⟩
  unfold Tells
  go_wp2
  go_ret3
  exact ⟨_, rfl, Below.refl _ _, rfl⟩

theorem same_flip {P : Program} {f : FuncId} {args : Array Value} {w : World} {v : Value} (h : Calls P f args w fun e w' => e = .returned v ∧ w = w') : Calls P f args w fun e w' => e = .returned v ∧ w' = w := h.mono fun _ _ ⟨a, b⟩ => ⟨a, b.symm⟩

set_option maxHeartbeats 800000 in
set_option maxRecDepth 100000 in
theorem how_signed (A : Option Addr) (n c B mb : Nat) (xs : List Int) (most : Int) (w : World) (h : Row .u8 w B A n xs) (hb : ∀ x ∈ xs, 0 ≤ x ∧ x ≤ 255) (h1 : -9223372036854775808 ≤ most) (h2 : most ≤ 9223372036854775807) (hm : w.cell? ⟨mb, 0, none⟩ = some (.int .i64 most)) :
    Calls Try.prog 44 #[.slice A n c, .pointer (some ⟨mb, 0, none⟩)] w fun e w' =>
      ∃ v, e = Tells v (nxs xs most).2.1 (nxs xs most).2.2 ∧ Below w.heap.size w w' ∧ v = .int .i64 (nxs xs most).1 := by
  have H := Lib.hid h
  have HB := Lib.hid hb
  have H1 := Lib.hid h1
  have H2 := Lib.hid h2
  have H64 := Lib.hid (take64 hb)
  clear h hb h1 h2
  obtain ⟨t, HT⟩ : ∃ t, Hid (take 0 0 xs = t) := ⟨_, rfl⟩
  obtain ⟨x, s, er⟩ := t
  have HX : Hid (nxs xs most = if er ≠ 0 then (0, 0, er) else if abv (back x).natAbs most then (0, 0, 3) else (back x, s, 0)) := by unfold Hid nxs; rw [HT.out]
  go_enter Try.func44, Try.ntmps44
  go_wp2_with fail
  refine (take_any A n c B xs _ H.out HB.out).mono ?_
  rintro e1 w1 ⟨rfl, rfl⟩
  rw [HT.out]
  rw [HT.out] at H64
  by_cases he : er = 0
  · subst he
    go_wp2_with fail
    refine (back_any x (by omega) (by have := H64.out; omega) _).mono ?_
    rintro e2 w2 ⟨rfl, rfl⟩
    have HBK := Lib.hid (back_bd (m := (x : Int)) (by omega) (by have := H64.out; omega))
    go_wp2_with fail
    go_quiet (first | (go_at_call 48; refine Calls.quiet_of_same (same_flip (absolute_any (back x) HBK.out.1 HBK.out.2 _))) | (go_at_call 47; refine Calls.quiet_of_same (same_flip (above_any (back x).natAbs most (by have := HBK.out; omega) H1.out H2.out _))))
    cases ha : abv (back x).natAbs most with
    | true =>
      go_wp2
      go_ret3
      refine ⟨.int .i64 0, ?_, ?_, ?_⟩
      · rw [HX.out, ha]; rfl
      · exact ⟨rfl, rfl, rfl, Nat.le_refl _, fun _ _ => rfl⟩
      · rw [HX.out, ha]; rfl
    | false =>
      go_wp2
      go_ret3
      refine ⟨.int .i64 (back x), ?_, ?_, ?_⟩
      · rw [HX.out, ha]; rfl
      · exact ⟨rfl, rfl, rfl, Nat.le_refl _, fun _ _ => rfl⟩
      · rw [HX.out, ha]; rfl
  · have hne : ((er : Int) == 0) = false := beq_eq_false_iff_ne.2 (by omega)
    go_wp2
    go_ret3
    refine ⟨.int .i64 0, ?_, Below.refl _ _, ?_⟩
    · rw [HX.out, if_pos he]; rfl
    · rw [HX.out, if_pos he]

end Go.Proofs.Ytefnpibikebmdaa.Fld

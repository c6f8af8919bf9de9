/- Lemmas that the proof stands on, in build order: FldC FldD FldG FldX FldY. -/
import Derived.Deep.QuietTactic
import Derived.BigQuiet
import Derived.Test.YtppbpmmfcoblmaaDoorJ5450dea
/- The closures and the methods of layer 3's Reader, as contracts: each returns the next field, or nothing behind an error. -/
namespace Go.Proofs.YtppbpmmfcoblmaaDoor.Fld
open Go.RowKit Var

theorem Row.drop {k : IntKind} {w : World} {B b o o' n s : Nat} {xs : List Int} (h : Row k w B (some ⟨b, o, none⟩) n xs) (ho : n - s ≠ 0 → o' = o + s) : Row k w B (some ⟨b, o', none⟩) (n - s) (xs.drop s) := by
  refine ⟨by rw [List.length_drop, h.1], fun hn => ?_⟩
  obtain ⟨b1, o1, e, hb, hc⟩ := h.2 (by omega)
  injection e with e
  injection e with e1 e2
  subst e1 e2
  refine ⟨b, o', rfl, hb, fun j hj => ?_⟩
  rw [ho (by omega), Nat.add_assoc, hc (s + j) (by omega)]
  have hl := h.1
  simp [List.getD, List.getElem?_drop]

theorem Row.take_ {k : IntKind} {w : World} {B n m : Nat} {A : Option Addr} {xs : List Int} (h : Row k w B A n xs) (hm : m ≤ n) : Row k w B A m (xs.take m) := by
  refine ⟨by rw [List.length_take, h.1]; omega, fun hn => ?_⟩
  obtain ⟨b, o, e, hb, hc⟩ := h.2 (by omega)
  refine ⟨b, o, e, hb, fun j hj => ?_⟩
  rw [hc j (by omega)]
  simp [List.getD, hj]

theorem Row.some_of {k : IntKind} {w : World} {B n : Nat} {A : Option Addr} {xs : List Int} (h : Row k w B A n xs) (hn : 0 < n) : ∃ b o, A = some ⟨b, o, none⟩ := by
  obtain ⟨b, o, e, _⟩ := h.2 hn
  exact ⟨b, o, e⟩

/-- A Reader: what is left of its bytes, and its first error. -/
structure Rdr (w : World) (g : Nat) (xs : List Int) (e : Nat) : Prop where
  ex : ∃ A n c, Rd w g A n c e ∧ Row .u8 w g A n xs ∧ n ≤ c ∧ (A = none → c = 0)
  byt : ∀ x ∈ xs, 0 ≤ x ∧ x ≤ 255

theorem Rdr.lt {w : World} {g e : Nat} {xs : List Int} (h : Rdr w g xs e) : g < w.heap.size := by
  obtain ⟨A, n, c, h1, _⟩ := h.ex
  exact lt_of_block h1.blk
theorem Rdr.only {M : Nat → Prop} {w w' : World} {g e : Nat} {xs : List Int} (h : Rdr w g xs e) (ho : Only M w w') (hM : ∀ k, k ≤ g → ¬ M k) : Rdr w' g xs e := by
  obtain ⟨A, n, c, h1, h2, h3, h4⟩ := h.ex
  have hg := h.lt
  exact ⟨⟨A, n, c, ⟨ho.at h1.blk (hM g (Nat.le_refl _))⟩, ho.row h2 (Nat.le_of_lt hg) (fun b _ _ hb => hM b (by omega)), h3, h4⟩, h.byt⟩
theorem Rdr.below {w w' : World} {g e : Nat} {xs : List Int} (h : Rdr w g xs e) (hb : Below w.heap.size w w') : Rdr w' g xs e :=
  h.only (M := fun _ => False) (Only.of_below hb) (fun _ _ h => h)

/-- What a step of the Reader leaves. -/
def after (xs : List Int) (e s er : Nat) : List Int × Nat := if e ≠ 0 then (xs, e) else if er ≠ 0 then (xs, er) else (xs.drop s, 0)

theorem reads_ok {w w2 w1 w' : World} {g n c s er : Nat} {A : Option Addr} {xs : List Int} {zero v : Value} {r : Ending} (h1 : Rd w g A n c 0) (h2 : Row .u8 w g A n xs) (h3 : n ≤ c) (h4 : A = none → c = 0) (hbyt : ∀ x ∈ xs, 0 ≤ x ∧ x ≤ 255)
    (hb2 : Below w.heap.size w w2) (h : ReadsTo w2 g A n c zero v s er w1 r w') : r = .returned (if er ≠ 0 then zero else v) ∧ Rdr w' g (after xs 0 s er).1 (after xs 0 s er).2 ∧ Only (fun k => k = g) w w' := by
  obtain ⟨ok, bad, ho, hb⟩ := h
  have hO : Only (fun k => k = g) w w' := ((Only.of_below (hb2.trans (hb.mono hb2.size)) : Only (fun k => k = g) w w1)).trans ho (fun _ _ h => h)
  have hlt : g < w.heap.size := lt_of_block h1.blk
  have hr : Row .u8 w' g A n xs := hO.row h2 (Nat.le_of_lt hlt) (fun b _ _ hb e => by omega)
  by_cases he : er = 0
  · obtain ⟨hv, b, o, o', rfl, hrd, hoo⟩ := ok he
    refine ⟨by simp [he, hv], ?_, hO⟩
    have : after xs 0 s er = (xs.drop s, 0) := by unfold after; simp [he]
    rw [this]
    exact ⟨⟨_, _, _, hrd, Row.drop hr hoo, by omega, fun h => by cases h⟩, fun x hx => hbyt x (List.mem_of_mem_drop hx)⟩
  · obtain ⟨hv, hrd⟩ := bad he
    refine ⟨by simp [he, hv], ?_, hO⟩
    have : after xs 0 s er = (xs, er) := by unfold after; simp [he]
    rw [this]
    exact ⟨⟨_, _, _, hrd, hr, h3, h4⟩, hbyt⟩

set_option maxRecDepth 100000 in
theorem ent_number : Enters 87 := fun _ _ => rfl
set_option maxHeartbeats 800000 in
set_option maxRecDepth 100000 in
theorem how_number (A : Option Addr) (n c B mb : Nat) (xs : List Int) (most : Int) (w : World) (h : Row .u8 w B A n xs) (hb : ∀ x ∈ xs, 0 ≤ x ∧ x ≤ 255) (h1 : -9223372036854775808 ≤ most) (h2 : most ≤ 9223372036854775807) (hm : w.cell? ⟨mb, 0, none⟩ = some (.int .i64 most)) :
    Calls Tryd.prog 87 #[.slice A n c, .pointer (some ⟨mb, 0, none⟩)] w fun e w' =>
      ∃ v, e = Tells v (nxt xs most).2.1 (nxt xs most).2.2 ∧ Below w.heap.size w w' ∧ v = .int .i64 (nxt xs most).1 := by
  have H := Lib.hid h
  have HB := Lib.hid hb
  have H1 := Lib.hid h1
  have H2 := Lib.hid h2
  clear h hb h1 h2
  go_enter Tryd.func87, Tryd.ntmps87
  go_wp2_with fail
  refine (numb_any A n c B xs most w H.out HB.out H1.out H2.out).mono ?_
  rintro e1 w1 ⟨rfl, rfl⟩
  unfold Tells
  go_wp2
  go_ret3
  exact ⟨_, rfl, Below.refl _ _, rfl⟩

theorem same_flip {P : Program} {f : FuncId} {args : Array Value} {w : World} {v : Value} (h : Calls P f args w fun e w' => e = .returned v ∧ w = w') : Calls P f args w fun e w' => e = .returned v ∧ w' = w := h.mono fun _ _ ⟨a, b⟩ => ⟨a, b.symm⟩

end Go.Proofs.YtppbpmmfcoblmaaDoor.Fld

/- The methods of layer 3's Reader, as contracts: each returns the next field, or nothing behind an error; a nil Reader. -/
namespace Go.Proofs.YtppbpmmfcoblmaaDoor.Fld
open Go.RowKit Var

/-- The value that a step returns. -/
def val (e : Nat) (t : Int × Nat × Nat) : Int := if e ≠ 0 ∨ t.2.2 ≠ 0 then 0 else t.1

def Steps (w : World) (g : Nat) (xs : List Int) (e : Nat) (k : IntKind) (t : Int × Nat × Nat) (r : Ending) (w' : World) : Prop :=
  r = .returned (.int k (val e t)) ∧ Rdr w' g (after xs e t.2.1 t.2.2).1 (after xs e t.2.1 t.2.2).2 ∧ Only (fun k => k = g) w w'

theorem steps_ok {w w2 w1 w' : World} {g n c : Nat} {A : Option Addr} {xs : List Int} {k : IntKind} {t : Int × Nat × Nat} {v : Value} {r : Ending} (h1 : Rd w g A n c 0) (h2 : Row .u8 w g A n xs) (h3 : n ≤ c) (h4 : A = none → c = 0) (hbyt : ∀ x ∈ xs, 0 ≤ x ∧ x ≤ 255)
    (hb2 : Below w.heap.size w w2) (hv : v = .int k t.1) (h : ReadsTo w2 g A n c (.int k 0) v t.2.1 t.2.2 w1 r w') : Steps w g xs 0 k t r w' := by
  obtain ⟨a, b, c⟩ := reads_ok h1 h2 h3 h4 hbyt hb2 h
  refine ⟨?_, b, c⟩
  rw [a, hv]
  unfold val
  by_cases he : t.2.2 = 0 <;> simp [he]

theorem steps_bad {w w2 : World} {g e : Nat} {xs : List Int} {k : IntKind} {t : Int × Nat × Nat} (h : Rdr w g xs e) (he : e ≠ 0) (hb2 : Below w.heap.size w w2) : Steps w g xs e k t (.returned (.int k 0)) w2 := by
  have e1 : after xs e t.2.1 t.2.2 = (xs, e) := by unfold after; rw [if_pos he]
  refine ⟨?_, by rw [e1]; exact h.below hb2, Only.of_below hb2⟩
  unfold val
  rw [if_pos (.inl he)]

set_option maxHeartbeats 800000 in
set_option maxRecDepth 100000 in
theorem numberR (g e : Nat) (xs : List Int) (most : Int) (w : World) (h : Rdr w g xs e) (h1 : -9223372036854775808 ≤ most) (h2 : most ≤ 9223372036854775807) :
    Calls Tryd.prog 70 #[.pointer (some ⟨g, 0, none⟩), .int .i64 most] w (Steps w g xs e .i64 (nxt xs most)) := by
  have HR := Lib.hid h
  have H1 := Lib.hid h1
  have H2 := Lib.hid h2
  clear h h1 h2
  have hb2 : Hid (Below w.heap.size w (w.alloc (.cells #[.int .i64 most] 3))) := ((Below.refl _ _).alloc (Nat.le_refl _) _)
  have hcell : Hid ((w.alloc (.cells #[.int .i64 most] 3)).cell? ⟨w.heap.size, 0, none⟩ = some (.int .i64 most)) := cell_of_one (heap_alloc_new w _)
  have hmf : ∀ (fn : Fn) (first cap : Array Value) (w : World), (Instr.makeFunc fn first cap).run Tryd.prog w = .ok (.func fn first cap) w := fun _ _ _ _ => rfl
  have fin : Calls Tryd.prog 86 #[.pointer (some ⟨g, 0, none⟩), .func (.func 87) #[] #[.pointer (some ⟨w.heap.size, 0, none⟩)]] (w.alloc (.cells #[.int .i64 most] 3)) (Steps w g xs e .i64 (nxt xs most)) := by
    obtain ⟨A, n, c, hrd, hrow, hnc, hnil⟩ := HR.out.ex
    have hlt : g < w.heap.size := HR.out.lt
    have hlen := hrow.len
    by_cases he : e = 0
    · subst he
      refine (next_int g n c A 87 (.pointer (some ⟨w.heap.size, 0, none⟩)) (fun v _ => v = .int .i64 (nxt xs most).1) (nxt xs most).2.1 (nxt xs most).2.2 _ (hrd.below hb2.out) hnc (fun h => by have := nxt_ok (most := most) HR.out.byt h; omega) (fun h => Row.some_of hrow h) ent_number (how_number A n c g _ xs most _ (hrow.alloc (Nat.le_of_lt hlt) _) HR.out.byt H1.out H2.out hcell.out)).mono ?_
      rintro r w' ⟨v, w1, hv, hR⟩
      exact steps_ok hrd hrow hnc hnil HR.out.byt hb2.out hv hR
    · refine (next_int_bad g n c A e _ _ (hrd.below hb2.out) (by omega)).mono ?_
      rintro r w' ⟨rfl, rfl⟩
      exact steps_bad HR.out he hb2.out
  have FIN := Lib.hid fin
  clear fin hb2 hcell
  go_enter Tryd.func70, Tryd.ntmps70
  go_wp2_with fail
  refine FIN.out.mono ?_
  rintro r w' hst
  obtain ⟨u, hu⟩ : ∃ u, r = .returned u := ⟨_, hst.1⟩
  subst hu
  have HST := Lib.hid hst
  clear hst
  go_wp2
  go_ret
  exact HST.out

set_option maxHeartbeats 800000 in
set_option maxRecDepth 100000 in
theorem numberR_nil (most : Int) (w : World) : Calls Tryd.prog 70 #[.pointer none, .int .i64 most] w fun r w' => r = .returned (.int .i64 0) ∧ Below w.heap.size w w' := by
  have hmf : ∀ (fn : Fn) (first cap : Array Value) (w : World), (Instr.makeFunc fn first cap).run Tryd.prog w = .ok (.func fn first cap) w := fun _ _ _ _ => rfl
  go_enter Tryd.func70, Tryd.ntmps70
  go_wp2_with fail
  refine (next_int_nil _ _).mono ?_
  rintro r w' ⟨rfl, rfl⟩
  go_wp2
  go_ret
  exact ⟨rfl, ((Below.refl _ _).alloc (Nat.le_refl _) _)⟩

end Go.Proofs.YtppbpmmfcoblmaaDoor.Fld

/- Error and Read of layer 3's Reader, as contracts. -/
namespace Go.Proofs.YtppbpmmfcoblmaaDoor.Fld
open Go.RowKit Var

set_option maxHeartbeats 800000 in
set_option maxRecDepth 100000 in
theorem errorR (g e : Nat) (xs : List Int) (w : World) (h : Rdr w g xs e) : Calls Tryd.prog 91 #[.pointer (some ⟨g, 0, none⟩)] w fun r w' => r = .returned (.int .i64 (e : Int)) ∧ w = w' := by
  obtain ⟨A, n, c, hrd, _⟩ := h.ex
  exact error_any g n c A e w hrd

set_option maxHeartbeats 800000 in
set_option maxRecDepth 100000 in
theorem readR (A : Option Addr) (n c B : Nat) (xs : List Int) (w : World) (h : Row .u8 w B A n xs) (hB : B ≤ w.heap.size) (hnil : A = none → c = 0) (hn : n ≤ 4398046511104) (hbyt : ∀ x ∈ xs, 0 ≤ x ∧ x ≤ 255) :
    Calls Tryd.prog 69 #[.slice A n c] w fun r w' => ∃ g, r = .returned (.pointer (some ⟨g, 0, none⟩)) ∧ w.heap.size ≤ g ∧ Rdr w' g xs 0 ∧ Below w.heap.size w w' := by
  have H := Lib.hid h
  have HB := Lib.hid hB
  have HN := Lib.hid hnil
  have HY := Lib.hid hbyt
  clear h hB hnil hbyt
  go_enter Tryd.func69, Tryd.ntmps69
  go_wp2_with fail
  refine (clone_any A n c B xs w H.out HB.out HN.out hn).mono ?_
  rintro r w1 ⟨v, rfl, hown, hb⟩
  obtain ⟨A1, c1, rfl, hc1, hnil1⟩ := own_slice hown
  have HO := Lib.hid hown
  have HBL := Lib.hid hb
  have HN1 := Lib.hid hnil1
  have HC := Lib.hid hc1
  clear hown hb hnil1 hc1
  go_wp2
  go_ret
  refine ⟨w1.heap.size, rfl, HBL.out.size, ⟨⟨A1, n, c1, ⟨heap_alloc_new w1 _⟩, (Row.of_own HO.out).alloc (Nat.le_refl _) _, HC.out, HN1.out⟩, HY.out⟩, HBL.out.alloc HBL.out.size _⟩
end Go.Proofs.YtppbpmmfcoblmaaDoor.Fld

/- The reference's reader of layer 3, as contracts. -/
namespace Go.Proofs.YtppbpmmfcoblmaaDoor.Fld
open Go.RowKit Var

/-- The reference's reader behind a pointer: all its bytes, how far it is, the first error. -/
structure Rf (w : World) (g : Nat) (A : Option Addr) (n c at_ e : Nat) : Prop where
  blk : w.heap[g]? = some (.cells #[.slice A n c, .int .i64 (at_ : Int), .int .i64 (e : Int)] 112 (0, 0))

section
variable {w w' : World} {g n c at_ e : Nat} {A : Option Addr}
theorem Rf.c0 (h : Rf w g A n c at_ e) : w.cell? ⟨g, 0, none⟩ = some (.slice A n c) := cell_of_blk h.blk rfl
theorem Rf.c1 (h : Rf w g A n c at_ e) : w.cell? ⟨g, 1, none⟩ = some (.int .i64 (at_ : Int)) := cell_of_blk h.blk rfl
theorem Rf.c2 (h : Rf w g A n c at_ e) : w.cell? ⟨g, 2, none⟩ = some (.int .i64 (e : Int)) := cell_of_blk h.blk rfl
theorem Rf.f1 (h : Rf w g A n c at_ e) : w.frozen? ⟨g, 1, none⟩ = false := free_of_blk h.blk
theorem Rf.f2 (h : Rf w g A n c at_ e) : w.frozen? ⟨g, 2, none⟩ = false := free_of_blk h.blk
theorem Rf.set1 (h : Rf w g A n c at_ e) (k : Nat) : Rf (w.setCell ⟨g, 1, none⟩ (.int .i64 (k : Int))) g A n c k e := ⟨set_blk h.blk⟩
theorem Rf.set2 (h : Rf w g A n c at_ e) (k : Nat) : Rf (w.setCell ⟨g, 2, none⟩ (.int .i64 (k : Int))) g A n c at_ k := ⟨set_blk h.blk⟩
theorem Rf.drew (h : Rf w g A n c at_ e) (q : Nat) : Rf (w.drewN q) g A n c at_ e := ⟨h.blk⟩
end

structure Rfr (w : World) (g N : Nat) (A : Option Addr) (n c : Nat) (bs : List Int) (at_ e : Nat) : Prop where
  rf : Rf w g A n c at_ e
  row : Row .u8 w N A n bs
  low : N ≤ g
  nc : n ≤ c
  le : at_ ≤ n
  nil : A = none → c = 0
  byt : ∀ x ∈ bs, 0 ≤ x ∧ x ≤ 255
  len : n ≤ 4398046511104

theorem Rfr.lt {w : World} {g N n c at_ e : Nat} {A : Option Addr} {bs : List Int} (h : Rfr w g N A n c bs at_ e) : g < w.heap.size := lt_of_block h.rf.blk
theorem Rfr.only {M : Nat → Prop} {w w' : World} {g N n c at_ e : Nat} {A : Option Addr} {bs : List Int} (h : Rfr w g N A n c bs at_ e) (ho : Only M w w') (hg : ¬ M g) (hM : ∀ k, k < N → ¬ M k) : Rfr w' g N A n c bs at_ e :=
  ⟨⟨ho.at h.rf.blk hg⟩, ho.row h.row (by have := h.lt; have := h.low; omega) (fun b _ _ hb => hM b hb), h.low, h.nc, h.le, h.nil, h.byt, h.len⟩
theorem Rfr.set {w w' : World} {g N n c at_ e at' e' : Nat} {A : Option Addr} {bs : List Int} (h : Rfr w g N A n c bs at_ e) (ho : Only (fun k => k = g) w w') (hr : Rf w' g A n c at' e') (ha : at' ≤ n) : Rfr w' g N A n c bs at' e' :=
  ⟨hr, ho.row h.row (by have := h.lt; have := h.low; omega) (fun b _ _ hb e => by have := h.low; omega), h.low, h.nc, ha, h.nil, h.byt, h.len⟩

/-- What raw returns: layer 1's number and size, its error kept. -/
def RawTo (w : World) (g N : Nat) (A : Option Addr) (n c : Nat) (bs : List Int) (at_ : Nat) (r : Ending) (w' : World) : Prop :=
  r = .returned (.tuple #[.int .u64 ((take 0 0 (bs.drop at_)).1 : Int), .int .i64 ((take 0 0 (bs.drop at_)).2.1 : Int)]) ∧ Rfr w' g N A n c bs at_ (take 0 0 (bs.drop at_)).2.2 ∧ Only (fun k => k = g) w w'

set_option maxHeartbeats 1600000 in
set_option maxRecDepth 100000 in
theorem raw_any (g N n c at_ : Nat) (A : Option Addr) (bs : List Int) (w : World) (h : Rfr w g N A n c bs at_ 0) :
    Calls Tryd.prog 75 #[.pointer (some ⟨g, 0, none⟩)] w (RawTo w g N A n c bs at_) := by
  have HR := Lib.hid h
  have c0 := h.rf.c0
  have c1 := h.rf.c1
  have c2 := h.rf.c2
  have f2 := h.rf.f2
  have hle := h.le
  have hnc := h.nc
  have hlen := h.len
  obtain ⟨t, HT⟩ : ∃ t, Hid (take 0 0 (bs.drop at_) = t) := ⟨_, rfl⟩
  obtain ⟨x, s, er⟩ := t
  have TK : ∀ (A' : Option Addr) (m c' : Nat) (w' : World), Row .u8 w' N A' m (bs.drop at_) → Calls Tryd.prog 92 #[.slice A' m c'] w' fun e w'' => e = .returned (.tuple #[.int .u64 (x : Int), .int .i64 (s : Int), .int .i64 (er : Int)]) ∧ w'' = w' := by
    intro A' m c' w' hr
    have := reftake_any A' m c' N (bs.drop at_) w' hr (fun y hy => HR.out.byt y (List.mem_of_mem_drop hy))
    rw [HT.out] at this
    exact same_flip this
  have HTK := Lib.hid TK
  clear h TK
  have fin : ∀ q : Nat, (er = 0 → RawTo w g N A n c bs at_ (.returned (.tuple #[.int .u64 (x : Int), .int .i64 (s : Int)])) (w.drewN q)) ∧
      (er ≠ 0 → RawTo w g N A n c bs at_ (.returned (.tuple #[.int .u64 (x : Int), .int .i64 (s : Int)])) ((w.drewN q).setCell ⟨g, 2, none⟩ (.int .i64 (er : Int)))) := by
    intro q
    have hO : Only (fun k => k = g) w (w.drewN q) := ⟨rfl, rfl, rfl, Nat.le_refl _, fun _ _ _ => rfl⟩
    have hO2 : Only (fun k => k = g) w ((w.drewN q).setCell ⟨g, 2, none⟩ (.int .i64 (er : Int))) := hO.trans (Only.setCell _ ⟨g, 2, none⟩ _) (fun _ _ h => h)
    constructor
    · intro he
      unfold RawTo
      rw [HT.out]
      refine ⟨rfl, HR.out.set hO ?_ HR.out.le, hO⟩
      have := HR.out.rf.drew q
      simpa [he] using this
    · intro he
      unfold RawTo
      rw [HT.out]
      exact ⟨rfl, HR.out.set hO2 ((HR.out.rf.drew q).set2 er) HR.out.le, hO2⟩
  have FIN := Lib.hid fin
  clear fin
  rcases Nat.eq_zero_or_pos n with hn0 | hn0
  · subst hn0
    have ha : at_ = 0 := by omega
    subst ha
    have HRow : Hid (Row .u8 w N A (0 - 0) (bs.drop 0)) := by
      have := HR.out.row
      unfold Hid
      simpa using this
    rcases A with _ | a
    · have hc0 := HR.out.nil rfl
      subst hc0
      go_enter Tryd.func75, Tryd.ntmps75
      go_wp2_with fail
      go_quiet ((go_at_call 92; refine Calls.quiet_of_same (HTK.out none 0 0 _ HRow.out)))
      by_cases he : er = 0
      · have HE := Lib.hid he
        have hz : ((er : Int) == 0) = true := beq_iff_eq.2 (by omega)
        clear he
        go_wp2
        go_ret2
        exact (FIN.out _).1 HE.out
      · have HE := Lib.hid he
        have hz : ((er : Int) == 0) = false := beq_eq_false_iff_ne.2 (by omega)
        clear he
        go_wp2
        go_ret2
        exact (FIN.out _).2 HE.out
    · by_cases hc0 : c = 0
      · subst hc0
        go_enter Tryd.func75, Tryd.ntmps75
        go_wp2_with fail
        go_quiet ((go_at_call 92; refine Calls.quiet_of_same (HTK.out (some a) 0 0 _ HRow.out)))
        by_cases he : er = 0
        · have HE := Lib.hid he
          have hz : ((er : Int) == 0) = true := beq_iff_eq.2 (by omega)
          clear he
          go_wp2
          go_ret2
          exact (FIN.out _).1 HE.out
        · have HE := Lib.hid he
          have hz : ((er : Int) == 0) = false := beq_eq_false_iff_ne.2 (by omega)
          clear he
          go_wp2
          go_ret2
          exact (FIN.out _).2 HE.out
      · go_enter Tryd.func75, Tryd.ntmps75
        go_wp2_with fail
        go_quiet ((go_at_call 92; refine Calls.quiet_of_same (HTK.out (some a) 0 c _ HRow.out)))
        by_cases he : er = 0
        · have HE := Lib.hid he
          have hz : ((er : Int) == 0) = true := beq_iff_eq.2 (by omega)
          clear he
          go_wp2
          go_ret2
          exact (FIN.out _).1 HE.out
        · have HE := Lib.hid he
          have hz : ((er : Int) == 0) = false := beq_eq_false_iff_ne.2 (by omega)
          clear he
          go_wp2
          go_ret2
          exact (FIN.out _).2 HE.out
  · obtain ⟨b, o, rfl⟩ := Row.some_of HR.out.row hn0
    have HRow : Hid (∀ o', (n - at_ ≠ 0 → o' = o + at_) → Row .u8 w N (some ⟨b, o', none⟩) (n - at_) (bs.drop at_)) := fun o' ho => Row.drop HR.out.row ho
    by_cases hc0 : c = at_
    · have hz0 : n - at_ = 0 := by omega
      have hna : at_ = n := by omega
      have HR0 : Hid (Row .u8 w N (some ⟨b, o, none⟩) 0 (bs.drop at_)) := by
        have := HRow.out o (fun h => absurd hz0 h)
        rw [hz0] at this
        exact this
      subst hna
      subst hc0
      clear hz0 HRow
      go_enter Tryd.func75, Tryd.ntmps75
      go_wp2_with fail
      go_quiet ((go_at_call 92; refine Calls.quiet_of_same (HTK.out (some ⟨b, o, none⟩) 0 0 _ HR0.out)))
      by_cases he : er = 0
      · have HE := Lib.hid he
        have hz : ((er : Int) == 0) = true := beq_iff_eq.2 (by omega)
        clear he
        go_wp2
        go_ret2
        exact (FIN.out _).1 HE.out
      · have HE := Lib.hid he
        have hz : ((er : Int) == 0) = false := beq_eq_false_iff_ne.2 (by omega)
        clear he
        go_wp2
        go_ret2
        exact (FIN.out _).2 HE.out
    · have HR0 : Hid (Row .u8 w N (some ⟨b, o + at_, none⟩) (n - at_) (bs.drop at_)) := HRow.out (o + at_) (fun _ => rfl)
      go_enter Tryd.func75, Tryd.ntmps75
      go_wp2_with fail
      go_quiet ((go_at_call 92; refine Calls.quiet_of_same (HTK.out (some ⟨b, o + at_, none⟩) (n - at_) (c - at_) _ HR0.out)))
      by_cases he : er = 0
      · have HE := Lib.hid he
        have hz : ((er : Int) == 0) = true := beq_iff_eq.2 (by omega)
        clear he
        go_wp2
        go_ret2
        exact (FIN.out _).1 HE.out
      · have HE := Lib.hid he
        have hz : ((er : Int) == 0) = false := beq_eq_false_iff_ne.2 (by omega)
        clear he
        go_wp2
        go_ret2
        exact (FIN.out _).2 HE.out
end Go.Proofs.YtppbpmmfcoblmaaDoor.Fld

/- The reference's reader of layer 3: its methods, as contracts. -/
namespace Go.Proofs.YtppbpmmfcoblmaaDoor.Fld
open Go.RowKit Var

def RefSteps (w : World) (g N : Nat) (A : Option Addr) (n c : Nat) (bs : List Int) (at_ e : Nat) (k : IntKind) (t : Int × Nat × Nat) (r : Ending) (w' : World) : Prop :=
  r = .returned (.int k (val e t)) ∧ (∃ at', Rfr w' g N A n c bs at' (after (bs.drop at_) e t.2.1 t.2.2).2 ∧ bs.drop at' = (after (bs.drop at_) e t.2.1 t.2.2).1) ∧ Only (fun k => k = g) w w'

section
variable {w w1 w' : World} {g N n c at_ e : Nat} {A : Option Addr} {bs : List Int} {k : IntKind} {t : Int × Nat × Nat}
theorem refsteps_bad (h : Rfr w g N A n c bs at_ e) (he : e ≠ 0) : RefSteps w g N A n c bs at_ e k t (.returned (.int k 0)) w := by
  have e1 : after (bs.drop at_) e t.2.1 t.2.2 = (bs.drop at_, e) := by unfold after; rw [if_pos he]
  unfold RefSteps
  rw [e1]
  exact ⟨by unfold val; rw [if_pos (.inl he)], ⟨at_, h, rfl⟩, Only.refl _ _⟩
theorem refsteps_err {er : Nat} (h : Rfr w' g N A n c bs at_ er) (ht : t.2.2 = er) (he : er ≠ 0) (ho : Only (fun k => k = g) w w') : RefSteps w g N A n c bs at_ 0 k t (.returned (.int k 0)) w' := by
  have e1 : after (bs.drop at_) 0 t.2.1 t.2.2 = (bs.drop at_, er) := by unfold after; rw [if_neg (by simp), if_pos (by rw [ht]; exact he), ht]
  unfold RefSteps
  rw [e1]
  exact ⟨by unfold val; rw [if_pos (.inr (by rw [ht]; exact he))], ⟨at_, h, rfl⟩, ho⟩
theorem refsteps_ok {s : Nat} {x : Int} (h : Rfr w' g N A n c bs (at_ + s) 0) (ht : t = (x, s, 0)) (ho : Only (fun k => k = g) w w') : RefSteps w g N A n c bs at_ 0 k t (.returned (.int k x)) w' := by
  subst ht
  refine ⟨by simp [val], ⟨at_ + s, by simpa [after] using h, by simp [after]⟩, ho⟩
end

set_option maxHeartbeats 800000 in
set_option maxRecDepth 100000 in
theorem raw_bad (g n c at_ e : Nat) (A : Option Addr) (w : World) (h : Rf w g A n c at_ e) (he : e ≠ 0) :
    Calls Tryd.prog 75 #[.pointer (some ⟨g, 0, none⟩)] w fun r w' => r = .returned (.tuple #[.int .u64 0, .int .i64 0]) ∧ w = w' := by
  have c2 := h.c2
  have hne : ((e : Int) == 0) = false := beq_eq_false_iff_ne.2 (by omega)
  clear h he
  go_enter Tryd.func75, Tryd.ntmps75
  go_wp2
  go_ret2
  exact ⟨rfl, rfl⟩

theorem nxt_err {xs : List Int} {most : Int} {x s er : Nat} (h : take 0 0 xs = (x, s, er)) (he : er ≠ 0) : (nxt xs most).2.2 = er := by unfold nxt; rw [h]; simp [he]
theorem nxt_abv {xs : List Int} {most : Int} {x s : Nat} (h : take 0 0 xs = (x, s, 0)) (ha : abv x most = true) : (nxt xs most).2.2 = 3 := by unfold nxt; rw [h]; simp [ha]
theorem nxt_fin {xs : List Int} {most : Int} {x s : Nat} (h : take 0 0 xs = (x, s, 0)) (ha : abv x most = false) : nxt xs most = ((x : Int), s, 0) := by unfold nxt; rw [h]; simp [ha]

set_option maxHeartbeats 1600000 in
set_option maxRecDepth 100000 in
theorem refnum_any (g N n c at_ e : Nat) (A : Option Addr) (bs : List Int) (most : Int) (w : World) (h : Rfr w g N A n c bs at_ e) (h1 : -9223372036854775808 ≤ most) (h2 : most ≤ 9223372036854775807) :
    Calls Tryd.prog 43 #[.pointer (some ⟨g, 0, none⟩), .int .i64 most] w (RefSteps w g N A n c bs at_ e .i64 (nxt (bs.drop at_) most)) := by
  have HR := Lib.hid h
  have H1 := Lib.hid h1
  have H2 := Lib.hid h2
  have hbyt : ∀ y ∈ bs.drop at_, 0 ≤ y ∧ y ≤ 255 := fun y hy => h.byt y (List.mem_of_mem_drop hy)
  have H64 := Lib.hid (take64 hbyt)
  have HSZ := Lib.hid (take_size hbyt)
  have HL : Hid ((bs.drop at_).length = n - at_) := by unfold Hid; rw [List.length_drop, h.row.len]
  clear h h1 h2 hbyt
  by_cases he : e = 0
  · subst he
    obtain ⟨t, HT⟩ : ∃ t, Hid (take 0 0 (bs.drop at_) = t) := ⟨_, rfl⟩
    obtain ⟨x, s, er⟩ := t
    rw [HT.out] at H64 HSZ
    go_enter Tryd.func43, Tryd.ntmps43
    go_wp2_with fail
    refine (raw_any g N n c at_ A bs w HR.out).mono ?_
    rintro r w1 ⟨rfl, hr1, ho1⟩
    rw [HT.out] at hr1
    rw [HT.out]
    have HR1 := Lib.hid hr1
    have HO1 := Lib.hid ho1
    have d1 := hr1.rf.c1
    have g1 := hr1.rf.f1
    have d2 := hr1.rf.c2
    have g2 := hr1.rf.f2
    clear hr1 ho1
    by_cases her : er = 0
    · subst her
      obtain ⟨s0, s1⟩ := HSZ.out rfl
      have s2 : at_ + s ≤ n := by have := HL.out; have := HR.out.le; omega
      have s3 : n ≤ 4398046511104 := HR.out.len
      clear s0 s1
      have HS2 := Lib.hid s2
      have hw0 : IntKind.i64.wrap ((at_ : Int) + s) = (at_ : Int) + s := IntWalk.i64_in _ ⟨by omega, by omega⟩
      cases ha : abv x most with
      | true =>
        have fin : ∀ r w2, r = Ending.returned (.int .i64 0) → w2 = w1.setCell ⟨g, 2, none⟩ (.int .i64 3) → RefSteps w g N A n c bs at_ 0 .i64 (nxt (bs.drop at_) most) r w2 := by
          rintro r w2 rfl rfl
          have hO := HO1.out.trans (Only.setCell w1 ⟨g, 2, none⟩ (.int .i64 3)) (fun _ _ h => h)
          exact refsteps_err (HR1.out.set (Only.setCell w1 ⟨g, 2, none⟩ _) (HR1.out.rf.set2 3) HR1.out.le) (nxt_abv HT.out ha) (by omega) hO
        have FIN := Lib.hid fin
        clear fin s2
        by_cases hm : most < 0
        · have hd : decide (most < 0) = true := decide_eq_true hm
          go_wp2
          go_ret
          exact FIN.out _ _ rfl rfl
        · have hd : decide (most < 0) = false := decide_eq_false hm
          have hw : IntKind.u64.wrap most = most := IntWalk.u64_in _ ⟨by omega, by have := H2.out; omega⟩
          by_cases hx : most < (x : Int)
          · have hd2 : decide (most < (x : Int)) = true := decide_eq_true hx
            go_wp2
            go_ret
            exact FIN.out _ _ rfl rfl
          · have hd2 : decide (most < (x : Int)) = false := decide_eq_false hx
            have hx3 : (4611686018427387904 : Int) < (x : Int) := by
              unfold abv at ha
              simp [hd, hd2] at ha
              omega
            have hd3 : decide ((4611686018427387904 : Int) < (x : Int)) = true := decide_eq_true hx3
            go_wp2
            go_ret
            exact FIN.out _ _ rfl rfl
      | false =>
        obtain ⟨a1, a2, a3⟩ := abv_no ha
        have hd : decide (most < 0) = false := decide_eq_false (by omega)
        have hd2 : decide (most < (x : Int)) = false := decide_eq_false (by omega)
        have hd3 : decide ((4611686018427387904 : Int) < (x : Int)) = false := decide_eq_false (by omega)
        have hw : IntKind.u64.wrap most = most := IntWalk.u64_in _ ⟨by omega, by have := H2.out; omega⟩
        have hw2 : IntKind.i64.wrap (x : Int) = x := IntWalk.i64_in _ ⟨by omega, by omega⟩
        have HF := Lib.hid (nxt_fin HT.out ha)
        clear a3 s2
        go_wp2
        go_ret
        have e1 : (at_ : Int) + s = ((at_ + s : Nat) : Int) := by omega
        refine refsteps_ok ?_ HF.out (HO1.out.trans (Only.setCell w1 ⟨g, 1, none⟩ _) (fun _ _ h => h))
        refine HR1.out.set (Only.setCell w1 ⟨g, 1, none⟩ _) ?_ HS2.out
        rw [e1]
        exact HR1.out.rf.set1 (at_ + s)
    · have hne : ((er : Int) == 0) = false := beq_eq_false_iff_ne.2 (by omega)
      have HF := Lib.hid (nxt_err (most := most) HT.out her)
      have HE := Lib.hid her
      clear her
      go_wp2
      go_ret
      exact refsteps_err HR1.out HF.out HE.out HO1.out
  · have hne : ((e : Int) == 0) = false := beq_eq_false_iff_ne.2 (by omega)
    have c2 := HR.out.rf.c2
    have HE := Lib.hid he
    clear he
    go_enter Tryd.func43, Tryd.ntmps43
    go_wp2_with fail
    refine (raw_bad g n c at_ e A w HR.out.rf HE.out).mono ?_
    rintro r w1 ⟨rfl, rfl⟩
    go_wp2
    go_ret
    exact refsteps_bad HR.out HE.out
end Go.Proofs.YtppbpmmfcoblmaaDoor.Fld

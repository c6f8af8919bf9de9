/- Lemmas that the proof stands on, in build order: FldR FldC FldD FldG. -/
import Derived.Deep.QuietTactic
import Derived.BigQuiet
import Derived.Test.YtdgaaghkhkklpaaJ9975adb
/- The Reader of layer 3 (field): what each function of it does, as contracts over the program. -/
namespace Go.Proofs.Ytdgaaghkhkklpaa.Fld
open Go.RowKit Var

set_option maxRecDepth 100000 in
theorem above_any (n : Nat) (most : Int) (hn : n < 18446744073709551616) (h1 : -9223372036854775808 ≤ most) (h2 : most ≤ 9223372036854775807) (w : World) :
    Calls Try.prog 74 #[.int .u64 (n : Int), .int .i64 most] w fun e w' => e = .returned (.bool (abv n most)) ∧ w = w' := by
  have HN := Lib.hid hn
  have H1 := Lib.hid h1
  have H2 := Lib.hid h2
  clear hn h1 h2
  go_enter Try.func74, Try.ntmps74
  by_cases hm : most < 0
  · have hd : decide (most < 0) = true := decide_eq_true hm
    go_wp2
    go_ret
    refine ⟨?_, rfl⟩
    unfold abv
    rw [hd]
    rfl
  · have hd : decide (most < 0) = false := decide_eq_false hm
    by_cases hb : 4611686018427387904 < most
    · go_wp2
      go_ret
      refine ⟨?_, rfl⟩
      have : abv n most = decide (4611686018427387904 < (n : Int)) := by
        unfold abv
        rw [hd, Bool.false_or, ← Bool.decide_or]
        exact decide_eq_decide.2 (by omega)
      rw [this]
      rfl
    · have hw : IntKind.u64.wrap most = most := IntWalk.u64_in _ ⟨by omega, by omega⟩
      go_wp2
      go_ret
      refine ⟨?_, rfl⟩
      have : abv n most = decide (most < (n : Int)) := by
        unfold abv
        rw [hd, Bool.false_or, ← Bool.decide_or]
        exact decide_eq_decide.2 (by omega)
      rw [this]
      rfl

/-- A tuple of a value, a size, an error. -/
def Tells (v : Value) (s e : Nat) : Ending := .returned (.tuple #[v, .int .i64 (s : Int), .int .i64 (e : Int)])

set_option maxHeartbeats 800000 in
set_option maxRecDepth 100000 in
theorem numb_any (A : Option Addr) (n c B : Nat) (xs : List Int) (most : Int) (w : World) (h : Row .u8 w B A n xs) (hb : ∀ x ∈ xs, 0 ≤ x ∧ x ≤ 255) (h1 : -9223372036854775808 ≤ most) (h2 : most ≤ 9223372036854775807) :
    Calls Try.prog 69 #[.slice A n c, .int .i64 most] w fun e w' => e = Tells (.int .i64 (nxt xs most).1) (nxt xs most).2.1 (nxt xs most).2.2 ∧ w = w' := by
  have H := Lib.hid h
  have HB := Lib.hid hb
  have H1 := Lib.hid h1
  have H2 := Lib.hid h2
  have H64 := Lib.hid (take64 hb)
  clear h hb h1 h2
  obtain ⟨t, HT⟩ : ∃ t, Hid (take 0 0 xs = t) := ⟨_, rfl⟩
  obtain ⟨x, s, er⟩ := t
  have HX : Hid (nxt xs most = if er ≠ 0 then (0, 0, er) else if abv x most then (0, 0, 3) else ((x : Int), s, 0)) := by unfold Hid nxt; rw [HT.out]
  go_enter Try.func69, Try.ntmps69
  go_wp2_with fail
  refine (take_any A n c B xs _ H.out HB.out).mono ?_
  rintro e1 w1 ⟨rfl, rfl⟩
  rw [HT.out]
  rw [HT.out] at H64
  by_cases he : er = 0
  · subst he
    go_wp2_with fail
    refine (above_any x most H64.out H1.out H2.out _).mono ?_
    rintro e2 w2 ⟨rfl, rfl⟩
    cases ha : abv x most with
    | true =>
      go_wp2
      go_ret3
      refine ⟨?_, rfl⟩
      rw [HX.out, ha]
      rfl
    | false =>
      have hx := (abv_no ha).2.2
      have hw : IntKind.i64.wrap (x : Int) = x := IntWalk.i64_in _ ⟨by omega, by omega⟩
      clear hx
      go_wp2
      go_ret3
      refine ⟨?_, rfl⟩
      rw [HX.out, ha]
      rfl
  · have hne : ((er : Int) == 0) = false := beq_eq_false_iff_ne.2 (by omega)
    go_wp2
    go_ret3
    refine ⟨?_, rfl⟩
    rw [HX.out, if_pos he]
    rfl

/-- A Reader behind a pointer: its block, what is left, the first error. -/
structure Rd (w : World) (g : Nat) (A : Option Addr) (n c : Nat) (e : Int) : Prop where
  blk : w.heap[g]? = some (.cells #[.bool true, .slice A n c, .int .i64 e] 93 (0, 0))

theorem Rd.c0 {w : World} {g n c : Nat} {A : Option Addr} {e : Int} (h : Rd w g A n c e) : w.cell? ⟨g, 0, none⟩ = some (.bool true) := cell_of_blk h.blk rfl
theorem Rd.c1 {w : World} {g n c : Nat} {A : Option Addr} {e : Int} (h : Rd w g A n c e) : w.cell? ⟨g, 1, none⟩ = some (.slice A n c) := cell_of_blk h.blk rfl
theorem Rd.c2 {w : World} {g n c : Nat} {A : Option Addr} {e : Int} (h : Rd w g A n c e) : w.cell? ⟨g, 2, none⟩ = some (.int .i64 e) := cell_of_blk h.blk rfl

set_option maxRecDepth 100000 in
theorem error_any (g n c : Nat) (A : Option Addr) (e : Int) (w : World) (h : Rd w g A n c e) :
    Calls Try.prog 57 #[.pointer (some ⟨g, 0, none⟩)] w fun r w' => r = .returned (.int .i64 e) ∧ w = w' := by
  have c0 := h.c0
  have c2 := h.c2
  clear h
  go_enter Try.func57, Try.ntmps57
  go_wp2
  go_ret
  exact ⟨rfl, rfl⟩

set_option maxRecDepth 100000 in
theorem error_nil (w : World) : Calls Try.prog 57 #[.pointer none] w fun r w' => r = .returned (.int .i64 1) ∧ w = w' := by
  go_enter Try.func57, Try.ntmps57
  go_wp2
  go_ret
  exact ⟨rfl, rfl⟩

/-- What a reading leaves: the Reader's cells, and nothing else turned. -/
def ReadsTo (w : World) (g : Nat) (A : Option Addr) (n c : Nat) (zero v : Value) (s er : Nat) (w1 : World) (r : Ending) (w' : World) : Prop :=
  (er = 0 → r = .returned v ∧ ∃ b o o', A = some ⟨b, o, none⟩ ∧ Rd w' g (some ⟨b, o', none⟩) (n - s) (c - s) 0 ∧ (n - s ≠ 0 → o' = o + s)) ∧ (er ≠ 0 → r = .returned zero ∧ Rd w' g A n c er) ∧ Only (fun k => k = g) w1 w' ∧ Below w.heap.size w w1

theorem Rd.below {w w1 : World} {g n c : Nat} {A : Option Addr} {e : Int} (h : Rd w g A n c e) (hb : Below w.heap.size w w1) : Rd w1 g A n c e :=
  ⟨(hb.block g (lt_of_block h.blk)).trans h.blk⟩

def Enters (fn : Nat) : Prop := ∀ (args : Array Value) (w : World), (callFunc fn args).run Try.prog w = .ok (.enter fn args) w

set_option maxHeartbeats 800000 in
set_option maxRecDepth 100000 in
theorem next_int (g n c : Nat) (A : Option Addr) (fn : Nat) (p : Value) (Q : Value → World → Prop) (s er : Nat) (w : World) (h : Rd w g A n c 0) (hnc : n ≤ c) (hs : er = 0 → 0 < s ∧ s ≤ n) (hA : 0 < n → ∃ b o, A = some ⟨b, o, none⟩) (hent : Enters fn)
    (how : Calls Try.prog fn #[.slice A n c, p] w fun e w' => ∃ v, e = Tells v s er ∧ Below w.heap.size w w' ∧ Q v w') :
    Calls Try.prog 67 #[.pointer (some ⟨g, 0, none⟩), .func (.func fn) #[] #[p]] w (fun r w' => ∃ v w1, Q v w1 ∧ ReadsTo w g A n c (.int .i64 0) v s er w1 r w') := by
  have HR := Lib.hid h
  have HH := Lib.hid how
  have HS := Lib.hid hs
  have HA := Lib.hid hA
  have c1 := h.c1
  have c2 := h.c2
  unfold Enters at hent
  clear h how hs hA
  go_enter Try.func67, Try.ntmps67
  go_wp2_with fail
  refine (error_any g n c A 0 w HR.out).mono ?_
  rintro e1 w1 ⟨rfl, rfl⟩
  go_wp2_with fail
  refine HH.out.mono ?_
  rintro e1 w1 ⟨v, rfl, hb1, hq⟩
  have HB := Lib.hid hb1
  have HQ := Lib.hid hq
  have HR1 := Lib.hid (HR.out.below hb1)
  have d1 := HR1.out.c1
  have f1 : w1.frozen? ⟨g, 1, none⟩ = false := free_of_blk HR1.out.blk
  have d2 := HR1.out.c2
  have f2 : w1.frozen? ⟨g, 2, none⟩ = false := free_of_blk HR1.out.blk
  clear hb1 c1 c2 hq
  unfold Tells
  by_cases he : er = 0
  · subst he
    obtain ⟨hs0, hsn⟩ := HS.out rfl
    obtain ⟨b, o, rfl⟩ := HA.out (by omega)
    by_cases hcs : c = s
    · have hz : n - s = 0 := by omega
      have hz' : c - s = 0 := by omega
      subst hcs
      go_wp2
      go_ret
      refine ⟨v, w1, HQ.out, fun _ => ⟨rfl, b, o, o, rfl, ⟨?_⟩, fun h => by omega⟩, fun h => absurd rfl h, Only.setCell _ ⟨g, 1, none⟩ _, HB.out⟩
      have := set_blk (u := .slice (some ⟨b, o, none⟩) (n - c) (c - c)) (j := 1) HR1.out.blk
      simpa [hz, hz'] using this
    · go_wp2
      go_ret
      refine ⟨v, w1, HQ.out, fun _ => ⟨rfl, b, o, o + s, rfl, ⟨set_blk HR1.out.blk⟩, fun _ => rfl⟩, fun h => absurd rfl h, Only.setCell _ ⟨g, 1, none⟩ _, HB.out⟩
  · have hne : ((er : Int) == 0) = false := beq_eq_false_iff_ne.2 (by omega)
    go_wp2
    go_ret
    refine ⟨v, w1, HQ.out, fun h => absurd h he, fun _ => ⟨rfl, ⟨set_blk HR1.out.blk⟩⟩, Only.setCell _ ⟨g, 2, none⟩ _, HB.out⟩

set_option maxHeartbeats 800000 in
set_option maxRecDepth 100000 in
theorem next_int_bad (g n c : Nat) (A : Option Addr) (e : Int) (fv : Value) (w : World) (h : Rd w g A n c e) (he : e ≠ 0) :
    Calls Try.prog 67 #[.pointer (some ⟨g, 0, none⟩), fv] w fun r w' => r = .returned (.int .i64 0) ∧ w = w' := by
  have HR := Lib.hid h
  have hne : (e == 0) = false := beq_eq_false_iff_ne.2 he
  clear h he
  go_enter Try.func67, Try.ntmps67
  go_wp2_with fail
  refine (error_any g n c A e w HR.out).mono ?_
  rintro e1 w1 ⟨rfl, rfl⟩
  go_wp2
  go_ret
  exact ⟨rfl, rfl⟩

set_option maxHeartbeats 800000 in
set_option maxRecDepth 100000 in
theorem next_int_nil (fv : Value) (w : World) :
    Calls Try.prog 67 #[.pointer none, fv] w fun r w' => r = .returned (.int .i64 0) ∧ w = w' := by
  go_enter Try.func67, Try.ntmps67
  go_wp2_with fail
  refine (error_nil w).mono ?_
  rintro e1 w1 ⟨rfl, rfl⟩
  go_wp2
  go_ret
  exact ⟨rfl, rfl⟩

end Go.Proofs.Ytdgaaghkhkklpaa.Fld

/- The closures and the methods of layer 3's Reader, as contracts: each returns the next field, or nothing behind an error. -/
namespace Go.Proofs.Ytdgaaghkhkklpaa.Fld
open Go.RowKit Var

theorem Row.drop {k : IntKind} {w : World} {B b o o' n s : Nat} {xs : List Int} (h : Row k w B (some ⟨b, o, none⟩) n xs) (ho : n - s ≠ 0 → o' = o + s) : Row k w B (some ⟨b, o', none⟩) (n - s) (xs.drop s) := by
  refine ⟨by rw [List.length_drop, h.1], fun hn => ?_⟩
  obtain ⟨b1, o1, e, hb, hc⟩ := h.2 (by omega)
  injection e with e
  injection e with e1 e2
  subst e1 e2
  refine ⟨b, o', rfl, hb, fun j hj => ?_⟩
  rw [ho (by omega), Nat.add_assoc, hc (s + j) (by omega)]
  have hl := h.1
  simp [List.getD, List.getElem?_drop]

theorem Row.take_ {k : IntKind} {w : World} {B n m : Nat} {A : Option Addr} {xs : List Int} (h : Row k w B A n xs) (hm : m ≤ n) : Row k w B A m (xs.take m) := by
  refine ⟨by rw [List.length_take, h.1]; omega, fun hn => ?_⟩
  obtain ⟨b, o, e, hb, hc⟩ := h.2 (by omega)
  refine ⟨b, o, e, hb, fun j hj => ?_⟩
  rw [hc j (by omega)]
  simp [List.getD, hj]

theorem Row.some_of {k : IntKind} {w : World} {B n : Nat} {A : Option Addr} {xs : List Int} (h : Row k w B A n xs) (hn : 0 < n) : ∃ b o, A = some ⟨b, o, none⟩ := by
  obtain ⟨b, o, e, _⟩ := h.2 hn
  exact ⟨b, o, e⟩

/-- A Reader: what is left of its bytes, and its first error. -/
structure Rdr (w : World) (g : Nat) (xs : List Int) (e : Nat) : Prop where
  ex : ∃ A n c, Rd w g A n c e ∧ Row .u8 w g A n xs ∧ n ≤ c ∧ (A = none → c = 0)
  byt : ∀ x ∈ xs, 0 ≤ x ∧ x ≤ 255

theorem Rdr.lt {w : World} {g e : Nat} {xs : List Int} (h : Rdr w g xs e) : g < w.heap.size := by
  obtain ⟨A, n, c, h1, _⟩ := h.ex
  exact lt_of_block h1.blk
theorem Rdr.only {M : Nat → Prop} {w w' : World} {g e : Nat} {xs : List Int} (h : Rdr w g xs e) (ho : Only M w w') (hM : ∀ k, k ≤ g → ¬ M k) : Rdr w' g xs e := by
  obtain ⟨A, n, c, h1, h2, h3, h4⟩ := h.ex
  have hg := h.lt
  exact ⟨⟨A, n, c, ⟨ho.at h1.blk (hM g (Nat.le_refl _))⟩, ho.row h2 (Nat.le_of_lt hg) (fun b _ _ hb => hM b (by omega)), h3, h4⟩, h.byt⟩
theorem Rdr.below {w w' : World} {g e : Nat} {xs : List Int} (h : Rdr w g xs e) (hb : Below w.heap.size w w') : Rdr w' g xs e :=
  h.only (M := fun _ => False) (Only.of_below hb) (fun _ _ h => h)

/-- What a step of the Reader leaves. -/
def after (xs : List Int) (e s er : Nat) : List Int × Nat := if e ≠ 0 then (xs, e) else if er ≠ 0 then (xs, er) else (xs.drop s, 0)

theorem reads_ok {w w2 w1 w' : World} {g n c s er : Nat} {A : Option Addr} {xs : List Int} {zero v : Value} {r : Ending} (h1 : Rd w g A n c 0) (h2 : Row .u8 w g A n xs) (h3 : n ≤ c) (h4 : A = none → c = 0) (hbyt : ∀ x ∈ xs, 0 ≤ x ∧ x ≤ 255)
    (hb2 : Below w.heap.size w w2) (h : ReadsTo w2 g A n c zero v s er w1 r w') : r = .returned (if er ≠ 0 then zero else v) ∧ Rdr w' g (after xs 0 s er).1 (after xs 0 s er).2 ∧ Only (fun k => k = g) w w' := by
  obtain ⟨ok, bad, ho, hb⟩ := h
  have hO : Only (fun k => k = g) w w' := ((Only.of_below (hb2.trans (hb.mono hb2.size)) : Only (fun k => k = g) w w1)).trans ho (fun _ _ h => h)
  have hlt : g < w.heap.size := lt_of_block h1.blk
  have hr : Row .u8 w' g A n xs := hO.row h2 (Nat.le_of_lt hlt) (fun b _ _ hb e => by omega)
  by_cases he : er = 0
  · obtain ⟨hv, b, o, o', rfl, hrd, hoo⟩ := ok he
    refine ⟨by simp [he, hv], ?_, hO⟩
    have : after xs 0 s er = (xs.drop s, 0) := by unfold after; simp [he]
    rw [this]
    exact ⟨⟨_, _, _, hrd, Row.drop hr hoo, by omega, fun h => by cases h⟩, fun x hx => hbyt x (List.mem_of_mem_drop hx)⟩
  · obtain ⟨hv, hrd⟩ := bad he
    refine ⟨by simp [he, hv], ?_, hO⟩
    have : after xs 0 s er = (xs, er) := by unfold after; simp [he]
    rw [this]
    exact ⟨⟨_, _, _, hrd, hr, h3, h4⟩, hbyt⟩

set_option maxRecDepth 100000 in
theorem ent_number : Enters 68 := fun _ _ => rfl
set_option maxHeartbeats 800000 in
set_option maxRecDepth 100000 in
theorem how_number (A : Option Addr) (n c B mb : Nat) (xs : List Int) (most : Int) (w : World) (h : Row .u8 w B A n xs) (hb : ∀ x ∈ xs, 0 ≤ x ∧ x ≤ 255) (h1 : -9223372036854775808 ≤ most) (h2 : most ≤ 9223372036854775807) (hm : w.cell? ⟨mb, 0, none⟩ = some (.int .i64 most)) :
    Calls Try.prog 68 #[.slice A n c, .pointer (some ⟨mb, 0, none⟩)] w fun e w' =>
      ∃ v, e = Tells v (nxt xs most).2.1 (nxt xs most).2.2 ∧ Below w.heap.size w w' ∧ v = .int .i64 (nxt xs most).1 := by
  have H := Lib.hid h
  have HB := Lib.hid hb
  have H1 := Lib.hid h1
  have H2 := Lib.hid h2
  clear h hb h1 h2
  go_enter Try.func68, Try.ntmps68
  go_wp2_with fail
  refine (numb_any A n c B xs most w H.out HB.out H1.out H2.out).mono ?_
  rintro e1 w1 ⟨rfl, rfl⟩
  unfold Tells
  go_wp2
  go_ret3
  exact ⟨_, rfl, Below.refl _ _, rfl⟩

theorem same_flip {P : Program} {f : FuncId} {args : Array Value} {w : World} {v : Value} (h : Calls P f args w fun e w' => e = .returned v ∧ w = w') : Calls P f args w fun e w' => e = .returned v ∧ w' = w := h.mono fun _ _ ⟨a, b⟩ => ⟨a, b.symm⟩

end Go.Proofs.Ytdgaaghkhkklpaa.Fld

/- The methods of layer 3's Reader, as contracts: each returns the next field, or nothing behind an error; a nil Reader. -/
namespace Go.Proofs.Ytdgaaghkhkklpaa.Fld
open Go.RowKit Var

/-- The value that a step returns. -/
def val (e : Nat) (t : Int × Nat × Nat) : Int := if e ≠ 0 ∨ t.2.2 ≠ 0 then 0 else t.1

def Steps (w : World) (g : Nat) (xs : List Int) (e : Nat) (k : IntKind) (t : Int × Nat × Nat) (r : Ending) (w' : World) : Prop :=
  r = .returned (.int k (val e t)) ∧ Rdr w' g (after xs e t.2.1 t.2.2).1 (after xs e t.2.1 t.2.2).2 ∧ Only (fun k => k = g) w w'

theorem steps_ok {w w2 w1 w' : World} {g n c : Nat} {A : Option Addr} {xs : List Int} {k : IntKind} {t : Int × Nat × Nat} {v : Value} {r : Ending} (h1 : Rd w g A n c 0) (h2 : Row .u8 w g A n xs) (h3 : n ≤ c) (h4 : A = none → c = 0) (hbyt : ∀ x ∈ xs, 0 ≤ x ∧ x ≤ 255)
    (hb2 : Below w.heap.size w w2) (hv : v = .int k t.1) (h : ReadsTo w2 g A n c (.int k 0) v t.2.1 t.2.2 w1 r w') : Steps w g xs 0 k t r w' := by
  obtain ⟨a, b, c⟩ := reads_ok h1 h2 h3 h4 hbyt hb2 h
  refine ⟨?_, b, c⟩
  rw [a, hv]
  unfold val
  by_cases he : t.2.2 = 0 <;> simp [he]

theorem steps_bad {w w2 : World} {g e : Nat} {xs : List Int} {k : IntKind} {t : Int × Nat × Nat} (h : Rdr w g xs e) (he : e ≠ 0) (hb2 : Below w.heap.size w w2) : Steps w g xs e k t (.returned (.int k 0)) w2 := by
  have e1 : after xs e t.2.1 t.2.2 = (xs, e) := by unfold after; rw [if_pos he]
  refine ⟨?_, by rw [e1]; exact h.below hb2, Only.of_below hb2⟩
  unfold val
  rw [if_pos (.inl he)]

set_option maxHeartbeats 800000 in
set_option maxRecDepth 100000 in
theorem numberR (g e : Nat) (xs : List Int) (most : Int) (w : World) (h : Rdr w g xs e) (h1 : -9223372036854775808 ≤ most) (h2 : most ≤ 9223372036854775807) :
    Calls Try.prog 52 #[.pointer (some ⟨g, 0, none⟩), .int .i64 most] w (Steps w g xs e .i64 (nxt xs most)) := by
  have HR := Lib.hid h
  have H1 := Lib.hid h1
  have H2 := Lib.hid h2
  clear h h1 h2
  have hb2 : Hid (Below w.heap.size w (w.alloc (.cells #[.int .i64 most] 3))) := ((Below.refl _ _).alloc (Nat.le_refl _) _)
  have hcell : Hid ((w.alloc (.cells #[.int .i64 most] 3)).cell? ⟨w.heap.size, 0, none⟩ = some (.int .i64 most)) := cell_of_one (heap_alloc_new w _)
  have hmf : ∀ (fn : Fn) (first cap : Array Value) (w : World), (Instr.makeFunc fn first cap).run Try.prog w = .ok (.func fn first cap) w := fun _ _ _ _ => rfl
  have fin : Calls Try.prog 67 #[.pointer (some ⟨g, 0, none⟩), .func (.func 68) #[] #[.pointer (some ⟨w.heap.size, 0, none⟩)]] (w.alloc (.cells #[.int .i64 most] 3)) (Steps w g xs e .i64 (nxt xs most)) := by
    obtain ⟨A, n, c, hrd, hrow, hnc, hnil⟩ := HR.out.ex
    have hlt : g < w.heap.size := HR.out.lt
    have hlen := hrow.len
    by_cases he : e = 0
    · subst he
      refine (next_int g n c A 68 (.pointer (some ⟨w.heap.size, 0, none⟩)) (fun v _ => v = .int .i64 (nxt xs most).1) (nxt xs most).2.1 (nxt xs most).2.2 _ (hrd.below hb2.out) hnc (fun h => by have := nxt_ok (most := most) HR.out.byt h; omega) (fun h => Row.some_of hrow h) ent_number (how_number A n c g _ xs most _ (hrow.alloc (Nat.le_of_lt hlt) _) HR.out.byt H1.out H2.out hcell.out)).mono ?_
      rintro r w' ⟨v, w1, hv, hR⟩
      exact steps_ok hrd hrow hnc hnil HR.out.byt hb2.out hv hR
    · refine (next_int_bad g n c A e _ _ (hrd.below hb2.out) (by omega)).mono ?_
      rintro r w' ⟨rfl, rfl⟩
      exact steps_bad HR.out he hb2.out
  have FIN := Lib.hid fin
  clear fin hb2 hcell
  go_enter Try.func52, Try.ntmps52
  go_wp2_with fail
  refine FIN.out.mono ?_
  rintro r w' hst
  obtain ⟨u, hu⟩ : ∃ u, r = .returned u := ⟨_, hst.1⟩
  subst hu
  have HST := Lib.hid hst
  clear hst
  go_wp2
  go_ret
  exact HST.out

set_option maxHeartbeats 800000 in
set_option maxRecDepth 100000 in
theorem numberR_nil (most : Int) (w : World) : Calls Try.prog 52 #[.pointer none, .int .i64 most] w fun r w' => r = .returned (.int .i64 0) ∧ Below w.heap.size w w' := by
  have hmf : ∀ (fn : Fn) (first cap : Array Value) (w : World), (Instr.makeFunc fn first cap).run Try.prog w = .ok (.func fn first cap) w := fun _ _ _ _ => rfl
  go_enter Try.func52, Try.ntmps52
  go_wp2_with fail
  refine (next_int_nil _ _).mono ?_
  rintro r w' ⟨rfl, rfl⟩
  go_wp2
  go_ret
  exact ⟨rfl, ((Below.refl _ _).alloc (Nat.le_refl _) _)⟩

end Go.Proofs.Ytdgaaghkhkklpaa.Fld

/- Error and Read of layer 3's Reader, as contracts. -/
namespace Go.Proofs.Ytdgaaghkhkklpaa.Fld
open Go.RowKit Var

set_option maxHeartbeats 800000 in
set_option maxRecDepth 100000 in
theorem errorR (g e : Nat) (xs : List Int) (w : World) (h : Rdr w g xs e) : Calls Try.prog 57 #[.pointer (some ⟨g, 0, none⟩)] w fun r w' => r = .returned (.int .i64 (e : Int)) ∧ w = w' := by
  obtain ⟨A, n, c, hrd, _⟩ := h.ex
  exact error_any g n c A e w hrd

set_option maxHeartbeats 800000 in
set_option maxRecDepth 100000 in
theorem readR (A : Option Addr) (n c B : Nat) (xs : List Int) (w : World) (h : Row .u8 w B A n xs) (hB : B ≤ w.heap.size) (hnil : A = none → c = 0) (hn : n ≤ 4398046511104) (hbyt : ∀ x ∈ xs, 0 ≤ x ∧ x ≤ 255) :
    Calls Try.prog 29 #[.slice A n c] w fun r w' => ∃ g, r = .returned (.pointer (some ⟨g, 0, none⟩)) ∧ w.heap.size ≤ g ∧ Rdr w' g xs 0 ∧ Below w.heap.size w w' := by
  have H := Lib.hid h
  have HB := Lib.hid hB
  have HN := Lib.hid hnil
  have HY := Lib.hid hbyt
  clear h hB hnil hbyt
  go_enter Try.func29, Try.ntmps29
  go_wp2_with fail
  refine (clone_any A n c B xs w H.out HB.out HN.out hn).mono ?_
  rintro r w1 ⟨v, rfl, hown, hb⟩
  obtain ⟨A1, c1, rfl, hc1, hnil1⟩ := own_slice hown
  have HO := Lib.hid hown
  have HBL := Lib.hid hb
  have HN1 := Lib.hid hnil1
  have HC := Lib.hid hc1
  clear hown hb hnil1 hc1
  go_wp2
  go_ret
  refine ⟨w1.heap.size, rfl, HBL.out.size, ⟨⟨A1, n, c1, ⟨heap_alloc_new w1 _⟩, (Row.of_own HO.out).alloc (Nat.le_refl _) _, HC.out, HN1.out⟩, HY.out⟩, HBL.out.alloc HBL.out.size _⟩
end Go.Proofs.Ytdgaaghkhkklpaa.Fld

/- The Reader of layer 3 (field): what each function of it does, as contracts over the program. -/
import Derived.Test.YtefnpibikebmdaaFldW
import Derived.Test.YtefnpibikebmdaaFldM
namespace Go.Proofs.Ytefnpibikebmdaa.Fld
open Go.RowKit Var

set_option maxRecDepth 100000 in
theorem above_any (n : Nat) (most : Int) (hn : n < 18446744073709551616) (h1 : -9223372036854775808 ≤ most) (h2 : most ≤ 9223372036854775807) (w : World) :
    Calls Try.prog 47 #[.int .u64 (n : Int), .int .i64 most] w fun e w' => e = .returned (.bool (abv n most)) ∧ w = w' := by
  have HN := Lib.hid hn
  have H1 := Lib.hid h1
  have H2 := Lib.hid h2
  clear hn h1 h2
  go_enter Try.func47, Try.ntmps47
  by_cases hm : most < 0
  · have hd : decide (most < 0) = true := decide_eq_true hm
    go_wp2
    go_ret
    refine ⟨?_, rfl⟩
    unfold abv
    rw [hd]
    rfl
  · have hd : decide (most < 0) = false := decide_eq_false hm
    by_cases hb : 4611686018427387904 < most
    · go_wp2
      go_ret
      refine ⟨?_, rfl⟩
      have : abv n most = decide (4611686018427387904 < (n : Int)) := by
        unfold abv
        rw [hd, Bool.false_or, ← Bool.decide_or]
        exact decide_eq_decide.2 (by omega)
      rw [this]
      rfl
    · have hw : IntKind.u64.wrap most = most := IntWalk.u64_in _ ⟨by omega, by omega⟩
      go_wp2
      go_ret
      refine ⟨?_, rfl⟩
      have : abv n most = decide (most < (n : Int)) := by
        unfold abv
        rw [hd, Bool.false_or, ← Bool.decide_or]
        exact decide_eq_decide.2 (by omega)
      rw [this]
      rfl

set_option maxRecDepth 100000 in
theorem absolute_any (k : Int) (h1 : -9223372036854775808 ≤ k) (h2 : k ≤ 9223372036854775807) (w : World) :
    Calls Try.prog 48 #[.int .i64 k] w fun e w' => e = .returned (.int .u64 (k.natAbs : Int)) ∧ w = w' := by
  by_cases hn : k < 0
  · go_enter Try.func48, Try.ntmps48
    go_wp2
    go_ret
    exact ⟨ret_int (by omega), rfl⟩
  · go_enter Try.func48, Try.ntmps48
    go_wp2
    go_ret
    exact ⟨ret_int (by omega), rfl⟩

/-- A tuple of a value, a size, an error. -/
def Tells (v : Value) (s e : Nat) : Ending := .returned (.tuple #[v, .int .i64 (s : Int), .int .i64 (e : Int)])

set_option maxHeartbeats 800000 in
set_option maxRecDepth 100000 in
theorem numb_any (A : Option Addr) (n c B : Nat) (xs : List Int) (most : Int) (w : World) (h : Row .u8 w B A n xs) (hb : ∀ x ∈ xs, 0 ≤ x ∧ x ≤ 255) (h1 : -9223372036854775808 ≤ most) (h2 : most ≤ 9223372036854775807) :
    Calls Try.prog 43 #[.slice A n c, .int .i64 most] w fun e w' => e = Tells (.int .i64 (nxt xs most).1) (nxt xs most).2.1 (nxt xs most).2.2 ∧ w = w' := by
  have H := Lib.hid h
  have HB := Lib.hid hb
  have H1 := Lib.hid h1
  have H2 := Lib.hid h2
  have H64 := Lib.hid (take64 hb)
  clear h hb h1 h2
  obtain ⟨t, HT⟩ : ∃ t, Hid (take 0 0 xs = t) := ⟨_, rfl⟩
  obtain ⟨x, s, er⟩ := t
  have HX : Hid (nxt xs most = if er ≠ 0 then (0, 0, er) else if abv x most then (0, 0, 3) else ((x : Int), s, 0)) := by unfold Hid nxt; rw [HT.out]
  go_enter Try.func43, Try.ntmps43
  go_wp2_with fail
  refine (take_any A n c B xs _ H.out HB.out).mono ?_
  rintro e1 w1 ⟨rfl, rfl⟩
  rw [HT.out]
  rw [HT.out] at H64
  by_cases he : er = 0
  · subst he
    go_wp2_with fail
    refine (above_any x most H64.out H1.out H2.out _).mono ?_
    rintro e2 w2 ⟨rfl, rfl⟩
    cases ha : abv x most with
    | true =>
      go_wp2
      go_ret3
      refine ⟨?_, rfl⟩
      rw [HX.out, ha]
      rfl
    | false =>
      have hx := (abv_no ha).2.2
      have hw : IntKind.i64.wrap (x : Int) = x := IntWalk.i64_in _ ⟨by omega, by omega⟩
      clear hx
      go_wp2
      go_ret3
      refine ⟨?_, rfl⟩
      rw [HX.out, ha]
      rfl
  · have hne : ((er : Int) == 0) = false := beq_eq_false_iff_ne.2 (by omega)
    go_wp2
    go_ret3
    refine ⟨?_, rfl⟩
    rw [HX.out, if_pos he]
    rfl

/-- A Reader behind a pointer: its block, what is left, the first error. -/
structure Rd (w : World) (g : Nat) (A : Option Addr) (n c : Nat) (e : Int) : Prop where
  blk : w.heap[g]? = some (.cells #[.bool true, .slice A n c, .int .i64 e] 69 (0, 0))

theorem Rd.c0 {w : World} {g n c : Nat} {A : Option Addr} {e : Int} (h : Rd w g A n c e) : w.cell? ⟨g, 0, none⟩ = some (.bool true) := cell_of_blk h.blk rfl
theorem Rd.c1 {w : World} {g n c : Nat} {A : Option Addr} {e : Int} (h : Rd w g A n c e) : w.cell? ⟨g, 1, none⟩ = some (.slice A n c) := cell_of_blk h.blk rfl
theorem Rd.c2 {w : World} {g n c : Nat} {A : Option Addr} {e : Int} (h : Rd w g A n c e) : w.cell? ⟨g, 2, none⟩ = some (.int .i64 e) := cell_of_blk h.blk rfl

set_option maxRecDepth 100000 in
theorem error_any (g n c : Nat) (A : Option Addr) (e : Int) (w : World) (h : Rd w g A n c e) :
    Calls Try.prog 22 #[.pointer (some ⟨g, 0, none⟩)] w fun r w' => r = .returned (.int .i64 e) ∧ w = w' := by
  have c0 := h.c0
  have c2 := h.c2
  clear h
  go_enter Try.func22, Try.ntmps22
  go_wp2
  go_ret
  exact ⟨rfl, rfl⟩

set_option maxRecDepth 100000 in
theorem error_nil (w : World) : Calls Try.prog 22 #[.pointer none] w fun r w' => r = .returned (.int .i64 1) ∧ w = w' := by
  go_enter Try.func22, Try.ntmps22
  go_wp2
  go_ret
  exact ⟨rfl, rfl⟩

/-- What a reading leaves: the Reader's cells, and nothing else turned. -/
def ReadsTo (w : World) (g : Nat) (A : Option Addr) (n c : Nat) (zero v : Value) (s er : Nat) (w1 : World) (r : Ending) (w' : World) : Prop :=
  (er = 0 → r = .returned v ∧ ∃ b o o', A = some ⟨b, o, none⟩ ∧ Rd w' g (some ⟨b, o', none⟩) (n - s) (c - s) 0 ∧ (n - s ≠ 0 → o' = o + s)) ∧ (er ≠ 0 → r = .returned zero ∧ Rd w' g A n c er) ∧ Only (fun k => k = g) w1 w' ∧ Below w.heap.size w w1

theorem Rd.below {w w1 : World} {g n c : Nat} {A : Option Addr} {e : Int} (h : Rd w g A n c e) (hb : Below w.heap.size w w1) : Rd w1 g A n c e :=
  ⟨(hb.block g (lt_of_block h.blk)).trans h.blk⟩

def Enters (fn : Nat) : Prop := ∀ (args : Array Value) (w : World), (callFunc fn args).run Try.prog w = .ok (.enter fn args) w

set_option maxHeartbeats 800000 in
set_option maxRecDepth 100000 in
theorem next_int (g n c : Nat) (A : Option Addr) (fn : Nat) (p : Value) (Q : Value → World → Prop) (s er : Nat) (w : World) (h : Rd w g A n c 0) (hnc : n ≤ c) (hs : er = 0 → 0 < s ∧ s ≤ n) (hA : 0 < n → ∃ b o, A = some ⟨b, o, none⟩) (hent : Enters fn)
    (how : Calls Try.prog fn #[.slice A n c, p] w fun e w' => ∃ v, e = Tells v s er ∧ Below w.heap.size w w' ∧ Q v w') :
    Calls Try.prog 41 #[.pointer (some ⟨g, 0, none⟩), .func (.func fn) #[] #[p]] w (fun r w' => ∃ v w1, Q v w1 ∧ ReadsTo w g A n c (.int .i64 0) v s er w1 r w') := by
  have HR := Lib.hid h
  have HH := Lib.hid how
  have HS := Lib.hid hs
  have HA := Lib.hid hA
  have c1 := h.c1
  have c2 := h.c2
  unfold Enters at hent
  clear h how hs hA
  go_enter Try.func41, Try.ntmps41
  go_wp2_with fail
  refine (error_any g n c A 0 w HR.out).mono ?_
  rintro e1 w1 ⟨rfl, rfl⟩
  go_wp2_with fail
  refine HH.out.mono ?_
  rintro e1 w1 ⟨v, rfl, hb1, hq⟩
  have HB := Lib.hid hb1
  have HQ := Lib.hid hq
  have HR1 := Lib.hid (HR.out.below hb1)
  have d1 := HR1.out.c1
  have f1 : w1.frozen? ⟨g, 1, none⟩ = false := free_of_blk HR1.out.blk
  have d2 := HR1.out.c2
  have f2 : w1.frozen? ⟨g, 2, none⟩ = false := free_of_blk HR1.out.blk
  clear hb1 c1 c2 hq
  unfold Tells
  by_cases he : er = 0
  · subst he
    obtain ⟨hs0, hsn⟩ := HS.out rfl
    obtain ⟨b, o, rfl⟩ := HA.out (by omega)
    by_cases hcs : c = s
    · have hz : n - s = 0 := by omega
      have hz' : c - s = 0 := by omega
      subst hcs
      go_wp2
      go_ret
      refine ⟨v, w1, HQ.out, fun _ => ⟨rfl, b, o, o, rfl, ⟨?_⟩, fun h => by omega⟩, fun h => absurd rfl h, Only.setCell _ ⟨g, 1, none⟩ _, HB.out⟩
      have := set_blk (u := .slice (some ⟨b, o, none⟩) (n - c) (c - c)) (j := 1) HR1.out.blk
      simpa [hz, hz'] using this
    · go_wp2
      go_ret
      refine ⟨v, w1, HQ.out, fun _ => ⟨rfl, b, o, o + s, rfl, ⟨set_blk HR1.out.blk⟩, fun _ => rfl⟩, fun h => absurd rfl h, Only.setCell _ ⟨g, 1, none⟩ _, HB.out⟩
  · have hne : ((er : Int) == 0) = false := beq_eq_false_iff_ne.2 (by omega)
    go_wp2
    go_ret
    refine ⟨v, w1, HQ.out, fun h => absurd h he, fun _ => ⟨rfl, ⟨set_blk HR1.out.blk⟩⟩, Only.setCell _ ⟨g, 2, none⟩ _, HB.out⟩

set_option maxHeartbeats 800000 in
set_option maxRecDepth 100000 in
theorem next_int_bad (g n c : Nat) (A : Option Addr) (e : Int) (fv : Value) (w : World) (h : Rd w g A n c e) (he : e ≠ 0) :
    Calls Try.prog 41 #[.pointer (some ⟨g, 0, none⟩), fv] w fun r w' => r = .returned (.int .i64 0) ∧ w = w' := by
  have HR := Lib.hid h
  have hne : (e == 0) = false := beq_eq_false_iff_ne.2 he
  clear h he
  go_enter Try.func41, Try.ntmps41
  go_wp2_with fail
  refine (error_any g n c A e w HR.out).mono ?_
  rintro e1 w1 ⟨rfl, rfl⟩
  go_wp2
  go_ret
  exact ⟨rfl, rfl⟩

set_option maxHeartbeats 800000 in
set_option maxRecDepth 100000 in
theorem next_int_nil (fv : Value) (w : World) :
    Calls Try.prog 41 #[.pointer none, fv] w fun r w' => r = .returned (.int .i64 0) ∧ w = w' := by
  go_enter Try.func41, Try.ntmps41
  go_wp2_with fail
  refine (error_nil w).mono ?_
  rintro e1 w1 ⟨rfl, rfl⟩
  go_wp2
  go_ret
  exact ⟨rfl, rfl⟩

end Go.Proofs.Ytefnpibikebmdaa.Fld

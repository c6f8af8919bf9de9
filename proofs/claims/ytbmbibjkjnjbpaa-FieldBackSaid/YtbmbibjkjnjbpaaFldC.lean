/- The closures and the methods of layer 3's Reader, as contracts: each returns the next field, or nothing behind an error. -/
import Derived.Test.YtbmbibjkjnjbpaaFldR
import Derived.Deep.QuietTactic
import Derived.BigQuiet
namespace Go.Proofs.Ytbmbibjkjnjbpaa.Fld
open Go.RowKit Var

theorem Row.drop {k : IntKind} {w : World} {B b o o' n s : Nat} {xs : List Int} (h : Row k w B (some ⟨b, o, none⟩) n xs) (ho : n - s ≠ 0 → o' = o + s) : Row k w B (some ⟨b, o', none⟩) (n - s) (xs.drop s) := by
  refine ⟨by rw [List.length_drop, h.1], fun hn => ?_⟩
  obtain ⟨b1, o1, e, hb, hc⟩ := h.2 (by omega)
  injection e with e
  injection e with e1 e2
  subst e1 e2
  refine ⟨b, o', rfl, hb, fun j hj => ?_⟩
  rw [ho (by omega), Nat.add_assoc, hc (s + j) (by omega)]
  have hl := h.1
  simp [List.getD, List.getElem?_drop]

theorem Row.take_ {k : IntKind} {w : World} {B n m : Nat} {A : Option Addr} {xs : List Int} (h : Row k w B A n xs) (hm : m ≤ n) : Row k w B A m (xs.take m) := by
  refine ⟨by rw [List.length_take, h.1]; omega, fun hn => ?_⟩
  obtain ⟨b, o, e, hb, hc⟩ := h.2 (by omega)
  refine ⟨b, o, e, hb, fun j hj => ?_⟩
  rw [hc j (by omega)]
  simp [List.getD, hj]

theorem Row.some_of {k : IntKind} {w : World} {B n : Nat} {A : Option Addr} {xs : List Int} (h : Row k w B A n xs) (hn : 0 < n) : ∃ b o, A = some ⟨b, o, none⟩ := by
  obtain ⟨b, o, e, _⟩ := h.2 hn
  exact ⟨b, o, e⟩

/-- A Reader: what is left of its bytes, and its first error. -/
structure Rdr (w : World) (g : Nat) (xs : List Int) (e : Nat) : Prop where
  ex : ∃ A n c, Rd w g A n c e ∧ Row .u8 w g A n xs ∧ n ≤ c ∧ (A = none → c = 0)
  byt : ∀ x ∈ xs, 0 ≤ x ∧ x ≤ 255

theorem Rdr.lt {w : World} {g e : Nat} {xs : List Int} (h : Rdr w g xs e) : g < w.heap.size := by
  obtain ⟨A, n, c, h1, _⟩ := h.ex
  exact lt_of_block h1.blk
theorem Rdr.only {M : Nat → Prop} {w w' : World} {g e : Nat} {xs : List Int} (h : Rdr w g xs e) (ho : Only M w w') (hM : ∀ k, k ≤ g → ¬ M k) : Rdr w' g xs e := by
  obtain ⟨A, n, c, h1, h2, h3, h4⟩ := h.ex
  have hg := h.lt
  exact ⟨⟨A, n, c, ⟨ho.at h1.blk (hM g (Nat.le_refl _))⟩, ho.row h2 (Nat.le_of_lt hg) (fun b _ _ hb => hM b (by omega)), h3, h4⟩, h.byt⟩
theorem Rdr.below {w w' : World} {g e : Nat} {xs : List Int} (h : Rdr w g xs e) (hb : Below w.heap.size w w') : Rdr w' g xs e :=
  h.only (M := fun _ => False) (Only.of_below hb) (fun _ _ h => h)

/-- What a step of the Reader leaves. -/
def after (xs : List Int) (e s er : Nat) : List Int × Nat := if e ≠ 0 then (xs, e) else if er ≠ 0 then (xs, er) else (xs.drop s, 0)

theorem reads_ok {w w2 w1 w' : World} {g n c s er : Nat} {A : Option Addr} {xs : List Int} {zero v : Value} {r : Ending} (h1 : Rd w g A n c 0) (h2 : Row .u8 w g A n xs) (h3 : n ≤ c) (h4 : A = none → c = 0) (hbyt : ∀ x ∈ xs, 0 ≤ x ∧ x ≤ 255)
    (hb2 : Below w.heap.size w w2) (h : ReadsTo w2 g A n c zero v s er w1 r w') : r = .returned (if er ≠ 0 then zero else v) ∧ Rdr w' g (after xs 0 s er).1 (after xs 0 s er).2 ∧ Only (fun k => k = g) w w' := by
  obtain ⟨ok, bad, ho, hb⟩ := h
  have hO : Only (fun k => k = g) w w' := ((Only.of_below (hb2.trans (hb.mono hb2.size)) : Only (fun k => k = g) w w1)).trans ho (fun _ _ h => h)
  have hlt : g < w.heap.size := lt_of_block h1.blk
  have hr : Row .u8 w' g A n xs := hO.row h2 (Nat.le_of_lt hlt) (fun b _ _ hb e => by omega)
  by_cases he : er = 0
  · obtain ⟨hv, b, o, o', rfl, hrd, hoo⟩ := ok he
    refine ⟨by simp [he, hv], ?_, hO⟩
    have : after xs 0 s er = (xs.drop s, 0) := by unfold after; simp [he]
    rw [this]
    exact ⟨⟨_, _, _, hrd, Row.drop hr hoo, by omega, fun h => by cases h⟩, fun x hx => hbyt x (List.mem_of_mem_drop hx)⟩
  · obtain ⟨hv, hrd⟩ := bad he
    refine ⟨by simp [he, hv], ?_, hO⟩
    have : after xs 0 s er = (xs, er) := by unfold after; simp [he]
    rw [this]
    exact ⟨⟨_, _, _, hrd, hr, h3, h4⟩, hbyt⟩

theorem ent_number : Enters 35 := fun _ _ => rfl
theorem ent_signed : Enters 38 := fun _ _ => rfl
theorem ent_byte : Enters 44 := fun _ _ => rfl
theorem ent_bytes : Enters 46 := fun _ _ => rfl

set_option maxHeartbeats 800000 in
set_option maxRecDepth 100000 in
theorem how_number (A : Option Addr) (n c B mb : Nat) (xs : List Int) (most : Int) (w : World) (h : Row .u8 w B A n xs) (hb : ∀ x ∈ xs, 0 ≤ x ∧ x ≤ 255) (h1 : -9223372036854775808 ≤ most) (h2 : most ≤ 9223372036854775807) (hm : w.cell? ⟨mb, 0, none⟩ = some (.int .i64 most)) :
    Calls Try.prog 35 #[.slice A n c, .pointer (some ⟨mb, 0, none⟩)] w fun e w' =>
      ∃ v, e = Tells v (nxt xs most).2.1 (nxt xs most).2.2 ∧ Below w.heap.size w w' ∧ v = .int .i64 (nxt xs most).1 := by
  have H := Lib.hid h
  have HB := Lib.hid hb
  have H1 := Lib.hid h1
  have H2 := Lib.hid h2
  clear h hb h1 h2
  go_enter Try.func35, Try.ntmps35
  go_wp2_with fail
  refine (numb_any A n c B xs most w H.out HB.out H1.out H2.out).mono ?_
  rintro e1 w1 ⟨rfl, rfl⟩
  unfold Tells
  go_wp2
  go_ret3
  exact ⟨_, rfl, Below.refl _ _, rfl⟩

set_option maxHeartbeats 800000 in
set_option maxRecDepth 100000 in
theorem how_byte (A : Option Addr) (n c B : Nat) (xs : List Int) (w : World) (h : Row .u8 w B A n xs) :
    Calls Try.prog 44 #[.slice A n c] w fun e w' =>
      ∃ v, e = Tells v (nxb xs).2.1 (nxb xs).2.2 ∧ Below w.heap.size w w' ∧ v = .int .u8 (nxb xs).1 := by
  cases xs with
  | nil =>
    have hn : n = 0 := by have := h.len; simpa using this.symm
    subst hn
    clear h
    go_enter Try.func44, Try.ntmps44
    go_wp2
    go_ret3
    exact ⟨_, rfl, Below.refl _ _, rfl⟩
  | cons x xs =>
    have hn : 0 < n := by have := h.len; simp at this; omega
    obtain ⟨b, o, rfl, _, hc⟩ := h.cell_at hn
    simp at hc
    have hne : ((n : Int) == 0) = false := beq_eq_false_iff_ne.2 (by omega)
    clear h
    go_enter Try.func44, Try.ntmps44
    go_wp2
    go_ret3
    exact ⟨_, rfl, Below.refl _ _, rfl⟩

theorem same_flip {P : Program} {f : FuncId} {args : Array Value} {w : World} {v : Value} (h : Calls P f args w fun e w' => e = .returned v ∧ w = w') : Calls P f args w fun e w' => e = .returned v ∧ w' = w := h.mono fun _ _ ⟨a, b⟩ => ⟨a, b.symm⟩

set_option maxHeartbeats 800000 in
set_option maxRecDepth 100000 in
theorem how_signed (A : Option Addr) (n c B mb : Nat) (xs : List Int) (most : Int) (w : World) (h : Row .u8 w B A n xs) (hb : ∀ x ∈ xs, 0 ≤ x ∧ x ≤ 255) (h1 : -9223372036854775808 ≤ most) (h2 : most ≤ 9223372036854775807) (hm : w.cell? ⟨mb, 0, none⟩ = some (.int .i64 most)) :
    Calls Try.prog 38 #[.slice A n c, .pointer (some ⟨mb, 0, none⟩)] w fun e w' =>
      ∃ v, e = Tells v (nxs xs most).2.1 (nxs xs most).2.2 ∧ Below w.heap.size w w' ∧ v = .int .i64 (nxs xs most).1 := by
  have H := Lib.hid h
  have HB := Lib.hid hb
  have H1 := Lib.hid h1
  have H2 := Lib.hid h2
  have H64 := Lib.hid (take64 hb)
  clear h hb h1 h2
  obtain ⟨t, HT⟩ : ∃ t, Hid (take 0 0 xs = t) := ⟨_, rfl⟩
  obtain ⟨x, s, er⟩ := t
  have HX : Hid (nxs xs most = if er ≠ 0 then (0, 0, er) else if abv (back x).natAbs most then (0, 0, 3) else (back x, s, 0)) := by unfold Hid nxs; rw [HT.out]
  go_enter Try.func38, Try.ntmps38
  go_wp2_with fail
  refine (take_any A n c B xs _ H.out HB.out).mono ?_
  rintro e1 w1 ⟨rfl, rfl⟩
  rw [HT.out]
  rw [HT.out] at H64
  by_cases he : er = 0
  · subst he
    go_wp2_with fail
    refine (back_any x (by omega) (by have := H64.out; omega) _).mono ?_
    rintro e2 w2 ⟨rfl, rfl⟩
    have HBK := Lib.hid (back_bd (m := (x : Int)) (by omega) (by have := H64.out; omega))
    go_wp2_with fail
    go_quiet (first | (go_at_call 42; refine Calls.quiet_of_same (same_flip (absolute_any (back x) HBK.out.1 HBK.out.2 _))) | (go_at_call 41; refine Calls.quiet_of_same (same_flip (above_any (back x).natAbs most (by have := HBK.out; omega) H1.out H2.out _))))
    cases ha : abv (back x).natAbs most with
    | true =>
      go_wp2
      go_ret3
      refine ⟨.int .i64 0, ?_, ?_, ?_⟩
      · rw [HX.out, ha]; rfl
      · exact ⟨rfl, rfl, rfl, Nat.le_refl _, fun _ _ => rfl⟩
      · rw [HX.out, ha]; rfl
    | false =>
      go_wp2
      go_ret3
      refine ⟨.int .i64 (back x), ?_, ?_, ?_⟩
      · rw [HX.out, ha]; rfl
      · exact ⟨rfl, rfl, rfl, Nat.le_refl _, fun _ _ => rfl⟩
      · rw [HX.out, ha]; rfl
  · have hne : ((er : Int) == 0) = false := beq_eq_false_iff_ne.2 (by omega)
    go_wp2
    go_ret3
    refine ⟨.int .i64 0, ?_, Below.refl _ _, ?_⟩
    · rw [HX.out, if_pos he]; rfl
    · rw [HX.out, if_pos he]

/-- What the closure of Bytes returns: a row of its own. -/
def Mine (w : World) (ys : List Int) (v : Value) (w' : World) : Prop := w'.ownsRow w.heap.size 5 1 v ys.length (ys.map (Value.int .u8))

set_option maxHeartbeats 800000 in
set_option maxRecDepth 100000 in
theorem how_bytes (A : Option Addr) (n c B mb : Nat) (xs : List Int) (most : Int) (w : World) (h : Row .u8 w B A n xs) (hB : B ≤ w.heap.size) (hnc : n ≤ c) (hn : n ≤ 4398046511104) (hb : ∀ x ∈ xs, 0 ≤ x ∧ x ≤ 255) (h1 : -9223372036854775808 ≤ most) (h2 : most ≤ 9223372036854775807) (hm : w.cell? ⟨mb, 0, none⟩ = some (.int .i64 most)) :
    Calls Try.prog 46 #[.slice A n c, .pointer (some ⟨mb, 0, none⟩)] w fun e w' =>
      ∃ v, e = Tells v (nxl xs most).2.1 (nxl xs most).2.2 ∧ Below w.heap.size w w' ∧ Mine w (nxl xs most).1 v w' := by
  have H := Lib.hid h
  have HB := Lib.hid hb
  have H1 := Lib.hid h1
  have H2 := Lib.hid h2
  have HL := Lib.hid h.len
  have HZ : Hid ((nxt xs most).2.2 = 0 → 0 < (nxt xs most).2.1 ∧ (nxt xs most).2.1 ≤ xs.length ∧ 0 ≤ (nxt xs most).1 ∧ (nxt xs most).1 ≤ 4611686018427387904) := nxt_ok hb
  clear h hb h1 h2
  obtain ⟨t, HT⟩ : ∃ t, Hid (nxt xs most = t) := ⟨_, rfl⟩
  rw [HT.out] at HZ
  obtain ⟨x, s, er⟩ := t
  have HX : Hid (nxl xs most = if er ≠ 0 then ([], 0, er) else if (xs.length : Int) - s < x then ([], 0, 10) else ((xs.drop s).take x.toNat, s + x.toNat, 0)) := by unfold Hid nxl; rw [HT.out]
  go_enter Try.func46, Try.ntmps46
  go_wp2_with fail
  refine (numb_any A n c B xs most w H.out HB.out H1.out H2.out).mono ?_
  rintro e1 w1 ⟨rfl, rfl⟩
  rw [HT.out]
  unfold Tells
  by_cases he : er = 0
  · subst he
    obtain ⟨z1, z2, z3, z4⟩ := HZ.out rfl
    have hl := HL.out
    obtain ⟨b, o, rfl⟩ := Row.some_of H.out (by omega)
    obtain ⟨m, rfl⟩ := Int.eq_ofNat_of_zero_le z3
    by_cases hx : (n : Int) - s < m
    · go_wp2
      go_ret3
      refine ⟨.slice none 0 0, ?_, Below.refl _ _, ?_⟩
      · rw [HX.out, hl, if_neg (by simp), if_pos hx]
        rfl
      · rw [HX.out, hl, if_neg (by simp), if_pos hx]
        exact World.ownsRow_nil _ _ _ _
    · have hsum : (s : Int) + m ≤ n := by omega
      have fin : ∀ (o' : Nat) (c' : Nat) (w1 : World) (v1 : Value), w1.ownsRow w.heap.size 5 1 v1 m ((((xs.drop s).take m)).map (Value.int .u8)) → Below w.heap.size w w1 →
          ∃ v, Ending.returned (.tuple #[v1, .int .i64 ((s : Int) + m), .int .i64 0]) = Tells v (nxl xs most).2.1 (nxl xs most).2.2 ∧ Below w.heap.size w w1 ∧ Mine w (nxl xs most).1 v w1 := by
        intro _ _ w1 v1 hown hbel
        have e : nxl xs most = ((xs.drop s).take m, s + m, 0) := by rw [HX.out, hl, if_neg (by simp), if_neg hx]; simp
        rw [e]
        refine ⟨v1, rfl, hbel, ?_⟩
        unfold Mine
        have : ((xs.drop s).take m).length = m := by simp; omega
        rw [this]
        exact hown
      have FIN := Lib.hid fin
      have hr : ∀ o', (n - s ≠ 0 → o' = o + s) → Row .u8 w B (some ⟨b, o', none⟩) m ((xs.drop s).take m) := fun o' ho => Row.take_ (Row.drop H.out ho) (by omega)
      have HRR := Lib.hid hr
      have hw1 : IntKind.i64.wrap ((s : Int) + m) = (s : Int) + m := IntWalk.i64_in _ ⟨by omega, by omega⟩
      have hm64 : m ≤ 4398046511104 := by omega
      clear fin hr
      by_cases hcs : c = s
      · go_wp2_with fail
        refine (clone_any _ m _ B _ w (HRR.out o (fun h => by omega)) hB (fun h => by cases h) hm64).mono ?_
        rintro e2 w2 ⟨v2, rfl, hown2, hb2⟩
        have HO2 := Lib.hid hown2
        have HB2 := Lib.hid hb2
        clear hown2 hb2
        go_wp2
        go_ret3
        exact FIN.out 0 0 _ _ HO2.out HB2.out
      · go_wp2_with fail
        refine (clone_any _ m _ B _ w (HRR.out (o + s) (fun _ => rfl)) hB (fun h => by cases h) hm64).mono ?_
        rintro e2 w2 ⟨v2, rfl, hown2, hb2⟩
        have HO2 := Lib.hid hown2
        have HB2 := Lib.hid hb2
        clear hown2 hb2
        go_wp2
        go_ret3
        exact FIN.out 0 0 _ _ HO2.out HB2.out
  · have hne : ((er : Int) == 0) = false := beq_eq_false_iff_ne.2 (by omega)
    go_wp2
    go_ret3
    refine ⟨.slice none 0 0, ?_, Below.refl _ _, ?_⟩
    · rw [HX.out, if_pos he]; rfl
    · rw [HX.out, if_pos he]; exact World.ownsRow_nil _ _ _ _
end Go.Proofs.Ytbmbibjkjnjbpaa.Fld

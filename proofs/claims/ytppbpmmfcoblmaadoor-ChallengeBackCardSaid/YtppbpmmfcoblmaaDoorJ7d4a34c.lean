/- Lemmas that the proof stands on, in build order: FldVr FldRc FldCc FldE FldV. -/
import Derived.Test.YtppbpmmfcoblmaaDoorJ5450dea
import Derived.Test.YtppbpmmfcoblmaaDoorJ6d27903
/- The reference's reader of layer 3: Read, as a contract. -/
namespace Go.Proofs.YtppbpmmfcoblmaaDoor.Fld
open Go.RowKit Var

set_option maxHeartbeats 800000 in
set_option maxRecDepth 100000 in
theorem refread_any (A : Option Addr) (n c : Nat) (bs : List Int) (N : Nat) (w : World) (h : Row .u8 w N A n bs) (hN : N ≤ w.heap.size) (hnc : n ≤ c) (hnil : A = none → c = 0) (hn : n ≤ 4398046511104) (hbyt : ∀ x ∈ bs, 0 ≤ x ∧ x ≤ 255) :
    Calls Tryd.prog 42 #[.slice A n c] w fun r w' => r = .returned (.pointer (some ⟨w.heap.size, 0, none⟩)) ∧ Rfr w' w.heap.size N A n c bs 0 0 ∧ Below w.heap.size w w' := by
  have H := Lib.hid h
  have HN := Lib.hid hN
  have HC := Lib.hid hnc
  have HI := Lib.hid hnil
  have HY := Lib.hid hbyt
  have HL := Lib.hid hn
  clear h hN hnc hnil hbyt hn
  go_enter Tryd.func42, Tryd.ntmps42
  go_wp2
  go_ret
  exact ⟨rfl, ⟨⟨heap_alloc_new w _⟩, H.out.alloc HN.out _, HN.out, HC.out, Nat.zero_le _, HI.out, HY.out, HL.out⟩, (Below.refl _ _).alloc (Nat.le_refl _) _⟩
end Go.Proofs.YtppbpmmfcoblmaaDoor.Fld

/- Layer 3 (field): the Reader's next step for bytes. -/
namespace Go.Proofs.YtppbpmmfcoblmaaDoor.Fld
open Go.RowKit Var

set_option maxHeartbeats 800000 in
set_option maxRecDepth 100000 in
theorem next_bytes (g n c : Nat) (A : Option Addr) (fn : Nat) (p : Value) (Q : Value → World → Prop) (s er : Nat) (w : World) (h : Rd w g A n c 0) (hnc : n ≤ c) (hs : er = 0 → 0 < s ∧ s ≤ n) (hA : 0 < n → ∃ b o, A = some ⟨b, o, none⟩) (hent : Enters fn)
    (how : Calls Tryd.prog fn #[.slice A n c, p] w fun e w' => ∃ v, e = Tells v s er ∧ Below w.heap.size w w' ∧ Q v w') :
    Calls Tryd.prog 89 #[.pointer (some ⟨g, 0, none⟩), .func (.func fn) #[] #[p]] w (fun r w' => ∃ v w1, Q v w1 ∧ ReadsTo w g A n c (.slice none 0 0) v s er w1 r w') := by
  have HR := Lib.hid h
  have HH := Lib.hid how
  have HS := Lib.hid hs
  have HA := Lib.hid hA
  have c1 := h.c1
  have c2 := h.c2
  unfold Enters at hent
  clear h how hs hA
  go_enter Tryd.func89, Tryd.ntmps89
  go_wp2_with fail
  refine (error_any g n c A 0 w HR.out).mono ?_
  rintro e1 w1 ⟨rfl, rfl⟩
  go_wp2_with fail
  refine HH.out.mono ?_
  rintro e1 w1 ⟨v, rfl, hb1, hq⟩
  have HB := Lib.hid hb1
  have HQ := Lib.hid hq
  have HR1 := Lib.hid (HR.out.below hb1)
  have d1 := HR1.out.c1
  have f1 : w1.frozen? ⟨g, 1, none⟩ = false := free_of_blk HR1.out.blk
  have d2 := HR1.out.c2
  have f2 : w1.frozen? ⟨g, 2, none⟩ = false := free_of_blk HR1.out.blk
  clear hb1 c1 c2 hq
  unfold Tells
  by_cases he : er = 0
  · subst he
    obtain ⟨hs0, hsn⟩ := HS.out rfl
    obtain ⟨b, o, rfl⟩ := HA.out (by omega)
    by_cases hcs : c = s
    · have hz : n - s = 0 := by omega
      have hz' : c - s = 0 := by omega
      subst hcs
      go_wp2
      go_ret
      refine ⟨v, w1, HQ.out, fun _ => ⟨rfl, b, o, o, rfl, ⟨?_⟩, fun h => by omega⟩, fun h => absurd rfl h, Only.setCell _ ⟨g, 1, none⟩ _, HB.out⟩
      have := set_blk (u := .slice (some ⟨b, o, none⟩) (n - c) (c - c)) (j := 1) HR1.out.blk
      simpa [hz, hz'] using this
    · go_wp2
      go_ret
      refine ⟨v, w1, HQ.out, fun _ => ⟨rfl, b, o, o + s, rfl, ⟨set_blk HR1.out.blk⟩, fun _ => rfl⟩, fun h => absurd rfl h, Only.setCell _ ⟨g, 1, none⟩ _, HB.out⟩
  · have hne : ((er : Int) == 0) = false := beq_eq_false_iff_ne.2 (by omega)
    go_wp2
    go_ret
    refine ⟨v, w1, HQ.out, fun h => absurd h he, fun _ => ⟨rfl, ⟨set_blk HR1.out.blk⟩⟩, Only.setCell _ ⟨g, 2, none⟩ _, HB.out⟩
set_option maxHeartbeats 800000 in
set_option maxRecDepth 100000 in
theorem next_bytes_bad (g n c : Nat) (A : Option Addr) (e : Int) (fv : Value) (w : World) (h : Rd w g A n c e) (he : e ≠ 0) :
    Calls Tryd.prog 89 #[.pointer (some ⟨g, 0, none⟩), fv] w fun r w' => r = .returned (.slice none 0 0) ∧ w = w' := by
  have HR := Lib.hid h
  have hne : (e == 0) = false := beq_eq_false_iff_ne.2 he
  clear h he
  go_enter Tryd.func89, Tryd.ntmps89
  go_wp2_with fail
  refine (error_any g n c A e w HR.out).mono ?_
  rintro e1 w1 ⟨rfl, rfl⟩
  go_wp2
  go_ret
  exact ⟨rfl, rfl⟩
set_option maxHeartbeats 800000 in
set_option maxRecDepth 100000 in
theorem next_bytes_nil (fv : Value) (w : World) :
    Calls Tryd.prog 89 #[.pointer none, fv] w fun r w' => r = .returned (.slice none 0 0) ∧ w = w' := by
  go_enter Tryd.func89, Tryd.ntmps89
  go_wp2_with fail
  refine (error_nil w).mono ?_
  rintro e1 w1 ⟨rfl, rfl⟩
  go_wp2
  go_ret
  exact ⟨rfl, rfl⟩
end Go.Proofs.YtppbpmmfcoblmaaDoor.Fld

/- Layer 3 (field): how the program reads bytes. -/
namespace Go.Proofs.YtppbpmmfcoblmaaDoor.Fld
open Go.RowKit Var

set_option maxRecDepth 100000 in
theorem ent_bytes : Enters 90 := fun _ _ => rfl
/-- What the closure of Bytes returns: a row of its own. -/
def Mine (w : World) (ys : List Int) (v : Value) (w' : World) : Prop := w'.ownsRow w.heap.size 5 1 v ys.length (ys.map (Value.int .u8))
set_option maxHeartbeats 800000 in
set_option maxRecDepth 100000 in
theorem how_bytes (A : Option Addr) (n c B mb : Nat) (xs : List Int) (most : Int) (w : World) (h : Row .u8 w B A n xs) (hB : B ≤ w.heap.size) (hnc : n ≤ c) (hn : n ≤ 4398046511104) (hb : ∀ x ∈ xs, 0 ≤ x ∧ x ≤ 255) (h1 : -9223372036854775808 ≤ most) (h2 : most ≤ 9223372036854775807) (hm : w.cell? ⟨mb, 0, none⟩ = some (.int .i64 most)) :
    Calls Tryd.prog 90 #[.slice A n c, .pointer (some ⟨mb, 0, none⟩)] w fun e w' =>
      ∃ v, e = Tells v (nxl xs most).2.1 (nxl xs most).2.2 ∧ Below w.heap.size w w' ∧ Mine w (nxl xs most).1 v w' := by
  have H := Lib.hid h
  have HB := Lib.hid hb
  have H1 := Lib.hid h1
  have H2 := Lib.hid h2
  have HL := Lib.hid h.len
  have HZ : Hid ((nxt xs most).2.2 = 0 → 0 < (nxt xs most).2.1 ∧ (nxt xs most).2.1 ≤ xs.length ∧ 0 ≤ (nxt xs most).1 ∧ (nxt xs most).1 ≤ 4611686018427387904) := nxt_ok hb
  clear h hb h1 h2
  obtain ⟨t, HT⟩ : ∃ t, Hid (nxt xs most = t) := ⟨_, rfl⟩
  rw [HT.out] at HZ
  obtain ⟨x, s, er⟩ := t
  have HX : Hid (nxl xs most = if er ≠ 0 then ([], 0, er) else if (xs.length : Int) - s < x then ([], 0, 10) else ((xs.drop s).take x.toNat, s + x.toNat, 0)) := by unfold Hid nxl; rw [HT.out]
  go_enter Tryd.func90, Tryd.ntmps90
  go_wp2_with fail
  refine (numb_any A n c B xs most w H.out HB.out H1.out H2.out).mono ?_
  rintro e1 w1 ⟨rfl, rfl⟩
  rw [HT.out]
  unfold Tells
  by_cases he : er = 0
  · subst he
    obtain ⟨z1, z2, z3, z4⟩ := HZ.out rfl
    have hl := HL.out
    obtain ⟨b, o, rfl⟩ := Row.some_of H.out (by omega)
    obtain ⟨m, rfl⟩ := Int.eq_ofNat_of_zero_le z3
    by_cases hx : (n : Int) - s < m
    · go_wp2
      go_ret3
      refine ⟨.slice none 0 0, ?_, Below.refl _ _, ?_⟩
      · rw [HX.out, hl, if_neg (by simp), if_pos hx]
        rfl
      · rw [HX.out, hl, if_neg (by simp), if_pos hx]
        exact World.ownsRow_nil _ _ _ _
    · have hsum : (s : Int) + m ≤ n := by omega
      have fin : ∀ (o' : Nat) (c' : Nat) (w1 : World) (v1 : Value), w1.ownsRow w.heap.size 5 1 v1 m ((((xs.drop s).take m)).map (Value.int .u8)) → Below w.heap.size w w1 →
          ∃ v, Ending.returned (.tuple #[v1, .int .i64 ((s : Int) + m), .int .i64 0]) = Tells v (nxl xs most).2.1 (nxl xs most).2.2 ∧ Below w.heap.size w w1 ∧ Mine w (nxl xs most).1 v w1 := by
        intro _ _ w1 v1 hown hbel
        have e : nxl xs most = ((xs.drop s).take m, s + m, 0) := by rw [HX.out, hl, if_neg (by simp), if_neg hx]; simp
        rw [e]
        refine ⟨v1, rfl, hbel, ?_⟩
        unfold Mine
        have : ((xs.drop s).take m).length = m := by simp; omega
        rw [this]
        exact hown
      have FIN := Lib.hid fin
      have hr : ∀ o', (n - s ≠ 0 → o' = o + s) → Row .u8 w B (some ⟨b, o', none⟩) m ((xs.drop s).take m) := fun o' ho => Row.take_ (Row.drop H.out ho) (by omega)
      have HRR := Lib.hid hr
      have hw1 : IntKind.i64.wrap ((s : Int) + m) = (s : Int) + m := IntWalk.i64_in _ ⟨by omega, by omega⟩
      have hm64 : m ≤ 4398046511104 := by omega
      clear fin hr
      by_cases hcs : c = s
      · go_wp2_with fail
        refine (clone_any _ m _ B _ w (HRR.out o (fun h => by omega)) hB (fun h => by cases h) hm64).mono ?_
        rintro e2 w2 ⟨v2, rfl, hown2, hb2⟩
        have HO2 := Lib.hid hown2
        have HB2 := Lib.hid hb2
        clear hown2 hb2
        go_wp2
        go_ret3
        exact FIN.out 0 0 _ _ HO2.out HB2.out
      · go_wp2_with fail
        refine (clone_any _ m _ B _ w (HRR.out (o + s) (fun _ => rfl)) hB (fun h => by cases h) hm64).mono ?_
        rintro e2 w2 ⟨v2, rfl, hown2, hb2⟩
        have HO2 := Lib.hid hown2
        have HB2 := Lib.hid hb2
        clear hown2 hb2
        go_wp2
        go_ret3
        exact FIN.out 0 0 _ _ HO2.out HB2.out
  · have hne : ((er : Int) == 0) = false := beq_eq_false_iff_ne.2 (by omega)
    go_wp2
    go_ret3
    refine ⟨.slice none 0 0, ?_, Below.refl _ _, ?_⟩
    · rw [HX.out, if_pos he]; rfl
    · rw [HX.out, if_pos he]; exact World.ownsRow_nil _ _ _ _
end Go.Proofs.YtppbpmmfcoblmaaDoor.Fld

/- Bytes, Done and Read of layer 3's Reader, as contracts. -/
namespace Go.Proofs.YtppbpmmfcoblmaaDoor.Fld
open Go.RowKit Var

/-- The bytes that a step returns. -/
def vals (e : Nat) (t : List Int × Nat × Nat) : List Int := if e ≠ 0 ∨ t.2.2 ≠ 0 then [] else t.1

def StepsL (w : World) (g : Nat) (xs : List Int) (e : Nat) (t : List Int × Nat × Nat) (r : Ending) (w' : World) : Prop :=
  ∃ v, r = .returned v ∧ w'.ownsRow w.heap.size 5 1 v (vals e t).length ((vals e t).map (Value.int .u8)) ∧ Rdr w' g (after xs e t.2.1 t.2.2).1 (after xs e t.2.1 t.2.2).2 ∧ Only (fun k => k = g) w w'

set_option maxHeartbeats 800000 in
set_option maxRecDepth 100000 in
theorem bytesR (g e : Nat) (xs : List Int) (most : Int) (w : World) (h : Rdr w g xs e) (h1 : -9223372036854775808 ≤ most) (h2 : most ≤ 9223372036854775807) (hx : xs.length ≤ 4398046511104) :
    Calls Tryd.prog 71 #[.pointer (some ⟨g, 0, none⟩), .int .i64 most] w (StepsL w g xs e (nxl xs most)) := by
  have HR := Lib.hid h
  have H1 := Lib.hid h1
  have H2 := Lib.hid h2
  clear h h1 h2
  have hb2 : Hid (Below w.heap.size w (w.alloc (.cells #[.int .i64 most] 3))) := ((Below.refl _ _).alloc (Nat.le_refl _) _)
  have hcell : Hid ((w.alloc (.cells #[.int .i64 most] 3)).cell? ⟨w.heap.size, 0, none⟩ = some (.int .i64 most)) := cell_of_one (heap_alloc_new w _)
  have hmf : ∀ (fn : Fn) (first cap : Array Value) (w : World), (Instr.makeFunc fn first cap).run Tryd.prog w = .ok (.func fn first cap) w := fun _ _ _ _ => rfl
  have fin : Calls Tryd.prog 89 #[.pointer (some ⟨g, 0, none⟩), .func (.func 90) #[] #[.pointer (some ⟨w.heap.size, 0, none⟩)]] (w.alloc (.cells #[.int .i64 most] 3)) (StepsL w g xs e (nxl xs most)) := by
    obtain ⟨A, n, c, hrd, hrow, hnc, hnil⟩ := HR.out.ex
    have hlt : g < w.heap.size := HR.out.lt
    have hlen := hrow.len
    by_cases he : e = 0
    · subst he
      refine (next_bytes g n c A 90 (.pointer (some ⟨w.heap.size, 0, none⟩)) (Mine (w.alloc (.cells #[.int .i64 most] 3)) (nxl xs most).1) (nxl xs most).2.1 (nxl xs most).2.2 _ (hrd.below hb2.out) hnc (fun h => by have := nxl_ok (most := most) HR.out.byt h; omega) (fun h => Row.some_of hrow h) ent_bytes
        (how_bytes A n c g _ xs most _ (hrow.alloc (Nat.le_of_lt hlt) _) (by simp; omega) hnc (by omega) HR.out.byt H1.out H2.out hcell.out)).mono ?_
      rintro r w' ⟨v, w1, hv, hR⟩
      obtain ⟨a, b, c'⟩ := reads_ok hrd hrow hnc hnil HR.out.byt hb2.out hR
      by_cases her : (nxl xs most).2.2 = 0
      · refine ⟨v, by simpa [her] using a, ?_, b, c'⟩
        have hv' := hR.2.2.1.own hv (fun k hk hkg => by have := (hv.lt k hk).1; simp at this; omega)
        unfold vals
        rw [if_neg (by simp [her])]
        exact own_mono hv' (by simp)
      · refine ⟨.slice none 0 0, by simpa [her] using a, ?_, b, c'⟩
        unfold vals
        rw [if_pos (.inr her)]
        exact World.ownsRow_nil _ _ _ _
    · refine (next_bytes_bad g n c A e _ _ (hrd.below hb2.out) (by omega)).mono ?_
      rintro r w' ⟨rfl, rfl⟩
      have e1 : after xs e (nxl xs most).2.1 (nxl xs most).2.2 = (xs, e) := by unfold after; rw [if_pos he]
      refine ⟨.slice none 0 0, rfl, ?_, by rw [e1]; exact HR.out.below hb2.out, Only.of_below hb2.out⟩
      unfold vals
      rw [if_pos (.inl he)]
      exact World.ownsRow_nil _ _ _ _
  have FIN := Lib.hid fin
  clear fin hb2 hcell
  go_enter Tryd.func71, Tryd.ntmps71
  go_wp2_with fail
  refine FIN.out.mono ?_
  rintro r w' ⟨u, rfl, hst⟩
  have HST := Lib.hid hst
  clear hst
  go_wp2
  go_ret
  exact ⟨u, rfl, HST.out⟩

set_option maxHeartbeats 800000 in
set_option maxRecDepth 100000 in
theorem bytesR_nil (most : Int) (w : World) : Calls Tryd.prog 71 #[.pointer none, .int .i64 most] w fun r w' => r = .returned (.slice none 0 0) ∧ Below w.heap.size w w' := by
  have hmf : ∀ (fn : Fn) (first cap : Array Value) (w : World), (Instr.makeFunc fn first cap).run Tryd.prog w = .ok (.func fn first cap) w := fun _ _ _ _ => rfl
  go_enter Tryd.func71, Tryd.ntmps71
  go_wp2_with fail
  refine (next_bytes_nil _ _).mono ?_
  rintro r w' ⟨rfl, rfl⟩
  go_wp2
  go_ret
  exact ⟨rfl, ((Below.refl _ _).alloc (Nat.le_refl _) _)⟩

/-- What Done returns. -/
def done (xs : List Int) (e : Nat) : Nat := if e ≠ 0 then e else if xs.length = 0 then 0 else 13

set_option maxHeartbeats 800000 in
set_option maxRecDepth 100000 in
theorem doneR (g e : Nat) (xs : List Int) (w : World) (h : Rdr w g xs e) : Calls Tryd.prog 72 #[.pointer (some ⟨g, 0, none⟩)] w fun r w' => r = .returned (.int .i64 (done xs e : Int)) ∧ w = w' := by
  obtain ⟨A, n, c, hrd, hrow, _⟩ := h.ex
  have HRD := Lib.hid hrd
  have HL := Lib.hid hrow.len
  have d1 := hrd.c1
  clear h hrow hrd
  go_enter Tryd.func72, Tryd.ntmps72
  go_wp2_with fail
  refine (error_any g n c A e w HRD.out).mono ?_
  rintro r w' ⟨rfl, rfl⟩
  by_cases he : e = 0
  · subst he
    by_cases hn : n = 0
    · subst hn
      go_wp2
      go_ret
      exact ⟨ret_int (by unfold done; rw [HL.out]; simp), rfl⟩
    · have hne : ((n : Int) == 0) = false := beq_eq_false_iff_ne.2 (by omega)
      go_wp2
      go_ret
      exact ⟨ret_int (by unfold done; rw [HL.out]; simp [hn]), rfl⟩
  · have hne : ((e : Int) == 0) = false := beq_eq_false_iff_ne.2 (by omega)
    go_wp2
    go_ret
    exact ⟨ret_int (by unfold done; simp [he]), rfl⟩

set_option maxHeartbeats 800000 in
set_option maxRecDepth 100000 in
theorem doneR_nil (w : World) : Calls Tryd.prog 72 #[.pointer none] w fun r w' => r = .returned (.int .i64 1) ∧ w = w' := by
  go_enter Tryd.func72, Tryd.ntmps72
  go_wp2_with fail
  refine (error_nil w).mono ?_
  rintro r w' ⟨rfl, rfl⟩
  go_wp2
  go_ret
  exact ⟨rfl, rfl⟩

end Go.Proofs.YtppbpmmfcoblmaaDoor.Fld

/- The reference's reader of layer 3: Byte, Bytes, Done, Read, as contracts. -/
namespace Go.Proofs.YtppbpmmfcoblmaaDoor.Fld
open Go.RowKit Var

theorem drop_at {bs : List Int} {k : Nat} (h : k < bs.length) : bs.drop k = bs.getD k 0 :: bs.drop (k + 1) := by
  rw [List.drop_eq_getElem_cons h]
  simp [List.getD, h]

/-- A world that is another one but for its draws. -/
structure Like (w w' : World) : Prop where
  heap : w'.heap = w.heap
  os : w'.os = w.os
  tape : w'.tape = w.tape
  output : w'.output = w.output
theorem Like.only {M : Nat → Prop} {w w1 w' : World} (h : Like w1 w') (ho : Only M w w1) : Only M w w' :=
  ⟨h.os.trans ho.os, h.tape.trans ho.tape, h.output.trans ho.output, by rw [h.heap]; exact ho.size, fun k hk hn => by rw [h.heap]; exact ho.block k hk hn⟩
theorem Like.rf {w w' : World} {g n c at_ e : Nat} {A : Option Addr} (h : Like w w') (hr : Rf w g A n c at_ e) : Rf w' g A n c at_ e := ⟨by rw [h.heap]; exact hr.blk⟩

section
variable {w w' : World} {g N n c at_ s er : Nat} {A : Option Addr} {bs : List Int} {k : IntKind} {t : Int × Nat × Nat} {x : Int}
theorem ref_like_err (h : Rfr w g N A n c bs at_ 0) (hl : Like (w.setCell ⟨g, 2, none⟩ (.int .i64 (er : Int))) w') (ht : t.2.2 = er) (he : er ≠ 0) : RefSteps w g N A n c bs at_ 0 k t (.returned (.int k 0)) w' := by
  have hO := hl.only (Only.setCell w ⟨g, 2, none⟩ (.int .i64 (er : Int)))
  exact refsteps_err (h.set hO (hl.rf (h.rf.set2 er)) h.le) ht he hO
theorem ref_like_ok (h : Rfr w g N A n c bs at_ 0) (hl : Like (w.setCell ⟨g, 1, none⟩ (.int .i64 ((at_ + s : Nat) : Int))) w') (ht : t = (x, s, 0)) (hs : at_ + s ≤ n) : RefSteps w g N A n c bs at_ 0 k t (.returned (.int k x)) w' := by
  have hO := hl.only (Only.setCell w ⟨g, 1, none⟩ (.int .i64 ((at_ + s : Nat) : Int)))
  exact refsteps_ok (h.set hO (hl.rf (h.rf.set1 (at_ + s))) hs) ht hO
end

set_option maxHeartbeats 1600000 in
set_option maxRecDepth 100000 in
theorem refdone_any (g N n c at_ e : Nat) (A : Option Addr) (bs : List Int) (w : World) (h : Rfr w g N A n c bs at_ e) :
    Calls Tryd.prog 45 #[.pointer (some ⟨g, 0, none⟩)] w fun r w' => r = .returned (.int .i64 (done (bs.drop at_) e : Int)) ∧ Like w w' := by
  have c0 := h.rf.c0
  have c1 := h.rf.c1
  have c2 := h.rf.c2
  have HL : Hid ((bs.drop at_).length = n - at_) := by unfold Hid; rw [List.length_drop, h.row.len]
  have hle := h.le
  clear h
  by_cases he : e = 0
  · subst he
    by_cases hlt : at_ < n
    · have hd : decide ((at_ : Int) < (n : Int)) = true := decide_eq_true (by omega)
      have HD : Hid (done (bs.drop at_) 0 = 13) := by have := HL.out; unfold Hid done; rw [if_neg (by simp), if_neg (by omega)]
      go_enter Tryd.func45, Tryd.ntmps45
      go_wp2
      go_quiet (fail)
      go_wp2
      go_ret
      exact ⟨ret_int (by rw [HD.out]; rfl), ⟨rfl, rfl, rfl, rfl⟩⟩
    · have hd : decide ((at_ : Int) < (n : Int)) = false := decide_eq_false (by omega)
      have HD : Hid (done (bs.drop at_) 0 = 0) := by have := HL.out; unfold Hid done; rw [if_neg (by simp), if_pos (by omega)]
      go_enter Tryd.func45, Tryd.ntmps45
      go_wp2
      go_quiet (fail)
      go_wp2
      go_ret
      exact ⟨ret_int (by rw [HD.out]; rfl), ⟨rfl, rfl, rfl, rfl⟩⟩
  · have hne : ((e : Int) == 0) = false := beq_eq_false_iff_ne.2 (by omega)
    have HD : Hid (done (bs.drop at_) e = e) := by unfold Hid done; rw [if_pos he]
    clear he
    go_enter Tryd.func45, Tryd.ntmps45
    go_wp2
    go_quiet (fail)
    go_wp2
    go_ret
    exact ⟨ret_int (by rw [HD.out]), ⟨rfl, rfl, rfl, rfl⟩⟩

end Go.Proofs.YtppbpmmfcoblmaaDoor.Fld

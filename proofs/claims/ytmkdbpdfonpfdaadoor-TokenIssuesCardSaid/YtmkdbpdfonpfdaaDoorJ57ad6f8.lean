/- Lemmas that the proof stands on, in build order: FldVr FldRc FldCc FldE FldV FldU FldN0 TokM ShaS2 ShaS3 ShaS4. -/
import Derived.StillTailTactics
import Derived.Deep.RegionHeld3
import Derived.Test.YtmkdbpdfonpfdaaDoorJ127b64a
import Derived.Test.YtmkdbpdfonpfdaaDoorJ2d18a1d
import Derived.Test.YtmkdbpdfonpfdaaDoorJ48595ad
/- The reference's reader of layer 3: Read, as a contract. -/
namespace Go.Proofs.YtmkdbpdfonpfdaaDoor.Fld
open Go.RowKit Var

set_option maxHeartbeats 800000 in
set_option maxRecDepth 100000 in
theorem refread_any (A : Option Addr) (n c : Nat) (bs : List Int) (N : Nat) (w : World) (h : Row .u8 w N A n bs) (hN : N ≤ w.heap.size) (hnc : n ≤ c) (hnil : A = none → c = 0) (hn : n ≤ 4398046511104) (hbyt : ∀ x ∈ bs, 0 ≤ x ∧ x ≤ 255) :
    Calls Tryd.prog 41 #[.slice A n c] w fun r w' => r = .returned (.pointer (some ⟨w.heap.size, 0, none⟩)) ∧ Rfr w' w.heap.size N A n c bs 0 0 ∧ Below w.heap.size w w' := by
  have H := Lib.hid h
  have HN := Lib.hid hN
  have HC := Lib.hid hnc
  have HI := Lib.hid hnil
  have HY := Lib.hid hbyt
  have HL := Lib.hid hn
  clear h hN hnc hnil hbyt hn
  go_enter Tryd.func41, Tryd.ntmps41
  go_wp2
  go_ret
  exact ⟨rfl, ⟨⟨heap_alloc_new w _⟩, H.out.alloc HN.out _, HN.out, HC.out, Nat.zero_le _, HI.out, HY.out, HL.out⟩, (Below.refl _ _).alloc (Nat.le_refl _) _⟩
end Go.Proofs.YtmkdbpdfonpfdaaDoor.Fld

/- Layer 3 (field): the Reader's next step for bytes. -/
namespace Go.Proofs.YtmkdbpdfonpfdaaDoor.Fld
open Go.RowKit Var

set_option maxHeartbeats 800000 in
set_option maxRecDepth 100000 in
theorem next_bytes (g n c : Nat) (A : Option Addr) (fn : Nat) (p : Value) (Q : Value → World → Prop) (s er : Nat) (w : World) (h : Rd w g A n c 0) (hnc : n ≤ c) (hs : er = 0 → 0 < s ∧ s ≤ n) (hA : 0 < n → ∃ b o, A = some ⟨b, o, none⟩) (hent : Enters fn)
    (how : Calls Tryd.prog fn #[.slice A n c, p] w fun e w' => ∃ v, e = Tells v s er ∧ Below w.heap.size w w' ∧ Q v w') :
    Calls Tryd.prog 81 #[.pointer (some ⟨g, 0, none⟩), .func (.func fn) #[] #[p]] w (fun r w' => ∃ v w1, Q v w1 ∧ ReadsTo w g A n c (.slice none 0 0) v s er w1 r w') := by
  have HR := Lib.hid h
  have HH := Lib.hid how
  have HS := Lib.hid hs
  have HA := Lib.hid hA
  have c1 := h.c1
  have c2 := h.c2
  unfold Enters at hent
  clear h how hs hA
  go_enter Tryd.func81, Tryd.ntmps81
  go_wp2_with fail
  refine (error_any g n c A 0 w HR.out).mono ?_
  rintro e1 w1 ⟨rfl, rfl⟩
  go_wp2_with fail
  refine HH.out.mono ?_
  rintro e1 w1 ⟨v, rfl, hb1, hq⟩
  have HB := Lib.hid hb1
  have HQ := Lib.hid hq
  have HR1 := Lib.hid (HR.out.below hb1)
  have d1 := HR1.out.c1
  have f1 : w1.frozen? ⟨g, 1, none⟩ = false := free_of_blk HR1.out.blk
  have d2 := HR1.out.c2
  have f2 : w1.frozen? ⟨g, 2, none⟩ = false := free_of_blk HR1.out.blk
  clear hb1 c1 c2 hq
  unfold Tells
  by_cases he : er = 0
  · subst he
    obtain ⟨hs0, hsn⟩ := HS.out rfl
    obtain ⟨b, o, rfl⟩ := HA.out (by omega)
    by_cases hcs : c = s
    · have hz : n - s = 0 := by omega
      have hz' : c - s = 0 := by omega
      subst hcs
      go_wp2
      go_ret
      refine ⟨v, w1, HQ.out, fun _ => ⟨rfl, b, o, o, rfl, ⟨?_⟩, fun h => by omega⟩, fun h => absurd rfl h, Only.setCell _ ⟨g, 1, none⟩ _, HB.out⟩
      have := set_blk (u := .slice (some ⟨b, o, none⟩) (n - c) (c - c)) (j := 1) HR1.out.blk
      simpa [hz, hz'] using this
    · go_wp2
      go_ret
      refine ⟨v, w1, HQ.out, fun _ => ⟨rfl, b, o, o + s, rfl, ⟨set_blk HR1.out.blk⟩, fun _ => rfl⟩, fun h => absurd rfl h, Only.setCell _ ⟨g, 1, none⟩ _, HB.out⟩
  · have hne : ((er : Int) == 0) = false := beq_eq_false_iff_ne.2 (by omega)
    go_wp2
    go_ret
    refine ⟨v, w1, HQ.out, fun h => absurd h he, fun _ => ⟨rfl, ⟨set_blk HR1.out.blk⟩⟩, Only.setCell _ ⟨g, 2, none⟩ _, HB.out⟩
set_option maxHeartbeats 800000 in
set_option maxRecDepth 100000 in
theorem next_bytes_bad (g n c : Nat) (A : Option Addr) (e : Int) (fv : Value) (w : World) (h : Rd w g A n c e) (he : e ≠ 0) :
    Calls Tryd.prog 81 #[.pointer (some ⟨g, 0, none⟩), fv] w fun r w' => r = .returned (.slice none 0 0) ∧ w = w' := by
  have HR := Lib.hid h
  have hne : (e == 0) = false := beq_eq_false_iff_ne.2 he
  clear h he
  go_enter Tryd.func81, Tryd.ntmps81
  go_wp2_with fail
  refine (error_any g n c A e w HR.out).mono ?_
  rintro e1 w1 ⟨rfl, rfl⟩
  go_wp2
  go_ret
  exact ⟨rfl, rfl⟩
set_option maxHeartbeats 800000 in
set_option maxRecDepth 100000 in
theorem next_bytes_nil (fv : Value) (w : World) :
    Calls Tryd.prog 81 #[.pointer none, fv] w fun r w' => r = .returned (.slice none 0 0) ∧ w = w' := by
  go_enter Tryd.func81, Tryd.ntmps81
  go_wp2_with fail
  refine (error_nil w).mono ?_
  rintro e1 w1 ⟨rfl, rfl⟩
  go_wp2
  go_ret
  exact ⟨rfl, rfl⟩
end Go.Proofs.YtmkdbpdfonpfdaaDoor.Fld

/- Layer 3 (field): how the program reads bytes. -/
namespace Go.Proofs.YtmkdbpdfonpfdaaDoor.Fld
open Go.RowKit Var

set_option maxRecDepth 100000 in
theorem ent_bytes : Enters 82 := fun _ _ => rfl
/-- What the closure of Bytes returns: a row of its own. -/
def Mine (w : World) (ys : List Int) (v : Value) (w' : World) : Prop := w'.ownsRow w.heap.size 5 1 v ys.length (ys.map (Value.int .u8))
set_option maxHeartbeats 800000 in
set_option maxRecDepth 100000 in
theorem how_bytes (A : Option Addr) (n c B mb : Nat) (xs : List Int) (most : Int) (w : World) (h : Row .u8 w B A n xs) (hB : B ≤ w.heap.size) (hnc : n ≤ c) (hn : n ≤ 4398046511104) (hb : ∀ x ∈ xs, 0 ≤ x ∧ x ≤ 255) (h1 : -9223372036854775808 ≤ most) (h2 : most ≤ 9223372036854775807) (hm : w.cell? ⟨mb, 0, none⟩ = some (.int .i64 most)) :
    Calls Tryd.prog 82 #[.slice A n c, .pointer (some ⟨mb, 0, none⟩)] w fun e w' =>
      ∃ v, e = Tells v (nxl xs most).2.1 (nxl xs most).2.2 ∧ Below w.heap.size w w' ∧ Mine w (nxl xs most).1 v w' := by
  have H := Lib.hid h
  have HB := Lib.hid hb
  have H1 := Lib.hid h1
  have H2 := Lib.hid h2
  have HL := Lib.hid h.len
  have HZ : Hid ((nxt xs most).2.2 = 0 → 0 < (nxt xs most).2.1 ∧ (nxt xs most).2.1 ≤ xs.length ∧ 0 ≤ (nxt xs most).1 ∧ (nxt xs most).1 ≤ 4611686018427387904) := nxt_ok hb
  clear h hb h1 h2
  obtain ⟨t, HT⟩ : ∃ t, Hid (nxt xs most = t) := ⟨_, rfl⟩
  rw [HT.out] at HZ
  obtain ⟨x, s, er⟩ := t
  have HX : Hid (nxl xs most = if er ≠ 0 then ([], 0, er) else if (xs.length : Int) - s < x then ([], 0, 10) else ((xs.drop s).take x.toNat, s + x.toNat, 0)) := by unfold Hid nxl; rw [HT.out]
  go_enter Tryd.func82, Tryd.ntmps82
  go_wp2_with fail
  refine (numb_any A n c B xs most w H.out HB.out H1.out H2.out).mono ?_
  rintro e1 w1 ⟨rfl, rfl⟩
  rw [HT.out]
  unfold Tells
  by_cases he : er = 0
  · subst he
    obtain ⟨z1, z2, z3, z4⟩ := HZ.out rfl
    have hl := HL.out
    obtain ⟨b, o, rfl⟩ := Row.some_of H.out (by omega)
    obtain ⟨m, rfl⟩ := Int.eq_ofNat_of_zero_le z3
    by_cases hx : (n : Int) - s < m
    · go_wp2
      go_ret3
      refine ⟨.slice none 0 0, ?_, Below.refl _ _, ?_⟩
      · rw [HX.out, hl, if_neg (by simp), if_pos hx]
        rfl
      · rw [HX.out, hl, if_neg (by simp), if_pos hx]
        exact World.ownsRow_nil _ _ _ _
    · have hsum : (s : Int) + m ≤ n := by omega
      have fin : ∀ (o' : Nat) (c' : Nat) (w1 : World) (v1 : Value), w1.ownsRow w.heap.size 5 1 v1 m ((((xs.drop s).take m)).map (Value.int .u8)) → Below w.heap.size w w1 →
          ∃ v, Ending.returned (.tuple #[v1, .int .i64 ((s : Int) + m), .int .i64 0]) = Tells v (nxl xs most).2.1 (nxl xs most).2.2 ∧ Below w.heap.size w w1 ∧ Mine w (nxl xs most).1 v w1 := by
        intro _ _ w1 v1 hown hbel
        have e : nxl xs most = ((xs.drop s).take m, s + m, 0) := by rw [HX.out, hl, if_neg (by simp), if_neg hx]; simp
        rw [e]
        refine ⟨v1, rfl, hbel, ?_⟩
        unfold Mine
        have : ((xs.drop s).take m).length = m := by simp; omega
        rw [this]
        exact hown
      have FIN := Lib.hid fin
      have hr : ∀ o', (n - s ≠ 0 → o' = o + s) → Row .u8 w B (some ⟨b, o', none⟩) m ((xs.drop s).take m) := fun o' ho => Row.take_ (Row.drop H.out ho) (by omega)
      have HRR := Lib.hid hr
      have hw1 : IntKind.i64.wrap ((s : Int) + m) = (s : Int) + m := IntWalk.i64_in _ ⟨by omega, by omega⟩
      have hm64 : m ≤ 4398046511104 := by omega
      clear fin hr
      by_cases hcs : c = s
      · go_wp2_with fail
        refine (clone_any _ m _ B _ w (HRR.out o (fun h => by omega)) hB (fun h => by cases h) hm64).mono ?_
        rintro e2 w2 ⟨v2, rfl, hown2, hb2⟩
        have HO2 := Lib.hid hown2
        have HB2 := Lib.hid hb2
        clear hown2 hb2
        go_wp2
        go_ret3
        exact FIN.out 0 0 _ _ HO2.out HB2.out
      · go_wp2_with fail
        refine (clone_any _ m _ B _ w (HRR.out (o + s) (fun _ => rfl)) hB (fun h => by cases h) hm64).mono ?_
        rintro e2 w2 ⟨v2, rfl, hown2, hb2⟩
        have HO2 := Lib.hid hown2
        have HB2 := Lib.hid hb2
        clear hown2 hb2
        go_wp2
        go_ret3
        exact FIN.out 0 0 _ _ HO2.out HB2.out
  · have hne : ((er : Int) == 0) = false := beq_eq_false_iff_ne.2 (by omega)
    go_wp2
    go_ret3
    refine ⟨.slice none 0 0, ?_, Below.refl _ _, ?_⟩
    · rw [HX.out, if_pos he]; rfl
    · rw [HX.out, if_pos he]; exact World.ownsRow_nil _ _ _ _
end Go.Proofs.YtmkdbpdfonpfdaaDoor.Fld

/- Bytes, Done and Read of layer 3's Reader, as contracts. -/
namespace Go.Proofs.YtmkdbpdfonpfdaaDoor.Fld
open Go.RowKit Var

/-- The bytes that a step returns. -/
def vals (e : Nat) (t : List Int × Nat × Nat) : List Int := if e ≠ 0 ∨ t.2.2 ≠ 0 then [] else t.1

def StepsL (w : World) (g : Nat) (xs : List Int) (e : Nat) (t : List Int × Nat × Nat) (r : Ending) (w' : World) : Prop :=
  ∃ v, r = .returned v ∧ w'.ownsRow w.heap.size 5 1 v (vals e t).length ((vals e t).map (Value.int .u8)) ∧ Rdr w' g (after xs e t.2.1 t.2.2).1 (after xs e t.2.1 t.2.2).2 ∧ Only (fun k => k = g) w w'

set_option maxHeartbeats 800000 in
set_option maxRecDepth 100000 in
theorem bytesR (g e : Nat) (xs : List Int) (most : Int) (w : World) (h : Rdr w g xs e) (h1 : -9223372036854775808 ≤ most) (h2 : most ≤ 9223372036854775807) (hx : xs.length ≤ 4398046511104) :
    Calls Tryd.prog 65 #[.pointer (some ⟨g, 0, none⟩), .int .i64 most] w (StepsL w g xs e (nxl xs most)) := by
  have HR := Lib.hid h
  have H1 := Lib.hid h1
  have H2 := Lib.hid h2
  clear h h1 h2
  have hb2 : Hid (Below w.heap.size w (w.alloc (.cells #[.int .i64 most] 3))) := ((Below.refl _ _).alloc (Nat.le_refl _) _)
  have hcell : Hid ((w.alloc (.cells #[.int .i64 most] 3)).cell? ⟨w.heap.size, 0, none⟩ = some (.int .i64 most)) := cell_of_one (heap_alloc_new w _)
  have hmf : ∀ (fn : Fn) (first cap : Array Value) (w : World), (Instr.makeFunc fn first cap).run Tryd.prog w = .ok (.func fn first cap) w := fun _ _ _ _ => rfl
  have fin : Calls Tryd.prog 81 #[.pointer (some ⟨g, 0, none⟩), .func (.func 82) #[] #[.pointer (some ⟨w.heap.size, 0, none⟩)]] (w.alloc (.cells #[.int .i64 most] 3)) (StepsL w g xs e (nxl xs most)) := by
    obtain ⟨A, n, c, hrd, hrow, hnc, hnil⟩ := HR.out.ex
    have hlt : g < w.heap.size := HR.out.lt
    have hlen := hrow.len
    by_cases he : e = 0
    · subst he
      refine (next_bytes g n c A 82 (.pointer (some ⟨w.heap.size, 0, none⟩)) (Mine (w.alloc (.cells #[.int .i64 most] 3)) (nxl xs most).1) (nxl xs most).2.1 (nxl xs most).2.2 _ (hrd.below hb2.out) hnc (fun h => by have := nxl_ok (most := most) HR.out.byt h; omega) (fun h => Row.some_of hrow h) ent_bytes
        (how_bytes A n c g _ xs most _ (hrow.alloc (Nat.le_of_lt hlt) _) (by simp; omega) hnc (by omega) HR.out.byt H1.out H2.out hcell.out)).mono ?_
      rintro r w' ⟨v, w1, hv, hR⟩
      obtain ⟨a, b, c'⟩ := reads_ok hrd hrow hnc hnil HR.out.byt hb2.out hR
      by_cases her : (nxl xs most).2.2 = 0
      · refine ⟨v, by simpa [her] using a, ?_, b, c'⟩
        have hv' := hR.2.2.1.own hv (fun k hk hkg => by have := (hv.lt k hk).1; simp at this; omega)
        unfold vals
        rw [if_neg (by simp [her])]
        exact own_mono hv' (by simp)
      · refine ⟨.slice none 0 0, by simpa [her] using a, ?_, b, c'⟩
        unfold vals
        rw [if_pos (.inr her)]
        exact World.ownsRow_nil _ _ _ _
    · refine (next_bytes_bad g n c A e _ _ (hrd.below hb2.out) (by omega)).mono ?_
      rintro r w' ⟨rfl, rfl⟩
      have e1 : after xs e (nxl xs most).2.1 (nxl xs most).2.2 = (xs, e) := by unfold after; rw [if_pos he]
      refine ⟨.slice none 0 0, rfl, ?_, by rw [e1]; exact HR.out.below hb2.out, Only.of_below hb2.out⟩
      unfold vals
      rw [if_pos (.inl he)]
      exact World.ownsRow_nil _ _ _ _
  have FIN := Lib.hid fin
  clear fin hb2 hcell
  go_enter Tryd.func65, Tryd.ntmps65
  go_wp2_with fail
  refine FIN.out.mono ?_
  rintro r w' ⟨u, rfl, hst⟩
  have HST := Lib.hid hst
  clear hst
  go_wp2
  go_ret
  exact ⟨u, rfl, HST.out⟩

set_option maxHeartbeats 800000 in
set_option maxRecDepth 100000 in
theorem bytesR_nil (most : Int) (w : World) : Calls Tryd.prog 65 #[.pointer none, .int .i64 most] w fun r w' => r = .returned (.slice none 0 0) ∧ Below w.heap.size w w' := by
  have hmf : ∀ (fn : Fn) (first cap : Array Value) (w : World), (Instr.makeFunc fn first cap).run Tryd.prog w = .ok (.func fn first cap) w := fun _ _ _ _ => rfl
  go_enter Tryd.func65, Tryd.ntmps65
  go_wp2_with fail
  refine (next_bytes_nil _ _).mono ?_
  rintro r w' ⟨rfl, rfl⟩
  go_wp2
  go_ret
  exact ⟨rfl, ((Below.refl _ _).alloc (Nat.le_refl _) _)⟩

/-- What Done returns. -/
def done (xs : List Int) (e : Nat) : Nat := if e ≠ 0 then e else if xs.length = 0 then 0 else 13

set_option maxHeartbeats 800000 in
set_option maxRecDepth 100000 in
theorem doneR (g e : Nat) (xs : List Int) (w : World) (h : Rdr w g xs e) : Calls Tryd.prog 66 #[.pointer (some ⟨g, 0, none⟩)] w fun r w' => r = .returned (.int .i64 (done xs e : Int)) ∧ w = w' := by
  obtain ⟨A, n, c, hrd, hrow, _⟩ := h.ex
  have HRD := Lib.hid hrd
  have HL := Lib.hid hrow.len
  have d1 := hrd.c1
  clear h hrow hrd
  go_enter Tryd.func66, Tryd.ntmps66
  go_wp2_with fail
  refine (error_any g n c A e w HRD.out).mono ?_
  rintro r w' ⟨rfl, rfl⟩
  by_cases he : e = 0
  · subst he
    by_cases hn : n = 0
    · subst hn
      go_wp2
      go_ret
      exact ⟨ret_int (by unfold done; rw [HL.out]; simp), rfl⟩
    · have hne : ((n : Int) == 0) = false := beq_eq_false_iff_ne.2 (by omega)
      go_wp2
      go_ret
      exact ⟨ret_int (by unfold done; rw [HL.out]; simp [hn]), rfl⟩
  · have hne : ((e : Int) == 0) = false := beq_eq_false_iff_ne.2 (by omega)
    go_wp2
    go_ret
    exact ⟨ret_int (by unfold done; simp [he]), rfl⟩

set_option maxHeartbeats 800000 in
set_option maxRecDepth 100000 in
theorem doneR_nil (w : World) : Calls Tryd.prog 66 #[.pointer none] w fun r w' => r = .returned (.int .i64 1) ∧ w = w' := by
  go_enter Tryd.func66, Tryd.ntmps66
  go_wp2_with fail
  refine (error_nil w).mono ?_
  rintro r w' ⟨rfl, rfl⟩
  go_wp2
  go_ret
  exact ⟨rfl, rfl⟩

end Go.Proofs.YtmkdbpdfonpfdaaDoor.Fld

/- The reference's reader of layer 3: Byte, Bytes, Done, Read, as contracts. -/
namespace Go.Proofs.YtmkdbpdfonpfdaaDoor.Fld
open Go.RowKit Var

theorem drop_at {bs : List Int} {k : Nat} (h : k < bs.length) : bs.drop k = bs.getD k 0 :: bs.drop (k + 1) := by
  rw [List.drop_eq_getElem_cons h]
  simp [List.getD, h]

/-- A world that is another one but for its draws. -/
structure Like (w w' : World) : Prop where
  heap : w'.heap = w.heap
  os : w'.os = w.os
  tape : w'.tape = w.tape
  output : w'.output = w.output
theorem Like.only {M : Nat → Prop} {w w1 w' : World} (h : Like w1 w') (ho : Only M w w1) : Only M w w' :=
  ⟨h.os.trans ho.os, h.tape.trans ho.tape, h.output.trans ho.output, by rw [h.heap]; exact ho.size, fun k hk hn => by rw [h.heap]; exact ho.block k hk hn⟩
theorem Like.rf {w w' : World} {g n c at_ e : Nat} {A : Option Addr} (h : Like w w') (hr : Rf w g A n c at_ e) : Rf w' g A n c at_ e := ⟨by rw [h.heap]; exact hr.blk⟩

section
variable {w w' : World} {g N n c at_ s er : Nat} {A : Option Addr} {bs : List Int} {k : IntKind} {t : Int × Nat × Nat} {x : Int}
theorem ref_like_err (h : Rfr w g N A n c bs at_ 0) (hl : Like (w.setCell ⟨g, 2, none⟩ (.int .i64 (er : Int))) w') (ht : t.2.2 = er) (he : er ≠ 0) : RefSteps w g N A n c bs at_ 0 k t (.returned (.int k 0)) w' := by
  have hO := hl.only (Only.setCell w ⟨g, 2, none⟩ (.int .i64 (er : Int)))
  exact refsteps_err (h.set hO (hl.rf (h.rf.set2 er)) h.le) ht he hO
theorem ref_like_ok (h : Rfr w g N A n c bs at_ 0) (hl : Like (w.setCell ⟨g, 1, none⟩ (.int .i64 ((at_ + s : Nat) : Int))) w') (ht : t = (x, s, 0)) (hs : at_ + s ≤ n) : RefSteps w g N A n c bs at_ 0 k t (.returned (.int k x)) w' := by
  have hO := hl.only (Only.setCell w ⟨g, 1, none⟩ (.int .i64 ((at_ + s : Nat) : Int)))
  exact refsteps_ok (h.set hO (hl.rf (h.rf.set1 (at_ + s))) hs) ht hO
end

set_option maxHeartbeats 1600000 in
set_option maxRecDepth 100000 in
theorem refdone_any (g N n c at_ e : Nat) (A : Option Addr) (bs : List Int) (w : World) (h : Rfr w g N A n c bs at_ e) :
    Calls Tryd.prog 44 #[.pointer (some ⟨g, 0, none⟩)] w fun r w' => r = .returned (.int .i64 (done (bs.drop at_) e : Int)) ∧ Like w w' := by
  have c0 := h.rf.c0
  have c1 := h.rf.c1
  have c2 := h.rf.c2
  have HL : Hid ((bs.drop at_).length = n - at_) := by unfold Hid; rw [List.length_drop, h.row.len]
  have hle := h.le
  clear h
  by_cases he : e = 0
  · subst he
    by_cases hlt : at_ < n
    · have hd : decide ((at_ : Int) < (n : Int)) = true := decide_eq_true (by omega)
      have HD : Hid (done (bs.drop at_) 0 = 13) := by have := HL.out; unfold Hid done; rw [if_neg (by simp), if_neg (by omega)]
      go_enter Tryd.func44, Tryd.ntmps44
      go_wp2
      go_quiet (fail)
      go_wp2
      go_ret
      exact ⟨ret_int (by rw [HD.out]; rfl), ⟨rfl, rfl, rfl, rfl⟩⟩
    · have hd : decide ((at_ : Int) < (n : Int)) = false := decide_eq_false (by omega)
      have HD : Hid (done (bs.drop at_) 0 = 0) := by have := HL.out; unfold Hid done; rw [if_neg (by simp), if_pos (by omega)]
      go_enter Tryd.func44, Tryd.ntmps44
      go_wp2
      go_quiet (fail)
      go_wp2
      go_ret
      exact ⟨ret_int (by rw [HD.out]; rfl), ⟨rfl, rfl, rfl, rfl⟩⟩
  · have hne : ((e : Int) == 0) = false := beq_eq_false_iff_ne.2 (by omega)
    have HD : Hid (done (bs.drop at_) e = e) := by unfold Hid done; rw [if_pos he]
    clear he
    go_enter Tryd.func44, Tryd.ntmps44
    go_wp2
    go_quiet (fail)
    go_wp2
    go_ret
    exact ⟨ret_int (by rw [HD.out]), ⟨rfl, rfl, rfl, rfl⟩⟩

end Go.Proofs.YtmkdbpdfonpfdaaDoor.Fld

/- The reference's reader of layer 3: Bytes, as a contract. -/
namespace Go.Proofs.YtmkdbpdfonpfdaaDoor.Fld
open Go.RowKit Var

def RefStepsL (w : World) (g N : Nat) (A : Option Addr) (n c : Nat) (bs : List Int) (at_ e : Nat) (t : List Int × Nat × Nat) (r : Ending) (w' : World) : Prop :=
  ∃ v, r = .returned v ∧ w'.ownsRow w.heap.size 5 1 v (vals e t).length ((vals e t).map (Value.int .u8)) ∧ (∃ at', Rfr w' g N A n c bs at' (after (bs.drop at_) e t.2.1 t.2.2).2 ∧ ((after (bs.drop at_) e t.2.1 t.2.2).2 = 0 → bs.drop at' = (after (bs.drop at_) e t.2.1 t.2.2).1)) ∧ Only (fun k => k = g) w w'

section
variable {w w1 w' : World} {g N n c at_ e at1 : Nat} {A : Option Addr} {bs : List Int} {t : List Int × Nat × Nat}
theorem reflist_none {e1 : Nat} (h : Rfr w1 g N A n c bs at1 e1) (he : e1 ≠ 0) (ht : (e ≠ 0 ∧ e1 = e) ∨ (e = 0 ∧ t.2.2 = e1)) (ho : Only (fun k => k = g) w w1) : RefStepsL w g N A n c bs at_ e t (.returned (.slice none 0 0)) w1 := by
  have e2 : after (bs.drop at_) e t.2.1 t.2.2 = (bs.drop at_, e1) := by
    unfold after
    rcases ht with ⟨h1, h2⟩ | ⟨h1, h2⟩
    · rw [if_pos h1, h2]
    · rw [if_neg (by omega), if_pos (by omega), h2]
  have e3 : vals e t = [] := by
    unfold vals
    rw [if_pos]
    rcases ht with ⟨h1, h2⟩ | ⟨h1, h2⟩
    · exact .inl h1
    · exact .inr (by omega)
  refine ⟨_, rfl, by rw [e3]; exact World.ownsRow_nil _ _ _ _, ?_, ho⟩
  rw [e2]
  exact ⟨at1, h, fun h0 => absurd h0 he⟩
end

theorem reflist_like {w w1 w' : World} {g N n c at_ at1 er : Nat} {A : Option Addr} {bs : List Int} {t : List Int × Nat × Nat} (h : Rfr w1 g N A n c bs at1 0) (ho : Only (fun k => k = g) w w1) (hl : Like (w1.setCell ⟨g, 2, none⟩ (.int .i64 (er : Int))) w') (ht : t.2.2 = er) (he : er ≠ 0) : RefStepsL w g N A n c bs at_ 0 t (.returned (.slice none 0 0)) w' := by
  have hO := hl.only (Only.setCell w1 ⟨g, 2, none⟩ (.int .i64 (er : Int)))
  exact reflist_none (h.set hO (hl.rf (h.rf.set2 er)) h.le) he (.inr ⟨rfl, ht⟩) (ho.trans hO (fun _ _ h => h))

theorem ref_after {w1 w3 w4 : World} {g N n c at1 m : Nat} {A : Option Addr} {bs : List Int} {v4 : Value} {zs : List Value} (h : Rfr w1 g N A n c bs at1 0) (hown : w4.ownsRow w1.heap.size 5 1 v4 m zs) (hb : Below w1.heap.size w3 w4) (hl : Like w1 w3 := by exact ⟨rfl, rfl, rfl, rfl⟩) :
    w4.cell? ⟨g, 0, none⟩ = some (.slice A n c) ∧ w4.cell? ⟨g, 1, none⟩ = some (.int .i64 (at1 : Int)) ∧ w4.frozen? ⟨g, 1, none⟩ = false ∧ w4.frozen? ⟨g, 2, none⟩ = false ∧ Hid (w4.ownsRow w1.heap.size 5 1 v4 m zs) ∧ Hid (Below w1.heap.size w1 w4) := by
  have hB : Below w1.heap.size w1 w4 := ⟨hb.os.trans hl.os, hb.tape.trans hl.tape, hb.output.trans hl.output, by have := hb.size; rw [hl.heap] at this; exact this, fun k hk => by rw [hb.block k hk, hl.heap]⟩
  have hr : Rf w4 g A n c at1 0 := ⟨(hB.block g h.lt).trans h.rf.blk⟩
  exact ⟨hr.c0, hr.c1, hr.f1, hr.f2, hown, hB⟩

theorem reflist_ok {w w1 w4 : World} {g N n c at_ s m p : Nat} {A : Option Addr} {bs ys : List Int} {t : List Int × Nat × Nat} {v4 : Value} (h : Rfr w1 g N A n c bs p 0) (ho : Only (fun k => k = g) w w1) (hb : Below w1.heap.size w1 w4) (hown : w4.ownsRow w1.heap.size 5 1 v4 m (ys.map (Value.int .u8)))
    (ht : t = (ys, s + m, 0)) (hp : at_ + s = p) (hl : ys.length = m) (hs : p + m ≤ n) (hi : ((p : Int) + m) = ((p + m : Nat) : Int)) : RefStepsL w g N A n c bs at_ 0 t (.returned v4) (w4.setCell ⟨g, 1, none⟩ (.int .i64 ((p : Int) + m))) := by
  subst ht
  rw [hi]
  have h4 : Rfr w4 g N A n c bs p 0 := h.only (M := fun _ => False) (Only.of_below hb) (fun h => h) (fun _ _ h => h)
  have hO : Only (fun k => k = g) w4 (w4.setCell ⟨g, 1, none⟩ (.int .i64 ((p + m : Nat) : Int))) := Only.setCell w4 ⟨g, 1, none⟩ _
  have hlt := h.lt
  refine ⟨v4, rfl, ?_, ⟨p + m, ?_, ?_⟩, ?_⟩
  · have : vals 0 ((ys, s + m, 0) : List Int × Nat × Nat) = ys := by simp [vals]
    rw [this, hl]
    exact own_mono (hO.own hown (fun k hk e => by have := (hown.lt k hk).1; omega)) ho.size
  · have : (after (bs.drop at_) 0 (s + m) 0).2 = 0 := by simp [after]
    show Rfr _ _ _ _ _ _ _ _ (after (bs.drop at_) 0 (s + m) 0).2
    rw [this]
    exact h4.set hO (h4.rf.set1 (p + m)) hs
  · intro _
    show bs.drop (p + m) = (after (bs.drop at_) 0 (s + m) 0).1
    simp [after, ← hp, Nat.add_assoc]
  · exact (ho.trans (Only.of_below hb : Only (fun k => k = g) w1 w4) (fun _ _ h => h)).trans hO (fun _ _ h => h)

set_option maxHeartbeats 1600000 in
set_option maxRecDepth 100000 in
theorem reflist_any (g N n c at_ e : Nat) (A : Option Addr) (bs : List Int) (most : Int) (w : World) (h : Rfr w g N A n c bs at_ e) (h1 : -9223372036854775808 ≤ most) (h2 : most ≤ 9223372036854775807) :
    Calls Tryd.prog 43 #[.pointer (some ⟨g, 0, none⟩), .int .i64 most] w (RefStepsL w g N A n c bs at_ e (nxl (bs.drop at_) most)) := by
  obtain ⟨i0, hi, hz0, hz1, hz2⟩ := info_parts info_u8
  have HR := Lib.hid h
  have H1 := Lib.hid h1
  have H2 := Lib.hid h2
  have hbyt : ∀ y ∈ bs.drop at_, 0 ≤ y ∧ y ≤ 255 := fun y hy => h.byt y (List.mem_of_mem_drop hy)
  have HK := Lib.hid (nxt_ok (most := most) hbyt)
  have HL : Hid ((bs.drop at_).length = n - at_) := by unfold Hid; rw [List.length_drop, h.row.len]
  clear h h1 h2 hbyt
  obtain ⟨t, HT⟩ : ∃ t, Hid (nxt (bs.drop at_) most = t) := ⟨_, rfl⟩
  obtain ⟨x, s, er⟩ := t
  have HX : Hid (nxl (bs.drop at_) most = if er ≠ 0 then ([], 0, er) else if ((bs.drop at_).length : Int) - s < x then ([], 0, 10) else (((bs.drop at_).drop s).take x.toNat, s + x.toNat, 0)) := by unfold Hid nxl; rw [HT.out]
  rw [HT.out] at HK
  go_enter Tryd.func43, Tryd.ntmps43
  go_wp2_with fail
  refine (refnum_any g N n c at_ e A bs most w HR.out H1.out H2.out).mono ?_
  rintro r w1 ⟨rfl, ⟨at1, hr1, hat1⟩, ho1⟩
  rw [HT.out] at hr1 hat1
  rw [HT.out]
  by_cases he : e = 0
  · subst he
    by_cases her : er = 0
    · subst her
      have e2 : after (bs.drop at_) 0 s 0 = ((bs.drop at_).drop s, 0) := by simp [after]
      have e3 : val 0 ((x, s, 0) : Int × Nat × Nat) = x := by simp [val]
      simp only [e2] at hr1 hat1
      rw [e3]
      obtain ⟨k1, k2, k3, k4⟩ := HK.out rfl
      have hl := HL.out
      have ha : at1 = at_ + s := by
        have l1 := congrArg List.length hat1
        have := hr1.le
        have hrl := hr1.row.len
        rw [List.drop_drop, List.length_drop, List.length_drop, hrl] at l1
        omega
      subst ha
      obtain ⟨m, rfl⟩ := Int.eq_ofNat_of_zero_le k3
      have HR1 := Lib.hid hr1
      have HO1 := Lib.hid ho1
      have d0 := hr1.rf.c0
      have d1 := hr1.rf.c1
      have d2 := hr1.rf.c2
      have g1 := hr1.rf.f1
      have g2 := hr1.rf.f2
      have hn := hr1.len
      have hle := hr1.le
      have hnc := hr1.nc
      clear hr1 hat1 ho1 e2 e3 k4
      by_cases hx : (n : Int) - (at_ + s : Nat) < m
      · have HX2 : Hid ((nxl (bs.drop at_) most).2.2 = 10) := by unfold Hid; rw [HX.out, if_neg (by simp), if_pos (by omega)]
        have hx' : decide ((n : Int) - ((at_ : Int) + s) < m) = true := decide_eq_true (by omega)
        have hx2 : decide ((n : Int) - ((at_ + s : Nat) : Int) < m) = true := decide_eq_true hx
        have hw : IntKind.i64.wrap ((n : Int) - ((at_ : Int) + s)) = (n : Int) - ((at_ : Int) + s) := IntWalk.i64_in _ ⟨by omega, by omega⟩
        go_wp2
        go_quiet (fail)
        go_wp2
        go_ret
        exact reflist_like (er := 10) HR1.out HO1.out ⟨rfl, rfl, rfl, rfl⟩ HX2.out (by decide)
      · have hsum : at_ + s + m ≤ n := by omega
        have HXF : Hid (nxl (bs.drop at_) most = ((bs.drop (at_ + s)).take m, s + m, 0)) := by unfold Hid; rw [HX.out, if_neg (by simp), if_neg (by omega), List.drop_drop]; simp
        obtain ⟨b, o, rfl⟩ := Row.some_of HR1.out.row (by omega)
        obtain ⟨p, hp⟩ : ∃ p, at_ + s = p := ⟨_, rfl⟩
        rw [hp] at HR1 d1 hle hsum hx HXF
        have HP := Lib.hid hp
        have hx2 : decide ((n : Int) - (p : Int) < m) = false := decide_eq_false hx
        have hw : IntKind.i64.wrap ((n : Int) - (p : Int)) = (n : Int) - (p : Int) := IntWalk.i64_in _ ⟨by omega, by omega⟩
        have hw2 : IntKind.i64.wrap ((p : Int) + m) = (p : Int) + m := IntWalk.i64_in _ ⟨by omega, by omega⟩
        clear hp
        by_cases hcp : c = p
        · have hz : n - p = 0 := by omega
          have HM0 : Hid (m = 0) := by unfold Hid; omega
          subst hcp
          clear hz
          have HPM : Hid (c + m - c = m) := by unfold Hid; omega
          have hg1 : (0 : Int) ≤ (c : Int) := by omega
          have hg2 : (0 : Int) ≤ (c : Int) + m := by omega
          have hg3 : (c : Int) + m ≤ (c : Int) := by omega
          have hg4 : (c : Int) ≤ (c : Int) + m := by omega
          have hg5 : c ≤ c + m := by omega
          have hg6 : c + m ≤ c := by omega
          have hg7 : ((c : Int) + m).toNat = c + m := by omega
          go_wp2
          go_quiet (fail)
          go_wp2
          have HL3 : Hid (Like w1 (w1.drewN nq)) := ⟨rfl, rfl, rfl, rfl⟩
          have u0 : (w1.drewN nq).cell? ⟨g, 0, none⟩ = some (.slice (some ⟨b, o, none⟩) n c) := d0
          have u1 : (w1.drewN nq).cell? ⟨g, 1, none⟩ = some (.int .i64 (c : Int)) := d1
          have HRow3 : Hid (Row .u8 (w1.drewN nq) N (some ⟨b, o, none⟩) 0 []) := Row.none_
          generalize w1.drewN nq = w3 at *
          go_still_tail 16, (by kernel_rfl)
          change wpList _ _ _ _ _ w3.drew
          go_wp2_with (at_builtin; refine cat_own rfl (.tmp 30) (.tmp 45) 29 rfl w1.heap.size 5 i0 .u8 1 Tryd.underlying29 hi hz0 hz1 hz2 _ 0 [] rfl (World.ownsRow_nil _ _ _ _) N _ 0 _ [] rfl (fun h => by cases h) HRow3.out.drew (by omega) (by omega) (by show w1.heap.size ≤ w3.heap.size; rw [HL3.out.heap]; exact Nat.le_refl _) ?_; intro v4 w4 hown4 hb4; obtain ⟨q0, q1, q2, q3, HO4, HB4⟩ := ref_after HR1.out hown4 hb4 ⟨HL3.out.heap, HL3.out.os, HL3.out.tape, HL3.out.output⟩; clear hown4 hb4)
          go_ret
          exact reflist_ok HR1.out HO1.out HB4.out (by have := HO4.out; simpa [HM0.out] using this) HXF.out HP.out (by rw [List.length_take, List.length_drop, HR1.out.row.len]; omega) hsum (by omega)
        · have HRow : Hid (Row .u8 w1 N (some ⟨b, o + p, none⟩) m ((bs.drop p).take m)) := Row.take_ (Row.drop HR1.out.row (fun _ => rfl)) (by omega)
          have HPM : Hid (p + m - p = m) := by unfold Hid; omega
          have hg1 : (0 : Int) ≤ (p : Int) := by omega
          have hg2 : (0 : Int) ≤ (p : Int) + m := by omega
          have hg3 : (p : Int) + m ≤ (c : Int) := by omega
          have hg4 : (p : Int) ≤ (p : Int) + m := by omega
          have hg5 : p ≤ p + m := by omega
          have hg6 : p + m ≤ c := by omega
          have hg7 : ((p : Int) + m).toNat = p + m := by omega
          go_wp2
          go_quiet (fail)
          go_wp2
          have HL3 : Hid (Like w1 (w1.drewN nq)) := ⟨rfl, rfl, rfl, rfl⟩
          have u0 : (w1.drewN nq).cell? ⟨g, 0, none⟩ = some (.slice (some ⟨b, o, none⟩) n c) := d0
          have u1 : (w1.drewN nq).cell? ⟨g, 1, none⟩ = some (.int .i64 (p : Int)) := d1
          have HRow3 : Hid (Row .u8 (w1.drewN nq) N (some ⟨b, o + p, none⟩) m ((bs.drop p).take m)) := HRow.out
          generalize w1.drewN nq = w3 at *
          go_still_tail 16, (by kernel_rfl)
          change wpList _ _ _ _ _ w3.drew
          go_wp2_with (at_builtin; refine cat_own rfl (.tmp 30) (.tmp 45) 29 rfl w1.heap.size 5 i0 .u8 1 Tryd.underlying29 hi hz0 hz1 hz2 _ 0 [] rfl (World.ownsRow_nil _ _ _ _) N _ m _ ((bs.drop p).take m) rfl (fun h => by cases h) HRow3.out.drew (by omega) (by omega) (by show w1.heap.size ≤ w3.heap.size; rw [HL3.out.heap]; exact Nat.le_refl _) ?_; intro v4 w4 hown4 hb4; obtain ⟨q0, q1, q2, q3, HO4, HB4⟩ := ref_after HR1.out hown4 hb4 ⟨HL3.out.heap, HL3.out.os, HL3.out.tape, HL3.out.output⟩; clear hown4 hb4)
          go_ret
          exact reflist_ok HR1.out HO1.out HB4.out (by have := HO4.out; simpa using this) HXF.out HP.out (by rw [List.length_take, List.length_drop, HR1.out.row.len]; omega) hsum (by omega)
    · have e2 : after (bs.drop at_) 0 s er = (bs.drop at_, er) := by simp [after, her]
      have e3 : val 0 ((x, s, er) : Int × Nat × Nat) = 0 := by simp [val, her]
      rw [e2] at hr1 hat1
      rw [e3]
      have hne : ((er : Int) == 0) = false := beq_eq_false_iff_ne.2 (by omega)
      have HX2 : Hid ((nxl (bs.drop at_) most).2.2 = er) := by unfold Hid; rw [HX.out, if_pos her]
      have HR1 := Lib.hid hr1
      have HO1 := Lib.hid ho1
      have d2 := hr1.rf.c2
      have HE := Lib.hid her
      clear hr1 hat1 ho1 e2 e3 her
      go_wp2
      go_ret
      exact reflist_none HR1.out HE.out (.inr ⟨rfl, HX2.out⟩) HO1.out
  · have e2 : after (bs.drop at_) e s er = (bs.drop at_, e) := by simp [after, he]
    have e3 : val e ((x, s, er) : Int × Nat × Nat) = 0 := by simp [val, he]
    rw [e2] at hr1 hat1
    rw [e3]
    have hne : ((e : Int) == 0) = false := beq_eq_false_iff_ne.2 (by omega)
    have HR1 := Lib.hid hr1
    have HO1 := Lib.hid ho1
    have d2 := hr1.rf.c2
    have HE := Lib.hid he
    clear hr1 hat1 ho1 e2 e3 he
    go_wp2
    go_ret
    exact reflist_none HR1.out HE.out (.inl ⟨HE.out, rfl⟩) HO1.out
end Go.Proofs.YtmkdbpdfonpfdaaDoor.Fld

/- What was written is read: plain words. -/
namespace Go.Proofs.YtmkdbpdfonpfdaaDoor.Fld
open Go.RowKit Var

theorem take_put0 {n : Nat} (h : n < 18446744073709551616) (rest : List Int) : take 0 0 (put n ++ rest) = (n, (put n).length, 0) := by
  have := take_put n 0 0 rest (by simpa using h) (by omega) (.inr rfl)
  simpa using this

theorem abv_self {n : Nat} {most : Int} (h : (n : Int) ≤ most) (h2 : n ≤ 4611686018427387904) : abv n most = false := by
  unfold abv
  simp only [Bool.or_eq_false_iff, decide_eq_false_iff_not]
  omega

theorem after_put (xs ys : List Int) : after (xs ++ ys) 0 xs.length 0 = (ys, 0) := by unfold after; simp
end Go.Proofs.YtmkdbpdfonpfdaaDoor.Fld

/- Layer 10 (token) as plain mathematics; no program's text is named here. -/
namespace Go.Proofs.YtmkdbpdfonpfdaaDoor.Tok
open Go.RowKit Var Fld Frm Sha Hmc Rg

/-- A token: trip, account, stop, begin, end, epoch. -/
structure T where
  tr : Int
  ac : Int
  st : Int
  is : Int
  un : Int
  ep : Int
deriving DecidableEq
def T.cells (t : T) : Array Value := #[.int .i64 t.tr, .int .i64 t.ac, .int .i64 t.st, .int .i64 t.is, .int .i64 t.un, .int .i64 t.ep]
def T.val (t : T) : Value := .agg t.cells
/-- Its numbers are numbers of 64 bits. -/
structure T.ok (t : T) : Prop where
  tr : -9223372036854775808 ≤ t.tr ∧ t.tr ≤ 9223372036854775807
  ac : -9223372036854775808 ≤ t.ac ∧ t.ac ≤ 9223372036854775807
  st : -9223372036854775808 ≤ t.st ∧ t.st ≤ 9223372036854775807
  is : -9223372036854775808 ≤ t.is ∧ t.is ≤ 9223372036854775807
  un : -9223372036854775808 ≤ t.un ∧ t.un ≤ 9223372036854775807
  ep : -9223372036854775808 ≤ t.ep ∧ t.ep ≤ 9223372036854775807
def T.may (t : T) : Prop := (1 ≤ t.tr ∧ t.tr ≤ 2147483648) ∧ (1 ≤ t.ac ∧ t.ac ≤ 2147483648) ∧ (0 ≤ t.st ∧ t.st ≤ 4095) ∧ (0 ≤ t.is ∧ t.is ≤ 1099511627776) ∧ (0 ≤ t.un ∧ t.un ≤ 1099511627776) ∧ t.is ≤ t.un ∧ (1 ≤ t.ep ∧ t.ep ≤ 1048576)
instance (t : T) : Decidable t.may := by unfold T.may; infer_instance
def T.zero : T := ⟨0, 0, 0, 0, 0, 0⟩
def T.at (t : T) (e : Int) : T := { t with ep := e }
/-- Its fields; its tag; its bytes. -/
def flds (t : T) : List Int := num t.tr ++ (num t.ac ++ (num t.st ++ (num t.is ++ (num t.un ++ num t.ep))))
def tokn : List Int := [116, 111, 107, 101, 110]
def tagT (k : List Int) (t : T) : List Int := mac k (tokn ++ 0 :: flds t)
def body (k : List Int) (t : T) : List Int := flds t ++ (num 32 ++ tagT k t)
/-- The last key's bytes. -/
def lastK (E : List Kl) : List Int := (E.getLast?.map (·.2)).getD []
open Classical in
noncomputable def issue (keep : Int) (E : List Kl) (t : T) : List Int × Int :=
  if RtP keep E ∧ (t.at (now E)).may then (frame 2 (body (lastK E) (t.at (now E))), 0) else ([], 2)
/-- One number read. -/
def rd1 (s : List Int × Nat) (most : Int) : List Int × Nat := after s.1 s.2 (nxt s.1 most).2.1 (nxt s.1 most).2.2
def rv1 (s : List Int × Nat) (most : Int) : Int := val s.2 (nxt s.1 most)
def s1 (c : List Int) : List Int × Nat := rd1 (c, 0) 2147483648
def s2 (c : List Int) : List Int × Nat := rd1 (s1 c) 2147483648
def s3 (c : List Int) : List Int × Nat := rd1 (s2 c) 4095
def s4 (c : List Int) : List Int × Nat := rd1 (s3 c) 1099511627776
def s5 (c : List Int) : List Int × Nat := rd1 (s4 c) 1099511627776
def s6 (c : List Int) : List Int × Nat := rd1 (s5 c) 1048576
def s7 (c : List Int) : List Int × Nat := after (s6 c).1 (s6 c).2 (nxl (s6 c).1 32).2.1 (nxl (s6 c).1 32).2.2
def tokOf (c : List Int) : T := ⟨rv1 (c, 0) 2147483648, rv1 (s1 c) 2147483648, rv1 (s2 c) 4095, rv1 (s3 c) 1099511627776, rv1 (s4 c) 1099511627776, rv1 (s5 c) 1048576⟩
def tagOf (c : List Int) : List Int := vals (s6 c).2 (nxl (s6 c).1 32)
def opnF (er dn : Nat) (t : T) (tg : List Int) : T × List Int × Nat :=
  if er ≠ 0 then (T.zero, [], er)
  else if dn ≠ 0 then (T.zero, [], dn)
  else if t.may ∧ tg.length = 32 then (t, tg, 0)
  else (T.zero, [], 2)
def opn (b : List Int) : T × List Int × Nat := opnF (wholly 2 b).2 (done (s7 (wholly 2 b).1).1 (s7 (wholly 2 b).1).2) (tokOf (wholly 2 b).1) (tagOf (wholly 2 b).1)
def verify (E : List Kl) (b : List Int) (nw : Int) : T × Nat :=
  if (opn b).2.2 ≠ 0 then (T.zero, (opn b).2.2)
  else match fnd E (opn b).1.ep with
    | none => (T.zero, 20)
    | some k => if tagT k (opn b).1 ≠ (opn b).2.1 then (T.zero, 21) else if nw < (opn b).1.is ∨ (opn b).1.un < nw then (T.zero, 22) else ((opn b).1, 0)

theorem num_byt (k : Int) : ∀ x ∈ num k, 0 ≤ x ∧ x ≤ 255 := put_byt _
theorem flds_byt (t : T) : ∀ x ∈ flds t, 0 ≤ x ∧ x ≤ 255 := by
  intro x hx
  simp only [flds, List.mem_append] at hx
  rcases hx with h | h | h | h | h | h <;> exact num_byt _ x h
theorem flds_len {t : T} (h : t.ok) : (flds t).length ≤ 60 := by
  have a := num_len h.tr.2
  have b := num_len h.ac.2
  have c := num_len h.st.2
  have d := num_len h.is.2
  have e := num_len h.un.2
  have f := num_len h.ep.2
  simp only [flds, List.length_append]
  omega
theorem T.may.ok {t : T} (h : t.may) : t.ok := by
  unfold T.may at h
  exact ⟨by omega, by omega, by omega, by omega, by omega, by omega⟩
theorem tagT_len (k : List Int) (t : T) : (tagT k t).length = 32 := mac_len _ _
theorem tagT_byt (k : List Int) (t : T) : ∀ x ∈ tagT k t, 0 ≤ x ∧ x ≤ 255 := sum256_byt _
theorem body_byt (k : List Int) (t : T) : ∀ x ∈ body k t, 0 ≤ x ∧ x ≤ 255 := by
  intro x hx
  simp only [body, List.mem_append] at hx
  rcases hx with h | h | h
  · exact flds_byt t x h
  · exact num_byt _ x h
  · exact tagT_byt k t x h
theorem body_len {k : List Int} {t : T} (h : t.ok) : (body k t).length ≤ 102 := by
  have a := flds_len h
  have b : (num 32).length ≤ 10 := num_len (by omega)
  have c := tagT_len k t
  simp only [body, List.length_append]
  omega
/-- A number that was written is read. -/
theorem rd1_num {k most : Int} {ys : List Int} (h0 : 0 ≤ k) (h1 : k ≤ most) (h2 : k ≤ 4611686018427387904) : rd1 (num k ++ ys, 0) most = (ys, 0) ∧ rv1 (num k ++ ys, 0) most = k := by
  have e : take 0 0 (num k ++ ys) = (k.toNat, (num k).length, 0) := take_put0 (by omega) ys
  have ha : abv k.toNat most = false := by unfold abv; simp; omega
  have en : nxt (num k ++ ys) most = (k, (num k).length, 0) := by
    unfold nxt
    rw [e]
    simp only [ne_eq, not_true_eq_false, if_false, ha, Bool.false_eq_true]
    rw [show ((k.toNat : Nat) : Int) = k by omega]
  unfold rd1 rv1
  simp only [en]
  refine ⟨?_, rfl⟩
  unfold after
  simp
/-- What was issued is opened. -/
theorem opn_body {k : List Int} {t : T} (h : t.may) : opn (frame 2 (body k t)) = (t, tagT k t, 0) := by
  have hb := body_len (k := k) h.ok
  have hw : wholly 2 (frame 2 (body k t)) = (body k t, 0) := wholly_frame (by omega)
  obtain ⟨tr, ac, st, is, un, ep⟩ := t
  have hm := h
  unfold T.may at hm
  simp only at hm
  obtain ⟨h1, h2, h3, h4, h5, -, h6⟩ := hm
  obtain ⟨G, hG⟩ : ∃ G, tagT k ⟨tr, ac, st, is, un, ep⟩ = G := ⟨_, rfl⟩
  have hGl : G.length = 32 := by rw [← hG]; exact tagT_len _ _
  have eb : body k ⟨tr, ac, st, is, un, ep⟩ = num tr ++ (num ac ++ (num st ++ (num is ++ (num un ++ (num ep ++ (num 32 ++ G)))))) := by
    unfold body flds
    rw [hG]
    simp only [List.append_assoc]
  rw [eb] at hw
  obtain ⟨a1, b1⟩ := rd1_num (k := tr) (most := 2147483648) (ys := num ac ++ (num st ++ (num is ++ (num un ++ (num ep ++ (num 32 ++ G)))))) (by omega) (by omega) (by omega)
  obtain ⟨a2, b2⟩ := rd1_num (k := ac) (most := 2147483648) (ys := num st ++ (num is ++ (num un ++ (num ep ++ (num 32 ++ G))))) (by omega) (by omega) (by omega)
  obtain ⟨a3, b3⟩ := rd1_num (k := st) (most := 4095) (ys := num is ++ (num un ++ (num ep ++ (num 32 ++ G)))) (by omega) (by omega) (by omega)
  obtain ⟨a4, b4⟩ := rd1_num (k := is) (most := 1099511627776) (ys := num un ++ (num ep ++ (num 32 ++ G))) (by omega) (by omega) (by omega)
  obtain ⟨a5, b5⟩ := rd1_num (k := un) (most := 1099511627776) (ys := num ep ++ (num 32 ++ G)) (by omega) (by omega) (by omega)
  obtain ⟨a6, b6⟩ := rd1_num (k := ep) (most := 1048576) (ys := num 32 ++ G) (by omega) (by omega) (by omega)
  obtain ⟨C, hC⟩ : ∃ C, num tr ++ (num ac ++ (num st ++ (num is ++ (num un ++ (num ep ++ (num 32 ++ G)))))) = C := ⟨_, rfl⟩
  rw [hC] at a1 b1 hw eb
  have e1 : s1 C = (num ac ++ (num st ++ (num is ++ (num un ++ (num ep ++ (num 32 ++ G))))), 0) := a1
  have e2 : s2 C = (num st ++ (num is ++ (num un ++ (num ep ++ (num 32 ++ G)))), 0) := by unfold s2; rw [e1]; exact a2
  have e3 : s3 C = (num is ++ (num un ++ (num ep ++ (num 32 ++ G))), 0) := by unfold s3; rw [e2]; exact a3
  have e4 : s4 C = (num un ++ (num ep ++ (num 32 ++ G)), 0) := by unfold s4; rw [e3]; exact a4
  have e5 : s5 C = (num ep ++ (num 32 ++ G), 0) := by unfold s5; rw [e4]; exact a5
  have e6 : s6 C = (num 32 ++ G, 0) := by unfold s6; rw [e5]; exact a6
  have et : tokOf C = ⟨tr, ac, st, is, un, ep⟩ := by unfold tokOf; rw [e1, e2, e3, e4, e5, b1, b2, b3, b4, b5, b6]
  have en : nxt (num 32 ++ G) 32 = (32, (num 32).length, 0) := by
    have e : take 0 0 (num 32 ++ G) = (32, (num 32).length, 0) := take_put0 (n := 32) (by omega) G
    unfold nxt
    rw [e]
    rfl
  have el : nxl (num 32 ++ G) 32 = (G, (num 32).length + 32, 0) := by
    unfold nxl
    simp only [en, ne_eq, not_true_eq_false, if_false]
    rw [if_neg (by simp; omega)]
    rw [List.drop_left' rfl]
    simp only [Prod.mk.injEq, and_true]
    exact ⟨List.take_of_length_le (by show G.length ≤ 32; omega), rfl⟩
  have e7 : s7 C = ([], 0) := by
    unfold s7
    rw [e6]
    simp only [el, after, ne_eq, not_true_eq_false, if_false]
    rw [List.drop_of_length_le (by simp; omega)]
  have eg : tagOf C = G := by unfold tagOf; rw [e6]; simp [vals, el]
  rw [eb]
  unfold opn opnF
  rw [hw]
  simp only [ne_eq, not_true_eq_false, if_false]
  rw [e7, et, eg]
  simp only [done, ne_eq, not_true_eq_false, if_false, List.length_nil, if_true]
  rw [if_pos ⟨h, hGl⟩, hG]
end Go.Proofs.YtmkdbpdfonpfdaaDoor.Tok

/- Layer 7 (sha): the reference's Sum: a block's bytes as words. -/
namespace Go.Proofs.YtmkdbpdfonpfdaaDoor.Sha
open Go.RowKit

attribute [local go_sem] wi_xor wi_and wi_or wi_add wi_shr3 wi_shr10 wi_com

/-- The first region of a piece of code; the body of the loop whose first region is r. -/
def firstReg : Code → Option Nat
  | .region i _ _ => some i
  | .seq a _ => firstReg a
  | .block _ c => firstReg c
  | .loop c => firstReg c
  | .scope c => firstReg c
  | _ => none
def loopAt (r : Nat) : Code → Option Code
  | .loop c => match firstReg c with
    | some k => if k = r then some c else loopAt r c
    | none => loopAt r c
  | .seq a b => match loopAt r a with
    | some c => some c
    | none => loopAt r b
  | .block _ c => loopAt r c
  | .scope c => loopAt r c
  | .cond _ a b => match loopAt r a with
    | some c => some c
    | none => loopAt r b
  | _ => none
set_option maxHeartbeats 6400000 in
set_option maxRecDepth 1000000 in
theorem loop_words {Q0 : Exit → Act → World → Prop} {s0 s1 s2 s3 s4 s9 s10 s11 s12 s13 s14 s15 s16 s17 s18 s19 s20 s21 s22 s23 s24 s25 s26 s27 s28 s29 s30 s31 s32 s33 s34 s35 s36 s37 s38 s39 s40 s41 s42 s43 s44 s45 s46 s47 s48 s49 s50 s51 s52 s53 s54 s55 s56 s57 s58 s59 s60 s61 s62 s63 s64 s65 s66 s67 s68 s69 s70 s71 s72 s73 s74 s75 s76 s77 s78 s79 s80 s81 s82 s83 s84 s85 s86 s87 s88 s89 s90 s91 s92 s93 s94 s95 s96 s97 s98 s99 s100 s101 s102 s103 s104 s105 s106 s107 s108 s109 s110 s111 s112 s113 s114 s115 s116 s117 s118 s119 s120 s121 s122 s123 s124 s125 s126 s127 s128 s129 s130 s131 s132 s133 s134 s135 s136 s137 s138 s139 s140 s141 s142 s143 s144 s145 s146 s147 s148 s149 s150 s151 s152 s153 s154 s155 s156 s157 s158 s159 s160 s161 s162 s163 s164 s165 s166 s167 s168 s169 s170 s171 s172 s173 s174 s175 s176 s177 s178 s179 s180 s181 s182 s183 s184 s185 s186 s187 s188 s189 s190 s191 s192 s193 s194 s195 s196 s197 s198 s199 s200 s201 s202 s203 s204 s205 s206 s207 s208 s209 s210 s211 s212 s213 s214 s215 s216 s217 s218 s219 s220 s221 s222 s223 s224 s225 s226 s227 s228 s229 s230 s231 s232 s233 s234 s235 s236 s237 s238 s239 s240 s241 s242 s243 s244 s245 s246 s247 s248 s249 s250 s251 s252 s253 s254 s255 s256 s257 s258 s259 s260 s261 s262 s263 s264 s265 s266 s267 s268 s269 s270 s271 s272 s273 s274 s275 s276 s277 s278 s279 s280 s281 s282 s283 s284 s285 s286 s287 s288 s289 s290 s291 s292 : Value} {w3 w : World} {p : List Int} {h : List Wd} {Ah : Option Addr} {B0 P m b3 o3 c3 : Nat}
    (HA : Hid (Row .u8 w3 w3.heap.size (some ⟨b3, o3, none⟩) P p)) (HPB : Hid (∀ x ∈ p, 0 ≤ x ∧ x ≤ 255)) (h64 : 64 * m + 64 ≤ P) (hPb : P ≤ 1099511627900) (HX : Hid (Blk w3 B0 Ah h (.slice none 0 0) 0 (words p (64 * m) 0) w))
    (HEX : Hid (∀ (x7 x8 x9 x10 x35 x36 x37 x38 x39 x40 x41 x42 x43 x44 x45 x46 x47 x48 x49 x50 x51 x52 x53 x54 x55 x56 x57 x58 x59 : Value) (wq : World), Hid (Blk w3 B0 Ah h x7 16 (words p (64 * m) 16) wq) → Q0 (.exit 2) ⟨List.toArray (s0 :: s1 :: s2 :: s3 :: s4 :: .slice (some ⟨b3, o3, none⟩) P c3 :: .int .i64 (64 * (m : Int)) :: x7 :: x8 :: x9 :: x10 :: s11 :: s12 :: s13 :: s14 :: s15 :: s16 :: s17 :: s18 :: s19 :: s20 :: s21 :: s22 :: s23 :: s24 :: s25 :: s26 :: s27 :: s28 :: s29 :: s30 :: s31 :: s32 :: s33 :: s34 :: x35 :: x36 :: x37 :: x38 :: x39 :: x40 :: x41 :: x42 :: x43 :: x44 :: x45 :: x46 :: x47 :: x48 :: x49 :: x50 :: x51 :: x52 :: x53 :: x54 :: x55 :: x56 :: x57 :: x58 :: x59 :: s60 :: s61 :: s62 :: s63 :: s64 :: s65 :: s66 :: s67 :: s68 :: s69 :: s70 :: s71 :: s72 :: s73 :: s74 :: s75 :: s76 :: s77 :: s78 :: s79 :: s80 :: s81 :: s82 :: s83 :: s84 :: s85 :: s86 :: s87 :: s88 :: s89 :: s90 :: s91 :: s92 :: s93 :: s94 :: s95 :: s96 :: s97 :: s98 :: s99 :: s100 :: s101 :: s102 :: s103 :: s104 :: s105 :: s106 :: s107 :: s108 :: s109 :: s110 :: s111 :: s112 :: s113 :: s114 :: s115 :: s116 :: s117 :: s118 :: s119 :: s120 :: s121 :: s122 :: s123 :: s124 :: s125 :: s126 :: s127 :: s128 :: s129 :: s130 :: s131 :: s132 :: s133 :: s134 :: s135 :: s136 :: s137 :: s138 :: s139 :: s140 :: s141 :: s142 :: s143 :: s144 :: s145 :: s146 :: s147 :: s148 :: s149 :: s150 :: s151 :: s152 :: s153 :: s154 :: s155 :: s156 :: s157 :: s158 :: s159 :: s160 :: s161 :: s162 :: s163 :: s164 :: s165 :: s166 :: s167 :: s168 :: s169 :: s170 :: s171 :: s172 :: s173 :: s174 :: s175 :: s176 :: s177 :: s178 :: s179 :: s180 :: s181 :: s182 :: s183 :: s184 :: s185 :: s186 :: s187 :: s188 :: s189 :: s190 :: s191 :: s192 :: s193 :: s194 :: s195 :: s196 :: s197 :: s198 :: s199 :: s200 :: s201 :: s202 :: s203 :: s204 :: s205 :: s206 :: s207 :: s208 :: s209 :: s210 :: s211 :: s212 :: s213 :: s214 :: s215 :: s216 :: s217 :: s218 :: s219 :: s220 :: s221 :: s222 :: s223 :: s224 :: s225 :: s226 :: s227 :: s228 :: s229 :: s230 :: s231 :: s232 :: s233 :: s234 :: s235 :: s236 :: s237 :: s238 :: s239 :: s240 :: s241 :: s242 :: s243 :: s244 :: s245 :: s246 :: s247 :: s248 :: s249 :: s250 :: s251 :: s252 :: s253 :: s254 :: s255 :: s256 :: s257 :: s258 :: s259 :: s260 :: s261 :: s262 :: s263 :: s264 :: s265 :: s266 :: s267 :: s268 :: s269 :: s270 :: s271 :: s272 :: s273 :: s274 :: s275 :: s276 :: s277 :: s278 :: s279 :: s280 :: s281 :: s282 :: s283 :: s284 :: s285 :: s286 :: s287 :: s288 :: s289 :: s290 :: s291 :: s292 :: []), []⟩ wq)) :
    Code.wp Tryd.prog (Code.loop ((Tryd.f90.body.bind (loopAt 9)).getD .skip)) Q0 ⟨List.toArray (s0 :: s1 :: s2 :: s3 :: s4 :: .slice (some ⟨b3, o3, none⟩) P c3 :: .int .i64 (64 * (m : Int)) :: .slice none 0 0 :: .int .i64 0 :: s9 :: s10 :: s11 :: s12 :: s13 :: s14 :: s15 :: s16 :: s17 :: s18 :: s19 :: s20 :: s21 :: s22 :: s23 :: s24 :: s25 :: s26 :: s27 :: s28 :: s29 :: s30 :: s31 :: s32 :: s33 :: s34 :: s35 :: s36 :: s37 :: s38 :: s39 :: s40 :: s41 :: s42 :: s43 :: s44 :: s45 :: s46 :: s47 :: s48 :: s49 :: s50 :: s51 :: s52 :: s53 :: s54 :: s55 :: s56 :: s57 :: s58 :: s59 :: s60 :: s61 :: s62 :: s63 :: s64 :: s65 :: s66 :: s67 :: s68 :: s69 :: s70 :: s71 :: s72 :: s73 :: s74 :: s75 :: s76 :: s77 :: s78 :: s79 :: s80 :: s81 :: s82 :: s83 :: s84 :: s85 :: s86 :: s87 :: s88 :: s89 :: s90 :: s91 :: s92 :: s93 :: s94 :: s95 :: s96 :: s97 :: s98 :: s99 :: s100 :: s101 :: s102 :: s103 :: s104 :: s105 :: s106 :: s107 :: s108 :: s109 :: s110 :: s111 :: s112 :: s113 :: s114 :: s115 :: s116 :: s117 :: s118 :: s119 :: s120 :: s121 :: s122 :: s123 :: s124 :: s125 :: s126 :: s127 :: s128 :: s129 :: s130 :: s131 :: s132 :: s133 :: s134 :: s135 :: s136 :: s137 :: s138 :: s139 :: s140 :: s141 :: s142 :: s143 :: s144 :: s145 :: s146 :: s147 :: s148 :: s149 :: s150 :: s151 :: s152 :: s153 :: s154 :: s155 :: s156 :: s157 :: s158 :: s159 :: s160 :: s161 :: s162 :: s163 :: s164 :: s165 :: s166 :: s167 :: s168 :: s169 :: s170 :: s171 :: s172 :: s173 :: s174 :: s175 :: s176 :: s177 :: s178 :: s179 :: s180 :: s181 :: s182 :: s183 :: s184 :: s185 :: s186 :: s187 :: s188 :: s189 :: s190 :: s191 :: s192 :: s193 :: s194 :: s195 :: s196 :: s197 :: s198 :: s199 :: s200 :: s201 :: s202 :: s203 :: s204 :: s205 :: s206 :: s207 :: s208 :: s209 :: s210 :: s211 :: s212 :: s213 :: s214 :: s215 :: s216 :: s217 :: s218 :: s219 :: s220 :: s221 :: s222 :: s223 :: s224 :: s225 :: s226 :: s227 :: s228 :: s229 :: s230 :: s231 :: s232 :: s233 :: s234 :: s235 :: s236 :: s237 :: s238 :: s239 :: s240 :: s241 :: s242 :: s243 :: s244 :: s245 :: s246 :: s247 :: s248 :: s249 :: s250 :: s251 :: s252 :: s253 :: s254 :: s255 :: s256 :: s257 :: s258 :: s259 :: s260 :: s261 :: s262 :: s263 :: s264 :: s265 :: s266 :: s267 :: s268 :: s269 :: s270 :: s271 :: s272 :: s273 :: s274 :: s275 :: s276 :: s277 :: s278 :: s279 :: s280 :: s281 :: s282 :: s283 :: s284 :: s285 :: s286 :: s287 :: s288 :: s289 :: s290 :: s291 :: s292 :: []), []⟩ w := by
  conv => arg 2; arg 1; whnf
  obtain ⟨j0, ji, jz0, jz1, jz2⟩ := parts_of info32
  go_loopw [7, 8] (fun v i wq => ∃ t : Nat, t ≤ 16 ∧ i = .int .i64 (t : Int) ∧ Hid (Blk w3 B0 Ah h v t (words p (64 * m) t) wq)) (fun _ i _ => 16 - (intOf i).toNat)
  case atStart => exact ⟨0, Nat.zero_le _, rfl, HX⟩
  case round =>
    obtain ⟨t, ht, rfl, HW⟩ := hrel
    by_cases ht16 : t < 16
    · go_wp2_with fail
      go_loopw [9, 10] (fun x d wz => ∃ e : Nat, e ≤ 4 ∧ d = .int .i64 (e : Int) ∧ x = .int .u32 (four p (64 * m + 4 * t) e : Int) ∧ Hid (Blk w3 B0 Ah h u7 t (words p (64 * m) t) wz)) (fun _ d _ => 4 - (intOf d).toNat)
      case atStart => exact ⟨0, Nat.zero_le _, rfl, rfl, HW⟩
      case round =>
        obtain ⟨e, he, rfl, rfl, HW⟩ := hrel
        by_cases he4 : e < 4
        · have hf := four_lt HPB.out (64 * m + 4 * t) e
          have hf2 : 256 ^ e ≤ 256 ^ 3 := Nat.pow_le_pow_right (by omega) (by omega)
          have hjP : 64 * m + 4 * t + e < P := by omega
          obtain ⟨_, _, e1, -, hcell⟩ := (HA.out.below HW.out.bel).cell_at hjP
          injection e1 with e1
          injection e1 with e1 e2
          subst e1 e2
          obtain ⟨y, hy, hyb⟩ := byte_at HPB.out (64 * m + 4 * t + e)
          rw [hy] at hcell
          have hnx : four p (64 * m + 4 * t) (e + 1) = four p (64 * m + 4 * t) e * 256 + y := by simp only [four]; rw [hy]; rfl
          obtain ⟨X, hX⟩ : ∃ X, four p (64 * m + 4 * t) e = X := ⟨_, rfl⟩
          rw [hX] at hf hnx ⊢
          have HNX := Lib.hid hnx
          have hXb : X ≤ 16777215 := by omega
          have i1 : (0 : Int) ≤ 64 * (m : Int) + 4 * (t : Int) + (e : Int) := by omega
          have i2 : 64 * (m : Int) + 4 * (t : Int) + (e : Int) < (P : Int) := by omega
          have i3 : (64 * (m : Int) + 4 * (t : Int) + (e : Int)).toNat = 64 * m + 4 * t + e := by omega
          clear hf hf2 hjP hy hnx hX
          go_wp2_with fail
          go_roundw
          case rel => exact ⟨e + 1, by omega, by go_num, congrArg (Value.int .u32) (by rw [HNX.out]; omega), HW⟩
          case measure => simp [intOf]; omega
        · have he4' : e = 4 := by omega
          subst he4'
          have hf := four_lt HPB.out (64 * m + 4 * t) 4
          have hwd : words p (64 * m) (t + 1) = words p (64 * m) t ++ [BitVec.ofNat 32 (four p (64 * m + 4 * t) 4)] := rfl
          have hwi : (four p (64 * m + 4 * t) 4 : Int) = wi (BitVec.ofNat 32 (four p (64 * m + 4 * t) 4)) := wi_of _ (by omega)
          rw [hwi]
          generalize BitVec.ofNat 32 (four p (64 * m + 4 * t) 4) = a at hwd
          have HWD := Lib.hid hwd
          have hown : wr.ownsRow B0 87 1 u7 t (((words p (64 * m) t).map wi).map (Value.int .u32)) := HW.out.own
          have HOW := Lib.hid hown
          have hsz := HW.out.sz
          clear hf hwd hwi hown
          go_wp2_with (at_builtin; refine push_own rfl (.tmp 56) (.tmp 58) 131 rfl B0 87 j0 .u32 4 Tryd.underlying131 ji jz0 jz1 jz2 _ t ((words p (64 * m) t).map wi) (wi a) rfl HOW.out rfl (by omega) (by omega) hsz ?_; intro v4 w4 hown4 hb4; have HW4 := Lib.hid (Blk.push HW.out hown4 hb4); clear hown4 hb4)
          go_roundw
          case rel => exact ⟨t + 1, by omega, by go_num, by rw [HWD.out]; exact HW4⟩
          case measure => simp [intOf]; omega
    · obtain rfl : t = 16 := by omega
      go_wp2_with fail
      exact HEX.out _ _ _ _ _ _ _ _ _ _ _ _ _ _ _ _ _ _ _ _ _ _ _ _ _ _ _ _ _ _ HW
end Go.Proofs.YtmkdbpdfonpfdaaDoor.Sha

/- Layer 7 (sha): the reference's Sum: its schedule. -/
namespace Go.Proofs.YtmkdbpdfonpfdaaDoor.Sha
open Go.RowKit

attribute [local go_sem] wi_xor wi_and wi_or wi_add wi_shr3 wi_shr10 wi_com

set_option maxHeartbeats 6400000 in
set_option maxRecDepth 1000000 in
theorem loop_sched {Q0 : Exit → Act → World → Prop} {s0 s1 s2 s3 s4 s5 s6 s8 s9 s10 s12 s13 s14 s15 s16 s17 s18 s19 s20 s21 s22 s23 s24 s25 s26 s27 s28 s29 s30 s31 s32 s33 s34 s35 s36 s37 s38 s39 s40 s41 s42 s43 s44 s45 s46 s47 s48 s49 s50 s51 s52 s53 s54 s55 s56 s57 s58 s59 s60 s61 s62 s63 s64 s65 s66 s67 s68 s69 s70 s71 s72 s73 s74 s75 s76 s77 s78 s79 s80 s81 s82 s83 s84 s85 s86 s87 s88 s89 s90 s91 s92 s93 s94 s95 s96 s97 s98 s99 s100 s101 s102 s103 s104 s105 s106 s107 s108 s109 s110 s111 s112 s113 s114 s115 s116 s117 s118 s119 s120 s121 s122 s123 s124 s125 s126 s127 s128 s129 s130 s131 s132 s133 s134 s135 s136 s137 s138 s139 s140 s141 s142 s143 s144 s145 s146 s147 s148 s149 s150 s151 s152 s153 s154 s155 s156 s157 s158 s159 s160 s161 s162 s163 s164 s165 s166 s167 s168 s169 s170 s171 s172 s173 s174 s175 s176 s177 s178 s179 s180 s181 s182 s183 s184 s185 s186 s187 s188 s189 s190 s191 s192 s193 s194 s195 s196 s197 s198 s199 s200 s201 s202 s203 s204 s205 s206 s207 s208 s209 s210 s211 s212 s213 s214 s215 s216 s217 s218 s219 s220 s221 s222 s223 s224 s225 s226 s227 s228 s229 s230 s231 s232 s233 s234 s235 s236 s237 s238 s239 s240 s241 s242 s243 s244 s245 s246 s247 s248 s249 s250 s251 s252 s253 s254 s255 s256 s257 s258 s259 s260 s261 s262 s263 s264 s265 s266 s267 s268 s269 s270 s271 s272 s273 s274 s275 s276 s277 s278 s279 s280 s281 s282 s283 s284 s285 s286 s287 s288 s289 s290 s291 s292 : Value} {v7 : Value} {w3 w : World} {h W0 : List Wd} {Ah : Option Addr} {B0 : Nat}
    (HW0 : Hid (W0.length = 16)) (HX : Hid (Blk w3 B0 Ah h v7 16 (sched (16 - 16) W0) w))
    (HEX : Hid (∀ (x7 x11 x12 x13 x60 x61 x62 x63 x64 x65 x66 x67 x68 x69 x70 x71 x72 x73 x74 x75 x76 x77 x78 x79 x80 x81 x82 x83 x84 x85 x86 x87 x88 x89 x90 x91 x92 x93 x94 x95 x96 x97 x98 x99 x100 x101 x102 x103 x104 x105 x106 x107 x108 x109 x110 x111 x112 x113 x114 x115 x116 x117 x118 x119 x120 x121 : Value) (wq : World), Hid (Blk w3 B0 Ah h x7 64 (sched 48 W0) wq) → Q0 (.exit 6) ⟨List.toArray (s0 :: s1 :: s2 :: s3 :: s4 :: s5 :: s6 :: x7 :: s8 :: s9 :: s10 :: x11 :: x12 :: x13 :: s14 :: s15 :: s16 :: s17 :: s18 :: s19 :: s20 :: s21 :: s22 :: s23 :: s24 :: s25 :: s26 :: s27 :: s28 :: s29 :: s30 :: s31 :: s32 :: s33 :: s34 :: s35 :: s36 :: s37 :: s38 :: s39 :: s40 :: s41 :: s42 :: s43 :: s44 :: s45 :: s46 :: s47 :: s48 :: s49 :: s50 :: s51 :: s52 :: s53 :: s54 :: s55 :: s56 :: s57 :: s58 :: s59 :: x60 :: x61 :: x62 :: x63 :: x64 :: x65 :: x66 :: x67 :: x68 :: x69 :: x70 :: x71 :: x72 :: x73 :: x74 :: x75 :: x76 :: x77 :: x78 :: x79 :: x80 :: x81 :: x82 :: x83 :: x84 :: x85 :: x86 :: x87 :: x88 :: x89 :: x90 :: x91 :: x92 :: x93 :: x94 :: x95 :: x96 :: x97 :: x98 :: x99 :: x100 :: x101 :: x102 :: x103 :: x104 :: x105 :: x106 :: x107 :: x108 :: x109 :: x110 :: x111 :: x112 :: x113 :: x114 :: x115 :: x116 :: x117 :: x118 :: x119 :: x120 :: x121 :: s122 :: s123 :: s124 :: s125 :: s126 :: s127 :: s128 :: s129 :: s130 :: s131 :: s132 :: s133 :: s134 :: s135 :: s136 :: s137 :: s138 :: s139 :: s140 :: s141 :: s142 :: s143 :: s144 :: s145 :: s146 :: s147 :: s148 :: s149 :: s150 :: s151 :: s152 :: s153 :: s154 :: s155 :: s156 :: s157 :: s158 :: s159 :: s160 :: s161 :: s162 :: s163 :: s164 :: s165 :: s166 :: s167 :: s168 :: s169 :: s170 :: s171 :: s172 :: s173 :: s174 :: s175 :: s176 :: s177 :: s178 :: s179 :: s180 :: s181 :: s182 :: s183 :: s184 :: s185 :: s186 :: s187 :: s188 :: s189 :: s190 :: s191 :: s192 :: s193 :: s194 :: s195 :: s196 :: s197 :: s198 :: s199 :: s200 :: s201 :: s202 :: s203 :: s204 :: s205 :: s206 :: s207 :: s208 :: s209 :: s210 :: s211 :: s212 :: s213 :: s214 :: s215 :: s216 :: s217 :: s218 :: s219 :: s220 :: s221 :: s222 :: s223 :: s224 :: s225 :: s226 :: s227 :: s228 :: s229 :: s230 :: s231 :: s232 :: s233 :: s234 :: s235 :: s236 :: s237 :: s238 :: s239 :: s240 :: s241 :: s242 :: s243 :: s244 :: s245 :: s246 :: s247 :: s248 :: s249 :: s250 :: s251 :: s252 :: s253 :: s254 :: s255 :: s256 :: s257 :: s258 :: s259 :: s260 :: s261 :: s262 :: s263 :: s264 :: s265 :: s266 :: s267 :: s268 :: s269 :: s270 :: s271 :: s272 :: s273 :: s274 :: s275 :: s276 :: s277 :: s278 :: s279 :: s280 :: s281 :: s282 :: s283 :: s284 :: s285 :: s286 :: s287 :: s288 :: s289 :: s290 :: s291 :: s292 :: []), []⟩ wq)) :
    Code.wp Tryd.prog (Code.loop ((Tryd.f90.body.bind (loopAt 18)).getD .skip)) Q0 ⟨List.toArray (s0 :: s1 :: s2 :: s3 :: s4 :: s5 :: s6 :: v7 :: s8 :: s9 :: s10 :: .int .i64 16 :: s12 :: s13 :: s14 :: s15 :: s16 :: s17 :: s18 :: s19 :: s20 :: s21 :: s22 :: s23 :: s24 :: s25 :: s26 :: s27 :: s28 :: s29 :: s30 :: s31 :: s32 :: s33 :: s34 :: s35 :: s36 :: s37 :: s38 :: s39 :: s40 :: s41 :: s42 :: s43 :: s44 :: s45 :: s46 :: s47 :: s48 :: s49 :: s50 :: s51 :: s52 :: s53 :: s54 :: s55 :: s56 :: s57 :: s58 :: s59 :: s60 :: s61 :: s62 :: s63 :: s64 :: s65 :: s66 :: s67 :: s68 :: s69 :: s70 :: s71 :: s72 :: s73 :: s74 :: s75 :: s76 :: s77 :: s78 :: s79 :: s80 :: s81 :: s82 :: s83 :: s84 :: s85 :: s86 :: s87 :: s88 :: s89 :: s90 :: s91 :: s92 :: s93 :: s94 :: s95 :: s96 :: s97 :: s98 :: s99 :: s100 :: s101 :: s102 :: s103 :: s104 :: s105 :: s106 :: s107 :: s108 :: s109 :: s110 :: s111 :: s112 :: s113 :: s114 :: s115 :: s116 :: s117 :: s118 :: s119 :: s120 :: s121 :: s122 :: s123 :: s124 :: s125 :: s126 :: s127 :: s128 :: s129 :: s130 :: s131 :: s132 :: s133 :: s134 :: s135 :: s136 :: s137 :: s138 :: s139 :: s140 :: s141 :: s142 :: s143 :: s144 :: s145 :: s146 :: s147 :: s148 :: s149 :: s150 :: s151 :: s152 :: s153 :: s154 :: s155 :: s156 :: s157 :: s158 :: s159 :: s160 :: s161 :: s162 :: s163 :: s164 :: s165 :: s166 :: s167 :: s168 :: s169 :: s170 :: s171 :: s172 :: s173 :: s174 :: s175 :: s176 :: s177 :: s178 :: s179 :: s180 :: s181 :: s182 :: s183 :: s184 :: s185 :: s186 :: s187 :: s188 :: s189 :: s190 :: s191 :: s192 :: s193 :: s194 :: s195 :: s196 :: s197 :: s198 :: s199 :: s200 :: s201 :: s202 :: s203 :: s204 :: s205 :: s206 :: s207 :: s208 :: s209 :: s210 :: s211 :: s212 :: s213 :: s214 :: s215 :: s216 :: s217 :: s218 :: s219 :: s220 :: s221 :: s222 :: s223 :: s224 :: s225 :: s226 :: s227 :: s228 :: s229 :: s230 :: s231 :: s232 :: s233 :: s234 :: s235 :: s236 :: s237 :: s238 :: s239 :: s240 :: s241 :: s242 :: s243 :: s244 :: s245 :: s246 :: s247 :: s248 :: s249 :: s250 :: s251 :: s252 :: s253 :: s254 :: s255 :: s256 :: s257 :: s258 :: s259 :: s260 :: s261 :: s262 :: s263 :: s264 :: s265 :: s266 :: s267 :: s268 :: s269 :: s270 :: s271 :: s272 :: s273 :: s274 :: s275 :: s276 :: s277 :: s278 :: s279 :: s280 :: s281 :: s282 :: s283 :: s284 :: s285 :: s286 :: s287 :: s288 :: s289 :: s290 :: s291 :: s292 :: []), []⟩ w := by
  conv => arg 2; arg 1; whnf
  obtain ⟨j0, ji, jz0, jz1, jz2⟩ := parts_of info32
  go_loopw [7, 11] (fun v i wq => ∃ T : Nat, 16 ≤ T ∧ T ≤ 64 ∧ i = .int .i64 (T : Int) ∧ Hid (Blk w3 B0 Ah h v T (sched (T - 16) W0) wq)) (fun _ i _ => 64 - (intOf i).toNat)
  case atStart => exact ⟨16, by omega, by omega, rfl, HX⟩
  case round =>
    obtain ⟨T, hT, hT64, rfl, HW⟩ := hrel
    by_cases ht48 : T < 64
    · have hsl : (sched (T - 16) W0).length = T := by rw [sched_len, HW0.out]; omega
      have hsn : sched (T + 1 - 16) W0 = sched (T - 16) W0 ++ [more (sched (T - 16) W0)] := by rw [show T + 1 - 16 = T - 16 + 1 by omega]; rfl
      have hmo : more (sched (T - 16) W0) = wat (sched (T - 16) W0) (T - 16) + sg0 (wat (sched (T - 16) W0) (T - 15)) + wat (sched (T - 16) W0) (T - 7) + sg1 (wat (sched (T - 16) W0) (T - 2)) := by unfold more; rw [hsl]
      generalize sched (T - 16) W0 = l at HW hsl hsn hmo
      obtain ⟨g7, c7, rfl, hb7, hc7⟩ := HW.out.read (by omega)
      have N16 := Lib.hid (wv_at (l := l) (j := T - 16) (by omega))
      have N7 := Lib.hid (wv_at (l := l) (j := T - 7) (by omega))
      have k15 := hc7 (T - 15) (by omega)
      have k2 := hc7 (T - 2) (by omega)
      have k16 := hc7 (T - 16) (by omega)
      have k7 := hc7 (T - 7) (by omega)
      obtain ⟨a15, ha15⟩ : ∃ a, wat l (T - 15) = a := ⟨_, rfl⟩
      obtain ⟨a2, ha2⟩ : ∃ a, wat l (T - 2) = a := ⟨_, rfl⟩
      obtain ⟨a16, ha16⟩ : ∃ a, wat l (T - 16) = a := ⟨_, rfl⟩
      obtain ⟨a7, ha7⟩ : ∃ a, wat l (T - 7) = a := ⟨_, rfl⟩
      rw [ha15] at k15 hmo
      rw [ha2] at k2 hmo
      rw [ha16] at k16 hmo N16
      rw [ha7] at k7 hmo N7
      have HMO := Lib.hid hmo
      have HSN := Lib.hid hsn
      have w15 : IntKind.i64.wrap ((T : Int) - 15) = (T : Int) - 15 := IntWalk.i64_in _ ⟨by omega, by omega⟩
      have w2 : IntKind.i64.wrap ((T : Int) - 2) = (T : Int) - 2 := IntWalk.i64_in _ ⟨by omega, by omega⟩
      have w16 : IntKind.i64.wrap ((T : Int) - 16) = (T : Int) - 16 := IntWalk.i64_in _ ⟨by omega, by omega⟩
      have w7 : IntKind.i64.wrap ((T : Int) - 7) = (T : Int) - 7 := IntWalk.i64_in _ ⟨by omega, by omega⟩
      have p15 : (0 : Int) ≤ (T : Int) - 15 := by omega
      have p2 : (0 : Int) ≤ (T : Int) - 2 := by omega
      have p16 : (0 : Int) ≤ (T : Int) - 16 := by omega
      have p7 : (0 : Int) ≤ (T : Int) - 7 := by omega
      have r15 : (T : Int) - 15 < T := by omega
      have r2 : (T : Int) - 2 < T := by omega
      have r16 : (T : Int) - 16 < T := by omega
      have r7 : (T : Int) - 7 < T := by omega
      have s15 : (15 : Int) ≤ (T : Int) := by omega
      have s2 : (2 : Int) ≤ (T : Int) := by omega
      have s16 : (16 : Int) ≤ (T : Int) := by omega
      have s7 : (7 : Int) ≤ (T : Int) := by omega
      have q15 : ((T : Int) - 15).toNat = T - 15 := by omega
      have q2 : ((T : Int) - 2).toNat = T - 2 := by omega
      have q16 : ((T : Int) - 16).toNat = T - 16 := by omega
      have q7 : ((T : Int) - 7).toNat = T - 7 := by omega
      clear ha15 ha2 ha16 ha7 hmo hsn hsl hc7
      go_wp2_with fail
      have E0 : Hid (rot a15 7 ^^^ rot a15 18 ^^^ a15 >>> 3 = sg0 a15) := rfl
      have E1 : Hid (rot a2 17 ^^^ rot a2 19 ^^^ a2 >>> 10 = sg1 a2) := rfl
      go_quiet ((go_at_call 98; exact Calls.quiet_of (turned_z _ _ (by decide) (by decide) _)))
      rw [E0.out]
      have HW1 : Hid (Blk w3 B0 Ah h (.slice (some ⟨g7, 0, none⟩) T c7) T l (wr.drewN nq)) := HW.out.drew
      have k2' : (wr.drewN nq).cell? ⟨g7, T - 2, none⟩ = some (.int .u32 (wi a2)) := k2
      have k16' : (wr.drewN nq).cell? ⟨g7, T - 16, none⟩ = some (.int .u32 (wi a16)) := k16
      have k7' : (wr.drewN nq).cell? ⟨g7, T - 7, none⟩ = some (.int .u32 (wi a7)) := k7
      clear k2 k16 k7 k15 HW
      generalize wr.drewN nq = wx at HW1 k2' k16' k7' ⊢
      go_wp2_with fail
      go_quiet ((go_at_call 98; exact Calls.quiet_of (turned_z _ _ (by decide) (by decide) _)))
      rw [E1.out]
      have HW2 : Hid (Blk w3 B0 Ah h (.slice (some ⟨g7, 0, none⟩) T c7) T l (wx.drewN nq)) := HW1.out.drew
      have k16 : (wx.drewN nq).cell? ⟨g7, T - 16, none⟩ = some (.int .u32 (wi a16)) := k16'
      have k7 : (wx.drewN nq).cell? ⟨g7, T - 7, none⟩ = some (.int .u32 (wi a7)) := k7'
      clear k2' k16' k7' HW1
      generalize wx.drewN nq = wy at HW2 k16 k7 ⊢
      go_wp2_with fail
      have HG7 : Hid (g7 < wy.heap.size) := by have := HW2.out.own.lt g7 rfl; exact this.2
      have KA : ∀ o, (wy.drew.alloc o).cell? ⟨g7, T - 16, none⟩ = some (.int .u32 (wi a16)) ∧ (wy.drew.alloc o).cell? ⟨g7, T - 7, none⟩ = some (.int .u32 (wi a7)) := fun o => ⟨(((Below.refl _ wy).drew.alloc (Nat.le_refl _) o).cell (p := ⟨g7, T - 16, none⟩) HG7.out).trans k16, (((Below.refl _ wy).drew.alloc (Nat.le_refl _) o).cell (p := ⟨g7, T - 7, none⟩) HG7.out).trans k7⟩
      have kd16 : wy.drew.cell? ⟨g7, T - 16, none⟩ = some (.int .u32 (wi a16)) := k16
      have kd7 : wy.drew.cell? ⟨g7, T - 7, none⟩ = some (.int .u32 (wi a7)) := k7
      have HW3 : Hid (Blk w3 B0 Ah h (.slice (some ⟨g7, 0, none⟩) T c7) T l wy.drew) := HW2.out.drew (q := 1)
      have hown : wy.drew.ownsRow B0 87 1 (.slice (some ⟨g7, 0, none⟩) T c7) T ((l.map wi).map (Value.int .u32)) := HW3.out.own
      have HOW := Lib.hid hown
      have hsz := HW3.out.sz
      clear hown k16 k7
      go_region_held3 (fun wx => wx.cell? ⟨g7, T - 16, none⟩ = some (.int .u32 (wi a16)) ∧ wx.cell? ⟨g7, T - 7, none⟩ = some (.int .u32 (wi a7))) (first | exact ⟨m16, m7⟩ | exact ⟨kd16, kd7⟩ | exact KA _) (first
        | (refine step_push rfl (.tmp 104) (.tmp 120) 131 rfl B0 j0 4 Tryd.underlying131 ji jz0 jz1 jz2 _ T (l.map wi) rfl HOW.out rfl (by omega) (by omega) hsz ?_; intro v4 w4 hown4 hb4 _ hkeep; have m16 := hkeep g7 T c7 rfl (T - 16) _ N16.out; have m7 := hkeep g7 T c7 rfl (T - 7) _ N7.out; have HOW4 := Lib.hid hown4; have HB4 := Lib.hid hb4; clear hown4 hb4 hkeep))
      have HW4 := Lib.hid (Blk.push HW3.out HOW4.out HB4.out)
      go_wp2
      go_roundw
      case rel => exact ⟨T + 1, by omega, by omega, by go_num, by rw [HSN.out, HMO.out]; exact HW4⟩
      case measure => simp [intOf]; omega
    · obtain rfl : T = 64 := by omega
      go_wp2_with fail
      exact HEX.out _ _ _ _ _ _ _ _ _ _ _ _ _ _ _ _ _ _ _ _ _ _ _ _ _ _ _ _ _ _ _ _ _ _ _ _ _ _ _ _ _ _ _ _ _ _ _ _ _ _ _ _ _ _ _ _ _ _ _ _ _ _ _ _ _ _ _ HW
end Go.Proofs.YtmkdbpdfonpfdaaDoor.Sha

/- Layer 7 (sha): the reference's Sum: its rounds. -/
namespace Go.Proofs.YtmkdbpdfonpfdaaDoor.Sha
open Go.RowKit

attribute [local go_sem] wi_xor wi_and wi_or wi_add wi_shr3 wi_shr10 wi_com

set_option maxHeartbeats 6400000 in
set_option maxRecDepth 1000000 in
theorem loop_rounds {Q0 : Exit → Act → World → Prop} {s0 s1 s2 s4 s5 s6 s8 s9 s10 s11 s12 s13 s16 s17 s18 s19 s20 s21 s22 s23 s24 s25 s26 s27 s28 s29 s30 s31 s32 s33 s34 s35 s36 s37 s38 s39 s40 s41 s42 s43 s44 s45 s46 s47 s48 s49 s50 s51 s52 s53 s54 s55 s56 s57 s58 s59 s60 s61 s62 s63 s64 s65 s66 s67 s68 s69 s70 s71 s72 s73 s74 s75 s76 s77 s78 s79 s80 s81 s82 s83 s84 s85 s86 s87 s88 s89 s90 s91 s92 s93 s94 s95 s96 s97 s98 s99 s100 s101 s102 s103 s104 s105 s106 s107 s108 s109 s110 s111 s112 s113 s114 s115 s116 s117 s118 s119 s120 s121 s122 s123 s124 s125 s126 s127 s128 s129 s130 s131 s132 s133 s134 s135 s136 s137 s138 s139 s140 s141 s142 s143 s144 s145 s146 s147 s148 s149 s150 s151 s152 s153 s154 s155 s156 s157 s158 s159 s160 s161 s162 s163 s164 s165 s166 s167 s168 s169 s170 s171 s172 s173 s174 s175 s176 s177 s178 s179 s180 s181 s182 s183 s184 s185 s186 s187 s188 s189 s190 s191 s192 s193 s194 s195 s196 s197 s198 s199 s200 s201 s202 s203 s204 s205 s206 s207 s208 s209 s210 s211 s212 s213 s214 s215 s216 s217 s218 s219 s220 s221 s222 s223 s224 s225 s226 s227 s228 s229 s230 s231 s232 s233 s234 s235 s236 s237 s238 s239 s240 s241 s242 s243 s244 s245 s246 s247 s248 s249 s250 s251 s252 s253 s254 s255 s256 s257 s258 s259 s260 s261 s262 s263 s264 s265 s266 s267 s268 s269 s270 s271 s272 s273 s274 s275 s276 s277 s278 s279 s280 s281 s282 s283 s284 s285 s286 s287 s288 s289 s290 s291 s292 : Value} {v7 : Value} {w3 w : World} {h ws : List Wd} {Ah : Option Addr} {B0 b1 o1 c1 g4 c4 : Nat}
    (HK : Hid (WRow w3 w3.heap.size (some ⟨b1, o1, none⟩) 64 ks)) (HV4 : Hid (WRow w w.heap.size (some ⟨g4, 0, none⟩) 8 (rounds ks ws h 0))) (HS4 : Hid (Blk w3 B0 Ah h v7 64 ws w))
    (HEX : Hid (∀ (x14 x15 x16 x17 x18 x19 x20 x125 x126 x127 x128 x129 x130 x131 x132 x133 x134 x135 x136 x137 x138 x139 x140 x141 x142 x143 x144 x145 x146 x147 x148 x149 x150 x151 x152 x153 x154 x155 x156 x157 x158 x159 x160 x161 x162 x163 x164 x165 x166 x167 x168 x169 x170 x171 x172 x173 x174 x175 x176 x177 x178 x179 x180 x181 x182 x183 x184 x185 x186 x187 x188 x189 x190 x191 x192 x193 x194 x195 x196 x197 x198 x199 x200 x201 x202 x203 x204 x205 x206 x207 x208 x209 x210 x211 x212 x213 x214 x215 x216 x217 x218 x219 x220 x221 x222 x223 x224 x225 x226 x227 x228 x229 x230 x231 x232 x233 x234 x235 x236 x237 x238 x239 x240 x241 : Value) (wq : World), (∃ bv ov cv : Nat, x14 = .slice (some ⟨bv, ov, none⟩) 8 cv ∧ Hid (WRow wq wq.heap.size (some ⟨bv, ov, none⟩) 8 (rounds ks ws h 64)) ∧ Hid (Blk w3 B0 Ah h v7 64 ws wq)) → Q0 (.exit 8) ⟨List.toArray (s0 :: s1 :: s2 :: .slice (some ⟨b1, o1, none⟩) 64 c1 :: s4 :: s5 :: s6 :: v7 :: s8 :: s9 :: s10 :: s11 :: s12 :: s13 :: x14 :: x15 :: x16 :: x17 :: x18 :: x19 :: x20 :: s21 :: s22 :: s23 :: s24 :: s25 :: s26 :: s27 :: s28 :: s29 :: s30 :: s31 :: s32 :: s33 :: s34 :: s35 :: s36 :: s37 :: s38 :: s39 :: s40 :: s41 :: s42 :: s43 :: s44 :: s45 :: s46 :: s47 :: s48 :: s49 :: s50 :: s51 :: s52 :: s53 :: s54 :: s55 :: s56 :: s57 :: s58 :: s59 :: s60 :: s61 :: s62 :: s63 :: s64 :: s65 :: s66 :: s67 :: s68 :: s69 :: s70 :: s71 :: s72 :: s73 :: s74 :: s75 :: s76 :: s77 :: s78 :: s79 :: s80 :: s81 :: s82 :: s83 :: s84 :: s85 :: s86 :: s87 :: s88 :: s89 :: s90 :: s91 :: s92 :: s93 :: s94 :: s95 :: s96 :: s97 :: s98 :: s99 :: s100 :: s101 :: s102 :: s103 :: s104 :: s105 :: s106 :: s107 :: s108 :: s109 :: s110 :: s111 :: s112 :: s113 :: s114 :: s115 :: s116 :: s117 :: s118 :: s119 :: s120 :: s121 :: s122 :: s123 :: s124 :: x125 :: x126 :: x127 :: x128 :: x129 :: x130 :: x131 :: x132 :: x133 :: x134 :: x135 :: x136 :: x137 :: x138 :: x139 :: x140 :: x141 :: x142 :: x143 :: x144 :: x145 :: x146 :: x147 :: x148 :: x149 :: x150 :: x151 :: x152 :: x153 :: x154 :: x155 :: x156 :: x157 :: x158 :: x159 :: x160 :: x161 :: x162 :: x163 :: x164 :: x165 :: x166 :: x167 :: x168 :: x169 :: x170 :: x171 :: x172 :: x173 :: x174 :: x175 :: x176 :: x177 :: x178 :: x179 :: x180 :: x181 :: x182 :: x183 :: x184 :: x185 :: x186 :: x187 :: x188 :: x189 :: x190 :: x191 :: x192 :: x193 :: x194 :: x195 :: x196 :: x197 :: x198 :: x199 :: x200 :: x201 :: x202 :: x203 :: x204 :: x205 :: x206 :: x207 :: x208 :: x209 :: x210 :: x211 :: x212 :: x213 :: x214 :: x215 :: x216 :: x217 :: x218 :: x219 :: x220 :: x221 :: x222 :: x223 :: x224 :: x225 :: x226 :: x227 :: x228 :: x229 :: x230 :: x231 :: x232 :: x233 :: x234 :: x235 :: x236 :: x237 :: x238 :: x239 :: x240 :: x241 :: s242 :: s243 :: s244 :: s245 :: s246 :: s247 :: s248 :: s249 :: s250 :: s251 :: s252 :: s253 :: s254 :: s255 :: s256 :: s257 :: s258 :: s259 :: s260 :: s261 :: s262 :: s263 :: s264 :: s265 :: s266 :: s267 :: s268 :: s269 :: s270 :: s271 :: s272 :: s273 :: s274 :: s275 :: s276 :: s277 :: s278 :: s279 :: s280 :: s281 :: s282 :: s283 :: s284 :: s285 :: s286 :: s287 :: s288 :: s289 :: s290 :: s291 :: s292 :: []), []⟩ wq)) :
    Code.wp Tryd.prog (Code.loop ((Tryd.f90.body.bind (loopAt 26)).getD .skip)) Q0 ⟨List.toArray (s0 :: s1 :: s2 :: .slice (some ⟨b1, o1, none⟩) 64 c1 :: s4 :: s5 :: s6 :: v7 :: s8 :: s9 :: s10 :: s11 :: s12 :: s13 :: .slice (some ⟨g4, 0, none⟩) 8 c4 :: .int .i64 0 :: s16 :: s17 :: s18 :: s19 :: s20 :: s21 :: s22 :: s23 :: s24 :: s25 :: s26 :: s27 :: s28 :: s29 :: s30 :: s31 :: s32 :: s33 :: s34 :: s35 :: s36 :: s37 :: s38 :: s39 :: s40 :: s41 :: s42 :: s43 :: s44 :: s45 :: s46 :: s47 :: s48 :: s49 :: s50 :: s51 :: s52 :: s53 :: s54 :: s55 :: s56 :: s57 :: s58 :: s59 :: s60 :: s61 :: s62 :: s63 :: s64 :: s65 :: s66 :: s67 :: s68 :: s69 :: s70 :: s71 :: s72 :: s73 :: s74 :: s75 :: s76 :: s77 :: s78 :: s79 :: s80 :: s81 :: s82 :: s83 :: s84 :: s85 :: s86 :: s87 :: s88 :: s89 :: s90 :: s91 :: s92 :: s93 :: s94 :: s95 :: s96 :: s97 :: s98 :: s99 :: s100 :: s101 :: s102 :: s103 :: s104 :: s105 :: s106 :: s107 :: s108 :: s109 :: s110 :: s111 :: s112 :: s113 :: s114 :: s115 :: s116 :: s117 :: s118 :: s119 :: s120 :: s121 :: s122 :: s123 :: s124 :: s125 :: s126 :: s127 :: s128 :: s129 :: s130 :: s131 :: s132 :: s133 :: s134 :: s135 :: s136 :: s137 :: s138 :: s139 :: s140 :: s141 :: s142 :: s143 :: s144 :: s145 :: s146 :: s147 :: s148 :: s149 :: s150 :: s151 :: s152 :: s153 :: s154 :: s155 :: s156 :: s157 :: s158 :: s159 :: s160 :: s161 :: s162 :: s163 :: s164 :: s165 :: s166 :: s167 :: s168 :: s169 :: s170 :: s171 :: s172 :: s173 :: s174 :: s175 :: s176 :: s177 :: s178 :: s179 :: s180 :: s181 :: s182 :: s183 :: s184 :: s185 :: s186 :: s187 :: s188 :: s189 :: s190 :: s191 :: s192 :: s193 :: s194 :: s195 :: s196 :: s197 :: s198 :: s199 :: s200 :: s201 :: s202 :: s203 :: s204 :: s205 :: s206 :: s207 :: s208 :: s209 :: s210 :: s211 :: s212 :: s213 :: s214 :: s215 :: s216 :: s217 :: s218 :: s219 :: s220 :: s221 :: s222 :: s223 :: s224 :: s225 :: s226 :: s227 :: s228 :: s229 :: s230 :: s231 :: s232 :: s233 :: s234 :: s235 :: s236 :: s237 :: s238 :: s239 :: s240 :: s241 :: s242 :: s243 :: s244 :: s245 :: s246 :: s247 :: s248 :: s249 :: s250 :: s251 :: s252 :: s253 :: s254 :: s255 :: s256 :: s257 :: s258 :: s259 :: s260 :: s261 :: s262 :: s263 :: s264 :: s265 :: s266 :: s267 :: s268 :: s269 :: s270 :: s271 :: s272 :: s273 :: s274 :: s275 :: s276 :: s277 :: s278 :: s279 :: s280 :: s281 :: s282 :: s283 :: s284 :: s285 :: s286 :: s287 :: s288 :: s289 :: s290 :: s291 :: s292 :: []), []⟩ w := by
  conv => arg 2; arg 1; whnf
  go_loopw [14, 15] (fun v i wq => ∃ (t bv ov cv : Nat), t ≤ 64 ∧ i = .int .i64 (t : Int) ∧ v = .slice (some ⟨bv, ov, none⟩) 8 cv ∧ Hid (WRow wq wq.heap.size (some ⟨bv, ov, none⟩) 8 (rounds ks ws h t)) ∧ Hid (Blk w3 B0 Ah h v7 64 ws wq)) (fun _ i _ => 64 - (intOf i).toNat)
  case atStart => exact ⟨0, g4, 0, c4, Nat.zero_le _, rfl, rfl, HV4, HS4⟩
  case round =>
    obtain ⟨t, bv, ov, cv, ht, rfl, rfl, HV, HS⟩ := hrel
    by_cases ht64 : t < 64
    · have HRN : Hid (rounds ks ws h (t + 1) = round (rounds ks ws h t) (wat ks t) (wat ws t)) := rfl
      obtain ⟨g7, c7, rfl, hg7, hcw⟩ := HS.out.read (by omega)
      have kw := hcw t ht64
      obtain ⟨_, _, e1, -, kk⟩ := (HK.out.below HS.out.bel).at ht64
      injection e1 with e1
      injection e1 with e1 e2
      subst e1 e2
      have V0 := Lib.hid (V8.of HV.out)
      have hbv : bv < wr.heap.size := by obtain ⟨_, _, e, hb, _⟩ := HV.out.at (show 0 < 8 by omega); injection e with e; injection e with e; subst e; exact hb
      generalize rounds ks ws h t = V at HRN V0 HV
      obtain ⟨wd, hwd⟩ : ∃ a, wat ws t = a := ⟨_, rfl⟩
      obtain ⟨kd, hkd⟩ : ∃ a, wat ks t = a := ⟨_, rfl⟩
      rw [hwd] at kw HRN
      rw [hkd] at kk HRN
      have KW : Hid (∀ q, (wr.drewN q).cell? ⟨g7, t, none⟩ = some (.int .u32 (wi wd)) ∧ (wr.drewN q).cell? ⟨b1, o1 + t, none⟩ = some (.int .u32 (wi kd))) := fun q => ⟨kw, kk⟩
      have hbe : bg1 (wat V 4) = rot (wat V 4) 6 ^^^ rot (wat V 4) 11 ^^^ rot (wat V 4) 25 := rfl
      have hba : bg0 (wat V 0) = rot (wat V 0) 2 ^^^ rot (wat V 0) 13 ^^^ rot (wat V 0) 22 := rfl
      have HBE := Lib.hid hbe
      have HBA := Lib.hid hba
      have k4 := V0.out.c4
      clear hwd hkd hcw kw kk hbe hba
      go_wp2_with fail
      go_quiet ((go_at_call 98; exact Calls.quiet_of (turned_z _ _ (by decide) (by decide) _)))
      rw [← HBE.out]
      have V1 : Hid (V8 (wr.drewN nq) bv ov V) := V0.out.drew
      have HS1 := Lib.hid (HS.out.drew (q := nq))
      have KW1 : Hid (∀ q, ((wr.drewN nq).drewN q).cell? ⟨g7, t, none⟩ = some (.int .u32 (wi wd)) ∧ ((wr.drewN nq).drewN q).cell? ⟨b1, o1 + t, none⟩ = some (.int .u32 (wi kd))) := fun q => KW.out 0
      clear k4 KW V0 HS HV hg7
      have hbv1 : bv < (wr.drewN nq).heap.size := hbv
      clear hbv
      generalize wr.drewN nq = wx at V1 HS1 KW1 hbv1 ⊢
      have k4 := V1.out.c4
      have k5 := V1.out.c5
      have k6 := V1.out.c6
      go_wp2_with fail
      go_quiet (fail)
      have hch : Hid (wat V 4 &&& wat V 5 ^^^ ~~~wat V 4 &&& wat V 6 = cho (wat V 4) (wat V 5) (wat V 6)) := rfl
      rw [hch.out]
      have V2 : Hid (V8 (wx.drewN nq) bv ov V) := V1.out.drew
      have HS2 := Lib.hid (HS1.out.drew (q := nq))
      have KW2 : Hid (∀ q, ((wx.drewN nq).drewN q).cell? ⟨g7, t, none⟩ = some (.int .u32 (wi wd)) ∧ ((wx.drewN nq).drewN q).cell? ⟨b1, o1 + t, none⟩ = some (.int .u32 (wi kd))) := fun q => KW1.out 0
      clear k4 k5 k6 KW1 V1 HS1
      have hbv : bv < (wx.drewN nq).heap.size := hbv1
      clear hbv1
      generalize wx.drewN nq = wy at V2 HS2 KW2 hbv ⊢
      have k7 := V2.out.c7
      have kw : wy.cell? ⟨g7, t, none⟩ = some (.int .u32 (wi wd)) := (KW2.out 0).1
      have kk : wy.cell? ⟨b1, o1 + t, none⟩ = some (.int .u32 (wi kd)) := (KW2.out 0).2
      go_wp2_with fail
      go_quiet (fail)
      have hone : Hid (wat V 7 + bg1 (wat V 4) + cho (wat V 4) (wat V 5) (wat V 6) + kd + wd = one V kd wd) := rfl
      rw [hone.out]
      have V3 : Hid (V8 (wy.drewN nq) bv ov V) := V2.out.drew
      have HS3 := Lib.hid (HS2.out.drew (q := nq))
      have hbv1 : bv < (wy.drewN nq).heap.size := hbv
      clear k7 kw kk KW2 V2 HS2 hbv
      generalize wy.drewN nq = wx at V3 HS3 hbv1 ⊢
      have k0 := V3.out.c0
      go_wp2_with fail
      go_quiet ((go_at_call 98; exact Calls.quiet_of (turned_z _ _ (by decide) (by decide) _)))
      rw [← HBA.out]
      have V4 : Hid (V8 (wx.drewN nq) bv ov V) := V3.out.drew
      have HS4 := Lib.hid (HS3.out.drew (q := nq))
      have hbv : bv < (wx.drewN nq).heap.size := hbv1
      clear k0 V3 HS3 hbv1
      generalize wx.drewN nq = wy at V4 HS4 hbv ⊢
      have k0 := V4.out.c0
      have k1 := V4.out.c1
      have k2 := V4.out.c2
      go_wp2_with fail
      go_quiet (fail)
      have hmj : Hid (wat V 0 &&& wat V 1 ^^^ wat V 0 &&& wat V 2 ^^^ wat V 1 &&& wat V 2 = maj (wat V 0) (wat V 1) (wat V 2)) := rfl
      rw [hmj.out]
      have V5 : Hid (V8 (wy.drewN nq) bv ov V) := V4.out.drew
      have HS5 := Lib.hid (HS4.out.drew (q := nq))
      have hbv1 : bv < (wy.drewN nq).heap.size := hbv
      clear k0 k1 k2 V4 HS4 hbv
      generalize wy.drewN nq = wx at V5 HS5 hbv1 ⊢
      have k0 := V5.out.c0
      have k1 := V5.out.c1
      have k2 := V5.out.c2
      have k3 := V5.out.c3
      have k4 := V5.out.c4
      have k5 := V5.out.c5
      have k6 := V5.out.c6
      have KD : Hid (wx.drew.cell? ⟨bv, ov, none⟩ = some (.int .u32 (wi (wat V 0))) ∧ wx.drew.cell? ⟨bv, ov + 1, none⟩ = some (.int .u32 (wi (wat V 1))) ∧ wx.drew.cell? ⟨bv, ov + 2, none⟩ = some (.int .u32 (wi (wat V 2))) ∧ wx.drew.cell? ⟨bv, ov + 3, none⟩ = some (.int .u32 (wi (wat V 3))) ∧ wx.drew.cell? ⟨bv, ov + 4, none⟩ = some (.int .u32 (wi (wat V 4))) ∧ wx.drew.cell? ⟨bv, ov + 5, none⟩ = some (.int .u32 (wi (wat V 5))) ∧ wx.drew.cell? ⟨bv, ov + 6, none⟩ = some (.int .u32 (wi (wat V 6)))) := ⟨k0, k1, k2, k3, k4, k5, k6⟩
      have KA : Hid (∀ o, (wx.drew.alloc o).cell? ⟨bv, ov, none⟩ = some (.int .u32 (wi (wat V 0))) ∧ (wx.drew.alloc o).cell? ⟨bv, ov + 1, none⟩ = some (.int .u32 (wi (wat V 1))) ∧ (wx.drew.alloc o).cell? ⟨bv, ov + 2, none⟩ = some (.int .u32 (wi (wat V 2))) ∧ (wx.drew.alloc o).cell? ⟨bv, ov + 3, none⟩ = some (.int .u32 (wi (wat V 3))) ∧ (wx.drew.alloc o).cell? ⟨bv, ov + 4, none⟩ = some (.int .u32 (wi (wat V 4))) ∧ (wx.drew.alloc o).cell? ⟨bv, ov + 5, none⟩ = some (.int .u32 (wi (wat V 5))) ∧ (wx.drew.alloc o).cell? ⟨bv, ov + 6, none⟩ = some (.int .u32 (wi (wat V 6)))) := fun o => ⟨(((Below.refl _ wx).drew.alloc (Nat.le_refl _) o).cell (p := ⟨bv, ov, none⟩) hbv1).trans k0, (((Below.refl _ wx).drew.alloc (Nat.le_refl _) o).cell (p := ⟨bv, ov + 1, none⟩) hbv1).trans k1, (((Below.refl _ wx).drew.alloc (Nat.le_refl _) o).cell (p := ⟨bv, ov + 2, none⟩) hbv1).trans k2, (((Below.refl _ wx).drew.alloc (Nat.le_refl _) o).cell (p := ⟨bv, ov + 3, none⟩) hbv1).trans k3, (((Below.refl _ wx).drew.alloc (Nat.le_refl _) o).cell (p := ⟨bv, ov + 4, none⟩) hbv1).trans k4, (((Below.refl _ wx).drew.alloc (Nat.le_refl _) o).cell (p := ⟨bv, ov + 5, none⟩) hbv1).trans k5, (((Below.refl _ wx).drew.alloc (Nat.le_refl _) o).cell (p := ⟨bv, ov + 6, none⟩) hbv1).trans k6⟩
      have HS6 := Lib.hid (HS5.out.drew (q := 1))
      clear V5 HS5 hbv1
      go_wp2_with fail
      go_region_held3 (fun wz => wz.cell? ⟨bv, ov, none⟩ = some (.int .u32 (wi (wat V 0))) ∧ wz.cell? ⟨bv, ov + 1, none⟩ = some (.int .u32 (wi (wat V 1))) ∧ wz.cell? ⟨bv, ov + 2, none⟩ = some (.int .u32 (wi (wat V 2))) ∧ wz.cell? ⟨bv, ov + 3, none⟩ = some (.int .u32 (wi (wat V 3))) ∧ wz.cell? ⟨bv, ov + 4, none⟩ = some (.int .u32 (wi (wat V 4))) ∧ wz.cell? ⟨bv, ov + 5, none⟩ = some (.int .u32 (wi (wat V 5))) ∧ wz.cell? ⟨bv, ov + 6, none⟩ = some (.int .u32 (wi (wat V 6)))) (first | exact KD.out | exact KA.out _) (fail)
      have HNV : Hid (WRow (wx.drew.alloc (.cells #[.int .u32 (wi (one V kd wd + bg0 (wat V 0) + maj (wat V 0) (wat V 1) (wat V 2))), .int .u32 (wi (wat V 0)), .int .u32 (wi (wat V 1)), .int .u32 (wi (wat V 2)), .int .u32 (wi (wat V 3 + one V kd wd)), .int .u32 (wi (wat V 4)), .int .u32 (wi (wat V 5)), .int .u32 (wi (wat V 6))] 87)) (wx.heap.size + 1) (some ⟨wx.heap.size, 0, none⟩) 8 (round V kd wd)) := by
        have := lit8 wx.drew 87 (one V kd wd + bg0 (wat V 0) + maj (wat V 0) (wat V 1) (wat V 2)) (wat V 0) (wat V 1) (wat V 2) (wat V 3 + one V kd wd) (wat V 4) (wat V 5) (wat V 6)
        rw [World.size_alloc] at this
        exact this
      have HNS := Lib.hid (HS6.out.below ((Below.refl _ _).alloc (Nat.le_refl _) (.cells #[.int .u32 (wi (one V kd wd + bg0 (wat V 0) + maj (wat V 0) (wat V 1) (wat V 2))), .int .u32 (wi (wat V 0)), .int .u32 (wi (wat V 1)), .int .u32 (wi (wat V 2)), .int .u32 (wi (wat V 3 + one V kd wd)), .int .u32 (wi (wat V 4)), .int .u32 (wi (wat V 5)), .int .u32 (wi (wat V 6))] 87)))
      go_wp2
      go_roundw
      case rel => exact ⟨t + 1, wx.heap.size, 0, 8, by omega, by go_num, rfl, by rw [HRN.out]; exact Row.drew (lit8 wx _ _ _ _ _ _ _ _ _), HNS⟩
      case measure => simp [intOf]; omega
    · obtain rfl : t = 64 := by omega
      go_wp2_with fail
      exact HEX.out _ _ _ _ _ _ _ _ _ _ _ _ _ _ _ _ _ _ _ _ _ _ _ _ _ _ _ _ _ _ _ _ _ _ _ _ _ _ _ _ _ _ _ _ _ _ _ _ _ _ _ _ _ _ _ _ _ _ _ _ _ _ _ _ _ _ _ _ _ _ _ _ _ _ _ _ _ _ _ _ _ _ _ _ _ _ _ _ _ _ _ _ _ _ _ _ _ _ _ _ _ _ _ _ _ _ _ _ _ _ _ _ _ _ _ _ _ _ _ _ _ _ _ _ _ ⟨bv, ov, cv, rfl, HV, HS⟩
end Go.Proofs.YtmkdbpdfonpfdaaDoor.Sha

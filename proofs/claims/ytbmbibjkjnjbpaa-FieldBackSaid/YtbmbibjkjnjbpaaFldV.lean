/- The reference's reader of layer 3: Byte, Bytes, Done, Read, as contracts. -/
import Derived.Test.YtbmbibjkjnjbpaaFldY
namespace Go.Proofs.Ytbmbibjkjnjbpaa.Fld
open Go.RowKit Var

theorem drop_at {bs : List Int} {k : Nat} (h : k < bs.length) : bs.drop k = bs.getD k 0 :: bs.drop (k + 1) := by
  rw [List.drop_eq_getElem_cons h]
  simp [List.getD, h]

/-- A world that is another one but for its draws. -/
structure Like (w w' : World) : Prop where
  heap : w'.heap = w.heap
  os : w'.os = w.os
  tape : w'.tape = w.tape
  output : w'.output = w.output
theorem Like.only {M : Nat → Prop} {w w1 w' : World} (h : Like w1 w') (ho : Only M w w1) : Only M w w' :=
  ⟨h.os.trans ho.os, h.tape.trans ho.tape, h.output.trans ho.output, by rw [h.heap]; exact ho.size, fun k hk hn => by rw [h.heap]; exact ho.block k hk hn⟩
theorem Like.rf {w w' : World} {g n c at_ e : Nat} {A : Option Addr} (h : Like w w') (hr : Rf w g A n c at_ e) : Rf w' g A n c at_ e := ⟨by rw [h.heap]; exact hr.blk⟩

section
variable {w w' : World} {g N n c at_ s er : Nat} {A : Option Addr} {bs : List Int} {k : IntKind} {t : Int × Nat × Nat} {x : Int}
theorem ref_like_err (h : Rfr w g N A n c bs at_ 0) (hl : Like (w.setCell ⟨g, 2, none⟩ (.int .i64 (er : Int))) w') (ht : t.2.2 = er) (he : er ≠ 0) : RefSteps w g N A n c bs at_ 0 k t (.returned (.int k 0)) w' := by
  have hO := hl.only (Only.setCell w ⟨g, 2, none⟩ (.int .i64 (er : Int)))
  exact refsteps_err (h.set hO (hl.rf (h.rf.set2 er)) h.le) ht he hO
theorem ref_like_ok (h : Rfr w g N A n c bs at_ 0) (hl : Like (w.setCell ⟨g, 1, none⟩ (.int .i64 ((at_ + s : Nat) : Int))) w') (ht : t = (x, s, 0)) (hs : at_ + s ≤ n) : RefSteps w g N A n c bs at_ 0 k t (.returned (.int k x)) w' := by
  have hO := hl.only (Only.setCell w ⟨g, 1, none⟩ (.int .i64 ((at_ + s : Nat) : Int)))
  exact refsteps_ok (h.set hO (hl.rf (h.rf.set1 (at_ + s))) hs) ht hO
end

set_option maxHeartbeats 1600000 in
set_option maxRecDepth 100000 in
theorem refbyte_any (g N n c at_ e : Nat) (A : Option Addr) (bs : List Int) (w : World) (h : Rfr w g N A n c bs at_ e) :
    Calls Try.prog 20 #[.pointer (some ⟨g, 0, none⟩)] w (RefSteps w g N A n c bs at_ e .u8 (nxb (bs.drop at_))) := by
  have HR := Lib.hid h
  have c0 := h.rf.c0
  have c1 := h.rf.c1
  have c2 := h.rf.c2
  have f1 := h.rf.f1
  have f2 := h.rf.f2
  have hle := h.le
  have hlen := h.len
  clear h
  by_cases he : e = 0
  · subst he
    by_cases hlt : at_ < n
    · obtain ⟨b, o, rfl, hb, hc⟩ := HR.out.row.cell_at hlt
      have hbg : b ≠ g := by have := HR.out.low; omega
      have hgb : g ≠ b := fun h => hbg h.symm
      have hd : decide ((n : Int) ≤ (at_ : Int)) = false := decide_eq_false (by omega)
      have hi1 : (at_ : Int) + 1 - 1 = (at_ : Int) := by omega
      have hw1 : IntKind.i64.wrap ((at_ : Int) + 1) = (at_ : Int) + 1 := IntWalk.i64_in _ ⟨by omega, by omega⟩
      have hw2 : IntKind.i64.wrap (at_ : Int) = (at_ : Int) := IntWalk.i64_in _ ⟨by omega, by omega⟩
      obtain ⟨y, hy, HY⟩ : ∃ y, bs.getD at_ 0 = y ∧ Hid (y = bs.getD at_ 0) := ⟨_, rfl, rfl⟩
      rw [hy] at hc
      clear hy
      have HS : Hid (at_ + 1 ≤ n) := hlt
      have HX : Hid (nxb (bs.drop at_) = (y, 1, 0)) := by unfold Hid; rw [drop_at (by rw [HR.out.row.len]; exact hlt), ← HY.out]; rfl
      go_enter Try.func20, Try.ntmps20
      go_wp2
      go_quiet (fail)
      go_wp2
      go_quiet (fail)
      go_wp2
      go_ret
      exact ref_like_ok (s := 1) HR.out ⟨rfl, rfl, rfl, rfl⟩ HX.out HS.out
    · have hd : decide ((n : Int) ≤ (at_ : Int)) = true := decide_eq_true (by omega)
      have HX : Hid ((nxb (bs.drop at_)).2.2 = 10) := by unfold Hid; rw [List.drop_eq_nil_of_le (by rw [HR.out.row.len]; omega)]; rfl
      go_enter Try.func20, Try.ntmps20
      go_wp2
      go_quiet (fail)
      go_wp2
      go_ret
      exact ref_like_err (er := 10) HR.out ⟨rfl, rfl, rfl, rfl⟩ HX.out (by decide)
  · have hne : ((e : Int) == 0) = false := beq_eq_false_iff_ne.2 (by omega)
    have HE := Lib.hid he
    clear he
    go_enter Try.func20, Try.ntmps20
    go_wp2
    go_ret
    exact refsteps_bad HR.out HE.out

set_option maxHeartbeats 1600000 in
set_option maxRecDepth 100000 in
theorem refdone_any (g N n c at_ e : Nat) (A : Option Addr) (bs : List Int) (w : World) (h : Rfr w g N A n c bs at_ e) :
    Calls Try.prog 25 #[.pointer (some ⟨g, 0, none⟩)] w fun r w' => r = .returned (.int .i64 (done (bs.drop at_) e : Int)) ∧ Like w w' := by
  have c0 := h.rf.c0
  have c1 := h.rf.c1
  have c2 := h.rf.c2
  have HL : Hid ((bs.drop at_).length = n - at_) := by unfold Hid; rw [List.length_drop, h.row.len]
  have hle := h.le
  clear h
  by_cases he : e = 0
  · subst he
    by_cases hlt : at_ < n
    · have hd : decide ((at_ : Int) < (n : Int)) = true := decide_eq_true (by omega)
      have HD : Hid (done (bs.drop at_) 0 = 13) := by have := HL.out; unfold Hid done; rw [if_neg (by simp), if_neg (by omega)]
      go_enter Try.func25, Try.ntmps25
      go_wp2
      go_quiet (fail)
      go_wp2
      go_ret
      exact ⟨ret_int (by rw [HD.out]; rfl), ⟨rfl, rfl, rfl, rfl⟩⟩
    · have hd : decide ((at_ : Int) < (n : Int)) = false := decide_eq_false (by omega)
      have HD : Hid (done (bs.drop at_) 0 = 0) := by have := HL.out; unfold Hid done; rw [if_neg (by simp), if_pos (by omega)]
      go_enter Try.func25, Try.ntmps25
      go_wp2
      go_quiet (fail)
      go_wp2
      go_ret
      exact ⟨ret_int (by rw [HD.out]; rfl), ⟨rfl, rfl, rfl, rfl⟩⟩
  · have hne : ((e : Int) == 0) = false := beq_eq_false_iff_ne.2 (by omega)
    have HD : Hid (done (bs.drop at_) e = e) := by unfold Hid done; rw [if_pos he]
    clear he
    go_enter Try.func25, Try.ntmps25
    go_wp2
    go_quiet (fail)
    go_wp2
    go_ret
    exact ⟨ret_int (by rw [HD.out]), ⟨rfl, rfl, rfl, rfl⟩⟩

set_option maxHeartbeats 800000 in
set_option maxRecDepth 100000 in
theorem refread_any (A : Option Addr) (n c : Nat) (bs : List Int) (N : Nat) (w : World) (h : Row .u8 w N A n bs) (hN : N ≤ w.heap.size) (hnc : n ≤ c) (hnil : A = none → c = 0) (hn : n ≤ 4398046511104) (hbyt : ∀ x ∈ bs, 0 ≤ x ∧ x ≤ 255) :
    Calls Try.prog 14 #[.slice A n c] w fun r w' => r = .returned (.pointer (some ⟨w.heap.size, 0, none⟩)) ∧ Rfr w' w.heap.size N A n c bs 0 0 ∧ Below w.heap.size w w' := by
  have H := Lib.hid h
  have HN := Lib.hid hN
  have HC := Lib.hid hnc
  have HI := Lib.hid hnil
  have HY := Lib.hid hbyt
  have HL := Lib.hid hn
  clear h hN hnc hnil hbyt hn
  go_enter Try.func14, Try.ntmps14
  go_wp2
  go_ret
  exact ⟨rfl, ⟨⟨heap_alloc_new w _⟩, H.out.alloc HN.out _, HN.out, HC.out, Nat.zero_le _, HI.out, HY.out, HL.out⟩, (Below.refl _ _).alloc (Nat.le_refl _) _⟩
end Go.Proofs.Ytbmbibjkjnjbpaa.Fld

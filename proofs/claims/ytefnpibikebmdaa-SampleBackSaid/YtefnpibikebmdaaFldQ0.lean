/- The program's Reader and the reference's, step by step beside each other. -/
import Derived.Test.YtefnpibikebmdaaFldVr
import Derived.Test.YtefnpibikebmdaaFldZ
namespace Go.Proofs.Ytefnpibikebmdaa.Fld
open Go.RowKit Var

/-- Both readers stand at the same place, or both have the same error. -/
structure Both (w0 w : World) (gP gR N : Nat) (A : Option Addr) (n c : Nat) (bs xs : List Int) (at_ e : Nat) : Prop where
  rd : Rdr w gP xs e
  rf : Rfr w gR N A n c bs at_ e
  eq : e = 0 → bs.drop at_ = xs
  lt : gP < gR
  low : N ≤ gP
  low0 : w0.heap.size ≤ N
  len : xs.length ≤ 4398046511104
  bel : Below w0.heap.size w0 w

section
variable {w0 w w1 w2 : World} {gP gR N n c at_ at1 e e1 : Nat} {A : Option Addr} {bs xs xs1 : List Int}
theorem Both.below (h : Both w0 w gP gR N A n c bs xs at_ e) (hb : Below w.heap.size w w1) : Both w0 w1 gP gR N A n c bs xs at_ e :=
  ⟨h.rd.below hb, h.rf.only (M := fun _ => False) (Only.of_below hb) (fun h => h) (fun _ _ h => h), h.eq, h.lt, h.low, h.low0, h.len, h.bel.trans (hb.mono h.bel.size)⟩
theorem Both.drew (h : Both w0 w gP gR N A n c bs xs at_ e) : Both w0 w.drew gP gR N A n c bs xs at_ e := h.below ⟨rfl, rfl, rfl, Nat.le_refl _, fun _ _ => rfl⟩
theorem Both.drewN (h : Both w0 w gP gR N A n c bs xs at_ e) (q : Nat) : Both w0 (w.drewN q) gP gR N A n c bs xs at_ e := h.below ⟨rfl, rfl, rfl, Nat.le_refl _, fun _ _ => rfl⟩
theorem Only.cell_at {M : Nat → Prop} {a : Addr} {v : Value} (h : Only M w w1) (hc : w.cell? a = some v) (hn : ¬ M a.block) : w1.cell? a = some v :=
  (World.cell?_of_block (w := w) (h.block a.block (World.block_lt_of_cell? w a hc) hn)).trans hc
/-- Behind one step of each. -/
theorem Both.step (h : Both w0 w gP gR N A n c bs xs at_ e) (h1 : Rdr w1 gP xs1 e1) (o1 : Only (fun k => k = gP) w w1) (h2 : Rfr w2 gR N A n c bs at1 e1) (o2 : Only (fun k => k = gR) w1 w2) (he : e1 = 0 → bs.drop at1 = xs1) (hl : xs1.length ≤ xs.length) : Both w0 w2 gP gR N A n c bs xs1 at1 e1 := by
  have a := h.lt
  have b := h.low
  have d := h.low0
  have hs := h.bel.size
  have g1 := h.rd.lt
  refine ⟨h1.only o2 (fun k hk hk2 => by omega), h2, he, a, b, d, Nat.le_trans hl h.len, ?_⟩
  have b1 : Below w0.heap.size w w1 := o1.below hs (fun k hk => by omega)
  have b2 : Below w0.heap.size w1 w2 := o2.below (Nat.le_trans hs o1.size) (fun k hk => by omega)
  exact (h.bel.trans b1).trans b2
theorem Both.mid (h : Both w0 w gP gR N A n c bs xs at_ e) (o1 : Only (fun k => k = gP) w w1) : Rfr w1 gR N A n c bs at_ e :=
  h.rf.only o1 (fun e => by have := h.lt; omega) (fun k hk e => by have := h.low; omega)
end

theorem after_len (xs : List Int) (e s er : Nat) : (after xs e s er).1.length ≤ xs.length := by
  unfold after
  split
  · exact Nat.le_refl _
  · split
    · exact Nat.le_refl _
    · simp

/-- What one step of each does: the same value, the same error. -/
def Pair (gP gR N : Nat) (A : Option Addr) (n c : Nat) (bs xs : List Int) (at_ e : Nat) (k : IntKind) (f1 f2 : Nat) (rest : List Value) (y : Int) (xs1 : List Int) (e1 : Nat) : Prop :=
  (∀ w, Rdr w gP xs e → Calls Try.prog f1 (#[.pointer (some ⟨gP, 0, none⟩)] ++ rest.toArray) w fun r w' => r = .returned (.int k y) ∧ Rdr w' gP xs1 e1 ∧ Only (fun k => k = gP) w w') ∧
  (∀ w, Rfr w gR N A n c bs at_ e → Calls Try.prog f2 (#[.pointer (some ⟨gR, 0, none⟩)] ++ rest.toArray) w fun r w' => r = .returned (.int k y) ∧ (∃ at1, Rfr w' gR N A n c bs at1 e1 ∧ (e1 = 0 → bs.drop at1 = xs1)) ∧ Only (fun k => k = gR) w w') ∧ xs1.length ≤ xs.length

theorem pair_of {gP gR N n c at_ e f1 f2 : Nat} {A : Option Addr} {bs xs : List Int} {k : IntKind} {rest : List Value} (tf : List Int → Int × Nat × Nat) (he : e = 0 → bs.drop at_ = xs)
    (h1 : ∀ w, Rdr w gP xs e → Calls Try.prog f1 (#[.pointer (some ⟨gP, 0, none⟩)] ++ rest.toArray) w (Steps w gP xs e k (tf xs)))
    (h2 : ∀ w, Rfr w gR N A n c bs at_ e → Calls Try.prog f2 (#[.pointer (some ⟨gR, 0, none⟩)] ++ rest.toArray) w (RefSteps w gR N A n c bs at_ e k (tf (bs.drop at_)))) :
    ∃ y xs1 e1, Pair gP gR N A n c bs xs at_ e k f1 f2 rest y xs1 e1 := by
  refine ⟨val e (tf xs), (after xs e (tf xs).2.1 (tf xs).2.2).1, (after xs e (tf xs).2.1 (tf xs).2.2).2, fun w hw => h1 w hw, fun w hw => ?_, after_len _ _ _ _⟩
  refine (h2 w hw).mono ?_
  rintro r w' ⟨hr, ⟨at1, hf, hd⟩, ho⟩
  by_cases e0 : e = 0
  · have := he e0
    rw [this] at hr hf hd
    exact ⟨hr, ⟨at1, hf, fun _ => hd⟩, ho⟩
  · have v1 : val e (tf (bs.drop at_)) = val e (tf xs) := by unfold val; rw [if_pos (.inl e0), if_pos (.inl e0)]
    have a1 : (after (bs.drop at_) e (tf (bs.drop at_)).2.1 (tf (bs.drop at_)).2.2).2 = e := by unfold after; rw [if_pos e0]
    have a2 : (after xs e (tf xs).2.1 (tf xs).2.2).2 = e := by unfold after; rw [if_pos e0]
    rw [v1] at hr
    rw [a1] at hf
    rw [a2]
    exact ⟨hr, ⟨at1, hf, fun h => absurd h e0⟩, ho⟩

section
variable {gP gR N n c at_ e : Nat} {A : Option Addr} {bs xs : List Int} {most : Int}
theorem pair_number (he : e = 0 → bs.drop at_ = xs) (h1 : -9223372036854775808 ≤ most) (h2 : most ≤ 9223372036854775807) : ∃ y xs1 e1, Pair gP gR N A n c bs xs at_ e .i64 34 24 [.int .i64 most] y xs1 e1 :=
  pair_of (fun xs => nxt xs most) he (fun w hw => numberR gP e xs most w hw h1 h2) (fun w hw => refnum_any gR N n c at_ e A bs most w hw h1 h2)
theorem pair_signed (he : e = 0 → bs.drop at_ = xs) (h1 : -9223372036854775808 ≤ most) (h2 : most ≤ 9223372036854775807) : ∃ y xs1 e1, Pair gP gR N A n c bs xs at_ e .i64 35 25 [.int .i64 most] y xs1 e1 :=
  pair_of (fun xs => nxs xs most) he (fun w hw => signedR gP e xs most w hw h1 h2) (fun w hw => refsgn_any gR N n c at_ e A bs most w hw h1 h2)
end
end Go.Proofs.Ytefnpibikebmdaa.Fld

/- Layer 16 (heap): HeapPlays' walk. -/
import Derived.Test.YthhnemanaciikaaHqO
namespace Go.Proofs.Ythhnemanaciikaa.Hq
open Go.RowKit Rec Ints Ge

/-- A heap and a list in order that say the same. -/
structure Pg (Hp : World → (Nat → Prop) → Addr → List Int → Prop) (B : Nat) (w wr : World) (a : Addr) (A : Option Addr) (m c : Nat) (S : List Int) : Prop where
  heap : ∃ M L, Hp wr M a L ∧ L.Perm S ∧ ∀ b o sp, A = some ⟨b, o, sp⟩ → b < wr.heap.size ∧ ¬ M b
  row : RRow intS wr wr.heap.size A m S
  up : Up S
  cap : (A = none → c = 0) ∧ m ≤ c ∧ c ≤ maxLen
  below : Below B w wr
  big : B ≤ wr.heap.size
section
variable {Hp : World → (Nat → Prop) → Addr → List Int → Prop} {B : Nat} {w wr w1 w2 : World} {a : Addr} {A A' : Option Addr} {m c m' c' : Nat} {S S' L L' : List Int} {M M' : Nat → Prop} {F : Nat → FuncId} {zero : Int} {lt : Int → Int → Bool} {Inv : World → Prop} {less : Value}
theorem Pg.keep (k : HeapOk F (Value.int .i64) zero lt B Inv less Hp) (h : Pg Hp B w wr a A m c S) (hb : Below wr.heap.size wr w1) : Pg Hp B w w1 a A m c S := by
  obtain ⟨M, L, h1, h2, h3⟩ := h.heap
  exact ⟨⟨M, L, k.keep h1 hb.size fun j hj => hb.block j (k.lies h1 j hj).2, h2, fun b o sp hA => ⟨Nat.lt_of_lt_of_le (h3 b o sp hA).1 hb.size, (h3 b o sp hA).2⟩⟩, (h.row.below hb).more hb.size, h.up, h.cap, h.below.trans (hb.mono h.big), Nat.le_trans h.big hb.size⟩
/-- Something was done to the heap: the list lies as it did. -/
theorem turned (k : HeapOk F (Value.int .i64) zero lt B Inv less Hp) (hm : Hp wr M a L) (hA : ∀ b o sp, A = some ⟨b, o, sp⟩ → b < wr.heap.size ∧ ¬ M b) (hr : RRow intS wr wr.heap.size A m S) (hb : Below B w wr) (hB : B ≤ wr.heap.size) (ho : Only M wr w1) (hn : ∀ j, M' j → M j ∨ wr.heap.size ≤ j) :
    (∀ b o sp, A = some ⟨b, o, sp⟩ → b < w1.heap.size ∧ ¬ M' b) ∧ RRow intS w1 w1.heap.size A m S ∧ Below B w w1 ∧ B ≤ w1.heap.size := by
  refine ⟨fun b o sp e => ⟨Nat.lt_of_lt_of_le (hA b o sp e).1 ho.size, fun hMb => ?_⟩, (hr.only ho (Nat.le_refl _) fun b o e _ => (hA b o none e).2).more ho.size, hb.trans (ho.below hB fun j hj => (k.lies hm j hj).1), Nat.le_trans hB ho.size⟩
  rcases hn b hMb with h1 | h1
  · exact (hA b o sp e).2 h1
  · have := (hA b o sp e).1
    omega
/-- A new list in order, and what is in the heap is the same. -/
theorem Pg.put {v : Value} (k : HeapOk F (Value.int .i64) zero lt B Inv less Hp) (hm : Hp w1 M a L) (hl : L.Perm S) (hu : Up S) (hb : Below B w w1) (hB : B ≤ w1.heap.size) (ho : w2.ownsRow w1.heap.size 3 1 v S.length (intS.flat S)) (hb2 : Below w1.heap.size w1 w2) :
    ∃ A c, v = .slice A S.length c ∧ Pg Hp B w w2 a A S.length c S := by
  obtain ⟨A, c, rfl, h1, h2, h3⟩ := ownr_slice ho
  refine ⟨A, c, rfl, ⟨M, L, k.keep hm hb2.size fun j hj => hb2.block j (k.lies hm j hj).2, hl, fun b o sp e => ?_⟩, RRow.of_own (S := intS) ho, hu, ⟨h2, h1, h3⟩, hb.trans (hb2.mono hB), Nat.le_trans hB hb2.size⟩
  subst e
  rcases ho.2 with ⟨h4, _⟩ | ⟨g, _, _, h4, h5, h6, _⟩
  · cases h4
  · simp only [Value.slice.injEq, Option.some.injEq, Addr.mk.injEq] at h4
    obtain ⟨⟨rfl, _⟩, _⟩ := h4
    exact ⟨(Array.getElem?_eq_some_iff.1 h6).1, fun hMb => by have := (k.lies hm b hMb).2; omega⟩
/-- What comes off is the list's first. -/
theorem pop_first {x s : Int} {T : List Int} (hu : Up (s :: T)) (hl : L.Perm (s :: T)) (hp : L.Perm (x :: L')) (hx : ∀ y ∈ L', decide (y < x) = false) : x = s ∧ L'.Perm T := by
  have h1 : x ∈ s :: T := hl.mem_iff.1 (hp.mem_iff.2 List.mem_cons_self)
  have h2 : s ∈ x :: L' := hp.mem_iff.1 (hl.mem_iff.2 List.mem_cons_self)
  have e : x = s := by
    have h3 : s ≤ x := by
      rcases List.mem_cons.1 h1 with h | h
      · omega
      · exact (List.pairwise_cons.1 hu).1 x h
    have h4 : x ≤ s := by
      rcases List.mem_cons.1 h2 with h | h
      · omega
      · have := of_decide_eq_false (hx s h)
        omega
    omega
  subst e
  exact ⟨rfl, List.Perm.cons_inv (hp.symm.trans hl)⟩
theorem top_first {x s : Int} {T : List Int} (hu : Up (s :: T)) (hl : L.Perm (s :: T)) (hp : x ∈ L) (hx : ∀ y ∈ L, decide (y < x) = false) : x = s := by
  have h1 : x ∈ s :: T := hl.mem_iff.1 hp
  have h2 : s ∈ L := hl.mem_iff.2 List.mem_cons_self
  have h4 := of_decide_eq_false (hx s h2)
  rcases List.mem_cons.1 h1 with h | h
  · exact h
  · have := (List.pairwise_cons.1 hu).1 x h
    omega
end
end Go.Proofs.Ythhnemanaciikaa.Hq

/- Layer 7 (sha): words in memory: slices of words, what holds while a block is worked on. -/
import Derived.Test.YtclidocmfdimiaaDoorShaK
import Derived.Test.YtclidocmfdimiaaDoorCat
namespace Go.Proofs.YtclidocmfdimiaaDoor.Sha
open Go.RowKit

/-- A slice of words reads. -/
def WRow (w : World) (B : Nat) (A : Option Addr) (n : Nat) (l : List Wd) : Prop := Row .u32 w B A n (l.map wi)

theorem WRow.below {w w' : World} {B n : Nat} {A : Option Addr} {l : List Wd} (h : WRow w B A n l) (hb : Below B w w') : WRow w' B A n l := Row.below h hb
theorem WRow.more {w : World} {B B' n : Nat} {A : Option Addr} {l : List Wd} (h : WRow w B A n l) (hb : B ≤ B') : WRow w B' A n l := Row.more h hb
theorem WRow.at {w : World} {B n : Nat} {A : Option Addr} {l : List Wd} (h : WRow w B A n l) {j : Nat} (hj : j < n) : ∃ b o, A = some ⟨b, o, none⟩ ∧ b < B ∧ w.cell? ⟨b, o + j, none⟩ = some (.int .u32 (wi (wat l j))) := by
  obtain ⟨b, o, e, hb, hc⟩ := Row.cell_at h hj
  have hl : (l.map wi).length = n := h.1
  rw [List.length_map] at hl
  refine ⟨b, o, e, hb, ?_⟩
  rw [hc]
  unfold wat
  simp [List.getD, List.getElem?_map, List.getElem?_eq_getElem (show j < l.length by omega)]
theorem byte_at {b : List Int} (hb : ∀ x ∈ b, 0 ≤ x ∧ x ≤ 255) (i : Nat) : ∃ y : Nat, b.getD i 0 = (y : Int) ∧ y ≤ 255 := by
  by_cases h : i < b.length
  · have := hb b[i] (List.getElem_mem h)
    refine ⟨(b[i]).toNat, ?_, by omega⟩
    rw [List.getD, List.getElem?_eq_getElem h]
    simp
    omega
  · exact ⟨0, by rw [List.getD, List.getElem?_eq_none (by omega)]; rfl, by omega⟩

/-- In a block: the row that grows, the words so far, all that lay. -/
structure Blk (w3 : World) (B0 : Nat) (Ah : Option Addr) (h : List Wd) (v : Value) (t : Nat) (l : List Wd) (w : World) : Prop where
  own : w.ownsRow B0 42 1 v t (wv l)
  row : WRow w B0 Ah 8 h
  bel : Below w3.heap.size w3 w
  sz : B0 ≤ w.heap.size
  base : w3.heap.size ≤ B0

theorem wv_snoc (l : List Wd) (a : Wd) : wv (l ++ [a]) = wv l ++ [.int .u32 (wi a)] := by simp [wv]
theorem Blk.push {w3 w w' : World} {B0 t : Nat} {Ah : Option Addr} {h l : List Wd} {v v' : Value} {a : Wd} (hb : Blk w3 B0 Ah h v t l w) (ho : w'.ownsRow B0 42 1 v' (t + 1) ((l.map wi ++ [wi a]).map (Value.int .u32))) (hw : Below B0 w w') : Blk w3 B0 Ah h v' (t + 1) (l ++ [a]) w' :=
  ⟨by rw [wv_snoc]; simpa [wv] using ho, hb.row.below hw, hb.bel.trans (hw.mono hb.base), Nat.le_trans hb.sz hw.size, hb.base⟩
theorem Blk.drew {w3 w : World} {B0 t q : Nat} {Ah : Option Addr} {h l : List Wd} {v : Value} (hb : Blk w3 B0 Ah h v t l w) : Blk w3 B0 Ah h v t l (w.drewN q) :=
  ⟨hb.own, hb.row, ⟨hb.bel.os, hb.bel.tape, hb.bel.output, hb.bel.size, hb.bel.block⟩, hb.sz, hb.base⟩

theorem Blk.read {w3 w : World} {B0 t : Nat} {Ah : Option Addr} {h l : List Wd} {v : Value} (hb : Blk w3 B0 Ah h v t l w) (ht : 0 < t) : ∃ g c, v = .slice (some ⟨g, 0, none⟩) t c ∧ g < w.heap.size ∧ ∀ j, j < t → w.cell? ⟨g, j, none⟩ = some (.int .u32 (wi (wat l j))) := by
  obtain ⟨A, c, rfl, -, -⟩ := own_slice hb.own
  obtain ⟨g, rfl, -⟩ := own_at hb.own ht
  have hr : WRow w w.heap.size (some ⟨g, 0, none⟩) t l := Row.of_own hb.own
  obtain ⟨b, o, e, hbl, -⟩ := hr.at ht
  injection e with e
  injection e with e1 e2
  subst e1 e2
  refine ⟨g, c, rfl, hbl, fun j hj => ?_⟩
  obtain ⟨b', o', e, -, hc⟩ := hr.at hj
  injection e with e
  injection e with e1 e2
  subst e1 e2
  rwa [Nat.zero_add] at hc
theorem wv_at {l : List Wd} {j : Nat} (hj : j < l.length) : (wv l)[j]? = some (.int .u32 (wi (wat l j))) := by
  unfold wv wat
  simp [List.getD, List.getElem?_eq_getElem hj]

theorem Blk.below {w3 w w' : World} {B0 t : Nat} {Ah : Option Addr} {h l : List Wd} {v : Value} (hb : Blk w3 B0 Ah h v t l w) (hw : Below w.heap.size w w') : Blk w3 B0 Ah h v t l w' :=
  ⟨own_below hb.own hw, hb.row.below (hw.mono hb.sz), hb.bel.trans (hw.mono hb.bel.size), Nat.le_trans hb.sz hw.size, hb.base⟩
/-- Eight words lie there. -/
structure V8 (w : World) (b o : Nat) (l : List Wd) : Prop where
  c0 : w.cell? ⟨b, o, none⟩ = some (.int .u32 (wi (wat l 0)))
  c1 : w.cell? ⟨b, o + 1, none⟩ = some (.int .u32 (wi (wat l 1)))
  c2 : w.cell? ⟨b, o + 2, none⟩ = some (.int .u32 (wi (wat l 2)))
  c3 : w.cell? ⟨b, o + 3, none⟩ = some (.int .u32 (wi (wat l 3)))
  c4 : w.cell? ⟨b, o + 4, none⟩ = some (.int .u32 (wi (wat l 4)))
  c5 : w.cell? ⟨b, o + 5, none⟩ = some (.int .u32 (wi (wat l 5)))
  c6 : w.cell? ⟨b, o + 6, none⟩ = some (.int .u32 (wi (wat l 6)))
  c7 : w.cell? ⟨b, o + 7, none⟩ = some (.int .u32 (wi (wat l 7)))
theorem V8.drew {w : World} {b o q : Nat} {l : List Wd} (h : V8 w b o l) : V8 (w.drewN q) b o l := ⟨h.c0, h.c1, h.c2, h.c3, h.c4, h.c5, h.c6, h.c7⟩
theorem V8.of {w : World} {B b o : Nat} {l : List Wd} (h : WRow w B (some ⟨b, o, none⟩) 8 l) : V8 w b o l := by
  have k : ∀ j, j < 8 → w.cell? ⟨b, o + j, none⟩ = some (.int .u32 (wi (wat l j))) := by
    intro j hj
    obtain ⟨b', o', e, -, hc⟩ := h.at hj
    injection e with e
    injection e with e1 e2
    subst e1 e2
    exact hc
  exact ⟨k 0 (by omega), k 1 (by omega), k 2 (by omega), k 3 (by omega), k 4 (by omega), k 5 (by omega), k 6 (by omega), k 7 (by omega)⟩

theorem lit8 (w : World) (e : TypeId) (a0 a1 a2 a3 a4 a5 a6 a7 : Wd) : WRow (w.alloc (.cells #[.int .u32 (wi a0), .int .u32 (wi a1), .int .u32 (wi a2), .int .u32 (wi a3), .int .u32 (wi a4), .int .u32 (wi a5), .int .u32 (wi a6), .int .u32 (wi a7)] e)) (w.alloc (.cells #[.int .u32 (wi a0), .int .u32 (wi a1), .int .u32 (wi a2), .int .u32 (wi a3), .int .u32 (wi a4), .int .u32 (wi a5), .int .u32 (wi a6), .int .u32 (wi a7)] e)).heap.size (some ⟨w.heap.size, 0, none⟩) 8 [a0, a1, a2, a3, a4, a5, a6, a7] := by
  have q := heap_alloc_new w (.cells #[.int .u32 (wi a0), .int .u32 (wi a1), .int .u32 (wi a2), .int .u32 (wi a3), .int .u32 (wi a4), .int .u32 (wi a5), .int .u32 (wi a6), .int .u32 (wi a7)] e)
  refine ⟨rfl, fun _ => ⟨w.heap.size, 0, rfl, (Array.getElem?_eq_some_iff.1 q).1, fun j hj => ?_⟩⟩
  rw [Nat.zero_add]
  match j, hj with
  | 0, _ => exact cell_of_blk q rfl
  | 1, _ => exact cell_of_blk q rfl
  | 2, _ => exact cell_of_blk q rfl
  | 3, _ => exact cell_of_blk q rfl
  | 4, _ => exact cell_of_blk q rfl
  | 5, _ => exact cell_of_blk q rfl
  | 6, _ => exact cell_of_blk q rfl
  | 7, _ => exact cell_of_blk q rfl

/-- While the words are added: the row that grows, both summands, all that lay. -/
structure Sm (w3 : World) (B1 : Nat) (bh oh : Nat) (h : List Wd) (bv ov : Nat) (r : List Wd) (v : Value) (t : Nat) (w : World) : Prop where
  own : w.ownsRow B1 42 1 v t (wv (adds h r t))
  rh : WRow w B1 (some ⟨bh, oh, none⟩) 8 h
  rv : WRow w B1 (some ⟨bv, ov, none⟩) 8 r
  bel : Below w3.heap.size w3 w
  sz : B1 ≤ w.heap.size
  base : w3.heap.size ≤ B1
theorem Sm.push {w3 w w' : World} {B1 bh oh bv ov t : Nat} {h r : List Wd} {v v' : Value} (hb : Sm w3 B1 bh oh h bv ov r v t w) (ho : w'.ownsRow B1 42 1 v' (t + 1) (((adds h r t).map wi ++ [wi (wat h t + wat r t)]).map (Value.int .u32))) (hw : Below B1 w w') : Sm w3 B1 bh oh h bv ov r v' (t + 1) w' :=
  ⟨by have e : wv (adds h r (t + 1)) = (((adds h r t).map wi ++ [wi (wat h t + wat r t)]).map (Value.int .u32)) := by simp [wv, adds]
      rw [e]; exact ho, hb.rh.below hw, hb.rv.below hw, hb.bel.trans (hw.mono hb.base), Nat.le_trans hb.sz hw.size, hb.base⟩
theorem Sm.drew {w3 w : World} {B1 bh oh bv ov t q : Nat} {h r : List Wd} {v : Value} (hb : Sm w3 B1 bh oh h bv ov r v t w) : Sm w3 B1 bh oh h bv ov r v t (w.drewN q) :=
  ⟨hb.own, hb.rh, hb.rv, ⟨hb.bel.os, hb.bel.tape, hb.bel.output, hb.bel.size, hb.bel.block⟩, hb.sz, hb.base⟩

theorem own_low {w : World} {base base' n : Nat} {e : TypeId} {v : Value} {xs : List Value} (h : w.ownsRow base e 1 v n xs) (hb : base' ≤ base) : w.ownsRow base' e 1 v n xs := by
  refine ⟨h.1, ?_⟩
  rcases h.2 with h0 | ⟨g, cap, cur, h1, h2, rest⟩
  · exact .inl h0
  · exact .inr ⟨g, cap, cur, h1, Nat.le_trans hb h2, rest⟩
/-- While the bytes are written. -/
structure Ou (w3 : World) (B1 bh oh : Nat) (h : List Wd) (v : Value) (t : Nat) (w : World) : Prop where
  own : w.ownsRow B1 5 1 v (4 * t) ((outs h t).map (Value.int .u8))
  rh : WRow w B1 (some ⟨bh, oh, none⟩) 8 h
  bel : Below w3.heap.size w3 w
  sz : B1 ≤ w.heap.size
  base : w3.heap.size ≤ B1
theorem Ou.push {w3 w w' : World} {B1 bh oh t : Nat} {h : List Wd} {v v' : Value} (hb : Ou w3 B1 bh oh h v t w) (ho : w'.ownsRow B1 5 1 v' (4 * t + 4) ((outs h t ++ out4 (wat h t)).map (Value.int .u8))) (hw : Below B1 w w') : Ou w3 B1 bh oh h v' (t + 1) w' :=
  ⟨ho, hb.rh.below hw, hb.bel.trans (hw.mono hb.base), Nat.le_trans hb.sz hw.size, hb.base⟩
theorem Ou.drew {w3 w : World} {B1 bh oh t q : Nat} {h : List Wd} {v : Value} (hb : Ou w3 B1 bh oh h v t w) : Ou w3 B1 bh oh h v t (w.drewN q) :=
  ⟨hb.own, hb.rh, ⟨hb.bel.os, hb.bel.tape, hb.bel.output, hb.bel.size, hb.bel.block⟩, hb.sz, hb.base⟩
end Go.Proofs.YtclidocmfdimiaaDoor.Sha

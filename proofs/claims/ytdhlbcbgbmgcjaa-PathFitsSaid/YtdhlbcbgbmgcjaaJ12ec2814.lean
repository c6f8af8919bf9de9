/- Lemmas that the proof stands on, in build order: PtH. -/
import Derived.Test.YtdhlbcbgbmgcjaaJ11d43469
import Derived.Test.YtdhlbcbgbmgcjaaJ6ea7323
/- Layer 17 (path): what the reference's From keeps while it goes on. -/
namespace Go.Proofs.Ytdhlbcbgbmgcjaa.Pt
open Go.RowKit Rec Ints Ge Gf Pa

/-- A list as distances. -/
def rdZ (xs : List Int) : D := fun v => if 0 ≤ xs.getD v (-1) then some (xs.getD v (-1)).toNat else none
theorem getD_set {xs : List Int} {b v : Nat} {y : Int} (h : b < xs.length) : (xs.set b y).getD v (-1) = if v = b then y else xs.getD v (-1) := by
  rw [List.getD_eq_getElem?_getD, List.getD_eq_getElem?_getD, List.getElem?_set]
  by_cases hv : v = b
  · subst hv
    simp [h]
  · rw [if_neg (fun e => hv e.symm), if_neg hv]
theorem rdZ_set {xs : List Int} {b : Nat} {y : Int} (h : b < xs.length) (hy : 0 ≤ y) : rdZ (xs.set b y) = put (rdZ xs) b y.toNat := by
  funext v
  unfold rdZ put
  rw [getD_set h]
  by_cases hv : v = b
  · rw [if_pos hv, if_pos hv, if_pos hy]
  · rw [if_neg hv, if_neg hv]
theorem rl_none {xs : List Int} {u v w : Nat} (h : xs.getD u (-1) < 0) : rl (rdZ xs) u v w = rdZ xs := by
  have e : rdZ xs u = none := by unfold rdZ; rw [if_neg (by omega)]
  unfold rl
  rw [e]
theorem rl_some {xs : List Int} {u v w : Nat} (h : 0 ≤ xs.getD u (-1)) (hv : v < xs.length) (h2 : xs.getD v (-1) < 0 ∨ xs.getD u (-1) + (w : Int) < xs.getD v (-1)) : rl (rdZ xs) u v w = rdZ (xs.set v (xs.getD u (-1) + (w : Int))) := by
  have e : rdZ xs u = some (xs.getD u (-1)).toNat := by unfold rdZ; rw [if_pos h]
  rw [rdZ_set hv (by omega)]
  have et : (xs.getD u (-1) + (w : Int)).toNat = (xs.getD u (-1)).toNat + w := by omega
  rw [et]
  unfold rl
  rw [e]
  by_cases h3 : xs.getD v (-1) < 0
  · have e2 : rdZ xs v = none := by unfold rdZ; rw [if_neg (by omega)]
    rw [e2]
  · have e2 : rdZ xs v = some (xs.getD v (-1)).toNat := by unfold rdZ; rw [if_pos (by omega)]
    rw [e2]
    simp only
    rw [if_pos (by omega)]
theorem rl_keep {xs : List Int} {u v w : Nat} (h : 0 ≤ xs.getD u (-1)) (h1 : 0 ≤ xs.getD v (-1)) (h2 : ¬ xs.getD u (-1) + (w : Int) < xs.getD v (-1)) : rl (rdZ xs) u v w = rdZ xs := by
  have e : rdZ xs u = some (xs.getD u (-1)).toNat := by unfold rdZ; rw [if_pos h]
  have e2 : rdZ xs v = some (xs.getD v (-1)).toNat := by unfold rdZ; rw [if_pos h1]
  unfold rl
  rw [e, e2]
  simp only
  rw [if_neg (by omega)]
theorem fold_moreP {L : List L3} {j : Nat} {l : L3} (h : L[j]? = some l) (d : D) : ((nlk L).take (j + 1)).foldl lk d = lk (((nlk L).take j).foldl lk d) (l.1.toNat, l.2.1.toNat, l.2.2.toNat) := by
  have h1 : (nlk L)[j]? = some (l.1.toNat, l.2.1.toNat, l.2.2.toNat) := by unfold nlk; rw [List.getElem?_map, h]; rfl
  rw [List.take_add_one, h1, List.foldl_append]
  rfl
theorem fold_allP {L : List L3} {n : Nat} (h : L.length = n) (d : D) : ((nlk L).take n).foldl lk d = turn (nlk L) d := by
  have h1 : (nlk L).length = n := by unfold nlk; rw [List.length_map, h]
  rw [List.take_of_length_le (by omega)]
  rfl
/-- Every number is -1 or more, and at most V. -/
def Rng (V : Int) (xs : List Int) : Prop := ∀ v, -1 ≤ xs.getD v (-1) ∧ xs.getD v (-1) ≤ V
theorem Rng.more {V V' : Int} {xs : List Int} (h : Rng V xs) (hv : V ≤ V') : Rng V' xs := fun v => ⟨(h v).1, by have := (h v).2; omega⟩
theorem Rng.set {V V' : Int} {xs : List Int} {b : Nat} {y : Int} (h : Rng V xs) (hb : b < xs.length) (hy : -1 ≤ y ∧ y ≤ V') (hv : V ≤ V') : Rng V' (xs.set b y) := fun v => by
  rw [getD_set hb]
  by_cases hvb : v = b
  · rw [if_pos hvb]; exact hy
  · rw [if_neg hvb]; exact ⟨(h v).1, by have := (h v).2; omega⟩
theorem far_rd {N : Nt} {s : Nat} {xs : List Int} {V : Int} (hl : xs.length = N.st.length) (hr : Rng V xs) (h : rdZ xs = dis N s) : xs = farL N s := by
  apply List.ext_getElem?
  intro v
  by_cases hv : v < N.st.length
  · rw [far_at hv, ← h]
    have e : xs[v]? = some (xs.getD v (-1)) := by rw [List.getD_eq_getElem?_getD, List.getElem?_eq_getElem (by omega)]; rfl
    rw [e]
    have h1 := (hr v).1
    unfold rdZ fz
    by_cases h0 : 0 ≤ xs.getD v (-1)
    · rw [if_pos h0]; simp only; congr 1; omega
    · rw [if_neg h0]; simp only; congr 1; omega
  · rw [List.getElem?_eq_none (by omega), List.getElem?_eq_none (by rw [far_len]; omega)]
theorem start_rd {n s : Nat} (hs : s < n) : rdZ ((List.replicate n (-1)).set s 0) = Pa.start s := by
  rw [rdZ_set (by simpa using hs) (Int.le_refl _)]
  funext v
  unfold put Pa.start
  by_cases hv : v = s
  · rw [if_pos hv, if_pos hv]; rfl
  · rw [if_neg hv, if_neg hv]
    unfold rdZ
    rw [if_neg]
    rw [List.getD_eq_getElem?_getD, List.getElem?_replicate]
    split <;> simp
theorem start_rng {n s : Nat} (hs : s < n) : Rng 0 ((List.replicate n (-1)).set s 0) := fun v => by
  rw [getD_set (by simpa using hs)]
  by_cases hv : v = s
  · rw [if_pos hv]; omega
  · rw [if_neg hv, List.getD_eq_getElem?_getD, List.getElem?_replicate]
    split <;> simp

structure Pz (w : World) (N : Nt) (A : Option Addr) (n c : Nat) (A' : Option Addr) (m c' g cap : Nat) (xs : List Int) (wr : World) : Prop where
  bx : Bx w N A n c A' m c' wr
  own : wr.ownsRow (w.heap.size + 1) 3 1 (.slice (some ⟨g, 0, none⟩) n cap) n (intS.flat xs)
  len : xs.length = n
theorem Pz.cell {w wr : World} {N : Nt} {A A' : Option Addr} {n c m c' g cap : Nat} {xs : List Int} (h : Pz w N A n c A' m c' g cap xs wr) {i : Nat} (hi : i < n) : wr.cell? ⟨g, i, none⟩ = some (.int .i64 (xs.getD i (-1))) := by
  have hl := h.len
  rw [h.own.cellAt i (by omega), flat_ints, List.getElem?_map, List.getD_eq_getElem?_getD, List.getElem?_eq_getElem (by omega)]
  rfl
theorem Pz.lt {w wr : World} {N : Nt} {A A' : Option Addr} {n c m c' g cap : Nat} {xs : List Int} (h : Pz w N A n c A' m c' g cap xs wr) : w.heap.size + 1 ≤ g ∧ g < wr.heap.size := h.own.lt g rfl
theorem Pz.keep {w wr w2 : World} {N : Nt} {A A' : Option Addr} {n c m c' g cap : Nat} {xs : List Int} (h : Pz w N A n c A' m c' g cap xs wr) (hb : Below wr.heap.size wr w2) : Pz w N A n c A' m c' g cap xs w2 :=
  ⟨h.bx.below hb, ownr_below h.own hb, h.len⟩
theorem Pz.set {w wr : World} {N : Nt} {A A' : Option Addr} {n c m c' g cap : Nat} {xs : List Int} (h : Pz w N A n c A' m c' g cap xs wr) (i : Nat) (y : Int) : Pz w N A n c A' m c' g cap (xs.set i y) (wr.setCell ⟨g, i, none⟩ (.int .i64 y)) := by
  have hg := h.lt
  refine ⟨h.bx.only (Only.setCell wr ⟨g, i, none⟩ (.int .i64 y)) (show w.heap.size < g by omega), ?_, by rw [List.length_set]; exact h.len⟩
  have h1 := (h.own.stored i (.int .i64 y)).1
  have e : intS.flat (xs.set i y) = (intS.flat xs).set i (.int .i64 y) := by
    rw [flat_ints, flat_ints, List.map_set]
  rw [e]
  exact h1
theorem Pz.free {w wr : World} {N : Nt} {A A' : Option Addr} {n c m c' g cap : Nat} {xs : List Int} (h : Pz w N A n c A' m c' g cap xs wr) (i : Nat) : wr.frozen? ⟨g, i, none⟩ = false := h.own.frozenAt i
end Go.Proofs.Ytdhlbcbgbmgcjaa.Pt

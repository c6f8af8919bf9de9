/- Layer 14 (grid): cells as keys of a map: what a key reads as; a map of stops by cells; no contract. -/
import Derived.Test.YtddlenbahidkaaaGdO
import Derived.Maps.OwnRows
import Derived.Maps.Views
import Derived.DeepKeys4
import Derived.WalkArith
namespace Go.Proofs.Ytddlenbahidkaaa.Gd
open Go.RowKit Rec Ints Ge Go.WideMaps Go.Maps Go.ChangeMaps

theorem laidCell : laidOutB Try.prog = true := by kernel_rfl
theorem rowCell : (32 : TypeId) < Try.prog.types.size := of_decide_eq_true (by kernel_rfl)
theorem wideCell : (match Try.prog.underlying 32 with | some (.array _ _) | some (.struct _) => true | _ => false) = true := by kernel_rfl
theorem law : Keyed Try.prog 32 := Keyed.of_law (deep_law_laid laidCell (m := 2) (by omega) rowCell (by kernel_rfl) wideCell)
theorem keyCell : Try.prog.keyType 32 = true := by kernel_rfl
theorem cellsCell : Try.prog.cellsOf 32 = 2 := by kernel_rfl
theorem cellsInt : Try.prog.cellsOf 3 = 1 := by kernel_rfl
theorem someTypes : ∃ m, Try.prog.types.size = m + 1 := ⟨Try.prog.types.size - 1, by kernel_rfl⟩
theorem mapCell : Try.prog.underlying 49 = some (.map 32 34) := Try.underlying49
theorem noSlice (w : World) : (zeroValue 34).run Try.prog w = .ok (.slice none 0 0) w := by kernel_rfl

/-- What a cell reads as, as a key. -/
def kl (q : C) : Lit := .string (keyBytes [.int .i64 q.1, .int .i64 q.2])
theorem wf64 {n : Int} (h : B64 n) : (Lit.int .i64 n).wf = true := WalkArith.wf_i64 (by unfold B64 at h; omega)
theorem key_cell (q : C) (h : B64p q) : keyOf Try.prog 32 (.agg #[.int .i64 q.1, .int .i64 q.2]) = some (kl q) := by
  obtain ⟨m, hm⟩ := someTypes
  have w1 := wf64 h.1
  have w2 := wf64 h.2
  have hk := keyCell
  have hc := cellsCell
  have hi := cellsInt
  unfold keyOf
  simp only [Try.underlying32]
  rw [if_pos (by simp [hk, Value.formed, Try.underlying32, hc]), hm]
  unfold Program.keyLits
  simp only [Try.underlying32, Value.cells]
  simp [hc, hi, Program.keyLits, Try.underlying3, w1, w2, kl]
theorem kl_inj {p q : C} (hp : B64p p) (hq : B64p q) (h : kl p = kl q) : p = q := by
  have h1 := key_cell p hp
  have h2 := key_cell q hq
  rw [h] at h1
  have h3 := law.inj h1 h2
  obtain ⟨a, b⟩ := p
  obtain ⟨a', b'⟩ := q
  simp only [Value.agg.injEq, Array.mk.injEq, List.cons.injEq, Value.int.injEq, true_and, and_true] at h3
  rw [h3.1, h3.2]
theorem kl_key (q : C) (h : B64p q) : WideAt.IsKeyLit (kl q) := law.key (key_cell q h)

/-- The numbers of a slice that was read. -/
def items : DataW Unit → List Int
  | .slice es _ => es.map fun d => match d with | .lit (.int _ a) => a | _ => 0
  | _ => []
theorem items_row {w : World} {base : Nat} {e : TypeId} {v : Value} {zs : List Int} (h : w.ownsInts base e .i64 v zs) : items (rowDatum .i64 v zs) = zs := by
  rcases h.datum (H := Unit) with ⟨h1, h2⟩ | h1
  · rw [h1, h2]; rfl
  · rw [h1]
    unfold items ChangeShapes.lits
    simp [Function.comp_def]
/-- A map holds, at each cell, the first k stops that lie in it. -/
def GM (l : List C) (s : Int) (k : Nat) (D : DataW Unit) : Prop := IsMap D ∧ ∀ q, B64p q → items (D.atKey (kl q) .nil) = nums (cell (l.take k) s q)
theorem gm_start (l : List C) (s : Int) : GM l s 0 (.map []) := ⟨isMap_empty, fun q _ => by simp [DataW.atKey, items, cell, nums]⟩
/-- Which cell a stop lies in. -/
def cq (s : Int) (p : C) : C := (p.1.tdiv s, p.2.tdiv s)
theorem cell_step (l : List C) (s : Int) (k : Nat) (p q : C) (h : l[k]? = some p) : cell (l.take (k + 1)) s q = cell (l.take k) s q ++ (if cq s p = q then [k] else []) := by
  have hk : k < l.length := (List.getElem?_eq_some_iff.1 h).1
  unfold cell
  rw [List.length_take, List.length_take, Nat.min_eq_left (by omega : k + 1 ≤ l.length), Nat.min_eq_left (by omega : k ≤ l.length), List.range_succ, List.filter_append]
  congr 1
  · refine List.filter_congr fun i hi => ?_
    have hik : i < k := List.mem_range.1 hi
    have e1 : (l.take (k + 1)).getD i (0, 0) = l.getD i (0, 0) := by simp [List.getD, show i < k + 1 by omega]
    have e2 : (l.take k).getD i (0, 0) = l.getD i (0, 0) := by simp [List.getD, hik]
    rw [e1, e2]
  · have e1 : (l.take (k + 1)).getD k (0, 0) = p := by simp [List.getD, h]
    simp only [List.filter_cons, List.filter_nil, e1]
    by_cases hc : cq s p = q
    · rw [if_pos hc]
      subst hc
      simp [cq]
    · rw [if_neg hc]
      have : ¬ (p.1.tdiv s = q.1 ∧ p.2.tdiv s = q.2) := fun h => hc (by unfold cq; rw [h.1, h.2])
      simp [this]
theorem gm_step {l : List C} {s : Int} {k : Nat} {D : DataW Unit} {p : C} (h : GM l s k D) (hp : l[k]? = some p) (hb : B64p (cq s p)) {w w1 : World} {base : Nat} {e : TypeId} {v v' : Value} {zs : List Int}
    (hat : D.atKey (kl (cq s p)) .nil = rowDatum .i64 v zs) (hoi : w.ownsInts base e .i64 v zs) (hoi' : w1.ownsInts base e .i64 v' (zs ++ [(k : Int)])) :
    GM l s (k + 1) (D.put (kl (cq s p)) (rowDatum .i64 v' (zs ++ [(k : Int)]))) := by
  refine ⟨h.1.put _ _, fun q hq => ?_⟩
  rw [cell_step l s k p q hp]
  by_cases hc : cq s p = q
  · subst hc
    rw [atKey_put_same h.1 (kl_key _ hb), items_row hoi', if_pos rfl, nums_cat]
    have h1 := h.2 _ hb
    rw [hat, items_row hoi] at h1
    rw [h1]
    rfl
  · rw [atKey_put_other (fun e => hc (kl_inj hb hq e.symm)), if_neg hc, List.append_nil]
    exact h.2 q hq
end Go.Proofs.Ytddlenbahidkaaa.Gd

/- Over any program: a whole struct stored, as an operation's run (for Mix.lex_act0); the cells that 'make' lays where all are alike. -/
import Derived.Test.YthhnemanaciikaaRecM
import Derived.Deep.MidRow
import Derived.Laws.MakeOwn
namespace Go.Proofs.Ythhnemanaciikaa.Sto
open Go.RowKit Rec

theorem exec_store {P : Program} {w : World} {o : Oper} {a : Act} {x y : Operand} {ty : TypeId} {b off : Nat} {cells : Array Value} (hop : o.op = .store ty x y) (hx : a.eval x = .pointer (some ⟨b, off, none⟩)) (hy : a.eval y = .agg cells)
    (ht : w.there b off cells.size) (hi : (P.info? ty).map (·.size) = some cells.size) (h1 : cells.all (·.oneCell') = true) : (execOp a.eval o).run P w = .ok .skip (w.setCells b off cells.toList) := by
  simp only [execOp, hop, hx, hy, Sem.run_bind, Sem.run_pure, Result.andThen_ok, run_storeAt_mid w b off ty cells ht hi h1]
theorem exec_store_one {P : Program} {w : World} {o : Oper} {a : Act} {x y : Operand} {ty : TypeId} {b off n c : Nat} {A : Option Addr} (hop : o.op = .store ty x y) (hx : a.eval x = .pointer (some ⟨b, off, none⟩)) (hy : a.eval y = .slice A n c)
    (hc : (w.cell? ⟨b, off, none⟩).isSome = true) (hf : w.frozen? ⟨b, off, none⟩ = false) (hi : (P.info? ty).map (·.size) = some 1) : (execOp a.eval o).run P w = .ok .skip (w.setCell ⟨b, off, none⟩ (.slice A n c)) := by
  have h1 := run_storeCells_cells (P := P) b off [.slice A n c] 0 w (fun j hj => by
    have : j = 0 := by simpa using hj
    subst this
    simpa using hc) (fun j hj => by
    have : j = 0 := by simpa using hj
    subst this
    simpa using hf) (fun v hv => by rw [List.mem_singleton.1 hv]; rfl)
  have h2 : (storeVar ty ⟨b, off, none⟩ (.slice A n c)).run P w = .ok () (w.setCell ⟨b, off, none⟩ (.slice A n c)) := by
    cases hq : P.info? ty with
    | none => simp [hq] at hi
    | some i =>
      have hs : i.size = 1 := by simpa [hq] using hi
      simp only [Nat.add_zero] at h1
      have h1' : (storeCells ⟨b, off, none⟩ [Value.slice A n c]).run P w = .ok () (w.setCell ⟨b, off, none⟩ (.slice A n c)) := h1
      simp [storeVar, sizeOf, typeInfo, hq, Value.cells, hs, h1']
  simp only [execOp, hop, hx, hy, Instr.storeAt, Instr.sureAddr, Sem.run_bind, Sem.run_pure, Result.andThen_ok, h2]
theorem there_of_blk {w : World} {b : Nat} {cs : Array Value} {t : TypeId} (h : w.heap[b]? = some (.cells cs t (0, 0))) : w.there b 0 cs.size := fun j hj => by
  rw [Nat.zero_add]
  refine ⟨?_, free_of_blk h⟩
  rw [cell_of_row w b j cs t (0, 0) h, Array.getElem?_eq_getElem hj]
  rfl
theorem whole_set {w : World} {b : Nat} {cs vs : Array Value} {t : TypeId} (h : w.heap[b]? = some (.cells cs t (0, 0))) (hl : cs.size = vs.size) : (w.setCells b 0 vs.toList).heap[b]? = some (.cells vs t (0, 0)) := by
  have h' : w.heap[b]? = some (.cells cs.toList.toArray t (0, 0)) := h
  rw [setCells_row b vs.toList 0 cs.toList w h' (by simp [hl])]
  have e : List.drop cs.size cs.toList = [] := List.drop_of_length_le (by simp)
  simp [← hl, e]
theorem made_all {z : Array Value} {u : Value} (hz : 0 < z.size) (h : ∀ j (hj : j < z.size), z[j] = u) (n : Nat) : (madeCells z n).toList = List.replicate n u := by
  apply List.ext_getElem
  · simp [madeCells]
  · intro i h1 h2
    have hm := Nat.mod_lt i hz
    rw [List.getElem_replicate]
    simp only [madeCells, Array.toList_map, Array.toList_range, List.getElem_map, List.getElem_range]
    rw [getElem!_pos z _ hm]
    exact h _ hm
theorem flat_all {α : Type} {S : Shape α} {a : α} {u : Value} (h : S.f a = List.replicate S.c u) (n : Nat) : S.flat (List.replicate n a) = List.replicate (n * S.c) u := by
  induction n with
  | zero => simp [Shape.flat]
  | succ n ih => rw [List.replicate_succ, flat_cons, ih, h, List.replicate_append_replicate]; congr 1; rw [Nat.add_mul]; omega
/-- The next of those that are filled in. -/
theorem fill_next {α : Type} {l : List α} {k n : Nat} (z a : α) (hl : l.length = k) (hk : k < n) : (l ++ List.replicate (n - k) z).set k a = (l ++ [a]) ++ List.replicate (n - (k + 1)) z := by
  rw [List.set_append_right _ _ (by omega), hl, Nat.sub_self, show n - k = (n - (k + 1)) + 1 by omega, List.replicate_succ, List.set_cons_zero]
  simp
end Go.Proofs.Ythhnemanaciikaa.Sto

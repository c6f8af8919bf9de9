/- Over any program: a row of structs of one's own, as the library's sort sees it. -/
import Derived.Test.YtddlenbahidkaaaRec
import Derived.Shelf.SlSortCmp.NoneTotal
namespace Go.Proofs.Ytddlenbahidkaaa.Rec
open Go Go.RowKit Go.Sort Go.Proofs

section
variable {α : Type} [Inhabited α] (S : Shape α)
theorem flatK_flat (l : List α) : (flatK S.f S.c l.toArray).toList = S.flat l := by
  have hp := S.pos
  apply List.ext_getElem?
  intro t
  by_cases ht : t < l.length * S.c
  · have hq : t / S.c < l.length := Nat.div_lt_of_lt_mul (by rw [Nat.mul_comm]; exact ht)
    have hr := Nat.mod_lt t hp
    have h1 := flat_at (S := S) (l := l) (j := t / S.c) (a := l[t / S.c]) (List.getElem?_eq_getElem hq) (t % S.c) hr
    have e : t / S.c * S.c + t % S.c = t := by rw [Nat.mul_comm]; exact Nat.div_add_mod t S.c
    rw [e] at h1
    rw [h1]
    have hsz : t < (flatK S.f S.c l.toArray).size := by rw [size_flatK]; simpa using ht
    have h2 := get_flatK S.f S.c l.toArray t (by simpa using ht)
    rw [Array.getElem?_toList, Array.getElem?_eq_getElem hsz]
    rw [getElem!_pos (flatK S.f S.c l.toArray) t hsz] at h2
    rw [h2]
    have h3 : l.toArray[t / S.c]! = l[t / S.c] := by rw [getElem!_pos _ _ (by simpa using hq)]; simp
    rw [h3, getElem!_pos (S.f l[t / S.c]) (t % S.c) (by rw [S.len]; exact hr)]
    exact (List.getElem?_eq_getElem (by rw [S.len]; exact hr)).symm
  · rw [List.getElem?_eq_none (by simp; omega), List.getElem?_eq_none (by rw [flat_len]; omega)]
theorem holds_of {w : World} {g : Nat} {cur : Array Value} {e : TypeId} {l : List α} (hb : w.heap[g]? = some (.cells cur e (0, 0))) (ht : cur.toList.take (l.length * S.c) = S.flat l) : HoldsK S.f S.c w g 0 l.toArray := by
  intro j hj
  have hj' : j < l.length * S.c := by rw [size_flatK] at hj; simpa using hj
  refine ⟨?_, by simp [World.frozen?, hb]⟩
  have h1 : (cur.toList.take (l.length * S.c))[j]? = (S.flat l)[j]? := by rw [ht]
  rw [List.getElem?_take_of_lt hj', ← flatK_flat S l, Array.getElem?_toList, Array.getElem?_toList] at h1
  simp only [World.cell?, hb, Nat.zero_add, Option.isSome_none, Bool.false_eq_true, if_false]
  rw [h1, Array.getElem?_eq_getElem hj, getElem!_pos (flatK S.f S.c l.toArray) j hj]
  rfl
theorem heap_sorted {w : World} {g n : Nat} {os : Array Obj} {cur : Array Value} {e : TypeId} {fr : Nat × Nat} (d : Array α) (hb : w.heap[g]? = some (.cells cur e fr)) :
    (sortWorldK S.f S.c w g 0 n d os).heap[g]? = some (.cells (putCells id 0 (flatK S.f S.c d) cur) e fr) := by
  have hg : g < w.heap.size := (Array.getElem?_eq_some_iff.1 hb).1
  unfold sortWorldK putRowK
  rw [heap_grow_old _ _ (by simpa using hg)]
  simp [putRow, mapBlock, Sort.ahead, Array.getElem?_modify, hb, onCells]
theorem grown_sorted {w : World} {g n : Nat} {os : Array Obj} (d : Array α) : w.grownBy (sortWorldK S.f S.c w g 0 n d os) (some g) := by
  unfold sortWorldK putRowK
  refine ⟨rfl, rfl, rfl, by simp, fun k hk hne => ?_⟩
  rw [heap_grow_old _ _ (by simpa using hk)]
  have : g ≠ k := fun e => hne (by rw [e])
  simp [putRow, mapBlock, Sort.ahead, Array.getElem?_modify, this]
/-- Behind the sort the same slice owns what was sorted. -/
theorem own_sorted {w : World} {base g cap n : Nat} {e : TypeId} {os : Array Obj} {cur : Array Value} {l m : List α} (hl : m.length = l.length) (hbase : base ≤ g) (hb : w.heap[g]? = some (.cells cur e (0, 0)))
    (h1 : l.length ≤ cap) (h2 : cap ≤ maxLen) (h3 : cur.size = cap * S.c) :
    (sortWorldK S.f S.c w g 0 n m.toArray os).ownsRow base e S.c (.slice (some ⟨g, 0, none⟩) l.length cap) l.length (S.flat m) := by
  refine ⟨by rw [flat_len, hl], .inr ⟨g, cap, _, rfl, hbase, heap_sorted S _ hb, h1, h2, by simp [putCells, h3], ?_⟩⟩
  have hle : l.length * S.c ≤ cap * S.c := Nat.mul_le_mul_right _ h1
  have hsz : (flatK S.f S.c m.toArray).size = l.length * S.c := by rw [size_flatK]; simp [hl]
  apply List.ext_getElem?
  intro j
  by_cases hj : j < l.length * S.c
  · rw [List.getElem?_take_of_lt hj, Array.getElem?_toList, ← flatK_flat S m, Array.getElem?_toList, Array.getElem?_eq_getElem (by omega : j < (flatK S.f S.c m.toArray).size)]
    have hjc : j < cur.size := by omega
    have hjf : j < (flatK S.f S.c m.toArray).size := by omega
    simp only [putCells, Array.getElem?_mapIdx, Array.getElem?_eq_getElem hjc, Option.map_some, Nat.zero_le, true_and, Nat.zero_add, Nat.sub_zero, id]
    rw [if_pos hjf, getElem!_pos (flatK S.f S.c m.toArray) j hjf]
  · rw [List.getElem?_take_eq_none (by omega), List.getElem?_eq_none (by rw [flat_len, hl]; omega)]
end
end Go.Proofs.Ytddlenbahidkaaa.Rec

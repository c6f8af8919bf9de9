/- Layer 14 (grid), mathematics: the cells around a place hold all that can be near; no program's text is named here. -/
import Derived.Test.YtddlenbahidkaaaGdM
namespace Go.Proofs.Ytddlenbahidkaaa.Gd
open Ge

theorem mem_cell {l : List (Int × Int)} {s : Int} {q : Int × Int} {i : Nat} : i ∈ cell l s q ↔ i < l.length ∧ (l.getD i (0, 0)).1.tdiv s = q.1 ∧ (l.getD i (0, 0)).2.tdiv s = q.2 := by
  unfold cell
  simp [List.mem_filter]
theorem nodup_cell (l : List (Int × Int)) (s : Int) (q : Int × Int) : (cell l s q).Nodup := List.nodup_range.filter _
theorem len_of {L : List Nat} {n : Nat} (h : L.Nodup) (hb : ∀ i ∈ L, i < n) : L.length ≤ n := by
  have hp : L.Perm ((List.range n).filter fun i => decide (i ∈ L)) := (List.perm_ext_iff_of_nodup h (List.nodup_range.filter _)).2 fun i => by
    simp only [List.mem_filter, List.mem_range, decide_eq_true_eq]
    exact ⟨fun hi => ⟨hb i hi, hi⟩, fun hi => hi.2⟩
  rw [hp.length_eq]
  have := List.length_filter_le (fun i => decide (i ∈ L)) (List.range n)
  rwa [List.length_range] at this
/-- Each stop once, all that can be near among them. -/
def Cov (l : List (Int × Int)) (x y r : Int) (L : List Nat) : Prop := L.Nodup ∧ (∀ i ∈ L, i < l.length) ∧ ∀ i, i < l.length → dq (x, y) l i ≤ r * r → i ∈ L
theorem cov_all (l : List (Int × Int)) (x y r : Int) : Cov l x y r (List.range l.length) := ⟨List.nodup_range, fun _ hi => List.mem_range.1 hi, fun _ hi _ => List.mem_range.2 hi⟩
/-- A column of cells; columns. -/
def colT (l : List (Int × Int)) (s X Y : Int) (k : Nat) : List Nat := (List.range k).flatMap fun j : Nat => cell l s (X, Y + (j : Int))
def boxT (l : List (Int × Int)) (s X Y : Int) (m k : Nat) : List Nat := (List.range k).flatMap fun i : Nat => colT l s (X + (i : Int)) Y m
theorem col_succ (l : List (Int × Int)) (s X Y : Int) (k : Nat) : colT l s X Y (k + 1) = colT l s X Y k ++ cell l s (X, Y + (k : Int)) := by
  unfold colT
  rw [List.range_succ, List.flatMap_append]
  simp
theorem box_succ (l : List (Int × Int)) (s X Y : Int) (m k : Nat) : boxT l s X Y m (k + 1) = boxT l s X Y m k ++ colT l s (X + (k : Int)) Y m := by
  unfold boxT
  rw [List.range_succ, List.flatMap_append]
  simp
theorem mem_col {l : List (Int × Int)} {s X Y : Int} {k i : Nat} : i ∈ colT l s X Y k ↔ ∃ j, j < k ∧ i ∈ cell l s (X, Y + (j : Int)) := by
  unfold colT
  simp [List.mem_flatMap]
theorem mem_box {l : List (Int × Int)} {s X Y : Int} {m k i : Nat} : i ∈ boxT l s X Y m k ↔ ∃ a, a < k ∧ i ∈ colT l s (X + (a : Int)) Y m := by
  unfold boxT
  simp [List.mem_flatMap]
theorem nodup_col (l : List (Int × Int)) (s X Y : Int) (k : Nat) : (colT l s X Y k).Nodup := by
  unfold colT
  refine List.pairwise_flatMap.2 ⟨fun j _ => nodup_cell _ _ _, List.nodup_range.imp fun {a b} hab u hu v hv e => ?_⟩
  subst e
  have h1 := (mem_cell.1 hu).2.2
  have h2 := (mem_cell.1 hv).2.2
  simp only at h1 h2
  omega
theorem nodup_box (l : List (Int × Int)) (s X Y : Int) (m k : Nat) : (boxT l s X Y m k).Nodup := by
  unfold boxT
  refine List.pairwise_flatMap.2 ⟨fun j _ => nodup_col _ _ _ _ _, List.nodup_range.imp fun {a b} hab u hu v hv e => ?_⟩
  subst e
  obtain ⟨_, _, hu⟩ := mem_col.1 hu
  obtain ⟨_, _, hv⟩ := mem_col.1 hv
  have h1 := (mem_cell.1 hu).2.1
  have h2 := (mem_cell.1 hv).2.1
  simp only at h1 h2
  omega
theorem box_lt {l : List (Int × Int)} {s X Y : Int} {m k i : Nat} (h : i ∈ boxT l s X Y m k) : i < l.length := by
  obtain ⟨_, _, h⟩ := mem_box.1 h
  obtain ⟨_, _, h⟩ := mem_col.1 h
  exact (mem_cell.1 h).1
theorem part_nodup (l : List (Int × Int)) (s X Y : Int) (m k j : Nat) : (boxT l s X Y m k ++ colT l s (X + (k : Int)) Y j).Nodup := by
  refine List.nodup_append.2 ⟨nodup_box _ _ _ _ _ _, nodup_col _ _ _ _ _, fun u hu v hv e => ?_⟩
  subst e
  obtain ⟨a, ha, hu⟩ := mem_box.1 hu
  obtain ⟨_, _, hu⟩ := mem_col.1 hu
  obtain ⟨_, _, hv⟩ := mem_col.1 hv
  have h1 := (mem_cell.1 hu).2.1
  have h2 := (mem_cell.1 hv).2.1
  simp only at h1 h2
  omega
theorem part_len (l : List (Int × Int)) (s X Y : Int) (m k j : Nat) : (boxT l s X Y m k ++ colT l s (X + (k : Int)) Y j).length ≤ l.length :=
  len_of (part_nodup l s X Y m k j) fun i hi => by
    rcases List.mem_append.1 hi with h | h
    · exact box_lt h
    · obtain ⟨_, _, h⟩ := mem_col.1 h
      exact (mem_cell.1 h).1
theorem sq_bound {d r : Int} (h : d * d ≤ r * r) (hr : 0 ≤ r) : -r ≤ d ∧ d ≤ r := by
  have e : (r + 1) * (r + 1) = r * r + 2 * r + 1 := by grind
  constructor
  · rcases Int.lt_or_le d (-r) with h1 | h1
    · have h2 : (r + 1) * (r + 1) ≤ (-d) * (-d) := Int.mul_le_mul (by omega) (by omega) (by omega) (by omega)
      have h3 : (-d) * (-d) = d * d := by grind
      omega
    · exact h1
  · rcases Int.lt_or_le r d with h1 | h1
    · have h2 : (r + 1) * (r + 1) ≤ d * d := Int.mul_le_mul (by omega) (by omega) (by omega) (by omega)
      omega
    · exact h1
theorem tdiv_mono {a b s : Int} (ha : 0 ≤ a) (hab : a ≤ b) (hs : 0 < s) : a.tdiv s ≤ b.tdiv s := by
  rw [Int.tdiv_eq_ediv_of_nonneg ha, Int.tdiv_eq_ediv_of_nonneg (by omega)]
  exact Int.ediv_le_ediv hs hab
theorem near_in {l : List (Int × Int)} {x y r : Int} {i : Nat} (hm : may x y) (hl : Good l) (hr : 0 ≤ r) (hi : i < l.length) (h : dq (x, y) l i ≤ r * r) :
    may (l.getD i (0, 0)).1 (l.getD i (0, 0)).2 ∧ (x - r ≤ (l.getD i (0, 0)).1 ∧ (l.getD i (0, 0)).1 ≤ x + r) ∧ (y - r ≤ (l.getD i (0, 0)).2 ∧ (l.getD i (0, 0)).2 ≤ y + r) := by
  have hg : may (l.getD i (0, 0)).1 (l.getD i (0, 0)).2 := by
    rw [List.getD_eq_getElem?_getD, List.getElem?_eq_getElem hi]
    exact hl _ (List.getElem_mem hi)
  unfold dq sq at h
  rw [if_pos ⟨hm, hg⟩] at h
  generalize (l.getD i (0, 0)).1 = u at *
  generalize (l.getD i (0, 0)).2 = v at *
  have h1 := sqn (x - u)
  have h2 := sqn (y - v)
  have h3 : (x - u) * (x - u) ≤ r * r := by simp only at h; grind
  have h4 : (y - v) * (y - v) ≤ r * r := by simp only at h; grind
  have h5 := sq_bound h3 hr
  have h6 := sq_bound h4 hr
  exact ⟨hg, by omega, by omega⟩
theorem cov_box {l : List (Int × Int)} {s x y r : Int} {lx ly : Int} {m k : Nat} (hm : may x y) (hl : Good l) (hs : 0 < s) (hr : 0 ≤ r)
    (h1 : lx = (max (x - r) 0).tdiv s) (h2 : ly = (max (y - r) 0).tdiv s) (h3 : lx + (k : Int) = (min (x + r) 67108863).tdiv s + 1) (h4 : ly + (m : Int) = (min (y + r) 67108863).tdiv s + 1) : Cov l x y r (boxT l s lx ly m k) := by
  refine ⟨nodup_box _ _ _ _ _ _, fun _ hi => box_lt hi, fun i hi hd => ?_⟩
  obtain ⟨hg, ⟨a1, a2⟩, b1, b2⟩ := near_in hm hl hr hi hd
  obtain ⟨⟨g1, g2⟩, g3, g4⟩ := hg
  have c1 := tdiv_mono (a := max (x - r) 0) (b := (l.getD i (0, 0)).1) (s := s) (by omega) (by omega) hs
  have c2 := tdiv_mono (a := (l.getD i (0, 0)).1) (b := min (x + r) 67108863) (s := s) (by omega) (by omega) hs
  have c3 := tdiv_mono (a := max (y - r) 0) (b := (l.getD i (0, 0)).2) (s := s) (by omega) (by omega) hs
  have c4 := tdiv_mono (a := (l.getD i (0, 0)).2) (b := min (y + r) 67108863) (s := s) (by omega) (by omega) hs
  refine mem_box.2 ⟨((l.getD i (0, 0)).1.tdiv s - lx).toNat, by omega, mem_col.2 ⟨((l.getD i (0, 0)).2.tdiv s - ly).toNat, by omega, mem_cell.2 ⟨hi, ?_, ?_⟩⟩⟩
  · simp only; omega
  · simp only; omega
end Go.Proofs.Ytddlenbahidkaaa.Gd

/- Layer 13 (geo), mathematics of a ring that is gone round by steps which turn at each corner; no program's text is named here. -/
import Derived.Test.YtngjgdikooaknaaGeM
namespace Go.Proofs.Ytngjgdikooaknaa.Ge

/-- The steps, and the corners ahead of each side. -/
def dx : Nat → Int
  | 0 => 0
  | 1 => -1
  | 2 => 0
  | 3 => 1
  | _ => 0
def dy : Nat → Int
  | 0 => 1
  | 1 => 0
  | 2 => -1
  | 3 => 0
  | _ => 1
def cx (r : Int) : Nat → Int
  | 0 => r
  | 1 => r
  | 2 => -r
  | 3 => -r
  | _ => r
def cy (r : Int) : Nat → Int
  | 0 => -r
  | 1 => r
  | 2 => r
  | 3 => -r
  | _ => -r
/-- The first k cells of a side. -/
def sd (r s k : Nat) : List C := (List.range k).map (fun i : Nat => (cx r s + dx s * ((i : Int) + 1), cy r s + dy s * ((i : Int) + 1)))
/-- All cells of the sides ahead of one. -/
def ahead (r : Nat) : Nat → List C
  | 0 => []
  | s + 1 => ahead r s ++ sd r s (2 * r)
theorem sd_zero (r s : Nat) : sd r s 0 = [] := rfl
theorem sd_next (r s k : Nat) : sd r s (k + 1) = sd r s k ++ [(cx r s + dx s * ((k : Int) + 1), cy r s + dy s * ((k : Int) + 1))] := by unfold sd; rw [List.range_succ, List.map_append]; rfl
theorem sd_len (r s k : Nat) : (sd r s k).length = k := by unfold sd; simp
theorem ahead_len (r s : Nat) : (ahead r s).length = s * (2 * r) := by
  induction s with
  | zero => simp [ahead]
  | succ s ih =>
    rw [ahead, List.length_append, ih, sd_len]
    generalize 2 * r = q
    rw [Nat.add_mul, Nat.one_mul]
/-- At a side's end stands the next corner. -/
theorem corner_x {r s : Nat} (hs : s < 4) : cx r s + dx s * ((2 * r : Nat) : Int) = cx r (s + 1) := by
  match s, hs with
  | 0, _ => simp [cx, dx]
  | 1, _ => simp only [cx, dx]; omega
  | 2, _ => simp [cx, dx]
  | 3, _ => simp only [cx, dx]; omega
theorem corner_y {r s : Nat} (hs : s < 4) : cy r s + dy s * ((2 * r : Nat) : Int) = cy r (s + 1) := by
  match s, hs with
  | 0, _ => simp only [cy, dy]; omega
  | 1, _ => simp [cy, dy]
  | 2, _ => simp only [cy, dy]; omega
  | 3, _ => simp [cy, dy]
/-- A turn of the step. -/
theorem turn_x {s : Nat} (hs : s < 4) : dx s * 0 - dy s * 1 = dx (s + 1) := by
  match s, hs with
  | 0, _ => rfl
  | 1, _ => rfl
  | 2, _ => rfl
  | 3, _ => rfl
theorem turn_y {s : Nat} (hs : s < 4) : dx s * 1 + dy s * 0 = dy (s + 1) := by
  match s, hs with
  | 0, _ => rfl
  | 1, _ => rfl
  | 2, _ => rfl
  | 3, _ => rfl
theorem small_d (s : Nat) : (-1 ≤ dx s ∧ dx s ≤ 1) ∧ -1 ≤ dy s ∧ dy s ≤ 1 := by
  match s with
  | 0 => decide
  | 1 => decide
  | 2 => decide
  | 3 => decide
  | s + 4 => exact ⟨⟨by show (-1 : Int) ≤ 0; omega, by show (0 : Int) ≤ 1; omega⟩, by show (-1 : Int) ≤ 1; omega, by show (1 : Int) ≤ 1; omega⟩
theorem small_c (r s : Nat) : (-(r : Int) ≤ cx r s ∧ cx r s ≤ r) ∧ -(r : Int) ≤ cy r s ∧ cy r s ≤ r := by
  match s with
  | 0 => simp only [cx, cy]; omega
  | 1 => simp only [cx, cy]; omega
  | 2 => simp only [cx, cy]; omega
  | 3 => simp only [cx, cy]; omega
  | s + 4 => simp only [cx, cy]; omega
/-- Where one is stays near. -/
theorem small_at {r s k : Nat} (hk : k ≤ 2 * r + 1) : (-(3 * (r : Int) + 1) ≤ cx r s + dx s * (k : Int) ∧ cx r s + dx s * (k : Int) ≤ 3 * (r : Int) + 1) ∧ -(3 * (r : Int) + 1) ≤ cy r s + dy s * (k : Int) ∧ cy r s + dy s * (k : Int) ≤ 3 * (r : Int) + 1 := by
  have h1 := small_c r s
  have h2 := small_d s
  have three : ∀ u : Int, -1 ≤ u ∧ u ≤ 1 → -(k : Int) ≤ u * k ∧ u * (k : Int) ≤ k := fun u hu => by
    have : u = -1 ∨ u = 0 ∨ u = 1 := by omega
    rcases this with rfl | rfl | rfl <;> omega
  have h3 := three _ h2.1
  have h4 := three _ h2.2
  omega
theorem ring_round {r : Nat} (h : 0 < r) : ring r = ahead r 4 := by
  unfold ring
  rw [if_neg (by omega)]
  show _ = ((([] ++ sd r 0 (2 * r)) ++ sd r 1 (2 * r)) ++ sd r 2 (2 * r)) ++ sd r 3 (2 * r)
  rw [List.nil_append, List.append_assoc, List.append_assoc]
  have e0 : sd r 0 (2 * r) = (List.range (2 * r)).map (fun i : Nat => ((r : Int), 1 - (r : Int) + (i : Int))) := List.map_congr_left fun i _ => by simp only [cx, dx, cy, dy, Prod.mk.injEq]; omega
  have e1 : sd r 1 (2 * r) = (List.range (2 * r)).map (fun i : Nat => ((r : Int) - 1 - (i : Int), (r : Int))) := List.map_congr_left fun i _ => by simp only [cx, dx, cy, dy, Prod.mk.injEq]; omega
  have e2 : sd r 2 (2 * r) = (List.range (2 * r)).map (fun i : Nat => (-(r : Int), (r : Int) - 1 - (i : Int))) := List.map_congr_left fun i _ => by simp only [cx, dx, cy, dy, Prod.mk.injEq]; omega
  have e3 : sd r 3 (2 * r) = (List.range (2 * r)).map (fun i : Nat => (1 - (r : Int) + (i : Int), -(r : Int))) := List.map_congr_left fun i _ => by simp only [cx, dx, cy, dy, Prod.mk.injEq]; omega
  rw [e0, e1, e2, e3]
end Go.Proofs.Ytngjgdikooaknaa.Ge

/- Lemmas that the proof stands on, in build order: GeM GfM0. -/
import Derived.WalkKit
/- Layer 13 (geo) as plain mathematics; no program's text is named here. -/
namespace Go.Proofs.Ytdhlbcbgbmgcjaa.Ge

def may (x y : Int) : Prop := (0 ≤ x ∧ x < 67108864) ∧ 0 ≤ y ∧ y < 67108864
instance (x y : Int) : Decidable (may x y) := by unfold may; infer_instance
/-- A square; on which side. -/
def sq (ax ay bx by_ : Int) : Int := if may ax ay ∧ may bx by_ then (ax - bx) * (ax - bx) + (ay - by_) * (ay - by_) else 0
def cross (ax ay bx by_ cx cy : Int) : Int := (bx - ax) * (cy - ay) - (by_ - ay) * (cx - ax)
def sgn (n : Int) : Int := if 0 < n then 1 else if n < 0 then -1 else 0
def side (ax ay bx by_ cx cy : Int) : Int := if may ax ay ∧ may bx by_ ∧ may cx cy then sgn (cross ax ay bx by_ cx cy) else 0
theorem mul_nn {a b : Int} (ha : 0 ≤ a) (hb : 0 ≤ b) : 0 ≤ a * b := Int.mul_nonneg ha hb
theorem sqn (a : Int) : 0 ≤ a * a := by
  rcases Int.le_total 0 a with h | h
  · exact Int.mul_nonneg h h
  · have := Int.mul_nonneg (show 0 ≤ -a by omega) (show 0 ≤ -a by omega)
    rwa [Int.neg_mul_neg] at this
theorem sq_sym (ax ay bx by_ : Int) : sq ax ay bx by_ = sq bx by_ ax ay := by
  unfold sq
  by_cases h : may ax ay ∧ may bx by_
  · rw [if_pos h, if_pos ⟨h.2, h.1⟩]
    grind
  · rw [if_neg h, if_neg (fun e => h ⟨e.2, e.1⟩)]
theorem sgn_neg (n : Int) : sgn (-n) = -sgn n := by unfold sgn; repeat (split <;> try omega)
theorem side_turn (ax ay bx by_ cx cy : Int) : side bx by_ ax ay cx cy = -side ax ay bx by_ cx cy := by
  unfold side
  by_cases h : may ax ay ∧ may bx by_ ∧ may cx cy
  · rw [if_pos h, if_pos ⟨h.2.1, h.1, h.2.2⟩, ← sgn_neg]
    congr 1
    unfold cross
    grind
  · rw [if_neg h, if_neg (fun e => h ⟨e.2.1, e.1, e.2.2⟩)]; rfl
theorem side_self (ax ay bx by_ : Int) : side ax ay bx by_ ax ay = 0 := by
  unfold side
  by_cases h : may ax ay ∧ may bx by_ ∧ may ax ay
  · rw [if_pos h]
    have e : cross ax ay bx by_ ax ay = 0 := by unfold cross; grind
    rw [e]; rfl
  · rw [if_neg h]
def ab (a b : Int) : Int := if a - b < b - a then b - a else a - b
theorem ab_sq (a b : Int) : ab a b * ab a b = (a - b) * (a - b) := by unfold ab; split <;> grind
theorem ab_nn (a b : Int) : 0 ≤ ab a b := by unfold ab; split <;> omega
theorem sq_both {ax ay bx by_ : Int} (ha : may ax ay) (hb : may bx by_) :
    sq ax ay bx by_ ≤ (ab ax bx + ab ay by_) * (ab ax bx + ab ay by_) ∧ (ab ax bx + ab ay by_) * (ab ax bx + ab ay by_) ≤ 2 * sq ax ay bx by_ := by
  unfold sq
  rw [if_pos ⟨ha, hb⟩, ← ab_sq, ← ab_sq]
  generalize hp : ab ax bx = p
  generalize hq : ab ay by_ = q
  have h1 : 0 ≤ p := by rw [← hp]; exact ab_nn _ _
  have h2 : 0 ≤ q := by rw [← hq]; exact ab_nn _ _
  have h3 := mul_nn h1 h2
  have h4 := sqn (p - q)
  have e1 : (p + q) * (p + q) = p * p + 2 * (p * q) + q * q := by grind
  have e2 : (p - q) * (p - q) = p * p - 2 * (p * q) + q * q := by grind
  rw [e2] at h4
  rw [e1]
  omega
/-- A root. -/
def IsRoot (n x : Int) : Prop := (n < 0 ∧ x = 0) ∨ (0 ≤ n ∧ 0 ≤ x ∧ x * x ≤ n ∧ n < (x + 1) * (x + 1))
theorem root_one {n x y : Int} (hx : IsRoot n x) (hy : IsRoot n y) : x = y := by
  rcases hx with ⟨a, rfl⟩ | ⟨a, b, c, d⟩
  · rcases hy with ⟨_, rfl⟩ | ⟨e, _⟩
    · rfl
    · omega
  · rcases hy with ⟨e, _⟩ | ⟨_, e, f, g⟩
    · omega
    · rcases Int.lt_trichotomy x y with h | h | h
      · have := Int.mul_le_mul (show x + 1 ≤ y by omega) (show x + 1 ≤ y by omega) (by omega) e
        omega
      · exact h
      · have := Int.mul_le_mul (show y + 1 ≤ x by omega) (show y + 1 ≤ x by omega) (by omega) b
        omega
/-- A step of halving. -/
theorem root_end {n low high : Int} (hn : 0 ≤ n) (h0 : 0 ≤ low) (h1 : low * low ≤ n) (h2 : n < high * high) (h : high - low ≤ 1) (h3 : low < high) : IsRoot n low := by
  obtain rfl : high = low + 1 := by omega
  exact .inr ⟨hn, h0, h1, h2⟩
theorem root_top {n : Int} (h : n ≤ 9223372036854775807) : n < 3037000500 * 3037000500 := by omega
/-- The cells of a ring, in its order. -/
abbrev C := Int × Int
def ring (r : Nat) : List C := if r = 0 then [(0, 0)] else
  (List.range (2 * r)).map (fun i : Nat => ((r : Int), 1 - (r : Int) + (i : Int))) ++ ((List.range (2 * r)).map (fun i : Nat => ((r : Int) - 1 - (i : Int), (r : Int))) ++
  ((List.range (2 * r)).map (fun i : Nat => (-(r : Int), (r : Int) - 1 - (i : Int))) ++ (List.range (2 * r)).map (fun i : Nat => (1 - (r : Int) + (i : Int), -(r : Int)))))
theorem ring_len {r : Nat} (h : 0 < r) : (ring r).length = 8 * r := by
  unfold ring
  rw [if_neg (by omega)]
  simp only [List.length_append, List.length_map, List.length_range]
  omega
def am (n : Int) : Int := if n < 0 then -n else n
def far (c : C) : Int := if am c.2 < am c.1 then am c.1 else am c.2
theorem ring_far {r : Nat} {c : C} (h : c ∈ ring r) : far c = r := by
  unfold ring at h
  by_cases h0 : r = 0
  · subst h0
    simp only [if_true, List.mem_singleton] at h
    subst h
    rfl
  · rw [if_neg h0] at h
    simp only [List.mem_append, List.mem_map, List.mem_range] at h
    rcases h with ⟨i, hi, rfl⟩ | ⟨i, hi, rfl⟩ | ⟨i, hi, rfl⟩ | ⟨i, hi, rfl⟩
    all_goals
      unfold far am
      simp only
      repeat (split <;> try omega)
theorem mem_ring {r : Nat} {x y : Int} (h : far (x, y) = r) : (x, y) ∈ ring r := by
  unfold far am at h
  simp only at h
  unfold ring
  by_cases h0 : r = 0
  · subst h0
    rw [if_pos rfl, List.mem_singleton, Prod.mk.injEq]
    constructor <;> (repeat (split at h <;> try omega))
  · rw [if_neg h0]
    simp only [List.mem_append, List.mem_map, List.mem_range, Prod.mk.injEq]
    have hx : -(r : Int) ≤ x ∧ x ≤ r := by constructor <;> (repeat (split at h <;> try omega))
    have hy : -(r : Int) ≤ y ∧ y ≤ r := by constructor <;> (repeat (split at h <;> try omega))
    have hc : x = r ∨ x = -(r : Int) ∨ y = r ∨ y = -(r : Int) := by repeat (split at h <;> try omega)
    by_cases c1 : x = r ∧ 1 - (r : Int) ≤ y
    · exact .inl ⟨(y - (1 - (r : Int))).toNat, by omega, by omega, by omega⟩
    by_cases c2 : y = r ∧ x ≤ (r : Int) - 1
    · exact .inr (.inl ⟨((r : Int) - 1 - x).toNat, by omega, by omega, by omega⟩)
    by_cases c3 : x = -(r : Int) ∧ y ≤ (r : Int) - 1
    · exact .inr (.inr (.inl ⟨((r : Int) - 1 - y).toNat, by omega, by omega, by omega⟩))
    · exact .inr (.inr (.inr ⟨(x - (1 - (r : Int))).toNat, by omega, by omega, by omega⟩))
theorem range_nodup {f : Nat → C} (n : Nat) (h : ∀ i j, f i = f j → i = j) : ((List.range n).map f).Nodup :=
  List.pairwise_map.2 (List.Pairwise.imp (fun hne e => hne (h _ _ e)) List.nodup_range)
theorem ring_nodup (r : Nat) : (ring r).Nodup := by
  unfold ring
  by_cases h0 : r = 0
  · rw [if_pos h0]; simp
  · rw [if_neg h0]
    refine List.nodup_append.2 ⟨range_nodup _ (fun i j e => by simp only [Prod.mk.injEq] at e; omega), List.nodup_append.2 ⟨range_nodup _ (fun i j e => by simp only [Prod.mk.injEq] at e; omega), List.nodup_append.2 ⟨range_nodup _ (fun i j e => by simp only [Prod.mk.injEq] at e; omega), range_nodup _ (fun i j e => by simp only [Prod.mk.injEq] at e; omega), ?_⟩, ?_⟩, ?_⟩
    all_goals
      intro a ha b hb e
      subst e
      simp only [List.mem_append, List.mem_map, List.mem_range] at ha hb
    · obtain ⟨i, hi, rfl⟩ := ha
      obtain ⟨j, hj, e⟩ := hb
      simp only [Prod.mk.injEq] at e
      omega
    · obtain ⟨i, hi, rfl⟩ := ha
      rcases hb with ⟨j, hj, e⟩ | ⟨j, hj, e⟩
      · simp only [Prod.mk.injEq] at e
        omega
      · simp only [Prod.mk.injEq] at e
        omega
    · obtain ⟨i, hi, rfl⟩ := ha
      rcases hb with ⟨j, hj, e⟩ | ⟨j, hj, e⟩ | ⟨j, hj, e⟩
      · simp only [Prod.mk.injEq] at e
        omega
      · simp only [Prod.mk.injEq] at e
        omega
      · simp only [Prod.mk.injEq] at e
        omega
/-- Where a cell is marked. -/
def mark (k : Nat) (c : C) : Int := (c.1 + k) * (2 * k + 1) + c.2 + k
theorem am_le {n : Int} {k : Nat} (h : am n ≤ k) : -(k : Int) ≤ n ∧ n ≤ k := by unfold am at h; split at h <;> omega
theorem far_le {c : C} {k : Nat} (h : far c ≤ k) : (-(k : Int) ≤ c.1 ∧ c.1 ≤ k) ∧ -(k : Int) ≤ c.2 ∧ c.2 ≤ k := by
  unfold far at h
  split at h
  · exact ⟨am_le h, am_le (by omega)⟩
  · exact ⟨am_le (by omega), am_le h⟩
theorem mark_lo {k : Nat} {c : C} (h : far c ≤ k) : 0 ≤ mark k c ∧ mark k c < (2 * k + 1) * (2 * k + 1) := by
  obtain ⟨⟨a, b⟩, d, e⟩ := far_le h
  unfold mark
  have h1 := mul_nn (show 0 ≤ c.1 + k by omega) (show (0 : Int) ≤ 2 * k + 1 by omega)
  have h2 := Int.mul_le_mul_of_nonneg_right (show c.1 + k ≤ 2 * k by omega) (show (0 : Int) ≤ 2 * k + 1 by omega)
  have h3 : (2 * (k : Int) + 1) * (2 * k + 1) = 2 * k * (2 * k + 1) + (2 * k + 1) := by grind
  rw [h3]
  omega
theorem mark_inj {k : Nat} {c d : C} (hc : far c ≤ k) (hd : far d ≤ k) (h : mark k c = mark k d) : c = d := by
  obtain ⟨⟨a1, a2⟩, a3, a4⟩ := far_le hc
  obtain ⟨⟨b1, b2⟩, b3, b4⟩ := far_le hd
  unfold mark at h
  have e : c.1 = d.1 := by
    rcases Int.lt_trichotomy c.1 d.1 with g | g | g
    · have := Int.mul_le_mul_of_nonneg_right (show c.1 + k + 1 ≤ d.1 + k by omega) (show (0 : Int) ≤ 2 * k + 1 by omega)
      have h3 : (c.1 + k + 1) * (2 * (k : Int) + 1) = (c.1 + k) * (2 * k + 1) + (2 * k + 1) := by grind
      rw [h3] at this
      omega
    · exact g
    · have := Int.mul_le_mul_of_nonneg_right (show d.1 + k + 1 ≤ c.1 + k by omega) (show (0 : Int) ≤ 2 * k + 1 by omega)
      have h3 : (d.1 + k + 1) * (2 * (k : Int) + 1) = (d.1 + k) * (2 * k + 1) + (2 * k + 1) := by grind
      rw [h3] at this
      omega
  rw [e] at h
  exact Prod.ext e (by omega)
theorem far_ab {x y : Int} {k : Nat} (hx : -(k : Int) ≤ x ∧ x ≤ k) (hy : -(k : Int) ≤ y ∧ y ≤ k) : 0 ≤ far (x, y) ∧ far (x, y) ≤ k := by
  unfold far am
  simp only
  constructor <;> (repeat (split <;> try omega))
/-- Each place is some cell's. -/
theorem mark_all {k : Nat} {i : Int} (h0 : 0 ≤ i) (h1 : i < (2 * k + 1) * (2 * k + 1)) : ∃ c : C, far c ≤ k ∧ 0 ≤ far c ∧ mark k c = i := by
  have hp : (0 : Int) < 2 * k + 1 := by omega
  have h2 := Int.emod_add_mul_ediv i (2 * k + 1)
  have h3 := Int.emod_nonneg i (show (2 * (k : Int) + 1) ≠ 0 by omega)
  have h4 := Int.emod_lt_of_pos i hp
  have h5 : 0 ≤ i / (2 * k + 1) := Int.ediv_nonneg h0 (by omega)
  have h6 : i / (2 * k + 1) < 2 * k + 1 := Int.ediv_lt_of_lt_mul hp h1
  generalize i / (2 * (k : Int) + 1) = q at *
  generalize i % (2 * (k : Int) + 1) = m at *
  have hf := far_ab (x := q - k) (y := m - k) (k := k) (by omega) (by omega)
  refine ⟨(q - k, m - k), hf.2, hf.1, ?_⟩
  unfold mark
  simp only
  have h7 : (q - k + k) * (2 * (k : Int) + 1) = (2 * k + 1) * q := by grind
  rw [h7]
  omega
end Go.Proofs.Ytdhlbcbgbmgcjaa.Ge

/- Layer 15 (graph), mathematics: networks, which are valid; no program's text is named here. -/
namespace Go.Proofs.Ytdhlbcbgbmgcjaa.Gf
open Go.RowKit Ge

/-- A link: two stops and a weight. -/
abbrev L3 := Int × Int × Int
structure Nt where
  ver : Int
  st : List C
  lk : List L3
def Nt.zero : Nt := ⟨0, [], []⟩
/-- The link number i may stand there. -/
def LkOk (n : Nat) (L : List L3) (i : Nat) : Prop :=
  ∃ l, L[i]? = some l ∧ 0 ≤ l.1 ∧ l.1 < l.2.1 ∧ l.2.1 < (n : Int) ∧ 1 ≤ l.2.2 ∧ l.2.2 < 1048576 ∧ (0 < i → ∃ k, L[i - 1]? = some k ∧ (k.1 < l.1 ∨ (k.1 = l.1 ∧ k.2.1 < l.2.1)))
def LksOk (n : Nat) (L : List L3) : Prop := ∀ i, i < L.length → LkOk n L i
def StsOk (l : List C) : Prop := ∀ i, i < l.length → ∃ p, l[i]? = some p ∧ may p.1 p.2
open Classical in
/-- The error of a network. -/
noncomputable def check (N : Nt) : Nat :=
  if 4096 < N.st.length ∨ 16384 < N.lk.length then 3 else if N.ver < 1 ∨ 1048576 < N.ver then 2 else if StsOk N.st ∧ LksOk N.st.length N.lk then 0 else 2
section
variable {N : Nt}
theorem check_3 (h : 4096 < N.st.length ∨ 16384 < N.lk.length) : check N = 3 := by unfold check; rw [if_pos h]
theorem check_2 (h : ¬ (4096 < N.st.length ∨ 16384 < N.lk.length)) (hv : N.ver < 1 ∨ 1048576 < N.ver) : check N = 2 := by unfold check; rw [if_neg h, if_pos hv]
theorem check_no (h : ¬ (4096 < N.st.length ∨ 16384 < N.lk.length)) (hv : ¬ (N.ver < 1 ∨ 1048576 < N.ver)) (ho : ¬ (StsOk N.st ∧ LksOk N.st.length N.lk)) : check N = 2 := by unfold check; rw [if_neg h, if_neg hv, if_neg ho]
theorem check_0 (h : ¬ (4096 < N.st.length ∨ 16384 < N.lk.length)) (hv : ¬ (N.ver < 1 ∨ 1048576 < N.ver)) (ho : StsOk N.st ∧ LksOk N.st.length N.lk) : check N = 0 := by unfold check; rw [if_neg h, if_neg hv, if_pos ho]
structure Valid (N : Nt) : Prop where
  ns : N.st.length ≤ 4096
  nl : N.lk.length ≤ 16384
  v1 : 1 ≤ N.ver
  v2 : N.ver ≤ 1048576
  st : StsOk N.st
  lk : LksOk N.st.length N.lk
theorem valid_of (h : check N = 0) : Valid N := by
  unfold check at h
  split at h
  · cases h
  · split at h
    · cases h
    · split at h
      · next h1 h2 h3 => exact ⟨by omega, by omega, by omega, by omega, h3.1, h3.2⟩
      · cases h
theorem check_le : check N = 0 ∨ check N = 2 ∨ check N = 3 := by
  unfold check
  repeat' split
  all_goals simp
theorem check_small (h : N.st.length ≤ 4096) (h' : N.lk.length ≤ 16384) (hn : check N ≠ 0) : check N = 2 := by
  unfold check at hn ⊢
  rw [if_neg (by omega)] at hn ⊢
  split
  · rfl
  · next h1 =>
    rw [if_neg h1] at hn
    split
    · next h2 => rw [if_pos h2] at hn; exact absurd rfl hn
    · rfl
end
end Go.Proofs.Ytdhlbcbgbmgcjaa.Gf

/- Layer 14 (grid), mathematics: what is kept of the stops around, sorted, is the stops near. -/
import Derived.Test.YtddlenbahidkaaaGdZ
import Derived.Test.YtddlenbahidkaaaGdB
namespace Go.Proofs.Ytddlenbahidkaaa.Gd
open Go.RowKit Rec Ints Ge Go.Sort Go.Shelf Go.Lib

/-- Stops with their squares; those within a reach. -/
def pt (f : Nat → Int) (i : Nat) : C := ((i : Int), f i)
def pts (f : Nat → Int) (R : Int) (L : List Nat) : List C := (L.filter fun i => decide (f i ≤ R)).map (pt f)
theorem pts_len (f : Nat → Int) (R : Int) (L : List Nat) : (pts f R L).length ≤ L.length := by
  unfold pts
  rw [List.length_map]
  exact List.length_filter_le _ _
theorem pts_yes {f : Nat → Int} {R : Int} {L : List Nat} {k i : Nat} (h : L[k]? = some i) (hf : f i ≤ R) : pts f R (L.take (k + 1)) = pts f R (L.take k) ++ [pt f i] := by
  unfold pts
  rw [List.take_add_one, h, Option.toList_some, List.filter_append, List.map_append]
  simp [hf]
theorem pts_no {f : Nat → Int} {R : Int} {L : List Nat} {k i : Nat} (h : L[k]? = some i) (hf : ¬ f i ≤ R) : pts f R (L.take (k + 1)) = pts f R (L.take k) := by
  unfold pts
  rw [List.take_add_one, h, Option.toList_some, List.filter_append, List.map_append]
  simp [hf]
theorem mem_pts {f : Nat → Int} {R : Int} {L : List Nat} {p : C} : p ∈ pts f R L ↔ ∃ i, i ∈ L ∧ f i ≤ R ∧ p = pt f i := by
  unfold pts
  simp only [List.mem_map, List.mem_filter, decide_eq_true_eq]
  constructor
  · rintro ⟨i, ⟨h1, h2⟩, rfl⟩
    exact ⟨i, h1, h2, rfl⟩
  · rintro ⟨i, h1, h2, rfl⟩
    exact ⟨i, ⟨h1, h2⟩, rfl⟩
theorem pt_inj {f : Nat → Int} {i j : Nat} (h : pt f i = pt f j) : i = j := by
  unfold pt at h
  have := (Prod.mk.inj h).1
  omega
theorem srt_all {l : List C} {x y r : Int} {L : List Nat} (h : Cov l x y r L) : srtP (pts (dq (x, y) l) (r * r) L) = (all (dq (x, y) l) l.length (r * r)).map (pt (dq (x, y) l)) := by
  obtain ⟨h1, h2, h3⟩ := h
  generalize hf : dq (x, y) l = f at *
  generalize r * r = R at *
  have hperm : (srtP (pts f R L)).Perm (pts f R L) := List.mergeSort_perm _ _
  have hnd : (pts f R L).Nodup := by
    unfold pts
    exact List.pairwise_map.2 ((h1.filter _).imp fun hne e => hne (pt_inj e))
  have hnd2 : (srtP (pts f R L)).Nodup := hperm.nodup_iff.2 hnd
  have hle : (srtP (pts f R L)).Pairwise (fun a b => (!ltOf cf b a) = true) := List.pairwise_mergeSort (fun a b c hab hbc => by
      simp only [Bool.not_eq_true'] at *
      exact cf_swo.ntrans _ _ _ hbc hab) (fun a b => by
      rw [lt_cf, lt_cf]
      simp only [Bool.or_eq_true, Bool.not_eq_true', decide_eq_false_iff_not]
      omega) _
  -- as numbers
  have hM : (srtP (pts f R L)) = ((srtP (pts f R L)).map fun p => p.1.toNat).map (pt f) := by
    rw [List.map_map]
    conv => lhs; rw [← List.map_id (srtP (pts f R L))]
    refine List.map_congr_left fun p hp => ?_
    obtain ⟨i, _, _, rfl⟩ := mem_pts.1 (hperm.mem_iff.1 hp)
    simp [pt]
  have hall : ((srtP (pts f R L)).map fun p => p.1.toNat) = all f l.length R := by
    refine all_one (List.pairwise_map.2 ((hle.and hnd2).imp_of_mem fun {a b} ha hb hab => ?_)) fun i => ?_
    · obtain ⟨i, _, _, rfl⟩ := mem_pts.1 (hperm.mem_iff.1 ha)
      obtain ⟨j, _, _, rfl⟩ := mem_pts.1 (hperm.mem_iff.1 hb)
      have h4 : ltOf cf (pt f j) (pt f i) = false := by simpa using hab.1
      have h5 : i ≠ j := fun e => hab.2 (by rw [e])
      rw [lt_cf] at h4
      have h6 : ¬ (f j < f i ∨ f j = f i ∧ (j : Int) < (i : Int)) := of_decide_eq_false h4
      show lt f ((i : Int)).toNat ((j : Int)).toNat
      rw [Int.toNat_natCast, Int.toNat_natCast]
      unfold lt
      omega
    · simp only [List.mem_map]
      constructor
      · rintro ⟨p, hp, rfl⟩
        obtain ⟨i, hi, hR, rfl⟩ := mem_pts.1 (hperm.mem_iff.1 hp)
        show ((i : Int)).toNat < l.length ∧ f ((i : Int)).toNat ≤ R
        rw [Int.toNat_natCast]
        exact ⟨h2 i hi, hR⟩
      · rintro ⟨hi, hR⟩
        exact ⟨pt f i, hperm.mem_iff.2 (mem_pts.2 ⟨i, h3 i hi hR, hR, rfl⟩), by simp [pt]⟩
  rw [← hall]
  exact hM
theorem map_fst (f : Nat → Int) (L : List Nat) : (L.map (pt f)).map (·.1) = nums L := by
  unfold nums
  rw [List.map_map]
  rfl

/-- Which one is nearest so far. -/
def Best (f : Nat → Int) (k b : Nat) : Prop := ∀ j, j < k → j = b ∨ lt f b j
theorem best_step {f : Nat → Int} {k b : Nat} (h : Best f k b) : Best f (k + 1) (if cf (pt f k) (pt f b) < 0 then k else b) := by
  intro j hj
  have hc := cf_lt (pt f k) (pt f b)
  simp only [pt] at hc
  by_cases h0 : cf (pt f k) (pt f b) < 0
  · rw [if_pos h0]
    have h1 := hc.1 h0
    rcases Nat.lt_or_ge j k with hjk | hjk
    · rcases h j hjk with rfl | h2
      · right; unfold lt; omega
      · right; unfold lt at *; omega
    · left; omega
  · rw [if_neg h0]
    have h1 : ¬ (f k < f b ∨ f k = f b ∧ (k : Int) < (b : Int)) := fun h => h0 (hc.2 h)
    rcases Nat.lt_or_ge j k with hjk | hjk
    · exact h j hjk
    · have : j = k := by omega
      subst this
      by_cases hb : j = b
      · exact .inl hb
      · right; unfold lt; omega
theorem best_near {l : List C} {x y : Int} {b : Nat} (hb : b < l.length) (h : Best (dq (x, y) l) l.length b) : near (x, y) l 134217728 1 = [b] := by
  have hall : ∀ i, dq (x, y) l i ≤ 134217728 * 134217728 := fun i => by have := (dq_small (x, y) l i).2; omega
  have hn : (all (dq (x, y) l) l.length (134217728 * 134217728))[0]? = some b := next_is ⟨hb, hall b, by simp⟩ fun j hj => h j hj.1
  unfold near
  rcases he : all (dq (x, y) l) l.length (134217728 * 134217728) with _ | ⟨u, t⟩
  · rw [he] at hn; cases hn
  · rw [he] at hn
    simp at hn
    subst hn
    rfl
theorem near_void {l : List C} {x y : Int} (h : l.length = 0) : near (x, y) l 134217728 1 = [] := by
  have := near_len (x, y) l 134217728 1
  exact List.eq_nil_of_length_eq_zero (by omega)
end Go.Proofs.Ytddlenbahidkaaa.Gd

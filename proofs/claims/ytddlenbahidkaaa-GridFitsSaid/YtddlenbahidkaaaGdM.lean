/- Layer 14 (grid), mathematics: stops near a place, in order; no program's text is named here. -/
import Derived.Test.YtddlenbahidkaaaGeM
namespace Go.Proofs.Ytddlenbahidkaaa.Gd
open Ge

/-- Which one of two numbers comes first: by a value, then by itself. -/
def lt (f : Nat → Int) (i j : Nat) : Prop := f i < f j ∨ (f i = f j ∧ i < j)
instance (f : Nat → Int) (i j : Nat) : Decidable (lt f i j) := by unfold lt; infer_instance
def ins (f : Nat → Int) (i : Nat) : List Nat → List Nat
  | [] => [i]
  | j :: t => if lt f i j then i :: j :: t else j :: ins f i t
def srt (f : Nat → Int) : List Nat → List Nat
  | [] => []
  | i :: t => ins f i (srt f t)
variable {f : Nat → Int}
theorem lt_trans {i j k : Nat} (h : lt f i j) (h' : lt f j k) : lt f i k := by unfold lt at *; omega
theorem lt_asymm {i j : Nat} (h : lt f i j) (h' : lt f j i) : False := by unfold lt at *; omega
theorem lt_irrefl {i : Nat} (h : lt f i i) : False := lt_asymm h h
theorem lt_total {i j : Nat} (h : i ≠ j) : lt f i j ∨ lt f j i := by unfold lt; omega
theorem ins_perm (i : Nat) : ∀ L : List Nat, (ins f i L).Perm (i :: L)
  | [] => List.Perm.refl _
  | j :: t => by
    unfold ins
    split
    · exact List.Perm.refl _
    · exact ((ins_perm i t).cons j).trans (List.Perm.swap i j t)
theorem srt_perm : ∀ L : List Nat, (srt f L).Perm L
  | [] => List.Perm.refl _
  | i :: t => (ins_perm i _).trans ((srt_perm t).cons i)
theorem ins_sorted {i : Nat} : ∀ {L : List Nat}, L.Pairwise (lt f) → i ∉ L → (ins f i L).Pairwise (lt f)
  | [], _, _ => List.pairwise_singleton _ _
  | j :: t, h, hn => by
    unfold ins
    split
    · next hij =>
      refine List.pairwise_cons.2 ⟨fun k hk => ?_, h⟩
      rcases List.mem_cons.1 hk with rfl | hk
      · exact hij
      · exact lt_trans hij ((List.pairwise_cons.1 h).1 k hk)
    · next hij =>
      refine List.pairwise_cons.2 ⟨fun k hk => ?_, ins_sorted (List.pairwise_cons.1 h).2 (fun hm => hn (List.mem_cons_of_mem _ hm))⟩
      rcases List.mem_cons.1 ((ins_perm i t).mem_iff.1 hk) with rfl | hk
      · rcases lt_total (f := f) (fun e : k = j => hn (by rw [e]; exact List.mem_cons_self)) with h1 | h1
        · exact absurd h1 hij
        · exact h1
      · exact (List.pairwise_cons.1 h).1 k hk
theorem srt_sorted : ∀ {L : List Nat}, L.Nodup → (srt f L).Pairwise (lt f)
  | [], _ => List.Pairwise.nil
  | _ :: t, h => ins_sorted (srt_sorted (List.nodup_cons.1 h).2) (fun hm => (List.nodup_cons.1 h).1 ((srt_perm t).mem_iff.1 hm))
/-- There is one list in order. -/
theorem sorted_one : ∀ {L M : List Nat}, L.Perm M → L.Pairwise (lt f) → M.Pairwise (lt f) → L = M
  | [], M, h, _, _ => (List.Perm.nil_eq h)
  | a :: t, [], h, _, _ => by cases h.length_eq
  | a :: t, b :: u, h, h1, h2 => by
    have e : a = b := by
      rcases Nat.decEq a b with hne | rfl
      · have ha : a ∈ u := (List.mem_cons.1 (h.mem_iff.1 List.mem_cons_self)).resolve_left hne
        have hb : b ∈ t := (List.mem_cons.1 (h.mem_iff.2 List.mem_cons_self)).resolve_left (fun e => hne e.symm)
        exact (lt_asymm ((List.pairwise_cons.1 h1).1 b hb) ((List.pairwise_cons.1 h2).1 a ha)).elim
      · rfl
    subst e
    rw [sorted_one (List.Perm.cons_inv h) (List.pairwise_cons.1 h1).2 (List.pairwise_cons.1 h2).2]
theorem nodup_of {L : List Nat} (h : L.Pairwise (lt f)) : L.Nodup := h.imp fun h e => by subst e; exact lt_irrefl h

/-- All numbers below n whose value is at most R, in order. -/
def all (f : Nat → Int) (n : Nat) (R : Int) : List Nat := srt f ((List.range n).filter (fun i => decide (f i ≤ R)))
theorem all_sorted (n : Nat) (R : Int) : (all f n R).Pairwise (lt f) := srt_sorted (List.nodup_range.filter _)
theorem mem_all {n : Nat} {R : Int} {i : Nat} : i ∈ all f n R ↔ i < n ∧ f i ≤ R := by
  unfold all
  rw [(srt_perm _).mem_iff]
  simp
theorem all_len (n : Nat) (R : Int) : (all f n R).length ≤ n := by
  unfold all
  rw [(srt_perm _).length_eq]
  have := List.length_filter_le (fun i => decide (f i ≤ R)) (List.range n)
  rwa [List.length_range] at this
/-- What has the same elements and is in order is it. -/
theorem all_one {n : Nat} {R : Int} {L : List Nat} (h : L.Pairwise (lt f)) (hm : ∀ i, i ∈ L ↔ i < n ∧ f i ≤ R) : L = all f n R := by
  refine sorted_one ((List.perm_ext_iff_of_nodup (nodup_of h) (nodup_of (all_sorted n R))).2 fun i => ?_) h (all_sorted n R)
  rw [hm i, mem_all]
/-- Who comes next. -/
def Cand (f : Nat → Int) (n : Nat) (R : Int) (k i : Nat) : Prop := i < n ∧ f i ≤ R ∧ i ∉ (all f n R).take k
theorem next_is {n k b : Nat} {R : Int} (h : Cand f n R k b) (hb : ∀ j, Cand f n R k j → j = b ∨ lt f b j) : (all f n R)[k]? = some b := by
  have hs := all_sorted (f := f) n R
  have hmem : b ∈ all f n R := mem_all.2 ⟨h.1, h.2.1⟩
  have hk : k < (all f n R).length := by
    rcases Nat.lt_or_ge k (all f n R).length with h1 | h1
    · exact h1
    · exact absurd hmem (by have := h.2.2; rwa [List.take_of_length_le h1] at this)
  rw [List.getElem?_eq_getElem hk]
  congr 1
  have hd : (all f n R).drop k = (all f n R)[k] :: (all f n R).drop (k + 1) := List.drop_eq_getElem_cons hk
  have hsplit := List.take_append_drop k (all f n R)
  have hbd : b ∈ (all f n R).drop k := by
    rw [← hsplit] at hmem
    exact (List.mem_append.1 hmem).resolve_left h.2.2
  have hsd : ((all f n R).drop k).Pairwise (lt f) := hs.sublist (List.drop_sublist k _)
  rw [hd] at hbd hsd
  have hcand : Cand f n R k (all f n R)[k] := by
    have hm := mem_all.1 (List.getElem_mem hk)
    refine ⟨hm.1, hm.2, fun ht => ?_⟩
    have hs' := hs
    rw [← hsplit, hd] at hs'
    exact lt_irrefl ((List.pairwise_append.1 hs').2.2 _ ht _ List.mem_cons_self)
  rcases hb _ hcand with e | h1
  · exact e
  · rcases List.mem_cons.1 hbd with e | h2
    · exact e.symm
    · exact (lt_asymm h1 ((List.pairwise_cons.1 hsd).1 b h2)).elim
theorem no_next {n k : Nat} {R : Int} (h : ∀ j, ¬ Cand f n R k j) : (all f n R).length ≤ k := by
  rcases Nat.lt_or_ge k (all f n R).length with hk | hk
  · exfalso
    have hm := mem_all.1 (List.getElem_mem hk)
    refine h _ ⟨hm.1, hm.2, fun ht => ?_⟩
    have hs' := all_sorted (f := f) n R
    rw [← List.take_append_drop k (all f n R), List.drop_eq_getElem_cons hk] at hs'
    exact lt_irrefl ((List.pairwise_append.1 hs').2.2 _ ht _ List.mem_cons_self)
  · exact hk
/-- A greater reach keeps the first ones. -/
theorem filter_front {R : Int} : ∀ {L : List Nat}, L.Pairwise (lt f) → L.filter (fun i => decide (f i ≤ R)) = L.take (L.filter (fun i => decide (f i ≤ R))).length
  | [], _ => rfl
  | a :: t, h => by
    by_cases ha : f a ≤ R
    · rw [List.filter_cons_of_pos (by simpa using ha)]
      rw [List.length_cons, List.take_succ_cons, ← filter_front (List.pairwise_cons.1 h).2]
    · have e : (a :: t).filter (fun i => decide (f i ≤ R)) = [] := by
        rw [List.filter_eq_nil_iff]
        intro b hb
        rcases List.mem_cons.1 hb with rfl | hb
        · simpa using ha
        · have := (List.pairwise_cons.1 h).1 b hb
          unfold lt at this
          simp
          omega
      rw [e]
      rfl
theorem all_front {n : Nat} {R R' : Int} (h : R ≤ R') : all f n R = (all f n R').take (all f n R).length := by
  have e : all f n R = (all f n R').filter (fun i => decide (f i ≤ R)) := by
    refine (all_one ((all_sorted n R').sublist List.filter_sublist) fun i => ?_).symm
    rw [List.mem_filter, mem_all]
    simp
    omega
  rw [e]
  exact filter_front (all_sorted n R')

/-- The squares from a place. -/
def dq (p : Int × Int) (l : List (Int × Int)) (i : Nat) : Int := sq p.1 p.2 (l.getD i (0, 0)).1 (l.getD i (0, 0)).2
def near (p : Int × Int) (l : List (Int × Int)) (reach : Int) (most : Nat) : List Nat := (all (dq p l) l.length (reach * reach)).take most
def Good (l : List (Int × Int)) : Prop := ∀ q ∈ l, may q.1 q.2
instance (l : List (Int × Int)) : Decidable (Good l) := inferInstanceAs (Decidable (∀ q ∈ l, may q.1 q.2))
/-- May there be such a grid? The error. -/
def right (l : List (Int × Int)) (s : Int) : Nat := if 4096 < l.length then 3 else if s < 1 ∨ 67108864 < s then 2 else if Good l then 0 else 2
def cell (l : List (Int × Int)) (s : Int) (c : Int × Int) : List Nat := (List.range l.length).filter fun i => decide ((l.getD i (0, 0)).1.tdiv s = c.1) && decide ((l.getD i (0, 0)).2.tdiv s = c.2)
theorem near_len (p : Int × Int) (l : List (Int × Int)) (reach : Int) (most : Nat) : (near p l reach most).length ≤ l.length := by
  unfold near
  have := all_len (f := dq p l) l.length (reach * reach)
  rw [List.length_take]
  omega
theorem near_le (p : Int × Int) (l : List (Int × Int)) (reach : Int) (most : Nat) : (near p l reach most).length ≤ most := by
  unfold near
  rw [List.length_take]
  omega
theorem near_lt {p : Int × Int} {l : List (Int × Int)} {reach : Int} {most i : Nat} (h : i ∈ near p l reach most) : i < l.length := (mem_all.1 (List.mem_of_mem_take h)).1
theorem cell_len (l : List (Int × Int)) (s : Int) (c : Int × Int) : (cell l s c).length ≤ l.length := by
  unfold cell
  have := List.length_filter_le (fun i => decide ((l.getD i (0, 0)).1.tdiv s = c.1) && decide ((l.getD i (0, 0)).2.tdiv s = c.2)) (List.range l.length)
  rwa [List.length_range] at this
theorem near_whole {p : Int × Int} {l : List (Int × Int)} {reach : Int} {most : Nat} (h : l.length ≤ most) : near p l reach most = all (dq p l) l.length (reach * reach) := by
  unfold near
  exact List.take_of_length_le (Nat.le_trans (all_len _ _) h)
/-- A greater reach finds no fewer, and the same first ones. -/
theorem near_more {p : Int × Int} {l : List (Int × Int)} {r r' : Int} {most : Nat} (h : l.length ≤ most) (h0 : 0 ≤ r) (hr : r ≤ r') :
    (near p l r most).length ≤ (near p l r' most).length ∧ (near p l r' most).take (near p l r most).length = near p l r most := by
  rw [near_whole h, near_whole h]
  have hrr : r * r ≤ r' * r' := Int.mul_le_mul hr hr h0 (by omega)
  have e := all_front (f := dq p l) (n := l.length) hrr
  refine ⟨?_, e.symm⟩
  have := congrArg List.length e
  rw [List.length_take] at this
  omega
/-- Who is at a place: all that are just there. -/
theorem near_zero {p : Int × Int} {l : List (Int × Int)} {i most : Nat} (hp : may p.1 p.2) (hl : Good l) (hm : l.length ≤ most) : i ∈ near p l 0 most ↔ l[i]? = some p := by
  rw [near_whole hm, mem_all]
  have hz : (0 : Int) * 0 = 0 := rfl
  rw [hz]
  constructor
  · rintro ⟨hi, h⟩
    unfold dq at h
    rw [List.getD_eq_getElem?_getD, List.getElem?_eq_getElem hi, Option.getD_some] at h
    have hq := hl _ (List.getElem_mem hi)
    unfold sq at h
    rw [if_pos ⟨hp, hq⟩] at h
    have h1 := sqn (p.1 - (l[i]).1)
    have h2 := sqn (p.2 - (l[i]).2)
    have z1 : (p.1 - (l[i]).1) * (p.1 - (l[i]).1) = 0 := by omega
    have z2 : (p.2 - (l[i]).2) * (p.2 - (l[i]).2) = 0 := by omega
    have y1 : p.1 - (l[i]).1 = 0 := (Int.mul_eq_zero.1 z1).elim id id
    have y2 : p.2 - (l[i]).2 = 0 := (Int.mul_eq_zero.1 z2).elim id id
    rw [List.getElem?_eq_getElem hi]
    congr 1
    exact Prod.ext (by omega) (by omega)
  · intro h
    obtain ⟨hi, e⟩ := List.getElem?_eq_some_iff.1 h
    refine ⟨hi, ?_⟩
    unfold dq
    rw [List.getD_eq_getElem?_getD, h, Option.getD_some]
    unfold sq
    rw [if_pos ⟨hp, hp⟩, Int.sub_self, Int.sub_self]
    decide
theorem dq_small (p : Int × Int) (l : List (Int × Int)) (i : Nat) : 0 ≤ dq p l i ∧ dq p l i ≤ 9007199254740992 := by
  unfold dq sq
  split
  · next h =>
    obtain ⟨⟨⟨a1, a2⟩, a3, a4⟩, ⟨b1, b2⟩, b3, b4⟩ := h
    generalize (l.getD i (0, 0)).1 = u at *
    generalize (l.getD i (0, 0)).2 = v at *
    have h1 := sqn (p.1 - u)
    have h2 := sqn (p.2 - v)
    have k1 : (p.1 - u).natAbs * (p.1 - u).natAbs ≤ 67108864 * 67108864 := Nat.mul_le_mul (by omega) (by omega)
    have k2 : (p.2 - v).natAbs * (p.2 - v).natAbs ≤ 67108864 * 67108864 := Nat.mul_le_mul (by omega) (by omega)
    rw [← Int.natAbs_mul] at k1 k2
    omega
  · omega
/-- The chapter's example. -/
theorem near_ex : near (0, 0) [(0, 0), (3, 4)] 5 9 = [0, 1] := by decide
end Go.Proofs.Ytddlenbahidkaaa.Gd

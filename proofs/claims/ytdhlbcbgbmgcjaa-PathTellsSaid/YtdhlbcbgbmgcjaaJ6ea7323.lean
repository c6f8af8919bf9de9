/- Lemmas that the proof stands on, in build order: PtM GeO0 GfO0 PtO0. -/
import Derived.Test.YtdhlbcbgbmgcjaaProg
import Derived.WalkMore
import Derived.Test.YtdhlbcbgbmgcjaaJ20d5a7c
import Derived.Test.YtdhlbcbgbmgcjaaJ3cf8a1e
import Derived.Test.YtdhlbcbgbmgcjaaJ51c2dda
/- Layer 17 (path), mathematics: distances and best ways of a network, ways' weights; no program's text is named here. -/
namespace Go.Proofs.Ytdhlbcbgbmgcjaa.Pt
open Go.RowKit Ge Gf Pa

/-- A distance as a number: -1: none. -/
def fz : Option Nat → Int
  | none => -1
  | some m => (m : Int)
def dis (N : Nt) (s : Nat) : D := turns (nlk N.lk) N.st.length (Pa.start s)
def farL (N : Nt) (s : Nat) : List Int := (List.range N.st.length).map fun v => fz (dis N s v)
theorem far_len (N : Nt) (s : Nat) : (farL N s).length = N.st.length := by unfold farL; simp
theorem far_at {N : Nt} {s v : Nat} (h : v < N.st.length) : (farL N s)[v]? = some (fz (dis N s v)) := by unfold farL; simp [h]
theorem nlk_pos {N : Nt} (h : Valid N) : ∀ l ∈ nlk N.lk, 0 < l.2.2 := fun l hl => by
  unfold nlk at hl
  obtain ⟨k, hk, rfl⟩ := List.mem_map.1 hl
  have := link_at h hk
  show 0 < k.2.2.toNat
  omega
theorem dis_is {N : Nt} (h : Valid N) (s : Nat) : Is (nlk N.lk) s (dis N s) := turns_is (nlk_pos h) (nlk_lt h) (by unfold Pa.start; simp) (Pa.start_sd _ _)
theorem asc_one {n : Nat} : ∀ {L : List L3}, Asc L → ∀ {l k : L3}, l ∈ L → k ∈ L → l.1 = k.1 → l.2.1 = k.2.1 → l = k
  | [], _, l, k, hl, _, _, _ => by cases hl
  | x :: t, h, l, k, hl, hk, e1, e2 => by
    rcases List.mem_cons.1 hl with rfl | hl' <;> rcases List.mem_cons.1 hk with rfl | hk'
    · rfl
    · exact absurd ⟨e1.symm, e2.symm⟩ (h.1 k hk')
    · exact absurd ⟨e1, e2⟩ (h.1 l hl')
    · exact asc_one (n := n) h.2 hl' hk' e1 e2
/-- Links, as the weights tell them. -/
theorem e_wt {N : Nt} (h : Valid N) {u v w : Nat} : E (nlk N.lk) u v w ↔ (wt N.lk (u : Int) (v : Int) = (w : Int) ∧ 0 < w) := by
  have back : ∀ {u v : Nat}, (u, v, w) ∈ nlk N.lk → ∃ l ∈ N.lk, joins (u : Int) (v : Int) l = true ∧ l.2.2 = (w : Int) := fun {u v} hm => by
    unfold nlk at hm
    obtain ⟨k, hk, e⟩ := List.mem_map.1 hm
    obtain ⟨h1, h2, h3, h4, h5⟩ := link_at h hk
    have e1 := (Prod.mk.inj e).1
    have e2 := (Prod.mk.inj (Prod.mk.inj e).2).1
    have e3 := (Prod.mk.inj (Prod.mk.inj e).2).2
    exact ⟨k, hk, joins_iff.2 (.inl ⟨by omega, by omega⟩), by omega⟩
  constructor
  · intro he
    obtain ⟨l, hl, hj, hw⟩ : ∃ l ∈ N.lk, joins (u : Int) (v : Int) l = true ∧ l.2.2 = (w : Int) := by
      rcases he with he | he
      · exact back he
      · obtain ⟨l, h1, h2, h3⟩ := back he
        exact ⟨l, h1, by rw [joins_sym]; exact h2, h3⟩
    have hne : wt N.lk (u : Int) (v : Int) ≠ 0 := wt_ne (fun k hk => by have := link_at h hk; omega) ⟨l, hl, hj⟩
    obtain ⟨k, hk, hjk, hwk⟩ := wt_ex hne
    have hll := link_at h hl
    have hkk := link_at h hk
    have e : k = l := by
      have a1 := joins_iff.1 hj
      have a2 := joins_iff.1 hjk
      refine asc_one (n := N.st.length) (asc_of h.lk) hk hl ?_ ?_ <;> omega
    subst e
    exact ⟨by omega, by omega⟩
  · rintro ⟨hw, h0⟩
    obtain ⟨l, hl, hj, hwl⟩ := wt_ex (L := N.lk) (a := (u : Int)) (b := (v : Int)) (by omega)
    have hll := link_at h hl
    have mem : ∀ {a b : Nat}, l.1 = (a : Int) → l.2.1 = (b : Int) → (a, b, w) ∈ nlk N.lk := fun {a b} e1 e2 => by
      unfold nlk
      refine List.mem_map.2 ⟨l, hl, ?_⟩
      rw [e1, e2, hwl, hw]
      simp
    rcases joins_iff.1 hj with ⟨e1, e2⟩ | ⟨e1, e2⟩
    · exact .inl (mem e1 e2)
    · exact .inr (mem e1 e2)
theorem wt_in {N : Nt} (h : Valid N) {a b : Int} (hw : wt N.lk a b ≠ 0) : 0 ≤ a ∧ a < (N.st.length : Int) ∧ 0 ≤ b ∧ b < (N.st.length : Int) ∧ 1 ≤ wt N.lk a b ∧ wt N.lk a b < 1048576 := by
  obtain ⟨l, hl, hj, hwl⟩ := wt_ex hw
  have hll := link_at h hl
  rcases joins_iff.1 hj with ⟨e1, e2⟩ | ⟨e1, e2⟩ <;> omega

/-- The stop before one, on the best way: the first that fits. -/
def Fits (N : Nt) (d : D) (v i : Nat) : Prop := 0 < wt N.lk (v : Int) (i : Int) ∧ 0 ≤ fz (d i) ∧ fz (d i) + wt N.lk (v : Int) (i : Int) = fz (d v)
def Nxt (N : Nt) (d : D) (v u : Nat) : Prop := u < N.st.length ∧ Fits N d v u ∧ ∀ i, i < u → ¬ Fits N d v i
theorem Nxt.one {N : Nt} {d : D} {v u u' : Nat} (h : Nxt N d v u) (h' : Nxt N d v u') : u = u' := by
  rcases Nat.lt_trichotomy u u' with h1 | h1 | h1
  · exact absurd h.2.1 (h'.2.2 u h1)
  · exact h1
  · exact absurd h'.2.1 (h.2.2 u' h1)
theorem nxt_ex {N : Nt} (h : Valid N) {s v : Nat} (hne : v ≠ s) (hd : 0 ≤ fz (dis N s v)) : ∃ u, Nxt N (dis N s) v u := by
  obtain ⟨m, hm⟩ : ∃ m, dis N s v = some m := by
    cases e : dis N s v with
    | none => rw [e] at hd; simp [fz] at hd
    | some m => exact ⟨m, rfl⟩
  obtain ⟨u, k, w, he, hu, hk⟩ := (dis_is h s).pred hm hne
  have hw := (e_wt h).1 he.symm
  have hin := wt_in h (a := (v : Int)) (b := (u : Int)) (by omega)
  have hex : ∃ i, Fits N (dis N s) v i := ⟨u, by omega, by rw [hu]; exact Int.natCast_nonneg _, by rw [hu, hm, hw.1]; simp only [fz]; omega⟩
  obtain ⟨i, hi⟩ := hex
  obtain ⟨j, h1, h2⟩ := least (p := fun i => Fits N (dis N s) v i) i hi
  refine ⟨j, ?_, h1, fun q hq hf => by have := h2 q hf; omega⟩
  have := wt_in h (a := (v : Int)) (b := (j : Int)) (by have := h1.1; omega)
  omega
/-- The best way to a stop. -/
inductive Bw (N : Nt) (d : D) (s : Nat) : Nat → List Nat → Prop
  | nil : Bw N d s s [s]
  | step {v u : Nat} {l : List Nat} : v ≠ s → Nxt N d v u → Bw N d s u l → Bw N d s v (l ++ [v])
theorem Bw.one {N : Nt} {d : D} {s v : Nat} {l l' : List Nat} (h : Bw N d s v l) (h' : Bw N d s v l') : l = l' := by
  induction h generalizing l' with
  | nil =>
    cases h' with
    | nil => rfl
    | step hne _ _ => exact absurd rfl hne
  | step hne hn _ ih =>
    cases h' with
    | nil => exact absurd rfl hne
    | step _ hn' hb' =>
      obtain rfl := hn.one hn'
      rw [ih hb']
theorem bw_ex {N : Nt} (h : Valid N) {s : Nat} (hs : s < N.st.length) : ∀ (m v : Nat), dis N s v = some m → v < N.st.length → ∃ l, Bw N (dis N s) s v l := fun m => by
  induction m using Nat.strongRecOn with
  | _ m ih =>
    intro v hm hv
    by_cases hne : v = s
    · subst hne
      exact ⟨_, .nil⟩
    · obtain ⟨u, hu⟩ := nxt_ex h hne (by rw [hm]; exact Int.natCast_nonneg _)
      have hf := hu.2.1
      obtain ⟨k, hk⟩ : ∃ k, dis N s u = some k := by
        cases e : dis N s u with
        | none => have := hf.2.1; rw [e] at this; simp [fz] at this
        | some m => exact ⟨m, rfl⟩
      have h3 := hf.2.2
      rw [hk, hm] at h3
      simp only [fz] at h3
      obtain ⟨l, hl⟩ := ih k (by have := hf.1; omega) u hk hu.1
      exact ⟨_, .step hne hu hl⟩

/-- A way's weight up to its stop number k. -/
def sm (L : List L3) (way : List Int) : Nat → Int
  | 0 => 0
  | k + 1 => sm L way k + wt L (way.getD k 0) (way.getD (k + 1) 0)
def Steps (L : List L3) (way : List Int) (k : Nat) : Prop := ∀ i, i < k → wt L (way.getD i 0) (way.getD (i + 1) 0) ≠ 0
open Classical in
/-- What Weight answers. -/
noncomputable def wyT (N : Nt) (way : List Int) : Int × Bool :=
  if way = [] ∨ way.getD 0 0 < 0 ∨ (N.st.length : Int) ≤ way.getD 0 0 then (0, false)
  else if Steps N.lk way (way.length - 1) then (sm N.lk way (way.length - 1), true) else (0, false)
theorem steps_succ {L : List L3} {way : List Int} {k : Nat} (h : Steps L way k) (hk : wt L (way.getD k 0) (way.getD (k + 1) 0) ≠ 0) : Steps L way (k + 1) := fun i hi => by
  rcases Nat.lt_or_ge i k with h1 | h1
  · exact h i h1
  · have : i = k := by omega
    subst this
    exact hk
/-- A way's stops are stops, and its weight is that of a way. -/
theorem steps_way {N : Nt} (h : Valid N) {way : List Int} (h0 : 0 ≤ way.getD 0 0 ∧ way.getD 0 0 < (N.st.length : Int)) : ∀ {k : Nat}, Steps N.lk way k → (0 ≤ way.getD k 0 ∧ way.getD k 0 < (N.st.length : Int)) ∧ 0 ≤ sm N.lk way k ∧ sm N.lk way k ≤ k * 1048576 ∧
    Wk (nlk N.lk) (way.getD 0 0).toNat (way.getD k 0).toNat (sm N.lk way k).toNat
  | 0, _ => ⟨h0, Int.le_refl _, by simp [sm], by
    have e : sm N.lk way 0 = 0 := rfl
    rw [e]
    exact .nil⟩
  | k + 1, hst => by
    obtain ⟨h1, h2, h3, h4⟩ := steps_way h h0 (k := k) fun i hi => hst i (by omega)
    have hw := hst k (by omega)
    have hin := wt_in h hw
    have he : E (nlk N.lk) (way.getD k 0).toNat (way.getD (k + 1) 0).toNat (wt N.lk (way.getD k 0) (way.getD (k + 1) 0)).toNat := (e_wt h).2 (by
      have a1 : ((way.getD k 0).toNat : Int) = way.getD k 0 := by omega
      have a2 : ((way.getD (k + 1) 0).toNat : Int) = way.getD (k + 1) 0 := by omega
      rw [a1, a2]
      omega)
    have e : sm N.lk way (k + 1) = sm N.lk way k + wt N.lk (way.getD k 0) (way.getD (k + 1) 0) := rfl
    refine ⟨by omega, by omega, by rw [e]; push_cast; omega, ?_⟩
    have e2 : (sm N.lk way (k + 1)).toNat = (sm N.lk way k).toNat + (wt N.lk (way.getD k 0) (way.getD (k + 1) 0)).toNat := by rw [e]; omega
    rw [e2]
    exact .step h4 he
end Go.Proofs.Ytdhlbcbgbmgcjaa.Pt

/- Layer 13 (geo): cells and places in memory. -/
namespace Go.Proofs.Ytdhlbcbgbmgcjaa.Ge
open Go.RowKit Rec

/-- Two ints in two cells. -/
def twoS : Shape (Int × Int) where
  f p := [.int .i64 p.1, .int .i64 p.2]
  c := 2
  pos := by omega
  len _ := rfl
  one _ u hu := by
    simp only [List.mem_cons, List.not_mem_nil, or_false] at hu
    rcases hu with rfl | rfl <;> rfl
section
variable {w : World} {B n : Nat} {A : Option Addr} {l : List (Int × Int)}
theorem two_at (h : RRow twoS w B A n l) {j : Nat} (hj : j < n) : ∃ b o p, A = some ⟨b, o, none⟩ ∧ b < B ∧ l[j]? = some p ∧ w.cell? ⟨b, o + j * 2, none⟩ = some (.int .i64 p.1) ∧ w.cell? ⟨b, o + j * 2 + 1, none⟩ = some (.int .i64 p.2) := by
  obtain ⟨b, o, p, e, hb, hp, hc⟩ := h.at hj
  exact ⟨b, o, p, e, hb, hp, hc 0 (by show 0 < 2; omega), hc 1 (by show 1 < 2; omega)⟩
theorem new_two (w : World) (p : Int × Int) (t : TypeId) : ∀ j u, (twoS.f p)[j]? = some u → (w.alloc (.cells #[.int .i64 p.1, .int .i64 p.2] t)).cell? ((⟨w.heap.size, 0, none⟩ : Addr).add j) = some u := new_rec (S := twoS) w p t
end
/-- A number of 64 bits. -/
def B64 (n : Int) : Prop := -9223372036854775808 ≤ n ∧ n ≤ 9223372036854775807
/-- A place as a value. -/
def pl (p : Int × Int) : Value := .agg #[.int .i64 p.1, .int .i64 p.2]
def B64p (p : Int × Int) : Prop := B64 p.1 ∧ B64 p.2

/-- What came back is a slice that reads as a list. -/
def TwTo (B : Nat) (w0 : World) (l : List (Int × Int)) (v : Value) (w' : World) : Prop :=
  ∃ A n c, v = .slice A n c ∧ RRow twoS w' w'.heap.size A n l ∧ (A = none → c = 0) ∧ n ≤ c ∧ c ≤ maxLen ∧ Below B w0 w'
theorem TwTo.of_own {B : Nat} {w0 w' : World} {l : List (Int × Int)} {v : Value} {n : Nat} {e : TypeId} (h : w'.ownsRow B e 2 v n (twoS.flat l)) (hb : Below B w0 w') : TwTo B w0 l v w' := by
  have h' : w'.ownsRow B e twoS.c v n (twoS.flat l) := h
  rcases h.2 with ⟨rfl, rfl⟩ | ⟨g, cap, cur, rfl, h1, h2, h3, h4, h5, h6⟩
  · exact ⟨none, 0, 0, rfl, RRow.of_own (S := twoS) h', fun _ => rfl, Nat.le_refl _, Nat.zero_le _, hb⟩
  · exact ⟨_, n, cap, rfl, RRow.of_own (S := twoS) h', fun h => by (cases h), h3, h4, hb⟩
end Go.Proofs.Ytdhlbcbgbmgcjaa.Ge

/- Layer 15 (graph): networks in memory. -/
namespace Go.Proofs.Ytdhlbcbgbmgcjaa.Gf
open Go.RowKit Rec Ints Ge

/-- Three ints in three cells. -/
def lkS : Shape L3 where
  f p := [.int .i64 p.1, .int .i64 p.2.1, .int .i64 p.2.2]
  c := 3
  pos := by omega
  len _ := rfl
  one _ u hu := by
    simp only [List.mem_cons, List.not_mem_nil, or_false] at hu
    rcases hu with rfl | rfl | rfl <;> rfl
section
variable {w : World} {B n : Nat} {A : Option Addr} {l : List L3}
theorem lk_at (h : RRow lkS w B A n l) {j : Nat} (hj : j < n) : ∃ b o p, A = some ⟨b, o, none⟩ ∧ b < B ∧ l[j]? = some p ∧ w.cell? ⟨b, o + j * 3, none⟩ = some (.int .i64 p.1) ∧ w.cell? ⟨b, o + j * 3 + 1, none⟩ = some (.int .i64 p.2.1) ∧ w.cell? ⟨b, o + j * 3 + 2, none⟩ = some (.int .i64 p.2.2) := by
  obtain ⟨b, o, p, e, hb, hp, hc⟩ := h.at hj
  exact ⟨b, o, p, e, hb, hp, hc 0 (by show 0 < 3; omega), hc 1 (by show 1 < 3; omega), hc 2 (by show 2 < 3; omega)⟩
theorem new_lk (w : World) (p : L3) (t : TypeId) : ∀ j u, (lkS.f p)[j]? = some u → (w.alloc (.cells #[.int .i64 p.1, .int .i64 p.2.1, .int .i64 p.2.2] t)).cell? ((⟨w.heap.size, 0, none⟩ : Addr).add j) = some u := new_rec (S := lkS) w p t
end
/-- A network lies in two slices. -/
structure NAt (w : World) (B : Nat) (N : Nt) (A : Option Addr) (n c : Nat) (A' : Option Addr) (m c' : Nat) : Prop where
  st : RRow twoS w B A n N.st
  lk : RRow lkS w B A' m N.lk
  ni : A = none → c = 0
  nc : n ≤ c
  cm : c ≤ maxLen
  ni' : A' = none → c' = 0
  nc' : m ≤ c'
  cm' : c' ≤ maxLen
theorem NAt.below {w w' : World} {B n c m c' : Nat} {N : Nt} {A A' : Option Addr} (h : NAt w B N A n c A' m c') (hb : Below B w w') : NAt w' B N A n c A' m c' := { h with st := h.st.below hb, lk := h.lk.below hb }
theorem NAt.more {w : World} {B B' n c m c' : Nat} {N : Nt} {A A' : Option Addr} (h : NAt w B N A n c A' m c') (hb : B ≤ B') : NAt w B' N A n c A' m c' := { h with st := h.st.more hb, lk := h.lk.more hb }
theorem NAt.up {w w' : World} {n c m c' : Nat} {N : Nt} {A A' : Option Addr} (h : NAt w w.heap.size N A n c A' m c') (hb : Below w.heap.size w w') : NAt w' w'.heap.size N A n c A' m c' := (h.below hb).more hb.size
/-- All its numbers are of 64 bits. -/
structure Bnd (N : Nt) : Prop where
  ver : B64 N.ver
  st : ∀ p ∈ N.st, B64p p
  lk : ∀ l ∈ N.lk, B64 l.1 ∧ B64 l.2.1 ∧ B64 l.2.2
/-- What came back is a slice of links. -/
def LkTo (B : Nat) (w0 : World) (l : List L3) (v : Value) (w' : World) : Prop :=
  ∃ A n c, v = .slice A n c ∧ RRow lkS w' w'.heap.size A n l ∧ (A = none → c = 0) ∧ n ≤ c ∧ c ≤ maxLen ∧ Below B w0 w'
theorem LkTo.of_own {B : Nat} {w0 w' : World} {l : List L3} {v : Value} {n : Nat} {e : TypeId} (h : w'.ownsRow B e 3 v n (lkS.flat l)) (hb : Below B w0 w') : LkTo B w0 l v w' := by
  have h' : w'.ownsRow B e lkS.c v n (lkS.flat l) := h
  rcases h.2 with ⟨rfl, rfl⟩ | ⟨g, cap, cur, rfl, h1, h2, h3, h4, h5, h6⟩
  · exact ⟨none, 0, 0, rfl, RRow.of_own (S := lkS) h', fun _ => rfl, Nat.le_refl _, Nat.zero_le _, hb⟩
  · exact ⟨_, n, cap, rfl, RRow.of_own (S := lkS) h', fun h => by (cases h), h3, h4, hb⟩
open Classical in
noncomputable def partsE (N : Nt) : List Int := if check N = 0 then nums (partsT N) else []
theorem info_lk : (Try.prog.info? 45).map (fun i => (i.zero, i.size, i.bytes)) = some (some (.agg #[.int .i64 0, .int .i64 0, .int .i64 0]), 3, 24) := by kernel_rfl
end Go.Proofs.Ytdhlbcbgbmgcjaa.Gf

/- Layer 17 (path): what the program's functions answer; the chapter's example; distances are not too great. -/
namespace Go.Proofs.Ytdhlbcbgbmgcjaa.Pt
open Go.RowKit Rec Ints Ge Gf Pa

open Classical in
/-- From's error; Way's. -/
noncomputable def fromE (N : Nt) (s : Int) : Nat := if check N ≠ 0 then check N else if s < 0 ∨ (N.st.length : Int) ≤ s then 2 else 0
open Classical in
noncomputable def wayE (N : Nt) (a b : Int) : Nat :=
  if check N ≠ 0 then check N else if (a < 0 ∨ (N.st.length : Int) ≤ a) ∨ (b < 0 ∨ (N.st.length : Int) ≤ b) then 2 else if dis N a.toNat b.toNat = none then 30 else 0
open Classical in
noncomputable def fromL (N : Nt) (s : Int) : List Int := if fromE N s = 0 then farL N s.toNat else []
/-- What Way answers. -/
def WayIs (N : Nt) (a b : Int) (L : List Nat) (d : Int) : Prop :=
  (wayE N a b ≠ 0 → L = [] ∧ d = 0) ∧ (wayE N a b = 0 → Bw N (dis N a.toNat) a.toNat b.toNat L ∧ d = fz (dis N a.toNat b.toNat))
/-- What Way must do. -/
def WayOk : Prop :=
  ∀ (N : Nt) (A A' : Option Addr) (n c m c' : Nat) (a b : Int) (w : World), NAt w w.heap.size N A n c A' m c' → Bnd N → n ≤ 1048576 → m ≤ 1048576 → B64 a → B64 b →
    Calls Try.prog 9 #[.agg #[.int .i64 N.ver, .slice A n c, .slice A' m c'], .int .i64 a, .int .i64 b] w fun e w' => ∃ v L d, e = .returned (.tuple #[v, .int .i64 d, .int .i64 ((wayE N a b : Nat) : Int)]) ∧ InTo w.heap.size w (nums L) v w' ∧ WayIs N a b L d
def exN : Nt := ⟨1, [(0, 0), (0, 0), (0, 0)], [(0, 1, 4), (1, 2, 6)]⟩
theorem ex_check : check exN = 0 := by
  refine check_0 (by decide) (by decide) ⟨fun i hi => ?_, fun i hi => ?_⟩
  · have hi' : i < 3 := hi
    match i, hi' with
    | 0, _ => exact ⟨_, rfl, by decide⟩
    | 1, _ => exact ⟨_, rfl, by decide⟩
    | 2, _ => exact ⟨_, rfl, by decide⟩
  · have hi' : i < 2 := hi
    match i, hi' with
    | 0, _ => exact ⟨_, rfl, by decide, by decide, by decide, by decide, by decide, fun h => absurd h (by omega)⟩
    | 1, _ => exact ⟨_, rfl, by decide, by decide, by decide, by decide, by decide, fun _ => ⟨_, rfl, by decide⟩⟩
theorem ex_dis : dis exN 0 2 = some 10 ∧ dis exN 0 1 = some 4 ∧ dis exN 0 0 = some 0 := by decide
theorem ex_way : Bw exN (dis exN 0) 0 2 [0, 1, 2] := by
  have h1 : Nxt exN (dis exN 0) 2 1 := ⟨by decide, ⟨by decide, by decide, by decide⟩, fun i hi h => by
    obtain rfl : i = 0 := by omega
    have h1 : ¬ (0 < wt exN.lk ((2 : Nat) : Int) ((0 : Nat) : Int)) := by decide
    exact h1 h.1⟩
  have h0 : Nxt exN (dis exN 0) 1 0 := ⟨by decide, ⟨by decide, by decide, by decide⟩, fun i hi _ => absurd hi (by omega)⟩
  exact .step (l := [0, 1]) (by decide) h1 (.step (l := [0]) (by decide) h0 .nil)
theorem ex_E : wayE exN 0 2 = 0 := by
  unfold wayE
  rw [if_neg (by rw [ex_check]; simp), if_neg (by decide), if_neg]
  have h := ex_dis.1
  show ¬ dis exN 0 2 = none
  rw [h]
  simp
theorem ex_is {L : List Nat} {d : Int} (h : WayIs exN 0 2 L d) : L = [0, 1, 2] ∧ d = 10 := by
  obtain ⟨h1, h2⟩ := h.2 ex_E
  refine ⟨h1.one ex_way, ?_⟩
  rw [h2]
  show fz (dis exN 0 2) = 10
  rw [ex_dis.1]
  rfl
theorem made_stops : (madeCells (Value.agg #[.int .i64 0, .int .i64 0]).cells (3 * 2)).toList = twoS.flat [(0, 0), (0, 0), (0, 0)] := by
  have e : twoS.flat [(0, 0), (0, 0), (0, 0)] = List.replicate 6 (Value.int .i64 0) := rfl
  rw [e]
  apply List.ext_getElem
  · simp [madeCells]
  · intro i h1 h2
    have hi : i < 6 := by simpa using h2
    rw [List.getElem_replicate]
    match i, hi with
    | 0, _ => simp [madeCells, Value.cells]
    | 1, _ => simp [madeCells, Value.cells]
    | 2, _ => simp [madeCells, Value.cells]
    | 3, _ => simp [madeCells, Value.cells]
    | 4, _ => simp [madeCells, Value.cells]
    | 5, _ => simp [madeCells, Value.cells]
theorem info_stopP : (Try.prog.info? 54).map (fun i => (i.zero, i.size, i.bytes)) = some (some (.agg #[.int .i64 0, .int .i64 0]), 2, 16) := by kernel_rfl

/-- Distances are not too great. -/
def Bd (V : Nat) (d : D) : Prop := ∀ v m, d v = some m → m ≤ V
theorem rl_bd {V : Nat} {d : D} {u v w : Nat} (h : Bd V d) (hw : w ≤ 1048576) : Bd (V + 1048576) (rl d u v w) := fun x m hm => by
  unfold rl at hm
  cases hu : d u with
  | none => rw [hu] at hm; have := h x m hm; omega
  | some a =>
    rw [hu] at hm
    have ha := h u a hu
    simp only at hm
    cases hv : d v with
    | none =>
      rw [hv] at hm
      simp only [put] at hm
      by_cases hx : x = v
      · rw [if_pos hx] at hm; cases hm; omega
      · rw [if_neg hx] at hm; have := h x m hm; omega
    | some b =>
      rw [hv] at hm
      simp only at hm
      by_cases hab : a + w < b
      · rw [if_pos hab] at hm
        simp only [put] at hm
        by_cases hx : x = v
        · rw [if_pos hx] at hm; cases hm; omega
        · rw [if_neg hx] at hm; have := h x m hm; omega
      · rw [if_neg hab] at hm
        have := h x m hm
        omega
theorem fold_bd {L : List Lk} (hL : ∀ l ∈ L, l.2.2 ≤ 1048576) : ∀ (l : List Lk) (V : Nat) (d : D), (∀ x ∈ l, x ∈ L) → Bd V d → Bd (V + l.length * 2097152) (l.foldl lk d)
  | [], V, d, _, h => by simpa using h
  | x :: l, V, d, hs, h => by
    rw [List.foldl_cons]
    have hx := hL x (hs x List.mem_cons_self)
    have h1 : Bd (V + 1048576 + 1048576) (lk d x) := rl_bd (rl_bd h hx) hx
    have h2 := fold_bd hL l _ _ (fun y hy => hs y (List.mem_cons_of_mem _ hy)) h1
    intro v m hm
    have := h2 v m hm
    rw [List.length_cons]
    omega
theorem turns_bd {L : List Lk} (hL : ∀ l ∈ L, l.2.2 ≤ 1048576) (hl : L.length ≤ 16384) {d : D} (h : Bd 0 d) : ∀ n, Bd (n * 34359738368) (turns L n d)
  | 0 => by rw [Nat.zero_mul]; exact h
  | n + 1 => by
    have h2 := fold_bd hL L _ _ (fun _ h => h) (turns_bd hL hl h n)
    intro v m hm
    have := h2 v m hm
    omega
theorem dis_le {N : Nt} (h : Valid N) (s v : Nat) : fz (dis N s v) ≤ 4611686018427387904 := by
  have hb : Bd (N.st.length * 34359738368) (dis N s) := turns_bd (fun l hl => by
    unfold nlk at hl
    obtain ⟨k, hk, rfl⟩ := List.mem_map.1 hl
    have := link_at h hk
    show k.2.2.toNat ≤ _
    omega) (by unfold nlk; rw [List.length_map]; exact h.nl) (fun x m hm => by
    unfold Pa.start at hm
    by_cases hx : x = s
    · rw [if_pos hx] at hm; cases hm; exact Nat.le_refl _
    · rw [if_neg hx] at hm; cases hm) _
  have hn := h.ns
  cases hd : dis N s v with
  | none => show (-1 : Int) ≤ _; omega
  | some m =>
    have := hb v m hd
    show (m : Int) ≤ _
    omega
theorem fz_some {o : Option Nat} : 0 ≤ fz o ↔ o ≠ none := by
  cases o with
  | none => simp [fz]
  | some m => simp [fz]
end Go.Proofs.Ytdhlbcbgbmgcjaa.Pt

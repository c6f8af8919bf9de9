/- Lemmas that the proof stands on, in build order: GhM GfN. -/
import Derived.Test.YtdhlbcbgbmgcjaaJ3cf8a1e
import Derived.Test.YtdhlbcbgbmgcjaaJ4b589ba
/- Layer 15 (graph) as plain mathematics: the least stop that one is connected with; no program's text is named here. -/
namespace Go.Proofs.Ytdhlbcbgbmgcjaa.Gh
open Pa

/-- Connected. -/
def Cn (L : List Lk) (u v : Nat) : Prop := ∃ k, Wk L u v k
section
variable {L : List Lk}
theorem Cn.refl (u : Nat) : Cn L u u := ⟨0, .nil⟩
theorem Cn.symm {u v : Nat} (h : Cn L u v) : Cn L v u := h.elim fun k hk => ⟨k, wk_turn hk⟩
theorem Cn.trans {u v x : Nat} (h : Cn L u v) (h' : Cn L v x) : Cn L u x := h.elim fun k hk => h'.elim fun m hm => ⟨k + m, wk_join hk hm⟩
theorem Cn.link {u v w : Nat} (h : E L u v w) : Cn L u v := ⟨0 + w, .step .nil h⟩
/-- The least one. -/
def Lst (L : List Lk) (v m : Nat) : Prop := Cn L v m ∧ ∀ x, Cn L v x → m ≤ x
theorem Lst.one {v m k : Nat} (h : Lst L v m) (h' : Lst L v k) : m = k := by
  have h1 := h.2 k h'.1
  have h2 := h'.2 m h.1
  omega
theorem lst_ex (L : List Lk) (v : Nat) : ∃ m, Lst L v m := by
  obtain ⟨m, h1, h2⟩ := least (p := fun x => Cn L v x) v (Cn.refl v)
  exact ⟨m, h1, h2⟩
theorem Lst.of {u v m : Nat} (h : Lst L v m) (hc : Cn L u v) : Lst L u m := ⟨hc.trans h.1, fun x hx => h.2 x (hc.symm.trans hx)⟩
theorem Lst.self {v m : Nat} (h : Lst L v m) : Lst L m m := h.of h.1.symm
end
abbrev F := Nat → Nat
def pl (d : F) (a b : Nat) : F := fun x => if x = b ∧ d a < d b then d a else d x
def plk (d : F) (l : Lk) : F := pl (pl d l.1 l.2.1) l.2.1 l.1
def pturn (L : List Lk) (d : F) : F := L.foldl plk d
def pturns (L : List Lk) : Nat → F → F
  | 0, d => d
  | n + 1, d => pturn L (pturns L n d)
def Ple (d d' : F) : Prop := ∀ v, d' v ≤ d v
theorem Ple.trans {a b c : F} (h : Ple a b) (k : Ple b c) : Ple a c := fun v => Nat.le_trans (k v) (h v)
theorem pl_le (d : F) (a b : Nat) : Ple d (pl d a b) := fun v => by
  unfold pl
  by_cases c : v = b ∧ d a < d b
  · rw [if_pos c, c.1]; exact Nat.le_of_lt c.2
  · rw [if_neg c]; exact Nat.le_refl _
theorem pl_at (d : F) (a b : Nat) : pl d a b b ≤ d a := by
  unfold pl
  by_cases c : d a < d b
  · rw [if_pos ⟨rfl, c⟩]; exact Nat.le_refl _
  · rw [if_neg (fun h => c h.2)]; omega
def Psd (L : List Lk) (d : F) : Prop := ∀ v, Cn L v (d v)
theorem pl_sd {L : List Lk} {d : F} {a b w : Nat} (h : Psd L d) (he : E L a b w) : Psd L (pl d a b) := fun v => by
  unfold pl
  by_cases c : v = b ∧ d a < d b
  · rw [if_pos c, c.1]; exact (Cn.link he).symm.trans (h a)
  · rw [if_neg c]; exact h v
theorem plk_le (d : F) (l : Lk) : Ple d (plk d l) := (pl_le _ _ _).trans (pl_le _ _ _)
theorem pfold_le (l : List Lk) (d : F) : Ple d (l.foldl plk d) := by
  induction l generalizing d with
  | nil => exact fun _ => Nat.le_refl _
  | cons x l ih => exact (plk_le d x).trans (ih _)
theorem pfold_sd {L : List Lk} (l : List Lk) (d : F) (h : Psd L d) (hl : ∀ x ∈ l, x ∈ L) : Psd L (l.foldl plk d) := by
  induction l generalizing d with
  | nil => exact h
  | cons x l ih => exact ih _ (pl_sd (w := x.2.2) (pl_sd (w := x.2.2) h (.inl (hl x (by simp)))) (.inr (hl x (by simp)))) (fun y hy => hl y (by simp [hy]))
theorem plk_at {d : F} {u v w : Nat} {l : Lk} (hl : l = (u, v, w) ∨ l = (v, u, w)) : plk d l v ≤ d u := by
  rcases hl with rfl | rfl
  · exact Nat.le_trans (pl_le _ _ _ _) (pl_at _ _ _)
  · exact Nat.le_trans (pl_at _ _ _) (pl_le _ _ _ _)
theorem pturn_at {L : List Lk} {d : F} {u v w : Nat} (he : E L u v w) : pturn L d v ≤ d u := by
  obtain ⟨l, hl, hm⟩ : ∃ l, (l = (u, v, w) ∨ l = (v, u, w)) ∧ l ∈ L := he.elim (fun h => ⟨_, .inl rfl, h⟩) (fun h => ⟨_, .inr rfl, h⟩)
  obtain ⟨L1, L2, rfl⟩ := List.append_of_mem hm
  unfold pturn
  rw [List.foldl_append, List.foldl_cons]
  exact Nat.le_trans (pfold_le L2 _ v) (Nat.le_trans (plk_at hl) (pfold_le L1 d u))
/-- Settled. -/
def Pst (L : List Lk) (d : F) (v : Nat) : Prop := Lst L v (d v)
theorem pst_of {L : List Lk} {d : F} {v m : Nat} (hs : Psd L d) (hm : Lst L v m) (h : d v ≤ m) : Pst L d v := by
  have h1 := hm.2 _ (hs v)
  have h2 : d v = m := by omega
  unfold Pst
  rw [h2]
  exact hm
theorem Pst.le {L : List Lk} {d d' : F} {v : Nat} (h : Pst L d v) (hl : Ple d d') (hs : Psd L d') : Pst L d' v := pst_of hs h (hl v)
theorem pturn_one {L : List Lk} {d : F} (h0 : ∀ v, d v ≤ v) (hs : Psd L d) {v : Nat} (hv : ¬ Pst L d v) : ∃ v, ¬ Pst L d v ∧ Pst L (pturn L d) v ∧ ∃ u w, E L u v w := by
  obtain ⟨m, hm⟩ := lst_ex L v
  have hmm : Pst L d m := pst_of hs hm.self (h0 m)
  obtain ⟨k, hk⟩ := hm.1.symm
  have key : ∀ x j, Wk L m x j → Pst L d x ∨ ∃ v, ¬ Pst L d v ∧ Pst L (pturn L d) v ∧ ∃ u w, E L u v w := by
    intro x j hx
    induction hx with
    | nil => exact .inl hmm
    | @step u k x w _ he ih =>
      rcases ih with ih | ih
      · by_cases c : Pst L d x
        · exact .inl c
        · refine .inr ⟨x, c, ?_, u, w, he⟩
          exact pst_of (pfold_sd L d hs (fun _ h => h)) (ih.of (Cn.link he).symm) (pturn_at he)
      · exact .inr ih
  rcases key v k hk with h | h
  · exact absurd h hv
  · exact h
open Classical in
theorem pturns_set {L : List Lk} {N : Nat} {d : F} (hN : ∀ l ∈ L, l.1 < N ∧ l.2.1 < N) (h0 : ∀ v, d v ≤ v) (hs : Psd L d) : ∀ n, (∀ v, pturns L n d v ≤ v) ∧ Psd L (pturns L n d) ∧ ((∀ v, Pst L (pturns L n d) v) ∨ n ≤ (List.range N).countP (fun v => decide (Pst L (pturns L n d) v)))
  | 0 => ⟨h0, hs, .inr (Nat.zero_le _)⟩
  | n + 1 => by
    obtain ⟨g0, gs, gc⟩ := pturns_set hN h0 hs n
    have ts : Psd L (pturn L (pturns L n d)) := pfold_sd L _ gs (fun _ h => h)
    have tl : Ple (pturns L n d) (pturn L (pturns L n d)) := pfold_le L _
    refine ⟨fun v => Nat.le_trans (tl v) (g0 v), ts, ?_⟩
    by_cases hall : ∀ v, Pst L (pturns L n d) v
    · exact .inl (fun v => (hall v).le tl ts)
    · rcases gc with gc | gc
      · exact absurd gc hall
      · obtain ⟨v0, hv0⟩ := Classical.not_forall.1 hall
        obtain ⟨v, hv, hv', u, w, he⟩ := pturn_one g0 gs hv0
        have hvN : v < N := he.elim (fun h => (hN _ h).2) (fun h => (hN _ h).1)
        refine .inr (Nat.le_trans (Nat.succ_le_succ gc) (cnt_lt _ (fun x _ hx => ?_) ⟨v, List.mem_range.2 hvN, ?_, ?_⟩))
        · exact decide_eq_true ((of_decide_eq_true hx).le tl ts)
        · exact decide_eq_true hv'
        · exact decide_eq_false hv
open Classical in
/-- N turns settle all. -/
theorem pturns_is {L : List Lk} {N : Nat} (hN : ∀ l ∈ L, l.1 < N ∧ l.2.1 < N) {v : Nat} (hv : v < N) : Lst L v (pturns L N id v) := by
  obtain ⟨g0, gs, gc⟩ := pturns_set hN (d := id) (fun v => Nat.le_refl v) (fun v => Cn.refl v) N
  rcases gc with gc | gc
  · exact gc v
  · have h1 : ∀ x ∈ List.range N, decide (Pst L (pturns L N id) x) = true := by
      apply List.countP_eq_length.1
      have h2 := List.countP_le_length (p := fun v => decide (Pst L (pturns L N id) v)) (l := List.range N)
      rw [List.length_range] at h2 ⊢
      omega
    exact of_decide_eq_true (h1 v (List.mem_range.2 hv))
/-- What is one at each link's ends, and connected with each stop, and not above it, is the least one. -/
theorem lst_of_fit {L : List Lk} {d : F} (h0 : ∀ v, d v ≤ v) (hs : Psd L d) (he : ∀ u v w, E L u v w → d u = d v) (v : Nat) : Lst L v (d v) := by
  have hc : ∀ u x, Cn L u x → d u = d x := by
    rintro u x ⟨k, hk⟩
    induction hk with
    | nil => rfl
    | step _ h ih => exact ih.trans (he _ _ _ h)
  obtain ⟨m, hm⟩ := lst_ex L v
  refine pst_of hs hm ?_
  rw [hc v m hm.1]
  exact h0 m
end Go.Proofs.Ytdhlbcbgbmgcjaa.Gh

/- Layer 15 (graph), mathematics: neighbours and parts; no program's text is named here. -/
namespace Go.Proofs.Ytdhlbcbgbmgcjaa.Gf
open Go.RowKit Ge

/-- Does a link join two stops? -/
def joins (a b : Int) (l : L3) : Bool := (decide (l.1 = a) && decide (l.2.1 = b)) || (decide (l.1 = b) && decide (l.2.1 = a))
/-- The weight of the first link that joins two stops; 0: none. -/
def wt : List L3 → Int → Int → Int
  | [], _, _ => 0
  | l :: t, a, b => if joins a b l then l.2.2 else wt t a b
theorem joins_sym (a b : Int) (l : L3) : joins a b l = joins b a l := by unfold joins; rw [Bool.or_comm]
theorem wt_sym (L : List L3) (a b : Int) : wt L a b = wt L b a := by
  induction L with
  | nil => rfl
  | cons l t ih => rw [wt, wt, joins_sym, ih]
theorem joins_iff {a b : Int} {l : L3} : joins a b l = true ↔ (l.1 = a ∧ l.2.1 = b) ∨ (l.1 = b ∧ l.2.1 = a) := by
  unfold joins
  simp
theorem wt_ex : ∀ {L : List L3} {a b : Int}, wt L a b ≠ 0 → ∃ l ∈ L, joins a b l = true ∧ l.2.2 = wt L a b
  | [], _, _, h => absurd rfl h
  | l :: t, a, b, h => by
    rw [wt] at h ⊢
    by_cases hj : joins a b l = true
    · rw [if_pos hj]
      exact ⟨l, List.mem_cons_self, hj, rfl⟩
    · rw [if_neg hj] at h ⊢
      obtain ⟨k, h1, h2, h3⟩ := wt_ex h
      exact ⟨k, List.mem_cons_of_mem _ h1, h2, h3⟩
theorem wt_ne : ∀ {L : List L3} {a b : Int}, (∀ l ∈ L, l.2.2 ≠ 0) → (∃ l ∈ L, joins a b l = true) → wt L a b ≠ 0
  | [], _, _, _, ⟨_, h, _⟩ => by cases h
  | l :: t, a, b, hw, ⟨k, hk, hj⟩ => by
    rw [wt]
    by_cases h : joins a b l = true
    · rw [if_pos h]; exact hw l List.mem_cons_self
    · rw [if_neg h]
      rcases List.mem_cons.1 hk with rfl | hk
      · exact absurd hj h
      · exact wt_ne (fun x hx => hw x (List.mem_cons_of_mem _ hx)) ⟨k, hk, hj⟩
/-- The links to the neighbours of a stop: the first k stops. -/
def nearK (L : List L3) (s : Int) : Nat → List L3
  | 0 => []
  | k + 1 => nearK L s k ++ (if wt L s (k : Int) = 0 then [] else [(s, (k : Int), wt L s (k : Int))])
def nearL (N : Nt) (s : Int) : List L3 := nearK N.lk s N.st.length
theorem mem_nearK {L : List L3} {s : Int} : ∀ {k : Nat} {x : L3}, x ∈ nearK L s k ↔ ∃ i : Nat, i < k ∧ wt L s (i : Int) ≠ 0 ∧ x = (s, (i : Int), wt L s (i : Int))
  | 0, x => by simp [nearK]
  | k + 1, x => by
    rw [nearK, List.mem_append, mem_nearK]
    constructor
    · rintro (⟨i, h1, h2, h3⟩ | h)
      · exact ⟨i, by omega, h2, h3⟩
      · by_cases h0 : wt L s (k : Int) = 0
        · rw [if_pos h0] at h; cases h
        · rw [if_neg h0] at h
          exact ⟨k, by omega, h0, List.mem_singleton.1 h⟩
    · rintro ⟨i, h1, h2, h3⟩
      rcases Nat.lt_or_ge i k with h | h
      · exact .inl ⟨i, h, h2, h3⟩
      · obtain rfl : i = k := by omega
        exact .inr (by rw [if_neg h2]; exact List.mem_singleton.2 h3)
theorem nearK_le (L : List L3) (s : Int) (k : Nat) : (nearK L s k).length ≤ k := by
  induction k with
  | zero => exact Nat.le_refl _
  | succ k ih =>
    rw [nearK, List.length_append]
    split <;> simp <;> omega

/-- The links over stops as numbers. -/
def nlk (L : List L3) : List Pa.Lk := L.map fun l => (l.1.toNat, l.2.1.toNat, l.2.2.toNat)
/-- The least stop that each one is joined with. -/
def partsT (N : Nt) : List Nat := (List.range N.st.length).map (Gh.pturns (nlk N.lk) N.st.length id)
theorem parts_len (N : Nt) : (partsT N).length = N.st.length := by unfold partsT; simp
theorem parts_at {N : Nt} {v : Nat} (h : v < N.st.length) : (partsT N)[v]? = some (Gh.pturns (nlk N.lk) N.st.length id v) := by
  unfold partsT
  rw [List.getElem?_map, List.getElem?_range h]
  rfl
theorem nlk_lt {N : Nt} (h : Valid N) : ∀ l ∈ nlk N.lk, l.1 < N.st.length ∧ l.2.1 < N.st.length := fun l hl => by
  unfold nlk at hl
  obtain ⟨k, hk, rfl⟩ := List.mem_map.1 hl
  obtain ⟨i, hi, e⟩ := List.getElem_of_mem hk
  obtain ⟨q, hq, h1, h2, h3, h4, h5, -⟩ := h.lk i hi
  rw [List.getElem?_eq_getElem hi, e] at hq
  injection hq with hq
  subst hq
  simp only
  omega
theorem parts_lst {N : Nt} (h : Valid N) {v : Nat} (hv : v < N.st.length) : Gh.Lst (nlk N.lk) v (Gh.pturns (nlk N.lk) N.st.length id v) := Gh.pturns_is (nlk_lt h) hv
/-- What tells each stop's least one is the parts. -/
theorem parts_one {N : Nt} (h : Valid N) {P : List Nat} (hl : P.length = N.st.length) (hp : ∀ v p, P[v]? = some p → Gh.Lst (nlk N.lk) v p) : P = partsT N := by
  refine List.ext_getElem? fun v => ?_
  rcases Nat.lt_or_ge v N.st.length with hv | hv
  · rw [parts_at hv]
    rw [List.getElem?_eq_getElem (by omega)]
    congr 1
    exact (hp v _ (List.getElem?_eq_getElem (by omega))).one (parts_lst h hv)
  · rw [List.getElem?_eq_none (by omega), List.getElem?_eq_none (by rw [parts_len]; omega)]
theorem link_at {N : Nt} (h : Valid N) {l : L3} (hl : l ∈ N.lk) : 0 ≤ l.1 ∧ l.1 < l.2.1 ∧ l.2.1 < (N.st.length : Int) ∧ 1 ≤ l.2.2 ∧ l.2.2 < 1048576 := by
  obtain ⟨i, hi, e⟩ := List.getElem_of_mem hl
  obtain ⟨q, hq, h1, h2, h3, h4, h5, -⟩ := h.lk i hi
  rw [List.getElem?_eq_getElem hi, e] at hq
  injection hq with hq
  subst hq
  exact ⟨h1, h2, h3, h4, h5⟩
/-- Neighbours are of one part. -/
theorem parts_near {N : Nt} (h : Valid N) {a b : Nat} (hw : wt N.lk (a : Int) (b : Int) ≠ 0) (ha : a < N.st.length) (hb : b < N.st.length) :
    Gh.pturns (nlk N.lk) N.st.length id b = Gh.pturns (nlk N.lk) N.st.length id a := by
  obtain ⟨l, hl, hj, -⟩ := wt_ex hw
  have hk := link_at h hl
  have hE : Pa.E (nlk N.lk) a b l.2.2.toNat := by
    rcases joins_iff.1 hj with ⟨e1, e2⟩ | ⟨e1, e2⟩
    · exact .inl (List.mem_map.2 ⟨l, hl, by rw [e1, e2]; rfl⟩)
    · exact .inr (List.mem_map.2 ⟨l, hl, by rw [e1, e2]; rfl⟩)
  exact ((parts_lst h hb).of (Gh.Cn.link hE)).one (parts_lst h ha)
theorem parts_self {N : Nt} (h : Valid N) {a : Nat} (ha : a < N.st.length) :
    Gh.pturns (nlk N.lk) N.st.length id a ≤ a ∧ Gh.pturns (nlk N.lk) N.st.length id (Gh.pturns (nlk N.lk) N.st.length id a) = Gh.pturns (nlk N.lk) N.st.length id a := by
  have h1 := parts_lst h ha
  have h2 : Gh.pturns (nlk N.lk) N.st.length id a ≤ a := h1.2 a (Gh.Cn.refl a)
  exact ⟨h2, (parts_lst h (by omega)).one h1.self⟩

/-- How many there are. -/
def cnt (L : List L3) (n : Nat) : Nat → Nat
  | 0 => 0
  | k + 1 => cnt L n k + (nearK L (k : Int) n).length
def one (a b : Int) : Nat → Nat → Nat := fun i j => if (i : Int) = a ∧ (j : Int) = b then 1 else 0
def row (g : Nat → Nat) : Nat → Nat
  | 0 => 0
  | k + 1 => row g k + g k
theorem row_add (g h : Nat → Nat) (k : Nat) : row (fun j => g j + h j) k = row g k + row h k := by
  induction k with
  | zero => rfl
  | succ k ih => rw [row, row, row, ih]; omega
theorem row_zero {g : Nat → Nat} (k : Nat) (h : ∀ j, j < k → g j = 0) : row g k = 0 := by
  induction k with
  | zero => rfl
  | succ k ih => rw [row, ih (fun j hj => h j (by omega)), h k (by omega)]
theorem row_one {g : Nat → Nat} {k b : Nat} (hb : b < k) (h : ∀ j, j < k → g j = if j = b then 1 else 0) : row g k = 1 := by
  induction k with
  | zero => omega
  | succ k ih =>
    rw [row]
    rcases Nat.lt_or_ge b k with h1 | h1
    · rw [ih h1 (fun j hj => h j (by omega)), h k (by omega), if_neg (by omega)]
    · obtain rfl : b = k := by omega
      rw [h b (by omega), if_pos rfl, row_zero b (fun j hj => by rw [h j (by omega), if_neg (by omega)])]
theorem row_congr {g h : Nat → Nat} {k : Nat} (e : ∀ j, j < k → g j = h j) : row g k = row h k := by
  induction k with
  | zero => rfl
  | succ k ih => rw [row, row, ih (fun j hj => e j (by omega)), e k (by omega)]
def hit (L : List L3) (i j : Nat) : Nat := if wt L (i : Int) (j : Int) = 0 then 0 else 1
theorem near_row (L : List L3) (s k : Nat) : (nearK L (s : Int) k).length = row (hit L s) k := by
  induction k with
  | zero => rfl
  | succ k ih =>
    rw [nearK, List.length_append, ih, row]
    unfold hit
    split <;> simp_all
theorem cnt_row (L : List L3) (n k : Nat) : cnt L n k = row (fun i => row (hit L i) n) k := by
  induction k with
  | zero => rfl
  | succ k ih => rw [cnt, row, ih, near_row]
theorem row_pair {a b : Int} {n : Nat} (ha : 0 ≤ a ∧ a < (n : Int)) (hb : 0 ≤ b ∧ b < (n : Int)) : row (fun i => row (one a b i) n) n = 1 := by
  refine row_one (b := a.toNat) (by omega) fun i hi => ?_
  by_cases e : i = a.toNat
  · rw [if_pos e]
    refine row_one (b := b.toNat) (by omega) fun j hj => ?_
    unfold one
    by_cases e2 : j = b.toNat
    · rw [if_pos e2, if_pos ⟨by omega, by omega⟩]
    · rw [if_neg e2, if_neg (fun h => e2 (by omega))]
  · rw [if_neg e]
    exact row_zero n fun j _ => by unfold one; rw [if_neg (fun h => e (by omega))]
/-- Links that lie in order: each pair of stops has one at most. -/
def Asc : List L3 → Prop
  | [] => True
  | l :: t => (∀ k ∈ t, ¬ (k.1 = l.1 ∧ k.2.1 = l.2.1)) ∧ Asc t
theorem cnt_links {n : Nat} : ∀ {L : List L3}, (∀ l ∈ L, 0 ≤ l.1 ∧ l.1 < l.2.1 ∧ l.2.1 < (n : Int) ∧ 1 ≤ l.2.2) → Asc L → row (fun i => row (hit L i) n) n = 2 * L.length
  | [], _, _ => by
    refine row_zero n fun i _ => row_zero n fun j _ => ?_
    unfold hit
    rw [if_pos (by rfl)]
  | l :: t, h, ha => by
    have h1 := h l List.mem_cons_self
    have ht := fun k hk => h k (List.mem_cons_of_mem l hk)
    have ih := cnt_links ht ha.2
    have e : ∀ i j : Nat, hit (l :: t) i j = one l.1 l.2.1 i j + one l.2.1 l.1 i j + hit t i j := fun i j => by
      unfold hit one
      rw [wt]
      by_cases hj : joins (i : Int) (j : Int) l = true
      · rw [if_pos hj, if_neg (show ¬ l.2.2 = 0 by omega)]
        have hz : wt t (i : Int) (j : Int) = 0 := Classical.byContradiction fun hne => by
          obtain ⟨k, hk, hjk, -⟩ := wt_ex hne
          have hk1 := ht k hk
          rcases joins_iff.1 hj with ⟨a1, a2⟩ | ⟨a1, a2⟩ <;> rcases joins_iff.1 hjk with ⟨b1, b2⟩ | ⟨b1, b2⟩
          · exact ha.1 k hk ⟨by omega, by omega⟩
          · omega
          · omega
          · exact ha.1 k hk ⟨by omega, by omega⟩
        rw [if_pos hz]
        rcases joins_iff.1 hj with ⟨a1, a2⟩ | ⟨a1, a2⟩
        · rw [if_pos ⟨by omega, by omega⟩, if_neg (by omega)]
        · rw [if_neg (by omega), if_pos ⟨by omega, by omega⟩]
      · rw [if_neg hj]
        have hn := fun h => hj (joins_iff.2 h)
        rw [if_neg (show ¬ ((i : Int) = l.1 ∧ (j : Int) = l.2.1) from fun h => hn (.inl ⟨h.1.symm, h.2.symm⟩)), if_neg (show ¬ ((i : Int) = l.2.1 ∧ (j : Int) = l.1) from fun h => hn (.inr ⟨h.2.symm, h.1.symm⟩))]
        omega
    have e2 : row (fun i => row (hit (l :: t) i) n) n = row (fun i => row (one l.1 l.2.1 i) n + row (one l.2.1 l.1 i) n + row (hit t i) n) n := row_congr fun i _ => by
      rw [row_congr (fun j _ => e i j), row_add, row_add]
    rw [e2, row_add, row_add, row_pair ⟨by omega, by omega⟩ ⟨by omega, by omega⟩, row_pair ⟨by omega, by omega⟩ ⟨by omega, by omega⟩, ih, List.length_cons]
    omega
theorem asc_of {n : Nat} : ∀ {L : List L3}, LksOk n L → Asc L
  | [], _ => trivial
  | l :: t, h => by
    have step : ∀ i, i < t.length → ∀ x y : L3, (l :: t)[i]? = some x → t[i]? = some y → x.1 < y.1 ∨ (x.1 = y.1 ∧ x.2.1 < y.2.1) := fun i hi x y hx hy => by
      obtain ⟨q, hq, -, -, -, -, -, h6⟩ := h (i + 1) (by simp; omega)
      rw [List.getElem?_cons_succ, hy] at hq
      injection hq with hq
      subst hq
      obtain ⟨k, hk, hlt⟩ := h6 (by omega)
      rw [show i + 1 - 1 = i by omega, hx] at hk
      injection hk with hk
      subst hk
      exact hlt
    have far : ∀ (i : Nat) (y : L3), t[i]? = some y → l.1 < y.1 ∨ (l.1 = y.1 ∧ l.2.1 < y.2.1) := by
      intro i
      induction i with
      | zero => intro y hy; exact step 0 ((List.getElem?_eq_some_iff.1 hy).1) l y rfl hy
      | succ i ih =>
        intro y hy
        have hi := (List.getElem?_eq_some_iff.1 hy).1
        have h1 := ih _ (List.getElem?_eq_getElem (by omega : i < t.length))
        have h2 := step (i + 1) hi t[i] y (by rw [List.getElem?_cons_succ, List.getElem?_eq_getElem (by omega)]) hy
        omega
    refine ⟨fun k hk he => ?_, asc_of (n := n) fun i hi => ?_⟩
    · obtain ⟨i, hi, e⟩ := List.getElem_of_mem hk
      have := far i k (by rw [List.getElem?_eq_getElem hi, e])
      omega
    · obtain ⟨q, hq, a, b, c, d, e, h6⟩ := h (i + 1) (by simp; omega)
      rw [List.getElem?_cons_succ] at hq
      refine ⟨q, hq, a, b, c, d, e, fun h0 => ?_⟩
      obtain ⟨k, hk, hlt⟩ := h6 (by omega)
      obtain ⟨j, rfl⟩ : ∃ j, i = j + 1 := ⟨i - 1, by omega⟩
      rw [show j + 1 + 1 - 1 = j + 1 by omega, List.getElem?_cons_succ] at hk
      exact ⟨k, by rw [show j + 1 - 1 = j by omega]; exact hk, hlt⟩
/-- All neighbours together: twice as many as links. -/
theorem cnt_all {N : Nt} (h : Valid N) : cnt N.lk N.st.length N.st.length = 2 * N.lk.length := by
  rw [cnt_row]
  exact cnt_links (fun l hl => by have := link_at h hl; omega) (asc_of h.lk)
end Go.Proofs.Ytdhlbcbgbmgcjaa.Gf

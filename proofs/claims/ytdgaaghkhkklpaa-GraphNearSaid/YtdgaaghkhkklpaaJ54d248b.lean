/- Lemmas that the proof stands on, in build order: GfN GeO0 GfO0 GeRm. -/
import Derived.Test.YtdgaaghkhkklpaaProg
import Derived.Deep.QuietTactic
import Derived.BigQuiet
import Derived.WalkMore
import Derived.Test.YtdgaaghkhkklpaaJ21bd6f6
import Derived.Test.YtdgaaghkhkklpaaJ36a19f6
import Derived.Test.YtdgaaghkhkklpaaJ4b79103
/- Layer 15 (graph), mathematics: neighbours and parts; no program's text is named here. -/
namespace Go.Proofs.Ytdgaaghkhkklpaa.Gf
open Go.RowKit Ge

/-- Does a link join two stops? -/
def joins (a b : Int) (l : L3) : Bool := (decide (l.1 = a) && decide (l.2.1 = b)) || (decide (l.1 = b) && decide (l.2.1 = a))
/-- The weight of the first link that joins two stops; 0: none. -/
def wt : List L3 → Int → Int → Int
  | [], _, _ => 0
  | l :: t, a, b => if joins a b l then l.2.2 else wt t a b
theorem joins_sym (a b : Int) (l : L3) : joins a b l = joins b a l := by unfold joins; rw [Bool.or_comm]
theorem wt_sym (L : List L3) (a b : Int) : wt L a b = wt L b a := by
  induction L with
  | nil => rfl
  | cons l t ih => rw [wt, wt, joins_sym, ih]
theorem joins_iff {a b : Int} {l : L3} : joins a b l = true ↔ (l.1 = a ∧ l.2.1 = b) ∨ (l.1 = b ∧ l.2.1 = a) := by
  unfold joins
  simp
theorem wt_ex : ∀ {L : List L3} {a b : Int}, wt L a b ≠ 0 → ∃ l ∈ L, joins a b l = true ∧ l.2.2 = wt L a b
  | [], _, _, h => absurd rfl h
  | l :: t, a, b, h => by
    rw [wt] at h ⊢
    by_cases hj : joins a b l = true
    · rw [if_pos hj]
      exact ⟨l, List.mem_cons_self, hj, rfl⟩
    · rw [if_neg hj] at h ⊢
      obtain ⟨k, h1, h2, h3⟩ := wt_ex h
      exact ⟨k, List.mem_cons_of_mem _ h1, h2, h3⟩
theorem wt_ne : ∀ {L : List L3} {a b : Int}, (∀ l ∈ L, l.2.2 ≠ 0) → (∃ l ∈ L, joins a b l = true) → wt L a b ≠ 0
  | [], _, _, _, ⟨_, h, _⟩ => by cases h
  | l :: t, a, b, hw, ⟨k, hk, hj⟩ => by
    rw [wt]
    by_cases h : joins a b l = true
    · rw [if_pos h]; exact hw l List.mem_cons_self
    · rw [if_neg h]
      rcases List.mem_cons.1 hk with rfl | hk
      · exact absurd hj h
      · exact wt_ne (fun x hx => hw x (List.mem_cons_of_mem _ hx)) ⟨k, hk, hj⟩
/-- The links to the neighbours of a stop: the first k stops. -/
def nearK (L : List L3) (s : Int) : Nat → List L3
  | 0 => []
  | k + 1 => nearK L s k ++ (if wt L s (k : Int) = 0 then [] else [(s, (k : Int), wt L s (k : Int))])
def nearL (N : Nt) (s : Int) : List L3 := nearK N.lk s N.st.length
theorem mem_nearK {L : List L3} {s : Int} : ∀ {k : Nat} {x : L3}, x ∈ nearK L s k ↔ ∃ i : Nat, i < k ∧ wt L s (i : Int) ≠ 0 ∧ x = (s, (i : Int), wt L s (i : Int))
  | 0, x => by simp [nearK]
  | k + 1, x => by
    rw [nearK, List.mem_append, mem_nearK]
    constructor
    · rintro (⟨i, h1, h2, h3⟩ | h)
      · exact ⟨i, by omega, h2, h3⟩
      · by_cases h0 : wt L s (k : Int) = 0
        · rw [if_pos h0] at h; cases h
        · rw [if_neg h0] at h
          exact ⟨k, by omega, h0, List.mem_singleton.1 h⟩
    · rintro ⟨i, h1, h2, h3⟩
      rcases Nat.lt_or_ge i k with h | h
      · exact .inl ⟨i, h, h2, h3⟩
      · obtain rfl : i = k := by omega
        exact .inr (by rw [if_neg h2]; exact List.mem_singleton.2 h3)
theorem nearK_le (L : List L3) (s : Int) (k : Nat) : (nearK L s k).length ≤ k := by
  induction k with
  | zero => exact Nat.le_refl _
  | succ k ih =>
    rw [nearK, List.length_append]
    split <;> simp <;> omega

/-- The links over stops as numbers. -/
def nlk (L : List L3) : List Pa.Lk := L.map fun l => (l.1.toNat, l.2.1.toNat, l.2.2.toNat)
/-- The least stop that each one is joined with. -/
def partsT (N : Nt) : List Nat := (List.range N.st.length).map (Gh.pturns (nlk N.lk) N.st.length id)
theorem parts_len (N : Nt) : (partsT N).length = N.st.length := by unfold partsT; simp
theorem parts_at {N : Nt} {v : Nat} (h : v < N.st.length) : (partsT N)[v]? = some (Gh.pturns (nlk N.lk) N.st.length id v) := by
  unfold partsT
  rw [List.getElem?_map, List.getElem?_range h]
  rfl
theorem nlk_lt {N : Nt} (h : Valid N) : ∀ l ∈ nlk N.lk, l.1 < N.st.length ∧ l.2.1 < N.st.length := fun l hl => by
  unfold nlk at hl
  obtain ⟨k, hk, rfl⟩ := List.mem_map.1 hl
  obtain ⟨i, hi, e⟩ := List.getElem_of_mem hk
  obtain ⟨q, hq, h1, h2, h3, h4, h5, -⟩ := h.lk i hi
  rw [List.getElem?_eq_getElem hi, e] at hq
  injection hq with hq
  subst hq
  simp only
  omega
theorem parts_lst {N : Nt} (h : Valid N) {v : Nat} (hv : v < N.st.length) : Gh.Lst (nlk N.lk) v (Gh.pturns (nlk N.lk) N.st.length id v) := Gh.pturns_is (nlk_lt h) hv
/-- What tells each stop's least one is the parts. -/
theorem parts_one {N : Nt} (h : Valid N) {P : List Nat} (hl : P.length = N.st.length) (hp : ∀ v p, P[v]? = some p → Gh.Lst (nlk N.lk) v p) : P = partsT N := by
  refine List.ext_getElem? fun v => ?_
  rcases Nat.lt_or_ge v N.st.length with hv | hv
  · rw [parts_at hv]
    rw [List.getElem?_eq_getElem (by omega)]
    congr 1
    exact (hp v _ (List.getElem?_eq_getElem (by omega))).one (parts_lst h hv)
  · rw [List.getElem?_eq_none (by omega), List.getElem?_eq_none (by rw [parts_len]; omega)]
theorem link_at {N : Nt} (h : Valid N) {l : L3} (hl : l ∈ N.lk) : 0 ≤ l.1 ∧ l.1 < l.2.1 ∧ l.2.1 < (N.st.length : Int) ∧ 1 ≤ l.2.2 ∧ l.2.2 < 1048576 := by
  obtain ⟨i, hi, e⟩ := List.getElem_of_mem hl
  obtain ⟨q, hq, h1, h2, h3, h4, h5, -⟩ := h.lk i hi
  rw [List.getElem?_eq_getElem hi, e] at hq
  injection hq with hq
  subst hq
  exact ⟨h1, h2, h3, h4, h5⟩
/-- Neighbours are of one part. -/
theorem parts_near {N : Nt} (h : Valid N) {a b : Nat} (hw : wt N.lk (a : Int) (b : Int) ≠ 0) (ha : a < N.st.length) (hb : b < N.st.length) :
    Gh.pturns (nlk N.lk) N.st.length id b = Gh.pturns (nlk N.lk) N.st.length id a := by
  obtain ⟨l, hl, hj, -⟩ := wt_ex hw
  have hk := link_at h hl
  have hE : Pa.E (nlk N.lk) a b l.2.2.toNat := by
    rcases joins_iff.1 hj with ⟨e1, e2⟩ | ⟨e1, e2⟩
    · exact .inl (List.mem_map.2 ⟨l, hl, by rw [e1, e2]; rfl⟩)
    · exact .inr (List.mem_map.2 ⟨l, hl, by rw [e1, e2]; rfl⟩)
  exact ((parts_lst h hb).of (Gh.Cn.link hE)).one (parts_lst h ha)
theorem parts_self {N : Nt} (h : Valid N) {a : Nat} (ha : a < N.st.length) :
    Gh.pturns (nlk N.lk) N.st.length id a ≤ a ∧ Gh.pturns (nlk N.lk) N.st.length id (Gh.pturns (nlk N.lk) N.st.length id a) = Gh.pturns (nlk N.lk) N.st.length id a := by
  have h1 := parts_lst h ha
  have h2 : Gh.pturns (nlk N.lk) N.st.length id a ≤ a := h1.2 a (Gh.Cn.refl a)
  exact ⟨h2, (parts_lst h (by omega)).one h1.self⟩

/-- How many there are. -/
def cnt (L : List L3) (n : Nat) : Nat → Nat
  | 0 => 0
  | k + 1 => cnt L n k + (nearK L (k : Int) n).length
def one (a b : Int) : Nat → Nat → Nat := fun i j => if (i : Int) = a ∧ (j : Int) = b then 1 else 0
def row (g : Nat → Nat) : Nat → Nat
  | 0 => 0
  | k + 1 => row g k + g k
theorem row_add (g h : Nat → Nat) (k : Nat) : row (fun j => g j + h j) k = row g k + row h k := by
  induction k with
  | zero => rfl
  | succ k ih => rw [row, row, row, ih]; omega
theorem row_zero {g : Nat → Nat} (k : Nat) (h : ∀ j, j < k → g j = 0) : row g k = 0 := by
  induction k with
  | zero => rfl
  | succ k ih => rw [row, ih (fun j hj => h j (by omega)), h k (by omega)]
theorem row_one {g : Nat → Nat} {k b : Nat} (hb : b < k) (h : ∀ j, j < k → g j = if j = b then 1 else 0) : row g k = 1 := by
  induction k with
  | zero => omega
  | succ k ih =>
    rw [row]
    rcases Nat.lt_or_ge b k with h1 | h1
    · rw [ih h1 (fun j hj => h j (by omega)), h k (by omega), if_neg (by omega)]
    · obtain rfl : b = k := by omega
      rw [h b (by omega), if_pos rfl, row_zero b (fun j hj => by rw [h j (by omega), if_neg (by omega)])]
theorem row_congr {g h : Nat → Nat} {k : Nat} (e : ∀ j, j < k → g j = h j) : row g k = row h k := by
  induction k with
  | zero => rfl
  | succ k ih => rw [row, row, ih (fun j hj => e j (by omega)), e k (by omega)]
def hit (L : List L3) (i j : Nat) : Nat := if wt L (i : Int) (j : Int) = 0 then 0 else 1
theorem near_row (L : List L3) (s k : Nat) : (nearK L (s : Int) k).length = row (hit L s) k := by
  induction k with
  | zero => rfl
  | succ k ih =>
    rw [nearK, List.length_append, ih, row]
    unfold hit
    split <;> simp_all
theorem cnt_row (L : List L3) (n k : Nat) : cnt L n k = row (fun i => row (hit L i) n) k := by
  induction k with
  | zero => rfl
  | succ k ih => rw [cnt, row, ih, near_row]
theorem row_pair {a b : Int} {n : Nat} (ha : 0 ≤ a ∧ a < (n : Int)) (hb : 0 ≤ b ∧ b < (n : Int)) : row (fun i => row (one a b i) n) n = 1 := by
  refine row_one (b := a.toNat) (by omega) fun i hi => ?_
  by_cases e : i = a.toNat
  · rw [if_pos e]
    refine row_one (b := b.toNat) (by omega) fun j hj => ?_
    unfold one
    by_cases e2 : j = b.toNat
    · rw [if_pos e2, if_pos ⟨by omega, by omega⟩]
    · rw [if_neg e2, if_neg (fun h => e2 (by omega))]
  · rw [if_neg e]
    exact row_zero n fun j _ => by unfold one; rw [if_neg (fun h => e (by omega))]
/-- Links that lie in order: each pair of stops has one at most. -/
def Asc : List L3 → Prop
  | [] => True
  | l :: t => (∀ k ∈ t, ¬ (k.1 = l.1 ∧ k.2.1 = l.2.1)) ∧ Asc t
theorem cnt_links {n : Nat} : ∀ {L : List L3}, (∀ l ∈ L, 0 ≤ l.1 ∧ l.1 < l.2.1 ∧ l.2.1 < (n : Int) ∧ 1 ≤ l.2.2) → Asc L → row (fun i => row (hit L i) n) n = 2 * L.length
  | [], _, _ => by
    refine row_zero n fun i _ => row_zero n fun j _ => ?_
    unfold hit
    rw [if_pos (by rfl)]
  | l :: t, h, ha => by
    have h1 := h l List.mem_cons_self
    have ht := fun k hk => h k (List.mem_cons_of_mem l hk)
    have ih := cnt_links ht ha.2
    have e : ∀ i j : Nat, hit (l :: t) i j = one l.1 l.2.1 i j + one l.2.1 l.1 i j + hit t i j := fun i j => by
      unfold hit one
      rw [wt]
      by_cases hj : joins (i : Int) (j : Int) l = true
      · rw [if_pos hj, if_neg (show ¬ l.2.2 = 0 by omega)]
        have hz : wt t (i : Int) (j : Int) = 0 := Classical.byContradiction fun hne => by
          obtain ⟨k, hk, hjk, -⟩ := wt_ex hne
          have hk1 := ht k hk
          rcases joins_iff.1 hj with ⟨a1, a2⟩ | ⟨a1, a2⟩ <;> rcases joins_iff.1 hjk with ⟨b1, b2⟩ | ⟨b1, b2⟩
          · exact ha.1 k hk ⟨by omega, by omega⟩
          · omega
          · omega
          · exact ha.1 k hk ⟨by omega, by omega⟩
        rw [if_pos hz]
        rcases joins_iff.1 hj with ⟨a1, a2⟩ | ⟨a1, a2⟩
        · rw [if_pos ⟨by omega, by omega⟩, if_neg (by omega)]
        · rw [if_neg (by omega), if_pos ⟨by omega, by omega⟩]
      · rw [if_neg hj]
        have hn := fun h => hj (joins_iff.2 h)
        rw [if_neg (show ¬ ((i : Int) = l.1 ∧ (j : Int) = l.2.1) from fun h => hn (.inl ⟨h.1.symm, h.2.symm⟩)), if_neg (show ¬ ((i : Int) = l.2.1 ∧ (j : Int) = l.1) from fun h => hn (.inr ⟨h.2.symm, h.1.symm⟩))]
        omega
    have e2 : row (fun i => row (hit (l :: t) i) n) n = row (fun i => row (one l.1 l.2.1 i) n + row (one l.2.1 l.1 i) n + row (hit t i) n) n := row_congr fun i _ => by
      rw [row_congr (fun j _ => e i j), row_add, row_add]
    rw [e2, row_add, row_add, row_pair ⟨by omega, by omega⟩ ⟨by omega, by omega⟩, row_pair ⟨by omega, by omega⟩ ⟨by omega, by omega⟩, ih, List.length_cons]
    omega
theorem asc_of {n : Nat} : ∀ {L : List L3}, LksOk n L → Asc L
  | [], _ => trivial
  | l :: t, h => by
    have step : ∀ i, i < t.length → ∀ x y : L3, (l :: t)[i]? = some x → t[i]? = some y → x.1 < y.1 ∨ (x.1 = y.1 ∧ x.2.1 < y.2.1) := fun i hi x y hx hy => by
      obtain ⟨q, hq, -, -, -, -, -, h6⟩ := h (i + 1) (by simp; omega)
      rw [List.getElem?_cons_succ, hy] at hq
      injection hq with hq
      subst hq
      obtain ⟨k, hk, hlt⟩ := h6 (by omega)
      rw [show i + 1 - 1 = i by omega, hx] at hk
      injection hk with hk
      subst hk
      exact hlt
    have far : ∀ (i : Nat) (y : L3), t[i]? = some y → l.1 < y.1 ∨ (l.1 = y.1 ∧ l.2.1 < y.2.1) := by
      intro i
      induction i with
      | zero => intro y hy; exact step 0 ((List.getElem?_eq_some_iff.1 hy).1) l y rfl hy
      | succ i ih =>
        intro y hy
        have hi := (List.getElem?_eq_some_iff.1 hy).1
        have h1 := ih _ (List.getElem?_eq_getElem (by omega : i < t.length))
        have h2 := step (i + 1) hi t[i] y (by rw [List.getElem?_cons_succ, List.getElem?_eq_getElem (by omega)]) hy
        omega
    refine ⟨fun k hk he => ?_, asc_of (n := n) fun i hi => ?_⟩
    · obtain ⟨i, hi, e⟩ := List.getElem_of_mem hk
      have := far i k (by rw [List.getElem?_eq_getElem hi, e])
      omega
    · obtain ⟨q, hq, a, b, c, d, e, h6⟩ := h (i + 1) (by simp; omega)
      rw [List.getElem?_cons_succ] at hq
      refine ⟨q, hq, a, b, c, d, e, fun h0 => ?_⟩
      obtain ⟨k, hk, hlt⟩ := h6 (by omega)
      obtain ⟨j, rfl⟩ : ∃ j, i = j + 1 := ⟨i - 1, by omega⟩
      rw [show j + 1 + 1 - 1 = j + 1 by omega, List.getElem?_cons_succ] at hk
      exact ⟨k, by rw [show j + 1 - 1 = j by omega]; exact hk, hlt⟩
/-- All neighbours together: twice as many as links. -/
theorem cnt_all {N : Nt} (h : Valid N) : cnt N.lk N.st.length N.st.length = 2 * N.lk.length := by
  rw [cnt_row]
  exact cnt_links (fun l hl => by have := link_at h hl; omega) (asc_of h.lk)
end Go.Proofs.Ytdgaaghkhkklpaa.Gf

/- Layer 13 (geo): cells and places in memory. -/
namespace Go.Proofs.Ytdgaaghkhkklpaa.Ge
open Go.RowKit Rec

/-- Two ints in two cells. -/
def twoS : Shape (Int × Int) where
  f p := [.int .i64 p.1, .int .i64 p.2]
  c := 2
  pos := by omega
  len _ := rfl
  one _ u hu := by
    simp only [List.mem_cons, List.not_mem_nil, or_false] at hu
    rcases hu with rfl | rfl <;> rfl
section
variable {w : World} {B n : Nat} {A : Option Addr} {l : List (Int × Int)}
theorem two_at (h : RRow twoS w B A n l) {j : Nat} (hj : j < n) : ∃ b o p, A = some ⟨b, o, none⟩ ∧ b < B ∧ l[j]? = some p ∧ w.cell? ⟨b, o + j * 2, none⟩ = some (.int .i64 p.1) ∧ w.cell? ⟨b, o + j * 2 + 1, none⟩ = some (.int .i64 p.2) := by
  obtain ⟨b, o, p, e, hb, hp, hc⟩ := h.at hj
  exact ⟨b, o, p, e, hb, hp, hc 0 (by show 0 < 2; omega), hc 1 (by show 1 < 2; omega)⟩
theorem new_two (w : World) (p : Int × Int) (t : TypeId) : ∀ j u, (twoS.f p)[j]? = some u → (w.alloc (.cells #[.int .i64 p.1, .int .i64 p.2] t)).cell? ((⟨w.heap.size, 0, none⟩ : Addr).add j) = some u := new_rec (S := twoS) w p t
end
/-- A number of 64 bits. -/
def B64 (n : Int) : Prop := -9223372036854775808 ≤ n ∧ n ≤ 9223372036854775807
/-- A place as a value. -/
def pl (p : Int × Int) : Value := .agg #[.int .i64 p.1, .int .i64 p.2]
def B64p (p : Int × Int) : Prop := B64 p.1 ∧ B64 p.2

/-- What came back is a slice that reads as a list. -/
def TwTo (B : Nat) (w0 : World) (l : List (Int × Int)) (v : Value) (w' : World) : Prop :=
  ∃ A n c, v = .slice A n c ∧ RRow twoS w' w'.heap.size A n l ∧ (A = none → c = 0) ∧ n ≤ c ∧ c ≤ maxLen ∧ Below B w0 w'
theorem TwTo.of_own {B : Nat} {w0 w' : World} {l : List (Int × Int)} {v : Value} {n : Nat} {e : TypeId} (h : w'.ownsRow B e 2 v n (twoS.flat l)) (hb : Below B w0 w') : TwTo B w0 l v w' := by
  have h' : w'.ownsRow B e twoS.c v n (twoS.flat l) := h
  rcases h.2 with ⟨rfl, rfl⟩ | ⟨g, cap, cur, rfl, h1, h2, h3, h4, h5, h6⟩
  · exact ⟨none, 0, 0, rfl, RRow.of_own (S := twoS) h', fun _ => rfl, Nat.le_refl _, Nat.zero_le _, hb⟩
  · exact ⟨_, n, cap, rfl, RRow.of_own (S := twoS) h', fun h => by (cases h), h3, h4, hb⟩
end Go.Proofs.Ytdgaaghkhkklpaa.Ge

/- Layer 15 (graph): networks in memory. -/
namespace Go.Proofs.Ytdgaaghkhkklpaa.Gf
open Go.RowKit Rec Ints Ge

/-- Three ints in three cells. -/
def lkS : Shape L3 where
  f p := [.int .i64 p.1, .int .i64 p.2.1, .int .i64 p.2.2]
  c := 3
  pos := by omega
  len _ := rfl
  one _ u hu := by
    simp only [List.mem_cons, List.not_mem_nil, or_false] at hu
    rcases hu with rfl | rfl | rfl <;> rfl
section
variable {w : World} {B n : Nat} {A : Option Addr} {l : List L3}
theorem lk_at (h : RRow lkS w B A n l) {j : Nat} (hj : j < n) : ∃ b o p, A = some ⟨b, o, none⟩ ∧ b < B ∧ l[j]? = some p ∧ w.cell? ⟨b, o + j * 3, none⟩ = some (.int .i64 p.1) ∧ w.cell? ⟨b, o + j * 3 + 1, none⟩ = some (.int .i64 p.2.1) ∧ w.cell? ⟨b, o + j * 3 + 2, none⟩ = some (.int .i64 p.2.2) := by
  obtain ⟨b, o, p, e, hb, hp, hc⟩ := h.at hj
  exact ⟨b, o, p, e, hb, hp, hc 0 (by show 0 < 3; omega), hc 1 (by show 1 < 3; omega), hc 2 (by show 2 < 3; omega)⟩
theorem new_lk (w : World) (p : L3) (t : TypeId) : ∀ j u, (lkS.f p)[j]? = some u → (w.alloc (.cells #[.int .i64 p.1, .int .i64 p.2.1, .int .i64 p.2.2] t)).cell? ((⟨w.heap.size, 0, none⟩ : Addr).add j) = some u := new_rec (S := lkS) w p t
end
/-- A network lies in two slices. -/
structure NAt (w : World) (B : Nat) (N : Nt) (A : Option Addr) (n c : Nat) (A' : Option Addr) (m c' : Nat) : Prop where
  st : RRow twoS w B A n N.st
  lk : RRow lkS w B A' m N.lk
  ni : A = none → c = 0
  nc : n ≤ c
  cm : c ≤ maxLen
  ni' : A' = none → c' = 0
  nc' : m ≤ c'
  cm' : c' ≤ maxLen
theorem NAt.below {w w' : World} {B n c m c' : Nat} {N : Nt} {A A' : Option Addr} (h : NAt w B N A n c A' m c') (hb : Below B w w') : NAt w' B N A n c A' m c' := { h with st := h.st.below hb, lk := h.lk.below hb }
theorem NAt.more {w : World} {B B' n c m c' : Nat} {N : Nt} {A A' : Option Addr} (h : NAt w B N A n c A' m c') (hb : B ≤ B') : NAt w B' N A n c A' m c' := { h with st := h.st.more hb, lk := h.lk.more hb }
theorem NAt.up {w w' : World} {n c m c' : Nat} {N : Nt} {A A' : Option Addr} (h : NAt w w.heap.size N A n c A' m c') (hb : Below w.heap.size w w') : NAt w' w'.heap.size N A n c A' m c' := (h.below hb).more hb.size
/-- All its numbers are of 64 bits. -/
structure Bnd (N : Nt) : Prop where
  ver : B64 N.ver
  st : ∀ p ∈ N.st, B64p p
  lk : ∀ l ∈ N.lk, B64 l.1 ∧ B64 l.2.1 ∧ B64 l.2.2
/-- What came back is a slice of links. -/
def LkTo (B : Nat) (w0 : World) (l : List L3) (v : Value) (w' : World) : Prop :=
  ∃ A n c, v = .slice A n c ∧ RRow lkS w' w'.heap.size A n l ∧ (A = none → c = 0) ∧ n ≤ c ∧ c ≤ maxLen ∧ Below B w0 w'
theorem LkTo.of_own {B : Nat} {w0 w' : World} {l : List L3} {v : Value} {n : Nat} {e : TypeId} (h : w'.ownsRow B e 3 v n (lkS.flat l)) (hb : Below B w0 w') : LkTo B w0 l v w' := by
  have h' : w'.ownsRow B e lkS.c v n (lkS.flat l) := h
  rcases h.2 with ⟨rfl, rfl⟩ | ⟨g, cap, cur, rfl, h1, h2, h3, h4, h5, h6⟩
  · exact ⟨none, 0, 0, rfl, RRow.of_own (S := lkS) h', fun _ => rfl, Nat.le_refl _, Nat.zero_le _, hb⟩
  · exact ⟨_, n, cap, rfl, RRow.of_own (S := lkS) h', fun h => by (cases h), h3, h4, hb⟩
open Classical in
noncomputable def partsE (N : Nt) : List Int := if check N = 0 then nums (partsT N) else []
theorem info_lk : (Try.prog.info? 50).map (fun i => (i.zero, i.size, i.bytes)) = some (some (.agg #[.int .i64 0, .int .i64 0, .int .i64 0]), 3, 24) := by kernel_rfl
end Go.Proofs.Ytdgaaghkhkklpaa.Gf

/- Layer 13 (geo): the reference's May, as a contract. -/
namespace Go.Proofs.Ytdgaaghkhkklpaa.Ge
open Go.RowKit Rec

set_option maxRecDepth 100000 in
theorem refmay_any (x y : Int) (w : World) : Calls Try.prog 24 #[.int .i64 x, .int .i64 y] w fun e w' => e = .returned (.bool (decide (may x y))) ∧ w' = w := by
  by_cases h0 : 0 ≤ x
  · have d0 : decide (0 ≤ x) = true := decide_eq_true h0
    by_cases h1 : x < 67108864
    · have d1 : decide (x < 67108864) = true := decide_eq_true h1
      by_cases h2 : 0 ≤ y
      · have d2 : decide (0 ≤ y) = true := decide_eq_true h2
        have hm : decide (may x y) = decide (y < 67108864) := decide_eq_decide.2 ⟨fun h => h.2.2, fun h => ⟨⟨h0, h1⟩, h2, h⟩⟩
        rw [hm]
        clear hm
        go_enter Try.func24, Try.ntmps24
        go_wp2
        go_ret
        exact ⟨rfl, rfl⟩
      · have d2 : decide (0 ≤ y) = false := decide_eq_false h2
        have hm : decide (may x y) = false := decide_eq_false fun h => h2 h.2.1
        rw [hm]
        go_enter Try.func24, Try.ntmps24
        go_wp2
        go_ret
        exact ⟨rfl, rfl⟩
    · have d1 : decide (x < 67108864) = false := decide_eq_false h1
      have hm : decide (may x y) = false := decide_eq_false fun h => h1 h.1.2
      rw [hm]
      go_enter Try.func24, Try.ntmps24
      go_wp2
      go_ret
      exact ⟨rfl, rfl⟩
  · have d0 : decide (0 ≤ x) = false := decide_eq_false h0
    have hm : decide (may x y) = false := decide_eq_false fun h => h0 h.1.1
    rw [hm]
    go_enter Try.func24, Try.ntmps24
    go_wp2
    go_ret
    exact ⟨rfl, rfl⟩
end Go.Proofs.Ytdgaaghkhkklpaa.Ge

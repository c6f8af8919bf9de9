/- Lemmas that the proof stands on, in build order: NumM GfM GfO Part Cln. -/
import Derived.Laws.Rows
import Derived.Test.YtdgaaghkhkklpaaProg
import Derived.WalkKit
import Derived.KernelRfl
import Derived.WalkMore
import Derived.Lib.Walk
import Derived.Lib.SliceRun
import Derived.Lib.AppendZerosOnto
import Derived.Laws.BytesArg
import Derived.Lib.Bytes
import Derived.Test.YtdgaaghkhkklpaaJ11c53fdf
import Derived.Test.YtdgaaghkhkklpaaJ14943df
import Derived.Test.YtdgaaghkhkklpaaJ36a19f6
import Derived.Test.YtdgaaghkhkklpaaJ54d248b
import Derived.Test.YtdgaaghkhkklpaaJ7fe623b
/- Numbers that are read one behind the other, mathematics: what is left, and what was wrong first. -/
namespace Go.Proofs.Ytdgaaghkhkklpaa.Nu
open Go.RowKit Var Fld Frm

/-- What is left, and what was wrong first, behind a number. -/
def rd1 (s : List Int × Nat) (most : Int) : List Int × Nat := after s.1 s.2 (nxt s.1 most).2.1 (nxt s.1 most).2.2
def rv1 (s : List Int × Nat) (most : Int) : Int := val s.2 (nxt s.1 most)
theorem rd1_num {k most : Int} {ys : List Int} (h0 : 0 ≤ k) (h1 : k ≤ most) (h2 : k ≤ 4611686018427387904) : rd1 (num k ++ ys, 0) most = (ys, 0) ∧ rv1 (num k ++ ys, 0) most = k := by
  have e : take 0 0 (num k ++ ys) = (k.toNat, (num k).length, 0) := take_put0 (by omega) ys
  have ha : abv k.toNat most = false := by unfold abv; simp; omega
  have en : nxt (num k ++ ys) most = (k, (num k).length, 0) := by
    unfold nxt
    rw [e]
    simp only [ne_eq, not_true_eq_false, if_false, ha, Bool.false_eq_true]
    rw [show ((k.toNat : Nat) : Int) = k by omega]
  unfold rd1 rv1
  simp only [en]
  refine ⟨?_, rfl⟩
  unfold after
  simp
theorem rd1_len (s : List Int × Nat) (most : Int) : (rd1 s most).1.length ≤ s.1.length := by
  unfold rd1 after
  split
  · exact Nat.le_refl _
  split
  · exact Nat.le_refl _
  · rw [List.length_drop]; omega
/-- A number lies within its bound. -/
theorem rv1_in (s : List Int × Nat) {most : Int} (h : 0 ≤ most) : 0 ≤ rv1 s most ∧ rv1 s most ≤ most := by
  unfold rv1 val
  by_cases hn : s.2 ≠ 0 ∨ (nxt s.1 most).2.2 ≠ 0
  · rw [if_pos hn]; omega
  · rw [if_neg hn]
    have hn2 : ¬ (nxt s.1 most).2.2 ≠ 0 := fun h => hn (.inr h)
    unfold nxt at hn2 ⊢
    by_cases h1 : (take 0 0 s.1).2.2 ≠ 0
    · rw [if_pos h1]; show (0 : Int) ≤ 0 ∧ (0 : Int) ≤ most; omega
    · rw [if_neg h1]
      by_cases h2 : abv (take 0 0 s.1).1 most = true
      · rw [if_pos h2]; show (0 : Int) ≤ 0 ∧ (0 : Int) ≤ most; omega
      · rw [if_neg h2]
        have h3 := abv_no (Bool.eq_false_iff.2 h2)
        show (0 : Int) ≤ ((take 0 0 s.1).1 : Int) ∧ ((take 0 0 s.1).1 : Int) ≤ most
        omega
theorem wholly_byt {k : Int} {b : List Int} (h : Byt b) : Byt (wholly k b).1 := by
  have ht : Byt (took b).2.1 := by
    unfold took
    repeat' split
    all_goals first
      | exact (h.drop _).take _
      | (intro x hx; simp at hx; done)
  unfold wholly
  repeat' split
  all_goals first
    | exact ht
    | (intro x hx; simp at hx; done)
theorem wholly_len (k : Int) (b : List Int) : (wholly k b).1.length ≤ 1048576 := by
  have ht : (took b).2.1.length ≤ 1048576 := by
    unfold took
    repeat' split
    all_goals first
      | (simp; done)
      | (rw [List.length_take]; omega)
  unfold wholly
  repeat' split
  all_goals first
    | (simp; done)
    | exact ht
end Go.Proofs.Ytdgaaghkhkklpaa.Nu

/- Layer 15 (graph), mathematics: networks' bytes, what bytes read as; no program's text is named here. -/
namespace Go.Proofs.Ytdgaaghkhkklpaa.Gf
open Go.RowKit Var Fld Frm Nu Ge

/-- A network's bytes. -/
def encS : List C → List Int
  | [] => []
  | p :: t => (num p.1 ++ num p.2) ++ encS t
def encL : List L3 → List Int
  | [] => []
  | l :: t => (num l.1 ++ (num l.2.1 ++ num l.2.2)) ++ encL t
def cont (N : Nt) : List Int := num N.ver ++ (num (N.st.length : Int) ++ (encS N.st ++ (num (N.lk.length : Int) ++ encL N.lk)))
theorem encS_snoc (l : List C) (p : C) : encS (l ++ [p]) = encS l ++ (num p.1 ++ num p.2) := by
  induction l with
  | nil => simp [encS]
  | cons a t ih => rw [List.cons_append, encS, encS, ih]; simp [List.append_assoc]
theorem encL_snoc (l : List L3) (p : L3) : encL (l ++ [p]) = encL l ++ (num p.1 ++ (num p.2.1 ++ num p.2.2)) := by
  induction l with
  | nil => simp [encL]
  | cons a t ih => rw [List.cons_append, encL, encL, ih]; simp [List.append_assoc]
theorem num10 (k : Int) (h : k ≤ 9223372036854775807) : (num k).length ≤ 10 := num_len h
theorem encS_len : ∀ (l : List C), (∀ p ∈ l, p.1 ≤ 9223372036854775807 ∧ p.2 ≤ 9223372036854775807) → (encS l).length ≤ 20 * l.length
  | [], _ => by simp [encS]
  | p :: t, h => by
    have h1 := num10 p.1 (h p List.mem_cons_self).1
    have h2 := num10 p.2 (h p List.mem_cons_self).2
    have h3 := encS_len t (fun q hq => h q (List.mem_cons_of_mem _ hq))
    rw [encS, List.length_append, List.length_append, List.length_cons]
    omega
theorem encL_len : ∀ (l : List L3), (∀ p ∈ l, p.1 ≤ 9223372036854775807 ∧ p.2.1 ≤ 9223372036854775807 ∧ p.2.2 ≤ 9223372036854775807) → (encL l).length ≤ 30 * l.length
  | [], _ => by simp [encL]
  | p :: t, h => by
    have h1 := num10 p.1 (h p List.mem_cons_self).1
    have h2 := num10 p.2.1 (h p List.mem_cons_self).2.1
    have h4 := num10 p.2.2 (h p List.mem_cons_self).2.2
    have h3 := encL_len t (fun q hq => h q (List.mem_cons_of_mem _ hq))
    rw [encL, List.length_append, List.length_append, List.length_append, List.length_cons]
    omega

abbrev S2 := List Int × Nat
/-- The first k stops that are read, and what is behind them. -/
def rdS (s : S2) : Nat → List C × S2
  | 0 => ([], s)
  | k + 1 => ((rdS s k).1 ++ [(rv1 (rdS s k).2 67108863, rv1 (rd1 (rdS s k).2 67108863) 67108863)], rd1 (rd1 (rdS s k).2 67108863) 67108863)
def rdL (s : S2) : Nat → List L3 × S2
  | 0 => ([], s)
  | k + 1 => ((rdL s k).1 ++ [(rv1 (rdL s k).2 4095, rv1 (rd1 (rdL s k).2 4095) 4095, rv1 (rd1 (rd1 (rdL s k).2 4095) 4095) 1048575)], rd1 (rd1 (rd1 (rdL s k).2 4095) 4095) 1048575)
theorem rdS_len (s : S2) (k : Nat) : (rdS s k).1.length = k := by
  induction k with
  | zero => rfl
  | succ k ih => rw [rdS]; simp [ih]
theorem rdL_len (s : S2) (k : Nat) : (rdL s k).1.length = k := by
  induction k with
  | zero => rfl
  | succ k ih => rw [rdL]; simp [ih]
theorem rdS_short (s : S2) (k : Nat) : (rdS s k).2.1.length ≤ s.1.length := by
  induction k with
  | zero => exact Nat.le_refl _
  | succ k ih => exact Nat.le_trans (rd1_len _ _) (Nat.le_trans (rd1_len _ _) ih)
theorem rdL_short (s : S2) (k : Nat) : (rdL s k).2.1.length ≤ s.1.length := by
  induction k with
  | zero => exact Nat.le_refl _
  | succ k ih => exact Nat.le_trans (rd1_len _ _) (Nat.le_trans (rd1_len _ _) (Nat.le_trans (rd1_len _ _) ih))
def okC (p : C) : Prop := (0 ≤ p.1 ∧ p.1 ≤ 67108863) ∧ 0 ≤ p.2 ∧ p.2 ≤ 67108863
def okL (l : L3) : Prop := (0 ≤ l.1 ∧ l.1 ≤ 4095) ∧ (0 ≤ l.2.1 ∧ l.2.1 ≤ 4095) ∧ 0 ≤ l.2.2 ∧ l.2.2 ≤ 1048575
theorem rdS_ok (s : S2) (k : Nat) : ∀ p ∈ (rdS s k).1, okC p := by
  induction k with
  | zero => intro p hp; cases hp
  | succ k ih =>
    intro p hp
    rw [rdS] at hp
    rcases List.mem_append.1 hp with hp | hp
    · exact ih p hp
    · obtain rfl := List.mem_singleton.1 hp
      exact ⟨rv1_in _ (by omega), rv1_in _ (by omega)⟩
theorem rdL_ok (s : S2) (k : Nat) : ∀ p ∈ (rdL s k).1, okL p := by
  induction k with
  | zero => intro p hp; cases hp
  | succ k ih =>
    intro p hp
    rw [rdL] at hp
    rcases List.mem_append.1 hp with hp | hp
    · exact ih p hp
    · obtain rfl := List.mem_singleton.1 hp
      exact ⟨rv1_in _ (by omega), rv1_in _ (by omega), rv1_in _ (by omega)⟩
theorem rdS_enc {l : List C} (ys : List Int) (h : ∀ p ∈ l, okC p) : ∀ k, k ≤ l.length → rdS (encS l ++ ys, 0) k = (l.take k, (encS (l.drop k) ++ ys, 0)) := by
  intro k
  induction k with
  | zero => intro _; rfl
  | succ k ih =>
    intro hk
    have e := ih (by omega)
    have hd : l.drop k = l[k] :: l.drop (k + 1) := List.drop_eq_getElem_cons (by omega)
    obtain ⟨⟨a1, a2⟩, b1, b2⟩ := h _ (List.getElem_mem (show k < l.length by omega))
    have e1 : encS (l.drop k) ++ ys = num (l[k]).1 ++ (num (l[k]).2 ++ (encS (l.drop (k + 1)) ++ ys)) := by rw [hd, encS]; simp [List.append_assoc]
    rw [rdS, e]
    simp only
    rw [e1]
    obtain ⟨r1, v1⟩ := rd1_num (k := (l[k]).1) (most := 67108863) (ys := num (l[k]).2 ++ (encS (l.drop (k + 1)) ++ ys)) a1 a2 (by omega)
    obtain ⟨r2, v2⟩ := rd1_num (k := (l[k]).2) (most := 67108863) (ys := encS (l.drop (k + 1)) ++ ys) b1 b2 (by omega)
    rw [r1, v1, r2, v2, List.take_add_one, List.getElem?_eq_getElem (by omega)]
    rfl
theorem rdL_enc {l : List L3} (ys : List Int) (h : ∀ p ∈ l, okL p) : ∀ k, k ≤ l.length → rdL (encL l ++ ys, 0) k = (l.take k, (encL (l.drop k) ++ ys, 0)) := by
  intro k
  induction k with
  | zero => intro _; rfl
  | succ k ih =>
    intro hk
    have e := ih (by omega)
    have hd : l.drop k = l[k] :: l.drop (k + 1) := List.drop_eq_getElem_cons (by omega)
    obtain ⟨⟨a1, a2⟩, ⟨b1, b2⟩, c1, c2⟩ := h _ (List.getElem_mem (show k < l.length by omega))
    have e1 : encL (l.drop k) ++ ys = num (l[k]).1 ++ (num (l[k]).2.1 ++ (num (l[k]).2.2 ++ (encL (l.drop (k + 1)) ++ ys))) := by rw [hd, encL]; simp [List.append_assoc]
    rw [rdL, e]
    simp only
    rw [e1]
    obtain ⟨r1, v1⟩ := rd1_num (k := (l[k]).1) (most := 4095) (ys := num (l[k]).2.1 ++ (num (l[k]).2.2 ++ (encL (l.drop (k + 1)) ++ ys))) a1 a2 (by omega)
    obtain ⟨r2, v2⟩ := rd1_num (k := (l[k]).2.1) (most := 4095) (ys := num (l[k]).2.2 ++ (encL (l.drop (k + 1)) ++ ys)) b1 b2 (by omega)
    obtain ⟨r3, v3⟩ := rd1_num (k := (l[k]).2.2) (most := 1048575) (ys := encL (l.drop (k + 1)) ++ ys) c1 c2 (by omega)
    rw [r1, v1, r2, v2, r3, v3, List.take_add_one, List.getElem?_eq_getElem (by omega)]
    rfl

/-- What the content of a frame reads as. -/
def t1 (c : List Int) : S2 := rd1 (c, 0) 1048576
def tV (c : List Int) : Int := rv1 (c, 0) 1048576
def tK (c : List Int) : Nat := (rv1 (t1 c) 4096).toNat
def t2 (c : List Int) : S2 := rd1 (t1 c) 4096
def t3 (c : List Int) : S2 := (rdS (t2 c) (tK c)).2
def tM (c : List Int) : Nat := (rv1 (t3 c) 16384).toNat
def t4 (c : List Int) : S2 := rd1 (t3 c) 16384
def t5 (c : List Int) : S2 := (rdL (t4 c) (tM c)).2
def tN (c : List Int) : Nt := ⟨tV c, (rdS (t2 c) (tK c)).1, (rdL (t4 c) (tM c)).1⟩
noncomputable def takeF (er : Nat) (c : List Int) : Nt × Nat :=
  if er ≠ 0 then (.zero, er) else if done (t5 c).1 (t5 c).2 ≠ 0 then (.zero, done (t5 c).1 (t5 c).2) else if check (tN c) ≠ 0 then (.zero, 2) else (tN c, 0)
noncomputable def take (b : List Int) : Nt × Nat := takeF (wholly 3 b).2 (wholly 3 b).1
theorem tK_le (c : List Int) : tK c ≤ 4096 ∧ ((tK c : Nat) : Int) = rv1 (t1 c) 4096 := by
  unfold tK
  have := rv1_in (t1 c) (most := 4096) (by omega)
  omega
theorem tM_le (c : List Int) : tM c ≤ 16384 ∧ ((tM c : Nat) : Int) = rv1 (t3 c) 16384 := by
  unfold tM
  have := rv1_in (t3 c) (most := 16384) (by omega)
  omega
theorem tN_st (c : List Int) : (tN c).st.length = tK c := rdS_len _ _
theorem tN_lk (c : List Int) : (tN c).lk.length = tM c := rdL_len _ _
/-- A network whose numbers fit. -/
theorem okC_of {N : Nt} (h : Valid N) : ∀ p ∈ N.st, okC p := fun p hp => by
  obtain ⟨i, hi, e⟩ := List.getElem_of_mem hp
  obtain ⟨q, hq, h1⟩ := h.st i hi
  rw [List.getElem?_eq_getElem hi, e] at hq
  injection hq with hq
  subst hq
  obtain ⟨⟨a, b⟩, c, d⟩ := h1
  exact ⟨⟨a, by omega⟩, c, by omega⟩
theorem okL_of {N : Nt} (h : Valid N) : ∀ p ∈ N.lk, okL p := fun p hp => by
  obtain ⟨i, hi, e⟩ := List.getElem_of_mem hp
  obtain ⟨q, hq, h1, h2, h3, h4, h5, -⟩ := h.lk i hi
  rw [List.getElem?_eq_getElem hi, e] at hq
  injection hq with hq
  subst hq
  have := h.ns
  exact ⟨⟨h1, by omega⟩, ⟨by omega, by omega⟩, by omega, by omega⟩
theorem cont_len {N : Nt} (h : Valid N) : (cont N).length ≤ 1048576 := by
  have a := encS_len N.st (fun p hp => by have := okC_of h p hp; exact ⟨by have := this.1; omega, by have := this.2; omega⟩)
  have b := encL_len N.lk (fun p hp => by have := okL_of h p hp; exact ⟨by have := this.1; omega, by have := this.2.1; omega, by have := this.2.2; omega⟩)
  have c1 := num10 N.ver (by have := h.v2; omega)
  have c2 := num10 (N.st.length : Int) (by have := h.ns; omega)
  have c3 := num10 (N.lk.length : Int) (by have := h.nl; omega)
  have := h.ns
  have := h.nl
  unfold cont
  simp only [List.length_append]
  omega
theorem eta_nt (N : Nt) : N = ⟨N.ver, N.st, N.lk⟩ := rfl
/-- What is put is taken. -/
theorem take_put {N : Nt} (h : check N = 0) : take (frame 3 (cont N)) = (N, 0) := by
  have hv := valid_of h
  have hw : wholly 3 (frame 3 (cont N)) = (cont N, 0) := wholly_frame (cont_len hv)
  have hns := hv.ns
  have hnl := hv.nl
  obtain ⟨e1, v1⟩ := rd1_num (k := N.ver) (most := 1048576) (ys := num (N.st.length : Int) ++ (encS N.st ++ (num (N.lk.length : Int) ++ encL N.lk))) (by have := hv.v1; omega) hv.v2 (by have := hv.v2; omega)
  obtain ⟨e2, v2⟩ := rd1_num (k := (N.st.length : Int)) (most := 4096) (ys := encS N.st ++ (num (N.lk.length : Int) ++ encL N.lk)) (by omega) (by omega) (by omega)
  have e3 := rdS_enc (num (N.lk.length : Int) ++ encL N.lk) (okC_of hv) N.st.length (Nat.le_refl _)
  obtain ⟨e4, v4⟩ := rd1_num (k := (N.lk.length : Int)) (most := 16384) (ys := encL N.lk) (by omega) (by omega) (by omega)
  have e5 := rdL_enc [] (okL_of hv) N.lk.length (Nat.le_refl _)
  rw [List.take_length, List.drop_length, encS, List.nil_append] at e3
  rw [List.take_length, List.drop_length, encL, List.append_nil, List.append_nil] at e5
  have a1 : t1 (cont N) = (num (N.st.length : Int) ++ (encS N.st ++ (num (N.lk.length : Int) ++ encL N.lk)), 0) := e1
  have aV : tV (cont N) = N.ver := v1
  have aK : tK (cont N) = N.st.length := by unfold tK; rw [a1, v2]; omega
  have a2 : t2 (cont N) = (encS N.st ++ (num (N.lk.length : Int) ++ encL N.lk), 0) := by unfold t2; rw [a1]; exact e2
  have aS : rdS (t2 (cont N)) (tK (cont N)) = (N.st, (num (N.lk.length : Int) ++ encL N.lk, 0)) := by rw [a2, aK]; exact e3
  have a3 : t3 (cont N) = (num (N.lk.length : Int) ++ encL N.lk, 0) := by unfold t3; rw [aS]
  have aM : tM (cont N) = N.lk.length := by unfold tM; rw [a3, v4]; omega
  have a4 : t4 (cont N) = (encL N.lk, 0) := by unfold t4; rw [a3]; exact e4
  have aL : rdL (t4 (cont N)) (tM (cont N)) = (N.lk, ([], 0)) := by rw [a4, aM]; exact e5
  have a5 : t5 (cont N) = ([], 0) := by unfold t5; rw [aL]
  have aN : tN (cont N) = N := by unfold tN; rw [aV, aS, aL]
  unfold take
  rw [hw]
  unfold takeF
  rw [a5, aN, h]
  simp [done]
end Go.Proofs.Ytdgaaghkhkklpaa.Gf

/- Layer 15 (graph): what the program's functions must do. -/
namespace Go.Proofs.Ytdgaaghkhkklpaa.Gf
open Go.RowKit Rec Ints Ge Var Fld Frm

/-- What came back is a slice of bytes. -/
def ByTo (B : Nat) (w0 : World) (bs : List Int) (v : Value) (w' : World) : Prop :=
  ∃ A n c, v = .slice A n c ∧ Row .u8 w' w'.heap.size A n bs ∧ (A = none → c = 0) ∧ n ≤ c ∧ c ≤ maxLen ∧ Below B w0 w'
open Classical in
/-- A valid network's bytes; none of another one. -/
noncomputable def putT (N : Nt) : List Int := if check N = 0 then frame 3 (cont N) else []
/-- What a program's functions must do. -/
structure Oks : Prop where
  check : ∀ (N : Nt) (A A' : Option Addr) (n c m c' : Nat) (w : World), NAt w w.heap.size N A n c A' m c' → Bnd N → n ≤ 1048576 → m ≤ 1048576 →
    Calls Try.prog 10 #[.agg #[.int .i64 N.ver, .slice A n c, .slice A' m c']] w fun e w' => e = .returned (.int .i64 ((Gf.check N : Nat) : Int)) ∧ Below w.heap.size w w'
  put : ∀ (N : Nt) (A A' : Option Addr) (n c m c' : Nat) (w : World), NAt w w.heap.size N A n c A' m c' → Bnd N → n ≤ 1048576 → m ≤ 1048576 →
    Calls Try.prog 8 #[.agg #[.int .i64 N.ver, .slice A n c, .slice A' m c']] w fun e w' => ∃ v, e = .returned (.tuple #[v, .int .i64 ((Gf.check N : Nat) : Int)]) ∧ ByTo w.heap.size w (putT N) v w'
  take : ∀ (A : Option Addr) (n c : Nat) (b : List Int) (w : World), Row .u8 w w.heap.size A n b → Byt b → (A = none → c = 0) → n ≤ c → c ≤ maxLen → n ≤ 4398046511104 →
    Calls Try.prog 13 #[.slice A n c] w fun e w' => ∃ B k d B' m d', e = .returned (.tuple #[.agg #[.int .i64 (take b).1.ver, .slice B k d, .slice B' m d'], .int .i64 ((take b).2 : Int)]) ∧ NAt w' w'.heap.size (take b).1 B k d B' m d' ∧ Below w.heap.size w w'
  near : ∀ (N : Nt) (A A' : Option Addr) (n c m c' : Nat) (s : Int) (w : World), NAt w w.heap.size N A n c A' m c' → Bnd N → Gf.check N = 0 → B64 s →
    Calls Try.prog 19 #[.agg #[.int .i64 N.ver, .slice A n c, .slice A' m c'], .int .i64 s] w fun e w' => ∃ v, e = .returned v ∧ LkTo w.heap.size w (nearL N s) v w'
  parts : ∀ (N : Nt) (A A' : Option Addr) (n c m c' : Nat) (w : World), NAt w w.heap.size N A n c A' m c' → Bnd N → n ≤ 1048576 → m ≤ 1048576 →
    Calls Try.prog 16 #[.agg #[.int .i64 N.ver, .slice A n c, .slice A' m c']] w fun e w' => ∃ v, e = .returned (.tuple #[v, .int .i64 ((Gf.check N : Nat) : Int)]) ∧ InTo w.heap.size w (partsE N) v w'
end Go.Proofs.Ytdgaaghkhkklpaa.Gf

/- Slices of bytes among others, over any program: a slice of them as a list of parts. -/
namespace Go.Proofs.Ytdgaaghkhkklpaa.Slc
open Go.RowKit

/-- A slice of bytes among others: where it lies, its length, its capacity, what it reads as. -/
structure Part where
  A : Option Addr
  n : Nat
  c : Nat
  xs : List Int
def Part.v (p : Part) : Value := .slice p.A p.n p.c
def Part.Right (w : World) (B : Nat) (p : Part) : Prop := Row .u8 w B p.A p.n p.xs ∧ (p.A = none → p.c = 0)
def total (L : List Part) : Nat := (L.map (·.n)).sum
def whole (L : List Part) : List Int := L.flatMap (·.xs)
theorem total_next {L : List Part} {i : Nat} (h : i < L.length) : total (L.take (i + 1)) = total (L.take i) + (L[i]).n := by
  unfold total; rw [List.take_succ_eq_append_getElem h, List.map_append, List.sum_append]; simp only [List.map_cons, List.map_nil, List.sum_cons, List.sum_nil, Nat.add_zero]
theorem whole_next {L : List Part} {i : Nat} (h : i < L.length) : whole (L.take (i + 1)) = whole (L.take i) ++ (L[i]).xs := by
  unfold whole; rw [List.take_succ_eq_append_getElem h, List.flatMap_append]; simp only [List.flatMap_cons, List.flatMap_nil, List.append_nil]
theorem total_le (L : List Part) (i : Nat) : total (L.take i) ≤ total L := by
  have : total L = total (L.take i) + total (L.drop i) := by
    unfold total; rw [← List.sum_append, ← List.map_append, List.take_append_drop]
  omega
theorem whole_len {w : World} {B : Nat} : ∀ {L : List Part}, (∀ p ∈ L, p.Right w B) → (whole L).length = total L
  | [], _ => rfl
  | p :: L, h => by
    have h1 := (h p (by simp)).1.1
    have h2 := whole_len (L := L) (fun q hq => h q (by simp [hq]))
    simp only [whole, total, List.flatMap_cons, List.length_append, List.map_cons, List.sum_cons] at *
    omega

/-- The slice '.slice A n c' of slices reads as the parts L, which are bytes; all lies below block B; nil is let in. -/
structure Prs (w : World) (B : Nat) (A : Option Addr) (n : Nat) (L : List Part) : Prop where
  len : L.length = n
  at_ : 0 < n → ∃ b o, A = some ⟨b, o, none⟩ ∧ b < B ∧ ∀ j (h : j < L.length), w.cell? ⟨b, o + j, none⟩ = some (L[j]).v
  right : ∀ p ∈ L, p.Right w B
  byt : ∀ p ∈ L, p.n ≤ p.c ∧ ∀ x ∈ p.xs, 0 ≤ x ∧ x ≤ 255
section
variable {w w' : World} {B B' n : Nat} {A : Option Addr} {L : List Part}
theorem Prs.below (h : Prs w B A n L) (hb : Below B w w') : Prs w' B A n L :=
  ⟨h.len, fun hn => by
    obtain ⟨b, o, e, h1, h2⟩ := h.at_ hn
    exact ⟨b, o, e, h1, fun j hj => (hb.cell (p := ⟨b, o + j, none⟩) h1).trans (h2 j hj)⟩, fun p hp => ⟨(h.right p hp).1.below hb, (h.right p hp).2⟩, h.byt⟩
theorem Prs.more (h : Prs w B A n L) (hB : B ≤ B') : Prs w B' A n L :=
  ⟨h.len, fun hn => by
    obtain ⟨b, o, e, h1, h2⟩ := h.at_ hn
    exact ⟨b, o, e, by omega, h2⟩, fun p hp => ⟨(h.right p hp).1.more hB, (h.right p hp).2⟩, h.byt⟩
theorem Prs.whole_byt (h : Prs w B A n L) : ∀ x ∈ whole L, 0 ≤ x ∧ x ≤ 255 := fun x hx => by
  obtain ⟨p, hp, hx⟩ := List.mem_flatMap.1 hx
  exact (h.byt p hp).2 x hx
/-- A block made of the parts' slices. -/
theorem Prs.of_blk {g : Nat} {cs : Array Value} {t : TypeId} {fr : Nat × Nat} (hg : w.heap[g]? = some (.cells cs t fr)) (hB : g < B) (hcs : cs.toList = L.map Part.v) (hr : ∀ p ∈ L, p.Right w B) (hb : ∀ p ∈ L, p.n ≤ p.c ∧ ∀ x ∈ p.xs, 0 ≤ x ∧ x ≤ 255) : Prs w B (some ⟨g, 0, none⟩) L.length L :=
  ⟨rfl, fun _ => ⟨g, 0, rfl, hB, fun j hj => by
    rw [Nat.zero_add, cell_of_row w g j cs t fr hg]
    have : cs[j]? = cs.toList[j]? := by simp
    rw [this, hcs]
    simp [hj]⟩, hr, hb⟩
end
end Go.Proofs.Ytdgaaghkhkklpaa.Slc

/- slices.Clone on slices of bytes, as a contract over the program. -/
namespace Go.Proofs.Ytdgaaghkhkklpaa.Slc
open Go.RowKit

theorem info_u8 : (Try.prog.info? 5).map (fun i => (i.zero, i.size, i.bytes)) = some (some (.int .u8 0), 1, 1) := by kernel_rfl

set_option maxHeartbeats 400000 in
set_option maxRecDepth 100000 in
/-- slices.Clone: the same bytes in a row of its own; nil of nil. -/
theorem clone_any (A : Option Addr) (n c B : Nat) (xs : List Int) (w : World) (hr : Row .u8 w B A n xs) (hnil : A = none → c = 0) (hB : B ≤ w.heap.size) (hn : n ≤ 4398046511104) :
    Calls Try.prog 44 #[.slice A n c] w fun e w' =>
      ∃ v, e = .returned v ∧ w'.ownsRow w.heap.size 5 1 v n (xs.map (Value.int .u8)) ∧ Below w.heap.size w w' := by
  obtain ⟨i0, hi, hz0, hz1, hz2⟩ := info_parts info_u8
  rcases A with _ | a
  · have hm : n = 0 := by
      rcases Nat.eq_zero_or_pos n with h0 | h0
      · exact h0
      · obtain ⟨_, _, h1, _⟩ := hr.2 h0
        cases h1
    subst hm
    have hx : xs = [] := List.eq_nil_of_length_eq_zero hr.1
    subst hx
    clear hr
    obtain rfl := hnil rfl
    clear hnil
    have heq : (binOp .eql 26 (.slice none 0 0) (.slice none 0 0)).run Try.prog w = .ok (.bool true) w := Lib.run_eql_slice_nil w 26 5 none 0 0 0 0 Try.underlying26
    go_enter Try.func44, Try.ntmps44
    go_wp2
    go_ret
    exact ⟨_, rfl, World.ownsRow_nil _ _ _ _, Below.refl _ _⟩
  · have HO : Hid ((w.alloc (.cells #[] 5)).ownsRow w.heap.size 5 1 (.slice (some ⟨w.heap.size, 0, none⟩) 0 0) 0 (([] : List Int).map (Value.int .u8))) := World.ownsRow_lit w #[] 0 (Nat.le_refl _) (Nat.zero_le _) rfl
    have HR : Hid (Row .u8 (w.alloc (.cells #[] 5)) B (some a) n xs) := hr.alloc hB _
    have HB0 : Hid (Below w.heap.size w (w.alloc (.cells #[] 5))) := (Below.refl _ _).alloc (Nat.le_refl _) _
    clear hr
    have heq : (binOp .eql 26 (.slice (some a) n c) (.slice none 0 0)).run Try.prog w = .ok (.bool false) w := Lib.run_eql_slice_nil w 26 5 (some a) n c 0 0 Try.underlying26
    go_enter Try.func44, Try.ntmps44
    go_wp2_with (at_builtin; refine cat_own rfl (.tmp 5) (.tmp 6) 26 rfl w.heap.size 5 i0 .u8 1 Try.underlying26 hi hz0 hz1 hz2 _ 0 [] rfl HO.out B (some a) n c xs rfl (fun h => by cases h) HR.out (by omega) (by omega) (by simp) ?_; intro v2 w2 hown2 hb2)
    go_ret
    exact ⟨_, rfl, by simpa using hown2, HB0.out.trans hb2⟩
end Go.Proofs.Ytdgaaghkhkklpaa.Slc

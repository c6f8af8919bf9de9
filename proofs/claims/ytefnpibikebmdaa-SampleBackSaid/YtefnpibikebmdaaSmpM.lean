/- Plain mathematics of layer 5 (sample): samples, their bytes, what bytes read as; no program is named here. -/
import Derived.Test.YtefnpibikebmdaaFldN0
namespace Go.Proofs.Ytefnpibikebmdaa.Smp
open Var Fld

structure S where
  t : Int
  x : Int
  y : Int

def zS : S := ⟨0, 0, 0⟩
instance : Inhabited S := ⟨zS⟩

structure S.ok (s : S) : Prop where
  t1 : -9223372036854775808 ≤ s.t
  t2 : s.t ≤ 9223372036854775807
  x1 : -9223372036854775808 ≤ s.x
  x2 : s.x ≤ 9223372036854775807
  y1 : -9223372036854775808 ≤ s.y
  y2 : s.y ≤ 9223372036854775807

/-- Is it a sample? -/
def may (s : S) : Bool := decide (0 ≤ s.t) && decide (s.t ≤ 1099511627776) && (decide (0 ≤ s.x) && decide (s.x < 67108864)) && (decide (0 ≤ s.y) && decide (s.y < 67108864))
theorem may_iff {s : S} : may s = true ↔ 0 ≤ s.t ∧ s.t ≤ 1099511627776 ∧ 0 ≤ s.x ∧ s.x < 67108864 ∧ 0 ≤ s.y ∧ s.y < 67108864 := by
  unfold may
  simp only [Bool.and_eq_true, decide_eq_true_eq]
  constructor
  · rintro ⟨⟨⟨a, b⟩, c, d⟩, e, f⟩; exact ⟨a, b, c, d, e, f⟩
  · rintro ⟨a, b, c, d, e, f⟩; exact ⟨⟨⟨a, b⟩, c, d⟩, e, f⟩
theorem may_ok {s : S} (h : may s = true) : s.ok := by
  have := may_iff.1 h
  constructor <;> omega

/-- The last of them, or where they begin. -/
def las (l : List S) : S := l.getLastD zS
theorem las_snoc (l : List S) (s : S) : las (l ++ [s]) = s := by unfold las; simp
theorem las_nil : las [] = zS := rfl
theorem las_take {l : List S} {k : Nat} {s : S} (h : l[k]? = some s) : las (l.take (k + 1)) = s := by
  rw [List.take_add_one, h]
  exact las_snoc _ _

/-- May s stand behind those of l? -/
def okp (l : List S) (s : S) : Bool := may s && (decide (l.length = 0) || decide ((las l).t < s.t))
/-- Are they in sequence? -/
def good (l : List S) : Bool := (List.range l.length).all (fun j => okp (l.take j) (l.getD j zS))
theorem good_iff {l : List S} : good l = true ↔ ∀ j s, l[j]? = some s → okp (l.take j) s = true := by
  unfold good
  rw [List.all_eq_true]
  constructor
  · intro h j s hj
    obtain ⟨hlt, rfl⟩ := List.getElem?_eq_some_iff.1 hj
    have := h j (List.mem_range.2 hlt)
    simpa [List.getD, hj] using this
  · intro h j hj
    have hlt := List.mem_range.1 hj
    have := h j l[j] (List.getElem?_eq_getElem hlt)
    simpa [List.getD, List.getElem?_eq_getElem hlt] using this
theorem good_no {l : List S} {j : Nat} {s : S} (hj : l[j]? = some s) (h : okp (l.take j) s = false) : good l = false := by
  cases hg : good l with
  | false => rfl
  | true => rw [good_iff.1 hg j s hj] at h; cases h
theorem good_snoc {l : List S} {s : S} (h : good l = true) (hs : okp l s = true) : good (l ++ [s]) = true := by
  rw [good_iff] at h ⊢
  intro j u hj
  by_cases hlt : j < l.length
  · rw [List.getElem?_append_left hlt] at hj
    rw [List.take_append_of_le_length (by omega)]
    exact h j u hj
  · have hj' : j = l.length := by
      have := (List.getElem?_eq_some_iff.1 hj).1
      simp at this
      omega
    subst hj'
    simp at hj
    subst hj
    simpa using hs
theorem good_nil : good [] = true := rfl
theorem good_may {l : List S} (h : good l = true) {s : S} (hs : s ∈ l) : may s = true := by
  obtain ⟨j, hj⟩ := List.getElem?_of_mem hs
  have := good_iff.1 h j s hj
  unfold okp at this
  rw [Bool.and_eq_true] at this
  exact this.1
theorem good_rise {l : List S} (h : good l = true) {j : Nat} {a s : S} (ha : l[j]? = some a) (hs : l[j + 1]? = some s) : a.t < s.t := by
  have := good_iff.1 h (j + 1) s hs
  unfold okp at this
  rw [las_take ha] at this
  simp only [Bool.and_eq_true, Bool.or_eq_true, decide_eq_true_eq, List.length_take] at this
  have := (List.getElem?_eq_some_iff.1 ha).1
  omega

/-- One step's bytes; all of them. -/
def one (a s : S) : List Int := num (s.t - a.t) ++ (sgn (s.x - a.x) ++ sgn (s.y - a.y))
def encF : S → List S → List Int
  | _, [] => []
  | a, s :: l => one a s ++ encF s l
theorem encF_snoc : ∀ (l : List S) (a s : S), encF a (l ++ [s]) = encF a l ++ one (l.getLastD a) s
  | [], a, s => by simp [encF]
  | b :: l, a, s => by
    have h := encF_snoc l b s
    simp only [List.cons_append, encF, h, List.append_assoc, List.getLastD_cons]
def enc (l : List S) : List Int := encF zS l
theorem enc_snoc (l : List S) (s : S) : enc (l ++ [s]) = enc l ++ one (las l) s := encF_snoc l zS s
theorem enc_next {l : List S} {k : Nat} {s : S} (h : l[k]? = some s) : enc (l.take (k + 1)) = enc (l.take k) ++ one (las (l.take k)) s := by
  rw [List.take_add_one, h]
  exact enc_snoc _ _
theorem one_len {a s : S} (ha : may a = true ∨ a = zS) (hs : may s = true) : (one a s).length ≤ 30 := by
  have h1 := may_iff.1 hs
  have h2 : 0 ≤ a.t ∧ a.t ≤ 1099511627776 ∧ 0 ≤ a.x ∧ a.x < 67108864 ∧ 0 ≤ a.y ∧ a.y < 67108864 := by
    rcases ha with ha | rfl
    · exact may_iff.1 ha
    · unfold zS; simp
  unfold one
  have a1 := num_len (k := s.t - a.t) (by omega)
  have a2 := sgn_len (k := s.x - a.x) (by omega) (by omega)
  have a3 := sgn_len (k := s.y - a.y) (by omega) (by omega)
  simp only [List.length_append]
  omega
theorem las_may {l : List S} (h : ∀ s ∈ l, may s = true) : may (las l) = true ∨ las l = zS := by
  rcases List.eq_nil_or_concat l with rfl | ⟨l', s, rfl⟩
  · exact .inr rfl
  · rw [List.concat_eq_append] at h ⊢
    rw [las_snoc]
    exact .inl (h s (by simp))
theorem enc_len {l : List S} (h : ∀ s ∈ l, may s = true) : ∀ k, (enc (l.take k)).length ≤ 30 * k
  | 0 => by simp [enc, encF]
  | k + 1 => by
    have ih := enc_len h k
    cases hk : l[k]? with
    | none =>
      have : l.take (k + 1) = l.take k := by
        rw [List.take_add_one, hk]; simp
      rw [this]
      omega
    | some s =>
      rw [enc_next hk, List.length_append]
      have := one_len (a := las (l.take k)) (las_may (fun u hu => h u (List.mem_of_mem_take hu))) (h s (List.mem_of_getElem? hk))
      omega
theorem enc_lens {l : List S} (h : ∀ s ∈ l, may s = true) : (enc l).length ≤ 30 * l.length := by
  have := enc_len h l.length
  rwa [List.take_length] at this

/-- What Put returns: the error, the bytes. -/
def putE (l : List S) : Nat := if 2048 < l.length then 3 else if good l = true then 0 else 2
def putB (l : List S) : List Int := if putE l = 0 then enc l else []
theorem putE_ok {l : List S} (h : putE l = 0) : l.length ≤ 2048 ∧ good l = true := by
  unfold putE at h
  split at h
  · omega
  · split at h
    · exact ⟨by omega, by assumption⟩
    · omega
theorem putB_ok {l : List S} (h : putE l = 0) : putB l = enc l := by unfold putB; rw [if_pos h]

/-- The next step: what is left and the error behind each of its numbers. -/
def r1 (xs : List Int) : List Int × Nat := after xs 0 (nxt xs 1099511627776).2.1 (nxt xs 1099511627776).2.2
def r2 (xs : List Int) : List Int × Nat := after (r1 xs).1 (r1 xs).2 (nxs (r1 xs).1 67108864).2.1 (nxs (r1 xs).1 67108864).2.2
def r3 (xs : List Int) : List Int × Nat := after (r2 xs).1 (r2 xs).2 (nxs (r2 xs).1 67108864).2.1 (nxs (r2 xs).1 67108864).2.2
def tT (xs : List Int) : Int := val 0 (nxt xs 1099511627776)
def tX (xs : List Int) : Int := val (r1 xs).2 (nxs (r1 xs).1 67108864)
def tY (xs : List Int) : Int := val (r2 xs).2 (nxs (r2 xs).1 67108864)
theorem after_no {xs : List Int} {e s er : Nat} (h : e ≠ 0) : after xs e s er = (xs, e) := by unfold after; rw [if_pos h]
theorem after_er {xs : List Int} {s er : Nat} (h : er ≠ 0) : after xs 0 s er = (xs, er) := by unfold after; rw [if_neg (by simp), if_pos h]
theorem after_ok {xs : List Int} {s : Nat} : after xs 0 s 0 = (xs.drop s, 0) := by unfold after; simp

theorem nxt_is {xs : List Int} {most : Int} (hb : ∀ x ∈ xs, 0 ≤ x ∧ x ≤ 255) (h : (nxt xs most).2.2 = 0) : xs = num (nxt xs most).1 ++ xs.drop (nxt xs most).2.1 ∧ 0 ≤ (nxt xs most).1 ∧ (nxt xs most).1 ≤ most := by
  unfold nxt at h ⊢
  by_cases he : (take 0 0 xs).2.2 = 0
  · rw [if_neg (by simpa using he)] at h ⊢
    cases ha : abv (take 0 0 xs).1 most with
    | true => rw [ha] at h; simp at h
    | false =>
      simp only [Bool.false_eq_true, if_false]
      obtain ⟨m, h1, _, h3, h4, h5⟩ := put_take xs 0 0 hb he
      obtain ⟨_, a2, _⟩ := abv_no ha
      refine ⟨?_, by omega, by omega⟩
      unfold num
      have hm : m = (take 0 0 xs).1 := by omega
      rw [Int.toNat_natCast, ← hm, h5, Nat.sub_zero, List.take_append_drop]
  · rw [if_pos (by simpa using he)] at h
    exact absurd h he
theorem nxs_is {xs : List Int} {most : Int} (hb : ∀ x ∈ xs, 0 ≤ x ∧ x ≤ 255) (h : (nxs xs most).2.2 = 0) : xs = sgn (nxs xs most).1 ++ xs.drop (nxs xs most).2.1 ∧ -most ≤ (nxs xs most).1 ∧ (nxs xs most).1 ≤ most := by
  unfold nxs at h ⊢
  by_cases he : (take 0 0 xs).2.2 = 0
  · rw [if_neg (by simpa using he)] at h ⊢
    cases ha : abv (back (take 0 0 xs).1).natAbs most with
    | true => rw [ha] at h; simp at h
    | false =>
      simp only [Bool.false_eq_true, if_false]
      obtain ⟨m, h1, _, h3, h4, h5⟩ := put_take xs 0 0 hb he
      obtain ⟨_, a2, _⟩ := abv_no ha
      refine ⟨?_, by omega, by omega⟩
      unfold sgn
      have hm : m = (take 0 0 xs).1 := by omega
      rw [turn_back (by omega), Int.toNat_natCast, ← hm, h5, Nat.sub_zero, List.take_append_drop]
  · rw [if_pos (by simpa using he)] at h
    exact absurd h he
theorem nxt_put {v most : Int} (h1 : 0 ≤ v) (h2 : v ≤ most) (h3 : most ≤ 4611686018427387904) (rest : List Int) : nxt (num v ++ rest) most = (v, (num v).length, 0) := by
  unfold nxt num
  rw [take_put0 (by omega)]
  simp only [ne_eq, not_true_eq_false, if_false]
  rw [abv_self (by omega) (by omega)]
  simp
  omega
theorem nxs_put {v most : Int} (h1 : -most ≤ v) (h2 : v ≤ most) (h3 : most ≤ 4611686018427387904) (rest : List Int) : nxs (sgn v ++ rest) most = (v, (sgn v).length, 0) := by
  have hb := turn_bd (n := v) (by omega) (by omega)
  have ht : ((turn v).toNat : Int) = turn v := by omega
  unfold nxs sgn
  rw [take_put0 (by omega)]
  simp only [ne_eq, not_true_eq_false, if_false]
  rw [ht, back_turn, abv_self (by omega) (by omega)]
  simp

/-- A step that can be read. -/
theorem trip_ok {xs : List Int} (hb : ∀ x ∈ xs, 0 ≤ x ∧ x ≤ 255) (h : (r3 xs).2 = 0) :
    xs = num (tT xs) ++ (sgn (tX xs) ++ (sgn (tY xs) ++ (r3 xs).1)) ∧ 0 ≤ tT xs ∧ tT xs ≤ 1099511627776 ∧ -67108864 ≤ tX xs ∧ tX xs ≤ 67108864 ∧ -67108864 ≤ tY xs ∧ tY xs ≤ 67108864 := by
  have e2 : (r2 xs).2 = 0 := by
    apply Decidable.byContradiction
    intro hn
    unfold r3 at h
    rw [after_no hn] at h
    exact hn h
  have e1 : (r1 xs).2 = 0 := by
    apply Decidable.byContradiction
    intro hn
    unfold r2 at e2
    rw [after_no hn] at e2
    exact hn e2
  have n1 : (nxt xs 1099511627776).2.2 = 0 := by
    apply Decidable.byContradiction
    intro hn
    unfold r1 at e1
    rw [after_er hn] at e1
    exact hn e1
  have f1 : r1 xs = (xs.drop (nxt xs 1099511627776).2.1, 0) := by unfold r1; rw [n1, after_ok]
  have n2 : (nxs (r1 xs).1 67108864).2.2 = 0 := by
    apply Decidable.byContradiction
    intro hn
    unfold r2 at e2
    rw [e1, after_er hn] at e2
    exact hn e2
  have f2 : r2 xs = ((r1 xs).1.drop (nxs (r1 xs).1 67108864).2.1, 0) := by unfold r2; rw [e1, n2, after_ok]
  have n3 : (nxs (r2 xs).1 67108864).2.2 = 0 := by
    apply Decidable.byContradiction
    intro hn
    unfold r3 at h
    rw [e2, after_er hn] at h
    exact hn h
  have f3 : r3 xs = ((r2 xs).1.drop (nxs (r2 xs).1 67108864).2.1, 0) := by unfold r3; rw [e2, n3, after_ok]
  have b1 : ∀ x ∈ (r1 xs).1, 0 ≤ x ∧ x ≤ 255 := by rw [f1]; exact fun x hx => hb x (List.mem_of_mem_drop hx)
  have b2 : ∀ x ∈ (r2 xs).1, 0 ≤ x ∧ x ≤ 255 := by rw [f2]; exact fun x hx => b1 x (List.mem_of_mem_drop hx)
  have v1 : tT xs = (nxt xs 1099511627776).1 := by unfold tT val; rw [n1]; simp
  have v2 : tX xs = (nxs (r1 xs).1 67108864).1 := by unfold tX val; rw [e1, n2]; simp
  have v3 : tY xs = (nxs (r2 xs).1 67108864).1 := by unfold tY val; rw [e2, n3]; simp
  obtain ⟨p1, q1, q2⟩ := nxt_is hb n1
  obtain ⟨p2, q3, q4⟩ := nxs_is b1 n2
  obtain ⟨p3, q5, q6⟩ := nxs_is b2 n3
  have g1 : (r1 xs).1 = xs.drop (nxt xs 1099511627776).2.1 := by rw [f1]
  have g2 : (r2 xs).1 = (r1 xs).1.drop (nxs (r1 xs).1 67108864).2.1 := by rw [f2]
  have g3 : (r3 xs).1 = (r2 xs).1.drop (nxs (r2 xs).1 67108864).2.1 := by rw [f3]
  rw [← g1] at p1
  rw [← g2] at p2
  rw [← g3] at p3
  rw [v1, v2, v3]
  exact ⟨by rw [← p3, ← p2, ← p1], q1, q2, q3, q4, q5, q6⟩
theorem trip_put {a b c : Int} (h1 : 0 ≤ a) (h2 : a ≤ 1099511627776) (h3 : -67108864 ≤ b) (h4 : b ≤ 67108864) (h5 : -67108864 ≤ c) (h6 : c ≤ 67108864) (rest : List Int) :
    r3 (num a ++ (sgn b ++ (sgn c ++ rest))) = (rest, 0) ∧ tT (num a ++ (sgn b ++ (sgn c ++ rest))) = a ∧ tX (num a ++ (sgn b ++ (sgn c ++ rest))) = b ∧ tY (num a ++ (sgn b ++ (sgn c ++ rest))) = c := by
  have n1 := nxt_put h1 h2 (by omega) (sgn b ++ (sgn c ++ rest))
  have f1 : r1 (num a ++ (sgn b ++ (sgn c ++ rest))) = (sgn b ++ (sgn c ++ rest), 0) := by unfold r1; rw [n1]; exact after_put _ _
  have n2 := nxs_put h3 h4 (by omega) (sgn c ++ rest)
  have f2 : r2 (num a ++ (sgn b ++ (sgn c ++ rest))) = (sgn c ++ rest, 0) := by unfold r2; rw [f1, n2]; exact after_put _ _
  have n3 := nxs_put h5 h6 (by omega) rest
  have f3 : r3 (num a ++ (sgn b ++ (sgn c ++ rest))) = (rest, 0) := by unfold r3; rw [f2, n3]; exact after_put _ _
  refine ⟨f3, ?_, ?_, ?_⟩
  · unfold tT; rw [n1]; simp [val]
  · unfold tX; rw [f1, n2]; simp [val]
  · unfold tY; rw [f2, n3]; simp [val]
theorem r3_byt {xs : List Int} (hb : ∀ x ∈ xs, 0 ≤ x ∧ x ≤ 255) (h : (r3 xs).2 = 0) : ∀ x ∈ (r3 xs).1, 0 ≤ x ∧ x ≤ 255 := by
  intro x hx
  obtain ⟨e, _⟩ := trip_ok hb h
  refine hb x ?_
  rw [e]
  simp [hx]

/-- Where the next step leads. -/
def nx (acc : List S) (xs : List Int) : S := ⟨(las acc).t + tT xs, (las acc).x + tX xs, (las acc).y + tY xs⟩
/-- n more samples: all of them, what is left, the error. -/
def tk : Nat → List S → List Int → List S × List Int × Nat
  | 0, acc, xs => (acc, xs, 0)
  | n + 1, acc, xs => if (r3 xs).2 ≠ 0 then ([], [], (r3 xs).2) else if okp acc (nx acc xs) = true then tk n (acc ++ [nx acc xs]) (r3 xs).1 else ([], [], 2)
theorem tk_ok : ∀ (n : Nat) (acc : List S) (xs : List Int), (∀ x ∈ xs, 0 ≤ x ∧ x ≤ 255) → good acc = true → (tk n acc xs).2.2 = 0 →
    good (tk n acc xs).1 = true ∧ (tk n acc xs).1.length = acc.length + n ∧ enc acc ++ xs = enc (tk n acc xs).1 ++ (tk n acc xs).2.1
  | 0, acc, xs, _, hg, _ => ⟨hg, rfl, rfl⟩
  | n + 1, acc, xs, hb, hg, h => by
    by_cases he : (r3 xs).2 = 0
    · cases hk : okp acc (nx acc xs) with
      | true =>
        have e : tk (n + 1) acc xs = tk n (acc ++ [nx acc xs]) (r3 xs).1 := by simp [tk, he, hk]
        rw [e] at h ⊢
        obtain ⟨a, b, c⟩ := tk_ok n _ _ (r3_byt hb he) (good_snoc hg hk) h
        refine ⟨a, by rw [b]; simp; omega, ?_⟩
        rw [← c, enc_snoc]
        obtain ⟨e1, _⟩ := trip_ok hb he
        have e2 : one (las acc) (nx acc xs) = num (tT xs) ++ (sgn (tX xs) ++ sgn (tY xs)) := by
          unfold one nx
          have a1 : (las acc).t + tT xs - (las acc).t = tT xs := by omega
          have a2 : (las acc).x + tX xs - (las acc).x = tX xs := by omega
          have a3 : (las acc).y + tY xs - (las acc).y = tY xs := by omega
          simp only [a1, a2, a3]
        rw [e2]
        simp only [List.append_assoc]
        rw [← e1]
      | false => simp [tk, he, hk] at h
    · simp [tk, he] at h
theorem tk_enc : ∀ (l acc : List S) (b : List Int), good (acc ++ l) = true → tk l.length acc (encF (las acc) l ++ b) = (acc ++ l, b, 0)
  | [], acc, b, _ => by simp [tk, encF]
  | s :: l, acc, b, hg => by
    have hk : okp acc s = true := by
      have := good_iff.1 hg acc.length s (by simp)
      simpa using this
    have hms : may s = true := by unfold okp at hk; rw [Bool.and_eq_true] at hk; exact hk.1
    have h1 := may_iff.1 hms
    have h2 : 0 ≤ (las acc).t ∧ (las acc).t ≤ 1099511627776 ∧ 0 ≤ (las acc).x ∧ (las acc).x < 67108864 ∧ 0 ≤ (las acc).y ∧ (las acc).y < 67108864 := by
      rcases las_may (l := acc) (fun u hu => good_may hg (by simp [hu])) with ha | ha
      · exact may_iff.1 ha
      · rw [ha]; unfold zS; simp
    have h3 : (las acc).t ≤ s.t := by
      unfold okp at hk
      simp only [Bool.and_eq_true, Bool.or_eq_true, decide_eq_true_eq] at hk
      rcases hk.2 with h0 | h0
      · have : acc = [] := List.eq_nil_of_length_eq_zero h0
        subst this
        rw [las_nil]
        have : zS.t = 0 := rfl
        omega
      · omega
    have e0 : encF (las acc) (s :: l) ++ b = num (s.t - (las acc).t) ++ (sgn (s.x - (las acc).x) ++ (sgn (s.y - (las acc).y) ++ (encF s l ++ b))) := by simp [encF, one]
    obtain ⟨f, v1, v2, v3⟩ := trip_put (a := s.t - (las acc).t) (b := s.x - (las acc).x) (c := s.y - (las acc).y) (by omega) (by omega) (by omega) (by omega) (by omega) (by omega) (encF s l ++ b)
    rw [e0]
    have en : nx acc (num (s.t - (las acc).t) ++ (sgn (s.x - (las acc).x) ++ (sgn (s.y - (las acc).y) ++ (encF s l ++ b)))) = s := by
      unfold nx
      rw [v1, v2, v3]
      have a1 : (las acc).t + (s.t - (las acc).t) = s.t := by omega
      have a2 : (las acc).x + (s.x - (las acc).x) = s.x := by omega
      have a3 : (las acc).y + (s.y - (las acc).y) = s.y := by omega
      rw [a1, a2, a3]
    have ih := tk_enc l (acc ++ [s]) b (by simpa using hg)
    rw [las_snoc] at ih
    simp only [List.length_cons, tk]
    rw [en, f]
    simp only [ne_eq, not_true_eq_false, if_false, hk, if_true]
    rw [ih]
    simp

/-- What Take returns: the samples, how many bytes, the error. -/
def tkE (bs : List Int) (n : Int) : Nat := if n < 0 ∨ 2048 < n then 3 else (tk n.toNat [] bs).2.2
def tkL (bs : List Int) (n : Int) : List S := if tkE bs n = 0 then (tk n.toNat [] bs).1 else []
def tkN (bs : List Int) (n : Int) : Nat := if tkE bs n = 0 then (enc (tk n.toNat [] bs).1).length else 0
end Go.Proofs.Ytefnpibikebmdaa.Smp

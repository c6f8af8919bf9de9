/- Lemmas that the proof stands on, in build order: RecM. -/
import Derived.Laws.CopyRow
import Derived.Lib.AppendZerosOnto
import Derived.Deep.RegionLaw
import Derived.Lib.SliceRun
import Derived.Test.YtdhlbcbgbmgcjaaJ20d5a7c
import Derived.Test.YtdhlbcbgbmgcjaaJ2406a6f3
/- Rows of structs of one's own, over any program, told with their block: pieces laid over them, cut, copied onto, cleared, grown by zeros. -/
namespace Go.Proofs.Ytdhlbcbgbmgcjaa.Rec
open Go.RowKit
variable {α : Type} {S : Shape α}

theorem flat_take (l : List α) (k : Nat) : (S.flat l).take (k * S.c) = S.flat (l.take k) := by
  induction l generalizing k with
  | nil => simp [Shape.flat]
  | cons a l ih =>
    cases k with
    | zero => simp [Shape.flat]
    | succ k =>
      rw [List.take_succ_cons, flat_cons, flat_cons, ← ih k, show (k + 1) * S.c = (S.f a).length + k * S.c by rw [S.len, Nat.add_mul]; omega, List.take_append, List.take_of_length_le (by omega)]
      congr 2
      omega
theorem flat_drop (l : List α) (k : Nat) : (S.flat l).drop (k * S.c) = S.flat (l.drop k) := by
  induction l generalizing k with
  | nil => simp [Shape.flat]
  | cons a l ih =>
    cases k with
    | zero => simp [Shape.flat]
    | succ k =>
      rw [List.drop_succ_cons, flat_cons, ← ih k, show (k + 1) * S.c = (S.f a).length + k * S.c by rw [S.len, Nat.add_mul]; omega, List.drop_append, List.drop_of_length_le (by omega), List.nil_append]
      congr 1
      omega
theorem take_three {β : Type} (A M R : List β) (k : Nat) : (A ++ (M ++ R)).take (A.length + M.length + k) = A ++ (M ++ R.take k) := by
  rw [List.take_append, List.take_of_length_le (by omega), List.take_append, List.take_of_length_le (by omega)]
  congr 3
  omega
theorem flat_single (a : α) : S.flat [a] = S.f a := by simp [Shape.flat]

/-- The block g is of the call's own, has room for cap structs, and begins with L. -/
def Hold (S : Shape α) (w : World) (base : Nat) (e : TypeId) (g cap : Nat) (L : List α) : Prop :=
  ∃ cur : List Value, w.heap[g]? = some (.cells cur.toArray e (0, 0)) ∧ base ≤ g ∧ L.length ≤ cap ∧ cap ≤ maxLen ∧ cur.length = cap * S.c ∧ cur.take (L.length * S.c) = S.flat L

section
variable {w w' : World} {base base' n g cap : Nat} {e : TypeId} {L : List α}
theorem Hold.of_own (h : w.ownsRow base e S.c (.slice (some ⟨g, 0, none⟩) n cap) n (S.flat L)) : Hold S w base e g cap L ∧ L.length = n := by
  have hp := S.pos
  have hl : L.length = n := by have := h.1; rw [flat_len] at this; exact Nat.eq_of_mul_eq_mul_right hp this
  rcases h.2 with ⟨h0, _⟩ | ⟨g', cap', cur, h1, h2, h3, h4, h5, h6, h7⟩
  · cases h0
  · injection h1 with h1 _ h1c
    injection h1 with h1
    injection h1 with h1
    subst h1; subst h1c
    exact ⟨⟨cur.toList, by simpa using h3, h2, by omega, h5, by simpa using h6, by rw [hl]; exact h7⟩, hl⟩
theorem Hold.own (h : Hold S w base e g cap L) {k : Nat} (hk : k ≤ L.length) : w.ownsRow base e S.c (.slice (some ⟨g, 0, none⟩) k cap) k (S.flat (L.take k)) := by
  obtain ⟨cur, h1, h2, h3, h4, h5, h6⟩ := h
  refine ⟨by rw [flat_len, List.length_take]; congr 1; omega, .inr ⟨g, cap, cur.toArray, rfl, h2, h1, by omega, h4, by simpa using h5, ?_⟩⟩
  have hm : k * S.c ≤ L.length * S.c := Nat.mul_le_mul_right _ hk
  rw [← flat_take, ← h6, List.take_take, Nat.min_eq_left hm]
theorem Hold.own' (h : Hold S w base e g cap L) : w.ownsRow base e S.c (.slice (some ⟨g, 0, none⟩) L.length cap) L.length (S.flat L) := by
  have := h.own (Nat.le_refl _)
  rwa [List.take_length] at this
theorem Hold.lt (h : Hold S w base e g cap L) : g < w.heap.size := by
  obtain ⟨cur, h1, _⟩ := h
  exact (Array.getElem?_eq_some_iff.1 h1).1
theorem Hold.le (h : Hold S w base e g cap L) : base ≤ g := by obtain ⟨cur, _, h2, _⟩ := h; exact h2
theorem Hold.fit (h : Hold S w base e g cap L) : L.length ≤ cap ∧ cap ≤ maxLen := by obtain ⟨cur, _, _, h3, h4, _⟩ := h; exact ⟨h3, h4⟩
theorem Hold.keep (h : Hold S w base e g cap L) (hg : w'.heap[g]? = w.heap[g]?) : Hold S w' base e g cap L := by
  obtain ⟨cur, h1, rest⟩ := h
  exact ⟨cur, hg.trans h1, rest⟩
theorem Hold.below (h : Hold S w base e g cap L) (hb : Below w.heap.size w w') : Hold S w' base e g cap L := h.keep (hb.block g h.lt)
theorem Hold.down (h : Hold S w base e g cap L) (hB : base' ≤ base) : Hold S w base' e g cap L := by
  obtain ⟨cur, h1, h2, rest⟩ := h
  exact ⟨cur, h1, Nat.le_trans hB h2, rest⟩
/-- The same block, read as a shorter list. -/
theorem Hold.cut (h : Hold S w base e g cap L) (k : Nat) : Hold S w base e g cap (L.take k) := by
  obtain ⟨cur, h1, h2, h3, h4, h5, h6⟩ := h
  refine ⟨cur, h1, h2, by rw [List.length_take]; omega, h4, h5, ?_⟩
  have hm : (L.take k).length * S.c ≤ L.length * S.c := Nat.mul_le_mul_right _ (by rw [List.length_take]; omega)
  have h7 : (cur.take (L.length * S.c)).take ((L.take k).length * S.c) = S.flat (L.take k) := by
    rw [h6, List.length_take]
    by_cases hk : k ≤ L.length
    · rw [Nat.min_eq_left hk, flat_take]
    · rw [Nat.min_eq_right (by omega), flat_take, List.take_length, List.take_of_length_le (by omega)]
  rwa [List.take_take, Nat.min_eq_left hm] at h7
theorem Hold.row (h : Hold S w base e g cap L) : RRow S w w.heap.size (some ⟨g, 0, none⟩) L.length L := RRow.of_own (c := cap) h.own'
theorem Hold.cells (h : Hold S w base e g cap L) {j : Nat} {a : α} (hj : L[j]? = some a) : ∀ i, i < S.c → w.cell? ⟨g, j * S.c + i, none⟩ = (S.f a)[i]? := by
  intro i hi
  have hjl : j < L.length := (List.getElem?_eq_some_iff.1 hj).1
  obtain ⟨b, o, a', he, _, ha, hc⟩ := h.row.at hjl
  injection he with he
  injection he with h1 h2
  subst h1 h2
  rw [hj] at ha
  injection ha with ha
  subst ha
  have := hc i hi
  rwa [Nat.zero_add] at this
/-- All its cells, from a place on. -/
theorem Hold.from (h : Hold S w base e g cap L) (k : Nat) : ∀ j u, (S.flat (L.drop k))[j]? = some u → w.cell? ((⟨g, k * S.c, none⟩ : Addr).add j) = some u := by
  intro j u hj
  have hadd : (⟨g, k * S.c, none⟩ : Addr).add j = ⟨g, k * S.c + j, none⟩ := by unfold Addr.add; split <;> simp_all
  have hadd0 : (⟨g, 0, none⟩ : Addr).add (k * S.c + j) = ⟨g, 0 + (k * S.c + j), none⟩ := by unfold Addr.add; split <;> simp_all
  rw [← flat_drop, List.getElem?_drop] at hj
  have := h.row.news (k * S.c + j) u hj
  rw [hadd0, Nat.zero_add] at this
  rw [hadd, this]
theorem Hold.some_ (h : Hold S w base e g cap L) {j : Nat} (hj : j < cap * S.c) : (w.cell? ⟨g, j, none⟩).isSome = true := by
  obtain ⟨cur, h1, h2, h3, h4, h5, h6⟩ := h
  rw [cell_of_row w g j cur.toArray e (0, 0) h1]
  simp [h5, hj]
theorem Hold.free (h : Hold S w base e g cap L) (j : Nat) : w.frozen? ⟨g, j, none⟩ = false := by
  obtain ⟨cur, h1, _⟩ := h
  exact free_of_blk h1
/-- A piece laid over it, from its i-th struct on; it may reach beyond its end. -/
theorem Hold.put (h : Hold S w base e g cap L) {i : Nat} (M : List α) (hi : i ≤ L.length) (hf : i + M.length ≤ cap) : Hold S (w.setCells g (i * S.c) (S.flat M)) base e g cap (L.take i ++ M ++ L.drop (i + M.length)) := by
  obtain ⟨cur, h1, h2, h3, h4, h5, h6⟩ := h
  have hfit : i * S.c + (S.flat M).length ≤ cur.length := by rw [flat_len, h5, ← Nat.add_mul]; exact Nat.mul_le_mul_right _ hf
  have hb := setCells_row g (S.flat M) (i * S.c) cur w h1 hfit
  refine ⟨_, hb, h2, by simp only [List.length_append, List.length_take, List.length_drop]; omega, h4, by rw [← h5]; simp only [List.length_append, List.length_take, List.length_drop]; omega, ?_⟩
  have hA : cur.take (i * S.c) = S.flat (L.take i) := by
    have hm : i * S.c ≤ L.length * S.c := Nat.mul_le_mul_right _ hi
    rw [← flat_take, ← h6, List.take_take, Nat.min_eq_left hm]
  have hAl : (S.flat (L.take i)).length = i * S.c := by rw [flat_len, List.length_take, Nat.min_eq_left hi]
  have hL : (L.take i ++ M ++ L.drop (i + M.length)).length = i + M.length + (L.length - (i + M.length)) := by
    simp only [List.length_append, List.length_take, List.length_drop]; omega
  rw [hL, hA, flat_cat, flat_cat, List.append_assoc, Nat.add_mul, Nat.add_mul, flat_len, ← hAl, ← flat_len (S := S) M, take_three]
  congr 2
  rw [← flat_drop, ← h6, List.drop_take, hAl, flat_len, Nat.add_mul]
  congr 1
  rw [← Nat.add_mul, ← Nat.sub_mul]
theorem Hold.set (h : Hold S w base e g cap L) {i : Nat} (a : α) (hi : i < L.length) : Hold S (w.setCells g (i * S.c) (S.f a)) base e g cap (L.set i a) := by
  have h1 := h.put (i := i) [a] (by omega) (by have := h.fit; simp; omega)
  rw [flat_single] at h1
  have h2 : L.take i ++ [a] ++ L.drop (i + [a].length) = L.set i a := by
    rw [List.set_eq_take_append_cons_drop, if_pos hi]
    simp
  rwa [h2] at h1
end
theorem flat_set {L : List α} {k i : Nat} {a b : α} {u : Value} (hk : L[k]? = some a) (hi : i < S.c) (hb : S.f b = (S.f a).set i u) : (S.flat L).set (k * S.c + i) u = S.flat (L.set k b) := by
  induction L generalizing k with
  | nil => simp at hk
  | cons y L ih =>
    cases k with
    | zero =>
      simp at hk
      subst hk
      rw [Nat.zero_mul, Nat.zero_add, List.set_cons_zero, flat_cons, flat_cons, hb, List.set_append_left _ _ (by rw [S.len]; exact hi)]
    | succ k =>
      have hk' : L[k]? = some a := by simpa using hk
      rw [List.set_cons_succ, flat_cons, flat_cons, ← ih hk', List.set_append_right _ _ (by rw [S.len, Nat.add_mul]; omega)]
      congr 2
      rw [S.len, Nat.add_mul]
      omega
/-- One field of one struct is turned. -/
theorem Hold.field {w : World} {base g cap : Nat} {e : TypeId} {L : List α} (h : Hold S w base e g cap L) {k i : Nat} {a b : α} {u : Value} (hk : L[k]? = some a) (hi : i < S.c) (hb : S.f b = (S.f a).set i u) : Hold S (w.setCell ⟨g, k * S.c + i, none⟩ u) base e g cap (L.set k b) := by
  obtain ⟨cur, h1, h2, h3, h4, h5, h6⟩ := h
  have hkl : k < L.length := (List.getElem?_eq_some_iff.1 hk).1
  have hlt : k * S.c + i < L.length * S.c := by
    have := Nat.mul_le_mul_right S.c (show k + 1 ≤ L.length by omega)
    rw [Nat.add_mul] at this
    omega
  refine ⟨cur.set (k * S.c + i) u, ?_, h2, by rw [List.length_set]; exact h3, h4, by rw [List.length_set]; exact h5, ?_⟩
  · rw [setCell_eq_setRow w g _ cur.toArray e (0, 0) u h1, setRow_heap w g _ _ e (0, 0) h1, List.setIfInBounds_toArray]
  · rw [List.length_set, List.take_set, h6, flat_set hk hi hb]
theorem only_setCells (w : World) (g o : Nat) (vs : List Value) : Only (fun k => k = g) w (w.setCells g o vs) := by
  obtain ⟨h1, h2, h3, h4, h5⟩ := setCells_rest g vs o w
  exact ⟨h1, h2, h3, by omega, fun k _ hk => h5 k hk⟩

theorem run_copy_rec {P : Program} (w : World) (dT sT ty elem : TypeId) (S : Shape α) (b o dLen dCap : Nat) (sp : Option Addr) (sLen sCap : Nat) (M : List α)
    (hu : P.underlying dT = some (.slice elem)) (hs : (P.info? elem).map (·.size) = some S.c) (hn : M.length = Nat.min sLen dLen) (hsp : 0 < M.length → ∃ ad, sp = some ad ∧ ∀ j v, (S.flat M)[j]? = some v → w.cell? (ad.add j) = some v)
    (hc : ∀ j, j < M.length * S.c → (w.cell? ⟨b, o + j, none⟩).isSome = true) (hf : ∀ j, j < M.length * S.c → w.frozen? ⟨b, o + j, none⟩ = false) :
    (Builtin.copy_ #[dT, sT] ty #[.slice (some ⟨b, o, none⟩) dLen dCap, .slice sp sLen sCap]).run P w = .ok (goInt M.length) (w.setCells b o (S.flat M)) := by
  cases hq : P.info? elem with
  | none => simp [hq] at hs
  | some i =>
    have hi : i.size = S.c := by simpa [hq] using hs
    have hst := run_storeCells_cells (P := P) b o (S.flat M) 0 w (by rw [flat_len]; simpa using hc) (by rw [flat_len]; simpa using hf) (flat_one M)
    rcases Nat.eq_zero_or_pos M.length with h0 | h0
    · obtain rfl : M = [] := List.eq_nil_of_length_eq_zero h0
      have hl : ∀ (x : Addr), (loadCells x 0).run P w = .ok #[] w := fun x => by simpa using run_loadCells_list (P := P) w x [] (by simp)
      have hst0 : (storeCells ⟨b, o, none⟩ []).run P w = .ok () w := rfl
      rw [List.length_nil] at hn
      cases sp with
      | none => simp [Builtin.copy_, run_underlying hu, Builtin.lenOf, Builtin.firstCells, sizeOf, typeInfo, hq, ← hn, hst0, World.setCells, Shape.flat]
      | some x => simp [Builtin.copy_, run_underlying hu, Builtin.lenOf, Builtin.firstCells, sizeOf, typeInfo, hq, ← hn, hl, hst0, World.setCells, Shape.flat]
    · obtain ⟨ad, rfl, hsrc⟩ := hsp h0
      have hl := run_loadCells_list (P := P) w ad (S.flat M) hsrc
      rw [flat_len] at hl
      simp [Builtin.copy_, run_underlying hu, Builtin.lenOf, Builtin.firstCells, sizeOf, typeInfo, hq, hi, ← hn, hl, hst]

/-- 'copy(dst, src)' onto a row of one's own. -/
theorem wpList_copy_rec {P : Program} {w : World} {ops : Array Oper} {rest : List Oper} {o : Oper} {a : Act} {Q : Exit → Act → World → Prop} (S : Shape α) (hgd : o.guard = none) (d s : Operand) (dT sT : TypeId)
    (ho : o.op = .call { callee := .builtin .copy, args := #[d, s], argTypes := #[dT, sT] }) (elem : TypeId) (hu : P.underlying dT = some (.slice elem)) (hsz : (P.info? elem).map (·.size) = some S.c)
    (base : Nat) (e : TypeId) (g cap i : Nat) (L M : List α) (hg : Hold S w base e g cap L)
    (dLen dCap : Nat) (sp : Option Addr) (sLen sCap : Nat) (hd : a.eval d = .slice (some ⟨g, i * S.c, none⟩) dLen dCap) (hs : a.eval s = .slice sp sLen sCap) (hn : M.length = Nat.min sLen dLen)
    (hsp : 0 < M.length → ∃ ad, sp = some ad ∧ ∀ j v, (S.flat M)[j]? = some v → w.cell? (ad.add j) = some v) (hi : i ≤ L.length) (hfit : i + M.length ≤ cap)
    (h : ∀ w', Hid (Hold S w' base e g cap (L.take i ++ M ++ L.drop (i + M.length))) → Only (fun k => k = g) w w' → wpList P ops Q rest (a.put o.dst (goInt M.length)) w') :
    wpList P ops Q (o :: rest) a w := by
  have hm : i * S.c + M.length * S.c ≤ cap * S.c := by rw [← Nat.add_mul]; exact Nat.mul_le_mul_right _ hfit
  have hrun := run_copy_rec (P := P) w dT sT o.type elem S g (i * S.c) dLen dCap sp sLen sCap M hu hsz hn hsp (fun j hj => hg.some_ (by omega)) (fun j _ => hg.free _)
  refine wpList_plain hgd fun K hK => ?_
  unfold Oper.wp
  simp only [execOp, ho, resolve, invoke, builtin, Sem.run_bind, Sem.run_pure, Result.andThen_ok, List.map_toArray, List.map_cons, List.map_nil, hd, hs, hrun]
  exact hK _ _ (h _ (hg.put M hi hfit) (only_setCells w g _ _))
/-- The same, as a step of a region that draws. -/
theorem step_copy_rec {P : Program} {w : World} {ops : Array Oper} {o : Oper} {a : Act} {K : Act → World → Prop} {Q : Exit → Act → World → Prop} {E : Prop} (S : Shape α) (hgd : o.guard = none) (d s : Operand) (dT sT : TypeId)
    (ho : o.op = .call { callee := .builtin .copy, args := #[d, s], argTypes := #[dT, sT] }) (elem : TypeId) (hu : P.underlying dT = some (.slice elem)) (hsz : (P.info? elem).map (·.size) = some S.c)
    (base : Nat) (e : TypeId) (g cap i : Nat) (L M : List α) (hg : Hold S w base e g cap L)
    (dLen dCap : Nat) (sp : Option Addr) (sLen sCap : Nat) (hd : a.eval d = .slice (some ⟨g, i * S.c, none⟩) dLen dCap) (hs : a.eval s = .slice sp sLen sCap) (hn : M.length = Nat.min sLen dLen)
    (hsp : 0 < M.length → ∃ ad, sp = some ad ∧ ∀ j v, (S.flat M)[j]? = some v → w.cell? (ad.add j) = some v) (hi : i ≤ L.length) (hfit : i + M.length ≤ cap)
    (h : ∀ w', Hid (Hold S w' base e g cap (L.take i ++ M ++ L.drop (i + M.length))) → Only (fun k => k = g) w w' → K (a.put o.dst (goInt M.length)) w') :
    if Region.wanted o (yielded ops a.tmps) = true then Oper.wp P o a w K Q else E := by
  have hw : Region.wanted o (yielded ops a.tmps) = true := by simp [Region.wanted, hgd]
  rw [if_pos hw]
  have hm : i * S.c + M.length * S.c ≤ cap * S.c := by rw [← Nat.add_mul]; exact Nat.mul_le_mul_right _ hfit
  have hrun := run_copy_rec (P := P) w dT sT o.type elem S g (i * S.c) dLen dCap sp sLen sCap M hu hsz hn hsp (fun j hj => hg.some_ (by omega)) (fun j _ => hg.free _)
  unfold Oper.wp
  simp only [execOp, ho, resolve, invoke, builtin, Sem.run_bind, Sem.run_pure, Result.andThen_ok, List.map_toArray, List.map_cons, List.map_nil, hd, hs, hrun]
  exact h _ (hg.put M hi hfit) (only_setCells w g _ _)

theorem flat_replicate (z : α) (n : Nat) : S.flat (List.replicate n z) = (Builtin.zeroCells (S.f z).toArray n).toList := by
  have hp := S.pos
  have hl := S.len z
  apply List.ext_getElem?
  intro j
  by_cases hj : j < n * S.c
  · have hq : j / S.c < n := Nat.div_lt_of_lt_mul (by rw [Nat.mul_comm]; exact hj)
    have hr := Nat.mod_lt j hp
    have h1 := flat_at (S := S) (l := List.replicate n z) (j := j / S.c) (a := z) (by simp [hq]) (j % S.c) hr
    have e : j / S.c * S.c + j % S.c = j := by rw [Nat.mul_comm]; exact Nat.div_add_mod j S.c
    rw [e] at h1
    rw [h1]
    simp only [Builtin.zeroCells, Array.toList_map, Array.toList_range, List.size_toArray, hl, List.getElem?_map, List.getElem?_range hj, Option.map_some]
    rw [List.getElem?_eq_getElem (by omega)]
    congr 1
    rw [getElem!_pos (S.f z).toArray (j % S.c) (by simp; omega)]
    simp
  · rw [List.getElem?_eq_none (by rw [flat_len, List.length_replicate]; omega), List.getElem?_eq_none (by simp [Builtin.zeroCells, hl]; omega)]

/-- 'clear(s)' of a piece of it. -/
theorem run_clear_rec {P : Program} (w : World) (t elem ty : TypeId) (S : Shape α) (z : α) (ht : P.underlying t = some (.slice elem)) (hv : ∀ w, (zeroValue elem).run P w = .ok (.agg (S.f z).toArray) w) (hcl : (Value.agg (S.f z).toArray).cells = (S.f z).toArray)
    (base : Nat) (e : TypeId) (g cap i n c : Nat) (L : List α) (hg : Hold S w base e g cap L) (hn : 0 < n) (hfit : i + n ≤ cap) :
    (Builtin.clear_ #[t] ty #[.slice (some ⟨g, i * S.c, none⟩) n c]).run P w = .ok (.tuple #[]) (w.setCells g (i * S.c) (S.flat (List.replicate n z))) := by
  have hm : i * S.c + n * S.c ≤ cap * S.c := by rw [← Nat.add_mul]; exact Nat.mul_le_mul_right _ hfit
  have hst := run_storeCells_cells (P := P) g (i * S.c) (S.flat (List.replicate n z)) 0 w (fun j hj => by rw [flat_len, List.length_replicate] at hj; exact hg.some_ (by omega)) (fun j _ => hg.free _) (flat_one _)
  rw [flat_replicate] at hst ⊢
  obtain ⟨m, rfl⟩ : ∃ m, n = m + 1 := ⟨n - 1, by omega⟩
  simp only [Nat.add_zero] at hst
  simp [Builtin.clear_, run_underlying ht, hv, hcl, hst]

/-- 'append(s, make([]T, k)...)' of a row of one's own, with no room for it: a new one. -/
theorem run_zeros_rec {P : Program} (w : World) (t tn elem : TypeId) (i0 : TypeInfo) (S : Shape α) (z : α) (kq kn : IntKind) (ht : P.underlying t = some (.slice elem)) (htn : P.underlying tn = some (.int kn)) (hi : P.info? elem = some i0) (hz : i0.zero = some (.agg (S.f z).toArray)) (hcl : (Value.agg (S.f z).toArray).cells = (S.f z).toArray) (hsz : i0.size = S.c) (hby : i0.bytes ≤ 100)
    (base : Nat) (e : TypeId) (g cap : Nat) (L : List α) (hg : Hold S w base e g cap L) (n : Nat) (hn : n ≤ L.length) (k : Nat) (h0 : 0 < k) (hcap : cap < n + k) (hsm : n + k ≤ 1099511627776) :
    ∃ cap' w', (∀ ty, (Builtin.append_ #[t, tn] ty #[.slice (some ⟨g, 0, none⟩) n cap, .int kq k]).run P w = .ok (.slice (some ⟨w.heap.size, 0, none⟩) (n + k) cap') w') ∧ n + k ≤ cap' ∧ Hold S w' w.heap.size elem w.heap.size cap' (L.take n ++ List.replicate k z) ∧ Below w.heap.size w w' := by
  have hfl : (S.flat (L.take n)).length = n * S.c := by rw [flat_len, List.length_take, Nat.min_eq_left hn]
  have hold : (Builtin.firstCells i0.size n (.slice (some ⟨g, 0, none⟩) n cap)).run P w.drew = .ok (S.flat (L.take n)).toArray w.drew := by
    have h1 : ∀ j v, (S.flat (L.take n))[j]? = some v → w.drew.cell? ((⟨g, 0, none⟩ : Addr).add j) = some v := fun j v hj => (hg.cut n).row.news j v hj
    have := run_loadCells_list (P := P) w.drew ⟨g, 0, none⟩ _ h1
    rw [hfl] at this
    simpa [Builtin.firstCells, hsz] using this
  have hbb : (n + k) * i0.bytes ≤ 140737488355328 := by have := Nat.mul_le_mul hsm hby; omega
  have hkb : k * i0.bytes ≤ (n + k) * i0.bytes := Nat.mul_le_mul_right _ (by omega)
  have hp := S.pos
  have hrun := fun ty => Lib.run_append_grow_zeros (P := P) w t tn ty elem i0 _ kq kn ht htn hi hz (some ⟨g, 0, none⟩) n cap _ hold k h0 (by omega) hcap (by omega) (by omega) (growslice_fits (by omega) hbb)
  have hge := grownCap_ge w (n + k) cap elem
  have hle := grownCap_le_maxLen w (n + k) cap elem (by unfold maxLen; omega)
  refine ⟨_, _, hrun, hge, ⟨S.flat (L.take n ++ List.replicate k z) ++ S.flat (List.replicate (grownCap w (n + k) cap elem - (n + k)) z), ?_, Nat.le_refl _, ?_, hle, ?_, ?_⟩, (Below.refl _ _).drew.alloc (Nat.le_refl _) _⟩
  · rw [hcl, show w.heap.size = w.drew.heap.size from rfl, heap_alloc_new]
    congr 2
    rw [flat_cat, flat_replicate, flat_replicate]
    apply Array.ext'
    simp
  · rw [List.length_append, List.length_take, List.length_replicate]; omega
  · rw [List.length_append, flat_len, flat_len, List.length_append, List.length_take, List.length_replicate, List.length_replicate, ← Nat.add_mul]
    congr 1
    omega
  · rw [List.take_left' (by rw [flat_len])]
end Go.Proofs.Ytdhlbcbgbmgcjaa.Rec

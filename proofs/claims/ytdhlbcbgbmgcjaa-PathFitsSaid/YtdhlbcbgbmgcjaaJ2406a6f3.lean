/- Lemmas that the proof stands on, in build order: PdN Min. -/
import Derived.ArgAppend
import Derived.Laws.IdiomStrings
import Derived.Laws.IdiomCopy
import Derived.Test.YtdhlbcbgbmgcjaaJ1a85310
import Derived.Test.YtdhlbcbgbmgcjaaJ23fe50ce
/- Layer 17 (path), mathematics: the links of each stop one behind the other in one array. -/
namespace Go.Proofs.Ytdhlbcbgbmgcjaa.Pt
open Go.RowKit Rec Ints Ge Gf Pa

/-- Where a stop's links begin. -/
def ofs (N : Nt) (v : Nat) : Nat := row (deg N) v
theorem ofs_succ (N : Nt) (v : Nat) : ofs N (v + 1) = ofs N v + deg N v := rfl
theorem ofs_all {N : Nt} (h : Valid N) : ofs N N.st.length = 2 * N.lk.length := by
  rw [← rest_all h]
  unfold ofs rest
  exact row_congr fun j _ => by simp
theorem ofs_mono (N : Nt) {v : Nat} : ∀ {u : Nat}, v ≤ u → ofs N v ≤ ofs N u
  | 0, h => by
    obtain rfl : v = 0 := by omega
    exact Nat.le_refl _
  | u + 1, h => by
    rcases Nat.lt_or_ge v (u + 1) with h1 | h1
    · have := ofs_mono N (v := v) (u := u) (by omega)
      rw [ofs_succ]
      omega
    · obtain rfl : v = u + 1 := by omega
      exact Nat.le_refl _
theorem ofs_fit {N : Nt} (h : Valid N) {v : Nat} (hv : v < N.st.length) : ofs N v + deg N v ≤ 2 * N.lk.length := by
  rw [← ofs_all h, ← ofs_succ]
  exact ofs_mono N hv
/-- A stop's links among the first j. -/
def gt (N : Nt) (j v : Nat) : List L3 := pick (v : Int) (N.lk.take j)
theorem gt_zero (N : Nt) (v : Nat) : gt N 0 v = [] := rfl
theorem gt_all (N : Nt) (v : Nat) : gt N N.lk.length v = pick (v : Int) N.lk := by unfold gt; rw [List.take_length]
theorem wys_cat (L M : List L3) : wys (L ++ M) = wys L ++ wys M := by unfold wys; simp
theorem pick_cat (s : Int) (L M : List L3) : pick s (L ++ M) = pick s L ++ pick s M := by unfold pick; rw [wys_cat, List.filter_append]
theorem pick_one (s : Int) (l : L3) : pick s [l] = (if l.1 = s then [l] else []) ++ (if l.2.1 = s then [sw3 l] else []) := by
  have h1 := pick_cons s l []
  have h2 : pick s [] = [] := rfl
  rw [h2, List.append_nil] at h1
  exact h1
theorem gt_next {N : Nt} {j : Nat} {l : L3} (h : N.lk[j]? = some l) (v : Nat) : gt N (j + 1) v = gt N j v ++ ((if l.1 = (v : Int) then [l] else []) ++ (if l.2.1 = (v : Int) then [sw3 l] else [])) := by
  unfold gt
  rw [List.take_add_one, h]
  show pick _ (_ ++ [l]) = _
  rw [pick_cat, pick_one]
theorem gt_le (N : Nt) (j v : Nat) : (gt N j v).length ≤ deg N v := by
  unfold gt deg
  have h := pick_cat (v : Int) (N.lk.take j) (N.lk.drop j)
  rw [List.take_append_drop] at h
  rw [h, List.length_append]
  omega
/-- .. how many. -/
def cl (N : Nt) (j : Nat) : List Int := (List.range N.st.length).map fun v => (((gt N j v).length : Nat) : Int)
theorem cl_len (N : Nt) (j : Nat) : (cl N j).length = N.st.length := by unfold cl; simp
theorem cl_at {N : Nt} {j v : Nat} (h : v < N.st.length) : (cl N j)[v]? = some (((gt N j v).length : Nat) : Int) := by unfold cl; simp [h]
theorem cl_zero (N : Nt) : cl N 0 = List.replicate N.st.length 0 := by
  unfold cl
  apply List.ext_getElem
  · simp
  · intro i h1 h2
    simp [gt_zero]
theorem cl_all {N : Nt} {v : Nat} (h : v < N.st.length) : (cl N N.lk.length)[v]? = some ((deg N v : Nat) : Int) := by rw [cl_at h, gt_all]; rfl
theorem gt_first {N : Nt} {j : Nat} {l : L3} {a b : Nat} (h : N.lk[j]? = some l) (ha : l.1 = (a : Int)) (hb : l.2.1 = (b : Int)) (hab : a ≠ b) : gt N (j + 1) a = gt N j a ++ [l] := by
  rw [gt_next h, if_pos ha, if_neg (by omega), List.append_nil]
theorem gt_second {N : Nt} {j : Nat} {l : L3} {a b : Nat} (h : N.lk[j]? = some l) (ha : l.1 = (a : Int)) (hb : l.2.1 = (b : Int)) (hab : a ≠ b) : gt N (j + 1) b = gt N j b ++ [sw3 l] := by
  rw [gt_next h, if_pos hb, if_neg (by omega), List.nil_append]
theorem gt_other {N : Nt} {j : Nat} {l : L3} {a b v : Nat} (h : N.lk[j]? = some l) (ha : l.1 = (a : Int)) (hb : l.2.1 = (b : Int)) (h1 : v ≠ a) (h2 : v ≠ b) : gt N (j + 1) v = gt N j v := by
  rw [gt_next h, if_neg (by omega), if_neg (by omega), List.append_nil, List.append_nil]
theorem cl_next {N : Nt} {j : Nat} {l : L3} {a b : Nat} (h : N.lk[j]? = some l) (ha : l.1 = (a : Int)) (hb : l.2.1 = (b : Int)) (hab : a ≠ b) :
    ((cl N j).set a ((((gt N j a).length : Nat) : Int) + 1)).set b ((((gt N j b).length : Nat) : Int) + 1) = cl N (j + 1) := by
  apply List.ext_getElem?
  intro v
  by_cases hv : v < N.st.length
  · rw [cl_at hv, List.getElem?_set, List.getElem?_set]
    by_cases e1 : b = v
    · subst e1
      rw [if_pos rfl, if_pos (by simpa [cl_len] using hv), gt_second h ha hb hab]
      simp
    · rw [if_neg e1]
      by_cases e2 : a = v
      · subst e2
        rw [if_pos rfl, if_pos (by simpa [cl_len] using hv), gt_first h ha hb hab]
        simp
      · rw [if_neg e2, cl_at hv, gt_other h ha hb (fun e => e2 e.symm) (fun e => e1 e.symm)]
  · rw [List.getElem?_eq_none (by simp [cl_len]; omega), List.getElem?_eq_none (by rw [cl_len]; omega)]
/-- Each stop's links stand where they should. -/
structure Ly (N : Nt) (G : Nat → List L3) (all : List L3) : Prop where
  len : all.length = 2 * N.lk.length
  at_ : ∀ v, v < N.st.length → ∀ i x, (G v)[i]? = some x → all[ofs N v + i]? = some x
  le : ∀ v, (G v).length ≤ deg N v
theorem Ly.push {N : Nt} {G : Nat → List L3} {all : List L3} {v : Nat} (h : Ly N G all) (hN : Valid N) (hv : v < N.st.length) (hf : (G v).length < deg N v) (l : L3) : Ly N (fun x => if x = v then G v ++ [l] else G x) (all.set (ofs N v + (G v).length) l) := by
  have h0 := ofs_fit hN hv
  have hp : ofs N v + (G v).length < all.length := by rw [h.len]; omega
  refine ⟨by rw [List.length_set]; exact h.len, fun u hu i x hx => ?_, fun u => ?_⟩
  · try simp only at hx
    by_cases e : u = v
    · subst e
      rw [if_pos rfl] at hx
      rw [List.getElem?_set]
      rcases Nat.lt_trichotomy i (G u).length with h1 | h1 | h1
      · rw [if_neg (by omega)]
        rw [List.getElem?_append_left h1] at hx
        exact h.at_ u hu i x hx
      · subst h1
        rw [if_pos rfl, if_pos hp]
        rw [List.getElem?_append_right (Nat.le_refl _), Nat.sub_self] at hx
        exact hx
      · rw [List.getElem?_eq_none (by simp; omega)] at hx
        cases hx
    · rw [if_neg e] at hx
      have h1 := (List.getElem?_eq_some_iff.1 hx).1
      have h2 := h.le u
      rw [List.getElem?_set, if_neg, h.at_ u hu i x hx]
      intro e2
      rcases Nat.lt_or_ge u v with h3 | h3
      · have := ofs_mono N (v := u + 1) (u := v) h3
        rw [ofs_succ] at this
        omega
      · have := ofs_mono N (v := v + 1) (u := u) (by omega)
        rw [ofs_succ] at this
        omega
  · by_cases e : u = v
    · subst e
      rw [if_pos rfl, List.length_append]
      simp only [List.length_cons, List.length_nil]
      omega
    · rw [if_neg e]; exact h.le u
theorem Ly.one {N : Nt} {G G' : Nat → List L3} {all : List L3} (h : Ly N G all) (e : ∀ v, v < N.st.length → G' v = G v) (hle : ∀ v, (G' v).length ≤ deg N v) : Ly N G' all :=
  ⟨h.len, fun v hv i x hx => h.at_ v hv i x (by rw [← e v hv]; exact hx), hle⟩
theorem Ly.start {N : Nt} {all : List L3} (h : all.length = 2 * N.lk.length) : Ly N (gt N 0) all := ⟨h, fun v _ i x hx => by rw [gt_zero] at hx; simp at hx, fun v => by rw [gt_zero]; exact Nat.zero_le _⟩
/-- A link is laid at both its stops. -/
theorem Ly.next {N : Nt} {all : List L3} {j : Nat} {l : L3} {a b : Nat} (hL : Ly N (gt N j) all) (hN : Valid N) (h : N.lk[j]? = some l) (ha : l.1 = (a : Int)) (hb : l.2.1 = (b : Int)) (hab : a ≠ b) (hal : a < N.st.length) (hbl : b < N.st.length) :
    (gt N j a).length < deg N a ∧ (gt N j b).length < deg N b ∧ Ly N (gt N (j + 1)) ((all.set (ofs N a + (gt N j a).length) l).set (ofs N b + (gt N j b).length) (sw3 l)) := by
  have h1 := gt_le N (j + 1) a
  have h2 := gt_le N (j + 1) b
  have e1 := gt_first h ha hb hab
  have e2 := gt_second h ha hb hab
  rw [e1, List.length_append] at h1
  rw [e2, List.length_append] at h2
  simp only [List.length_cons, List.length_nil] at h1 h2
  have p1 := hL.push hN hal (by omega) l
  have p2 := p1.push hN (v := b) hbl (by simp only [if_neg (fun e : b = a => hab e.symm)]; omega) (sw3 l)
  simp only [if_neg (fun e : b = a => hab e.symm)] at p2
  refine ⟨by omega, by omega, p2.one (fun v hv => ?_) (fun v => gt_le N (j + 1) v)⟩
  by_cases e3 : v = b
  · subst e3
    rw [if_pos rfl]
    exact e2
  · rw [if_neg e3]
    by_cases e4 : v = a
    · subst e4
      rw [if_pos rfl]
      exact e1
    · rw [if_neg e4]
      exact gt_other h ha hb e4 e3
end Go.Proofs.Ytdhlbcbgbmgcjaa.Pt

/- Words of our own on memory, over any program: a slice of the call's own whose block may be frozen beyond its capacity (what '[]byte(s)' makes), and appends onto it. -/
namespace Go.Proofs.Ytdhlbcbgbmgcjaa
open Go.RowKit

/-- v has n elements, the cells xs, in a block from base on; up to its capacity nothing of it is frozen. -/
def Mine (w : World) (base : Nat) (e : TypeId) (v : Value) (n : Nat) (xs : List Value) : Prop :=
  xs.length = n ∧ ∃ g cap cur fr, v = .slice (some ⟨g, 0, none⟩) n cap ∧ base ≤ g ∧ w.heap[g]? = some (.cells cur e fr) ∧ (∀ j, j < cap → ¬ (fr.1 ≤ j ∧ j < fr.2)) ∧ n ≤ cap ∧ cap ≤ maxLen ∧ cur.size = cap ∧ cur.toList.take n = xs

section
variable {w w' : World} {base n : Nat} {e : TypeId} {v : Value} {xs : List Value}
theorem Mine.of_own (h : w.ownsRow base e 1 v n xs) (hv : ∃ A c, v = .slice (some A) n c) : Mine w base e v n xs := by
  obtain ⟨A, c, rfl⟩ := hv
  rcases h.2 with ⟨h0, _⟩ | ⟨g, cap, cur, h1, h2, h3, h4, h5, h6, h7⟩
  · cases h0
  · refine ⟨by simpa using h.1, g, cap, cur, (0, 0), h1, h2, h3, fun j _ hh => by omega, h4, h5, by simpa using h6, by simpa using h7⟩
theorem Mine.slice (h : Mine w base e v n xs) : ∃ g c, v = .slice (some ⟨g, 0, none⟩) n c ∧ base ≤ g ∧ n ≤ c := by
  obtain ⟨_, g, cap, cur, fr, h1, h2, _, _, h5, _⟩ := h
  exact ⟨g, cap, h1, h2, h5⟩
theorem Mine.lt {g c : Nat} (h : Mine w base e (.slice (some ⟨g, 0, none⟩) n c) n xs) : g < w.heap.size := by
  obtain ⟨_, g', cap, cur, fr, h1, h2, h3, _⟩ := h
  injection h1 with h1
  injection h1 with h1
  injection h1 with h1
  subst h1
  exact (Array.getElem?_eq_some_iff.1 h3).1
theorem Mine.below (h : Mine w base e v n xs) (hb : Below w.heap.size w w') : Mine w' base e v n xs := by
  obtain ⟨h0, g, cap, cur, fr, h1, h2, h3, h4⟩ := h
  exact ⟨h0, g, cap, cur, fr, h1, h2, (hb.block g (Array.getElem?_eq_some_iff.1 h3).1).trans h3, h4⟩
theorem Mine.row {k : IntKind} {A : Option Addr} {c : Nat} {ys : List Int} (h : Mine w base e (.slice A n c) n (ys.map (Value.int k))) : Row k w w.heap.size A n ys := by
  obtain ⟨h0, g, cap, cur, fr, h1, h2, h3, h4, h5, h6, h7, h8⟩ := h
  injection h1 with h1
  subst h1
  have hl : ys.length = n := by simpa using h0
  refine ⟨hl, fun hn => ⟨g, 0, rfl, (Array.getElem?_eq_some_iff.1 h3).1, fun j hj => ?_⟩⟩
  rw [Nat.zero_add, cell_of_row w g j cur e fr h3]
  have h9 : (ys.map (Value.int k))[j]? = some (.int k (ys.getD j 0)) := by
    simp [List.getD, List.getElem?_eq_getElem (show j < ys.length by omega)]
  rw [← h8, List.getElem?_take_of_lt hj] at h9
  simpa using h9
end

theorem setCells_row {t : TypeId} {fr : Nat × Nat} (b : Nat) : ∀ (vs : List Value) (o : Nat) (cur : List Value) (w : World), w.heap[b]? = some (.cells cur.toArray t fr) → o + vs.length ≤ cur.length →
    (w.setCells b o vs).heap[b]? = some (.cells (cur.take o ++ (vs ++ cur.drop (o + vs.length))).toArray t fr)
  | [], o, cur, w, h, _ => by simpa [World.setCells] using h
  | v :: r, o, cur, w, h, hl => by
    rw [List.length_cons] at hl
    have h1 : (w.setCell ⟨b, o, none⟩ v).heap[b]? = some (.cells (cur.set o v).toArray t fr) := by
      rw [setCell_eq_setRow w b o cur.toArray t fr v h, setRow_heap w b _ _ t fr h, List.setIfInBounds_toArray]
    rw [World.setCells, setCells_row b r (o + 1) (cur.set o v) _ h1 (by rw [List.length_set]; omega)]
    congr 3
    rw [List.length_cons, List.take_succ_eq_append_getElem (by rw [List.length_set]; omega), List.take_set_of_le (Nat.le_refl _), List.drop_set_of_lt (by omega)]
    simp [show o + 1 + r.length = o + (r.length + 1) by omega]
theorem setCells_rest (b : Nat) : ∀ (vs : List Value) (o : Nat) (w : World), (w.setCells b o vs).os = w.os ∧ (w.setCells b o vs).tape = w.tape ∧ (w.setCells b o vs).output = w.output ∧ (w.setCells b o vs).heap.size = w.heap.size ∧ ∀ k, k ≠ b → (w.setCells b o vs).heap[k]? = w.heap[k]?
  | [], _, _ => ⟨rfl, rfl, rfl, rfl, fun _ _ => rfl⟩
  | v :: r, o, w => by
    obtain ⟨h1, h2, h3, h4, h5⟩ := setCells_rest b r (o + 1) (w.setCell ⟨b, o, none⟩ v)
    rw [World.setCells]
    exact ⟨h1, h2, h3, h4.trans (by simp [World.setCell]), fun k hk => (h5 k hk).trans (heap_setCell_other _ _ _ _ hk)⟩
theorem below_setCells {B b : Nat} (w : World) (o : Nat) (vs : List Value) (hb : B ≤ b) : Below B w (w.setCells b o vs) := by
  obtain ⟨h1, h2, h3, h4, h5⟩ := setCells_rest b vs o w
  exact ⟨h1, h2, h3, by omega, fun k hk => h5 k (by omega)⟩

theorem take_two {α : Type} (a b c : List α) (n m : Nat) (ha : a.length = n) (hb : b.length = m) : (a ++ (b ++ c)).take (n + m) = a ++ b := by
  rw [← List.append_assoc]
  exact List.take_left' (by simp; omega)
/-- 'append(out, ys...)' onto such a slice; ys reads as a row, nil let in. -/
theorem cat_min {P : Program} {ops : Array Oper} {rest : List Oper} {o : Oper} {a : Act} {Q : Exit → Act → World → Prop} {w : World} (hgd : o.guard = none) (s x : Operand) (t : TypeId)
    (ho : o.op = .call { callee := .builtin .append, args := #[s, x], argTypes := #[t, t] })
    (base : Nat) (e : TypeId) (i : TypeInfo) (k : IntKind) (bytes : Nat) (ht : P.underlying t = some (.slice e)) (hi : P.info? e = some i) (hz : i.zero = some (.int k 0)) (hsize : i.size = 1) (hby : i.bytes = bytes)
    (v : Value) (n : Nat) (xs : List Int) (hs : a.eval s = v) (hown : Mine w base e v n (xs.map (Value.int k))) (B : Nat) (A : Option Addr) (m c : Nat) (ys : List Int) (hx : a.eval x = .slice A m c) (hnil : A = none → c = 0) (hr : Row k w B A m ys)
    (hn : n + m ≤ 4398046511104) (hb8 : bytes ≤ 8) (hbase : base ≤ w.heap.size)
    (h : ∀ v' w', Mine w' base e v' (n + m) ((xs ++ ys).map (Value.int k)) → Below base w w' → wpList P ops Q rest (a.put o.dst v') w') :
    wpList P ops Q (o :: rest) a w := by
  subst hby
  have hmine := hown
  obtain ⟨h0, g, cap, cur, fr, rfl, h2, h3, h4, h5, h6, h7, h8⟩ := hown
  have hxl : xs.length = n := by simpa using h0
  rcases A with _ | ad
  · have hm : m = 0 := by
      rcases Nat.eq_zero_or_pos m with h0 | h0
      · exact h0
      · obtain ⟨_, _, h1, _⟩ := hr.2 h0
        cases h1
    subst hm
    have hy : ys = [] := List.eq_nil_of_length_eq_zero hr.1
    subst hy
    rw [hnil rfl] at hx
    have hrun : (Builtin.append_ #[t, t] o.type #[.slice (some ⟨g, 0, none⟩) n cap, .slice none 0 0]).run P w = .ok (.slice (some ⟨g, 0, none⟩) n cap) w := by
      have hst : (storeCells ((⟨g, 0, none⟩ : Addr).add (n * i.size)) ([] : List Value)).run P w = .ok () w := rfl
      simp [Builtin.append_, run_underlying ht, sizeOf, typeInfo, hi, Builtin.lenOf, Builtin.firstCells, h5, hst]
    refine wpList_plain hgd fun K hK => ?_
    unfold Oper.wp execOp
    simp only [ho, resolve, invoke, builtin, Sem.run_bind, Sem.run_pure, Result.andThen_ok, List.map_toArray, List.map_cons, List.map_nil, hs, hx, hrun]
    exact hK _ _ (h _ w (by simpa using hmine) (Below.refl _ _))
  · have hnews : ∀ j u, (ys.map (Value.int k))[j]? = some u → w.cell? (ad.add j) = some u := by
      intro j u hj
      have hjl : j < ys.length := by
        have := (List.getElem?_eq_some_iff.1 hj).1
        simpa using this
      have hl := hr.1
      obtain ⟨b, o, he, _, hc⟩ := hr.cell_at (show j < m by omega)
      injection he with he
      subst he
      have hadd : (⟨b, o, none⟩ : Addr).add j = ⟨b, o + j, none⟩ := by unfold Addr.add; split <;> simp_all
      rw [hadd, hc]
      simp only [List.getElem?_map, List.getElem?_eq_getElem hjl, Option.map_some, Option.some.injEq] at hj
      subst hj
      simp [List.getD, hjl]
    have h1 : ∀ u ∈ ys.map (Value.int k), u.oneCell' = true := by
      intro u hu
      obtain ⟨y, _, rfl⟩ := List.mem_map.1 hu
      rfl
    have hl : (ys.map (Value.int k)).length = m * i.size := by rw [hsize]; simp [hr.1]
    have hl1 : (ys.map (Value.int k)).length = m := by simp [hr.1]
    have h63 : n + m ≤ maxLen := by unfold maxLen; omega
    have hbb : (n + m) * i.bytes ≤ 140737488355328 := by have := Nat.mul_le_mul hn hb8; omega
    have hsmall : n + m ≤ 9223372036854775807 := by simp only [maxLen] at h63; omega
    have hcell : ∀ j, w.cell? ⟨g, j, none⟩ = cur[j]? := fun j => cell_of_row w g j cur e fr h3
    by_cases hroom : n + m ≤ cap
    · have hrun := run_append_room_cells (P := P) w t o.type e i ht hi g 0 n cap ad m c _ hl hnews h1 hroom
        (fun j hj => by rw [hsize, Nat.zero_add, Nat.mul_one, hcell, Array.getElem?_eq_getElem (by omega)]; rfl)
        (fun j hj => by
          rw [hsize, Nat.zero_add, Nat.mul_one]
          have := h4 (n + j) (by omega)
          simp only [World.frozen?, h3]
          simpa using this)
      rw [hsize, Nat.zero_add, Nat.mul_one] at hrun
      have hblk := setCells_row g (ys.map (Value.int k)) n cur.toList w (by simpa using h3) (by rw [hl1]; simp; omega)
      refine wpList_plain hgd fun K hK => ?_
      unfold Oper.wp execOp
      simp only [ho, resolve, invoke, builtin, Sem.run_bind, Sem.run_pure, Result.andThen_ok, List.map_toArray, List.map_cons, List.map_nil, hs, hx, hrun]
      refine hK _ _ (h _ _ ⟨by simp [hxl, hr.1], g, cap, _, fr, rfl, h2, hblk, h4, hroom, h6, ?_, ?_⟩ (below_setCells w n _ h2))
      · simp [hr.1, h7]; omega
      · rw [List.map_append, h8]
        exact take_two _ _ _ _ _ h0 hl1
    · have hrun := run_append_grow (P := P) w t o.type e i (.int k 0) ht hi hz ⟨g, 0, none⟩ n cap (xs.map (Value.int k)) (by rw [hsize]; simpa using h0)
        (fun j u hj => by
          have hadd : (⟨g, 0, none⟩ : Addr).add j = ⟨g, j, none⟩ := by unfold Addr.add; split <;> simp_all
          have hjn : j < n := by have := (List.getElem?_eq_some_iff.1 hj).1; omega
          rw [hadd, hcell]
          rw [← h8, List.getElem?_take_of_lt hjn] at hj
          simpa using hj) ad m c _ hl hnews (by omega) (by omega) (growslice_fits (by omega) hbb)
      refine wpList_plain hgd fun K hK => ?_
      unfold Oper.wp execOp
      simp only [ho, resolve, invoke, builtin, Sem.run_bind, Sem.run_pure, Result.andThen_ok, List.map_toArray, List.map_cons, List.map_nil, hs, hx, hrun]
      have hge := grownCap_ge w (n + m) cap e
      refine hK _ _ (h _ _ ⟨by simp [hxl, hr.1], w.heap.size, _, _, (0, 0), rfl, hbase, heap_alloc_new w.drew _, fun j _ hh => by omega, hge, grownCap_le_maxLen w (n + m) cap e h63, ?_, ?_⟩ ((Below.refl base w).drew.alloc hbase _))
      · have hzc : (Value.int k 0).cells.size = 1 := rfl
        simp only [Array.size_append, List.size_toArray, size_zeroCells, hzc, List.length_map, hxl, hr.1]
        omega
      · rw [List.map_append]
        simp only [Array.toList_append, List.append_assoc]
        exact take_two _ _ _ _ _ h0 hl1

/-- '[]byte(s)': what it makes. -/
theorem mine_bytes (w : World) (e : TypeId) (s : ByteArray) (hs : s.size ≤ 4398046511104) :
    Mine (w.drew.alloc (.cells (bytesRow s (grownCap w s.size 0 e)) e ((bytesRow s (grownCap w s.size 0 e)).size, (bytesRow s (grownCap w s.size 0 e)).size + 1))) w.heap.size e (.slice (some ⟨w.heap.size, 0, none⟩) s.size (grownCap w s.size 0 e)) s.size ((s.data.toList.map fun x => (x.toNat : Int)).map (Value.int .u8)) := by
  have hge := grownCap_ge w s.size 0 e
  have hsz : (bytesRow s (grownCap w s.size 0 e)).size = grownCap w s.size 0 e := by
    have : s.data.size = s.size := rfl
    unfold bytesRow
    simp only [Array.size_append, Array.size_map, Array.size_replicate, this]
    omega
  refine ⟨by simp, w.heap.size, _, _, _, rfl, Nat.le_refl _, heap_alloc_new w.drew _, fun j hj hh => ?_, hge, grownCap_le_maxLen w s.size 0 e (by unfold maxLen; omega), hsz, ?_⟩
  · rw [hsz] at hh
    simp at hh
    omega
  · unfold bytesRow
    have : s.data.toList.length = s.size := by simp
    simp [this]
end Go.Proofs.Ytdhlbcbgbmgcjaa

/- Slices of values of one cell each (slices of slices among them), over any program: what such a slice reads as, and the append of one onto a row of one's own. -/
import Derived.Test.YtclidocmfdimiaaDoorOwn
import Derived.Laws.Rows
namespace Go.Proofs.YtclidocmfdimiaaDoor.Vct
open Go.RowKit

/-- The slice '.slice A n c' reads as the values vs; it lies below block B; nil is let in. -/
structure VRow (w : World) (B : Nat) (A : Option Addr) (n : Nat) (vs : List Value) : Prop where
  len : vs.length = n
  at_ : 0 < n → ∃ b o, A = some ⟨b, o, none⟩ ∧ b < B ∧ ∀ j v, vs[j]? = some v → w.cell? ⟨b, o + j, none⟩ = some v
  one : ∀ v ∈ vs, v.oneCell' = true
section
variable {w w' : World} {B B' n : Nat} {A : Option Addr} {vs : List Value}
theorem VRow.below (h : VRow w B A n vs) (hb : Below B w w') : VRow w' B A n vs :=
  ⟨h.len, fun hn => by
    obtain ⟨b, o, e, h1, h2⟩ := h.at_ hn
    exact ⟨b, o, e, h1, fun j v hj => (hb.cell (p := ⟨b, o + j, none⟩) h1).trans (h2 j v hj)⟩, h.one⟩
theorem VRow.more (h : VRow w B A n vs) (hB : B ≤ B') : VRow w B' A n vs :=
  ⟨h.len, fun hn => by
    obtain ⟨b, o, e, h1, h2⟩ := h.at_ hn
    exact ⟨b, o, e, by omega, h2⟩, h.one⟩
/-- A block made of values. -/
theorem VRow.of_blk {g : Nat} {cs : Array Value} {t : TypeId} {fr : Nat × Nat} (hg : w.heap[g]? = some (.cells cs t fr)) (hB : g < B) (hcs : cs.toList = vs) (h1 : ∀ v ∈ vs, v.oneCell' = true) : VRow w B (some ⟨g, 0, none⟩) vs.length vs :=
  ⟨rfl, fun _ => ⟨g, 0, rfl, hB, fun j v hj => by
    rw [Nat.zero_add, cell_of_row w g j cs t fr hg, ← hj, ← hcs]
    simp⟩, h1⟩
/-- A row of one's own. -/
theorem VRow.of_own {base c : Nat} {e : TypeId} (h : w.ownsRow base e 1 (.slice A n c) n vs) (h1 : ∀ v ∈ vs, v.oneCell' = true) : VRow w w.heap.size A n vs := by
  refine ⟨by simpa using h.1, fun hn => ?_, h1⟩
  rcases h.2 with ⟨h0, _⟩ | ⟨g, cap, cur, h2, h3, h4, h5, h6, h7, h8⟩
  · injection h0 with h0 h0'
    omega
  · injection h2 with h2 h2'
    subst h2
    refine ⟨g, 0, rfl, (Array.getElem?_eq_some_iff.1 h4).1, fun j v hj => ?_⟩
    rw [Nat.zero_add, cell_of_row w g j cur e (0, 0) h4]
    have hjl : j < n := by
      have := (List.getElem?_eq_some_iff.1 hj).1
      have h9 := h.1
      omega
    rw [← h8, List.getElem?_take_of_lt (by omega)] at hj
    simpa using hj
end

/-- 'append(out, ys...)' onto a row of one's own; ys reads as a row of values, nil let in. -/
theorem cat_vals {P : Program} {ops : Array Oper} {rest : List Oper} {o : Oper} {a : Act} {Q : Exit → Act → World → Prop} {w : World} (hgd : o.guard = none) (s x : Operand) (t : TypeId)
    (ho : o.op = .call { callee := .builtin .append, args := #[s, x], argTypes := #[t, t] })
    (base : Nat) (e : TypeId) (i : TypeInfo) (z : Value) (bytes : Nat) (ht : P.underlying t = some (.slice e)) (hi : P.info? e = some i) (hz : i.zero = some z) (hz1 : z.cells.size = 1) (hsize : i.size = 1) (hby : i.bytes = bytes)
    (v : Value) (n : Nat) (xs : List Value) (hs : a.eval s = v) (hown : w.ownsRow base e 1 v n xs) (B : Nat) (A : Option Addr) (m c : Nat) (ys : List Value) (hx : a.eval x = .slice A m c) (hnil : A = none → c = 0) (hr : VRow w B A m ys)
    (hn : n + m ≤ 1099511627776) (hb8 : bytes ≤ 100) (hbase : base ≤ w.heap.size)
    (h : ∀ v' w', w'.ownsRow base e 1 v' (n + m) (xs ++ ys) → Below base w w' → wpList P ops Q rest (a.put o.dst v') w') :
    wpList P ops Q (o :: rest) a w := by
  rcases A with _ | ad
  · have hm : m = 0 := by
      rcases Nat.eq_zero_or_pos m with h0 | h0
      · exact h0
      · obtain ⟨_, _, h1, _⟩ := hr.at_ h0
        cases h1
    subst hm
    have hy : ys = [] := List.eq_nil_of_length_eq_zero hr.len
    subst hy
    rw [hnil rfl] at hx
    exact wpList_append_own_none hgd s x t ho base e i 1 ht hi v n _ hs hown hx (h v w (by simpa using hown) (Below.refl _ _))
  · refine wpList_append_own _ hgd s x t ho base e i z 1 bytes ht hi hz hsize hby hz1 (by omega) v n xs hs hown ad m c ys hx (by simp [hr.len]) ?_ hr.one ?_ ?_ hbase ?_
    · intro j u hj
      have hjl := (List.getElem?_eq_some_iff.1 hj).1
      have hl := hr.len
      obtain ⟨b, o, he, _, hc⟩ := hr.at_ (by omega)
      injection he with he
      subst he
      have hadd : (⟨b, o, none⟩ : Addr).add j = ⟨b, o + j, none⟩ := by unfold Addr.add; split <;> simp_all
      rw [hadd]
      exact hc j u hj
    · unfold maxLen; omega
    · have := Nat.mul_le_mul hn hb8
      omega
    · intro v' w' hown' hgrow _
      exact h v' w' (by simpa using hown') ((Below.refl _ _).grown hgrow hbase (fun j hj => (hown.lt j hj).1))

/-- A slice among others: where it lies, its length, its capacity, what it reads as. -/
structure VPart where
  A : Option Addr
  n : Nat
  c : Nat
  vs : List Value
def VPart.v (p : VPart) : Value := .slice p.A p.n p.c
def VPart.Right (w : World) (B : Nat) (p : VPart) : Prop := VRow w B p.A p.n p.vs ∧ (p.A = none → p.c = 0)
def vtotal (L : List VPart) : Nat := (L.map (·.n)).sum
def vwhole (L : List VPart) : List Value := L.flatMap (·.vs)
theorem vtotal_next {L : List VPart} {i : Nat} (h : i < L.length) : vtotal (L.take (i + 1)) = vtotal (L.take i) + (L[i]).n := by
  unfold vtotal; rw [List.take_succ_eq_append_getElem h, List.map_append, List.sum_append]; simp only [List.map_cons, List.map_nil, List.sum_cons, List.sum_nil, Nat.add_zero]
theorem vwhole_next {L : List VPart} {i : Nat} (h : i < L.length) : vwhole (L.take (i + 1)) = vwhole (L.take i) ++ (L[i]).vs := by
  unfold vwhole; rw [List.take_succ_eq_append_getElem h, List.flatMap_append]; simp only [List.flatMap_cons, List.flatMap_nil, List.append_nil]
theorem vtotal_le (L : List VPart) (i : Nat) : vtotal (L.take i) ≤ vtotal L := by
  have : vtotal L = vtotal (L.take i) + vtotal (L.drop i) := by
    unfold vtotal; rw [← List.sum_append, ← List.map_append, List.take_append_drop]
  omega
end Go.Proofs.YtclidocmfdimiaaDoor.Vct

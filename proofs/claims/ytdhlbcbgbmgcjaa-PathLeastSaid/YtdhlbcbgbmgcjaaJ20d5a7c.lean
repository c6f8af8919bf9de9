/- Lemmas that the proof stands on, in build order: Rec Ints Intq. -/
import Derived.OwnWalk
import Derived.Deep.Draws
import Derived.Laws.OwnMore
import Derived.Laws.AppendOwnNone
import Derived.Test.YtdhlbcbgbmgcjaaProg
import Derived.Deep.QuietTactic
import Derived.BigQuiet
import Derived.WalkMore
import Derived.Test.YtdhlbcbgbmgcjaaJ1a85310
/- Slices of structs whose fields are of one cell each, over any program: what such a slice reads as, pieces of it, rows of one's own, appends. -/
namespace Go.Proofs.Ytdhlbcbgbmgcjaa.Rec
open Go.RowKit

theorem info_of {P : Program} {e : TypeId} {z : Value} {n m : Nat} (h : (P.info? e).map (fun i => (i.zero, i.size, i.bytes)) = some (some z, n, m)) : ∃ i, P.info? e = some i ∧ i.zero = some z ∧ i.size = n ∧ i.bytes = m := by
  cases hi : P.info? e with
  | none => rw [hi] at h; cases h
  | some i =>
    rw [hi] at h
    simp only [Option.map_some, Option.some.injEq, Prod.mk.injEq] at h
    exact ⟨i, rfl, h.1, h.2.1, h.2.2⟩
section
variable {w w' : World} {base n size : Nat} {e : TypeId} {v : Value} {xs : List Value}
theorem ownr_below (h : w.ownsRow base e size v n xs) (hb : Below w.heap.size w w') : w'.ownsRow base e size v n xs := by
  refine ⟨h.1, ?_⟩
  rcases h.2 with hn | ⟨g, cap, cur, rfl, h1, hg, rest⟩
  · exact .inl hn
  · exact .inr ⟨g, cap, cur, rfl, h1, (hb.block g (Array.getElem?_eq_some_iff.1 hg).1).trans hg, rest⟩
theorem ownr_slice (h : w.ownsRow base e size v n xs) : ∃ A c, v = .slice A n c ∧ n ≤ c ∧ (A = none → c = 0) ∧ c ≤ maxLen := by
  rcases h.2 with ⟨rfl, rfl⟩ | ⟨g, cap, cur, rfl, _, _, hc, hm, _⟩
  · exact ⟨none, 0, rfl, Nat.le_refl _, fun _ => rfl, Nat.zero_le _⟩
  · exact ⟨_, cap, rfl, hc, fun h => by (cases h), hm⟩
theorem ownr_only {M : Nat → Prop} (ho : w.ownsRow base e size v n xs) (h : Only M w w') (hn : ∀ k, v.ownBlock = some k → ¬ M k) : w'.ownsRow base e size v n xs := by
  refine ⟨ho.1, ?_⟩
  rcases ho.2 with h0 | ⟨g, cap, cur, rfl, h1, hg, rest⟩
  · exact .inl h0
  · exact .inr ⟨g, cap, cur, rfl, h1, h.at hg (hn g rfl), rest⟩
theorem ownr_alloc (h : w.ownsRow base e size v n xs) (o : Obj) : (w.alloc o).ownsRow base e size v n xs := ownr_only h (Only.alloc (M := fun _ => False) w o) (fun _ _ h => h)
end

theorem below_drewN {B : Nat} {w0 w1 : World} (h : Below B w0 w1) (q : Nat) : Below B w0 (w1.drewN q) := ⟨h.os, h.tape, h.output, h.size, h.block⟩
/-- How a struct lies in memory: its cells. -/
structure Shape (α : Type) where
  f : α → List Value
  c : Nat
  pos : 0 < c
  len : ∀ a, (f a).length = c
  one : ∀ a, ∀ u ∈ f a, u.oneCell' = true
variable {α : Type} {S : Shape α}
/-- The cells of many. -/
def Shape.flat (S : Shape α) (l : List α) : List Value := l.flatMap S.f
theorem flat_nil : S.flat [] = [] := rfl
theorem flat_cons (a : α) (l : List α) : S.flat (a :: l) = S.f a ++ S.flat l := by simp [Shape.flat]
theorem flat_len (l : List α) : (S.flat l).length = l.length * S.c := by
  induction l with
  | nil => simp [Shape.flat]
  | cons a l ih => rw [flat_cons, List.length_append, ih, S.len, List.length_cons, Nat.add_mul]; omega
theorem flat_snoc (l : List α) (a : α) : S.flat (l ++ [a]) = S.flat l ++ S.f a := by simp [Shape.flat]
theorem flat_cat (l m : List α) : S.flat (l ++ m) = S.flat l ++ S.flat m := by simp [Shape.flat]
theorem flat_one (l : List α) : ∀ u ∈ S.flat l, u.oneCell' = true := by
  intro u hu
  obtain ⟨a, _, ha⟩ := List.mem_flatMap.1 hu
  exact S.one a u ha
theorem flat_at : ∀ {l : List α} {j : Nat} {a : α}, l[j]? = some a → ∀ i, i < S.c → (S.flat l)[j * S.c + i]? = (S.f a)[i]?
  | [], _, _, h, _, _ => by simp at h
  | u :: l, 0, a, h, i, hi => by
    simp at h
    subst h
    rw [flat_cons, Nat.zero_mul, Nat.zero_add, List.getElem?_append_left (by rw [S.len]; exact hi)]
  | u :: l, j + 1, a, h, i, hi => by
    have h' : l[j]? = some a := by simpa using h
    have := flat_at h' i hi
    rw [flat_cons, List.getElem?_append_right (by rw [S.len, Nat.add_mul]; omega), S.len, ← this]
    congr 1
    rw [Nat.add_mul]
    omega

/-- The slice '.slice A n c' reads as the list l, below block B; nil is let in. -/
structure RRow (S : Shape α) (w : World) (B : Nat) (A : Option Addr) (n : Nat) (l : List α) : Prop where
  len : l.length = n
  at_ : 0 < n → ∃ b o, A = some ⟨b, o, none⟩ ∧ b < B ∧ ∀ j a, l[j]? = some a → ∀ i, i < S.c → w.cell? ⟨b, o + j * S.c + i, none⟩ = (S.f a)[i]?
section
variable {w w' : World} {B B' n : Nat} {A : Option Addr} {l : List α}
theorem RRow.nil_ : RRow S w B A 0 [] := ⟨rfl, fun h => absurd h (by omega)⟩
theorem RRow.keep (h : RRow S w B A n l) (hk : ∀ p : Addr, p.block < B → w'.cell? p = w.cell? p) : RRow S w' B A n l :=
  ⟨h.len, fun hn => by
    obtain ⟨b, o, e, hlt, hc⟩ := h.at_ hn
    exact ⟨b, o, e, hlt, fun j f hj i hi => (hk _ hlt).trans (hc j f hj i hi)⟩⟩
theorem RRow.below (h : RRow S w B A n l) (hb : Below B w w') : RRow S w' B A n l := h.keep fun _ hp => hb.cell hp
theorem RRow.drewN (h : RRow S w B A n l) (q : Nat) : RRow S (w.drewN q) B A n l := h.keep fun _ _ => rfl
theorem RRow.more (h : RRow S w B A n l) (hB : B ≤ B') : RRow S w B' A n l :=
  ⟨h.len, fun hn => by
    obtain ⟨b, o, e, hlt, hc⟩ := h.at_ hn
    exact ⟨b, o, e, by omega, hc⟩⟩
theorem RRow.only {M : Nat → Prop} (h : RRow S w B A n l) (ho : Only M w w') (hB : B ≤ w.heap.size) (hM : ∀ b o, A = some ⟨b, o, none⟩ → b < B → ¬ M b) : RRow S w' B A n l :=
  ⟨h.len, fun hn => by
    obtain ⟨b, o, e, hlt, hc⟩ := h.at_ hn
    exact ⟨b, o, e, hlt, fun j f hj i hi => (World.cell?_of_block (w := w) (ho.block b (by omega) (hM b o e hlt))).trans (hc j f hj i hi)⟩⟩
theorem RRow.at (h : RRow S w B A n l) {j : Nat} (hj : j < n) : ∃ b o a, A = some ⟨b, o, none⟩ ∧ b < B ∧ l[j]? = some a ∧ ∀ i, i < S.c → w.cell? ⟨b, o + j * S.c + i, none⟩ = (S.f a)[i]? := by
  obtain ⟨b, o, e, hlt, hc⟩ := h.at_ (by omega)
  have hl : j < l.length := by rw [h.len]; exact hj
  have hf : l[j]? = some l[j] := List.getElem?_eq_getElem hl
  exact ⟨b, o, l[j], e, hlt, hf, hc j _ hf⟩
theorem RRow.take (h : RRow S w B A n l) {k : Nat} (hk : k ≤ n) : RRow S w B A k (l.take k) := by
  refine ⟨by rw [List.length_take, h.len]; omega, fun hn => ?_⟩
  obtain ⟨b, o, e, hlt, hc⟩ := h.at_ (by omega)
  refine ⟨b, o, e, hlt, fun j s hj i hi => hc j s ?_ i hi⟩
  have hjk : j < k := by
    have := (List.getElem?_eq_some_iff.1 hj).1
    simp at this
    omega
  rwa [List.getElem?_take_of_lt hjk] at hj
/-- A piece from k on: it lies k elements further on, where something is left. -/
theorem RRow.drop (h : RRow S w B A n l) {k : Nat} (hk : k ≤ n) : RRow S w B (A.map fun a => ⟨a.block, a.off + k * S.c, a.spot⟩) (n - k) (l.drop k) := by
  refine ⟨by rw [List.length_drop, h.len], fun hn => ?_⟩
  obtain ⟨b, o, e, hlt, hc⟩ := h.at_ (by omega)
  refine ⟨b, o + k * S.c, by rw [e]; rfl, hlt, fun j s hj i hi => ?_⟩
  rw [List.getElem?_drop] at hj
  have := hc (k + j) s hj i hi
  rw [Nat.add_mul] at this
  rw [← this]
  congr 2
  omega
/-- A row of one's own reads as its list. -/
theorem RRow.of_own {base c : Nat} {e : TypeId} (h : w.ownsRow base e S.c (.slice A n c) n (S.flat l)) : RRow S w w.heap.size A n l := by
  have hp := S.pos
  have hl : l.length = n := by have := h.1; rw [flat_len] at this; exact Nat.eq_of_mul_eq_mul_right hp this
  refine ⟨hl, fun hn => ?_⟩
  have hh := h
  rcases h.2 with ⟨h0, h1⟩ | ⟨g, cap, cur, hv, _, hg, _, _, _, _⟩
  · omega
  · injection hv with h1 h2 h3
    subst h1; subst h3
    refine ⟨g, 0, rfl, (Array.getElem?_eq_some_iff.1 hg).1, fun j s hj i hi => ?_⟩
    have hx := flat_at (S := S) hj i hi
    have hs : i < (S.f s).length := by rw [S.len]; exact hi
    rw [List.getElem?_eq_getElem hs] at hx ⊢
    have := hh.cells (g := g) rfl (j * S.c + i) _ hx
    have hadd : (⟨g, 0, none⟩ : Addr).add (j * S.c + i) = ⟨g, 0 + (j * S.c + i), none⟩ := by unfold Addr.add; split <;> simp_all
    rw [hadd] at this
    rw [Nat.add_assoc]
    exact this
/-- A block made of structs. -/
theorem RRow.of_blk {g : Nat} {cs : Array Value} {t : TypeId} {fr : Nat × Nat} (hg : w.heap[g]? = some (.cells cs t fr)) (hB : g < B) (hcs : cs.toList = S.flat l) : RRow S w B (some ⟨g, 0, none⟩) l.length l :=
  ⟨rfl, fun _ => ⟨g, 0, rfl, hB, fun j k hj i hi => by
    rw [Nat.zero_add, cell_of_row w g (j * S.c + i) cs t fr hg, ← flat_at hj i hi, ← hcs]
    simp⟩⟩
theorem RRow.news {m : Nat} {ad : Addr} (hr : RRow S w B (some ad) m l) : ∀ j u, (S.flat l)[j]? = some u → w.cell? (ad.add j) = some u := by
  intro j u hj
  have hp := S.pos
  have hjl : j < l.length * S.c := by
    have := (List.getElem?_eq_some_iff.1 hj).1
    rwa [flat_len] at this
  have hm : l.length = m := hr.len
  have hq : j / S.c < l.length := Nat.div_lt_of_lt_mul (by rw [Nat.mul_comm]; exact hjl)
  obtain ⟨b, o, he, _, hc⟩ := hr.at_ (by rw [← hm]; exact Nat.lt_of_le_of_lt (Nat.zero_le _) hq)
  injection he with he
  subst he
  have hadd : (⟨b, o, none⟩ : Addr).add j = ⟨b, o + j, none⟩ := by unfold Addr.add; split <;> simp_all
  have hk : l[j / S.c]? = some (l[j / S.c]'hq) := List.getElem?_eq_getElem hq
  have hi := Nat.mod_lt j hp
  have h1 := hc (j / S.c) _ hk (j % S.c) hi
  have h2 := flat_at (S := S) hk (j % S.c) hi
  have e : j / S.c * S.c + j % S.c = j := by rw [Nat.mul_comm]; exact Nat.div_add_mod j S.c
  rw [Nat.add_assoc, e] at h1
  rw [e] at h2
  rw [hadd, h1, ← h2, hj]
end

/-- What a new block of one struct holds. -/
theorem new_rec (w : World) (a : α) (t : TypeId) : ∀ j u, (S.f a)[j]? = some u → (w.alloc (.cells (S.f a).toArray t)).cell? ((⟨w.heap.size, 0, none⟩ : Addr).add j) = some u := by
  intro j u hj
  have hadd : (⟨w.heap.size, 0, none⟩ : Addr).add j = ⟨w.heap.size, 0 + j, none⟩ := by unfold Addr.add; split <;> simp_all
  rw [hadd, Nat.zero_add, cell_of_row _ _ j _ t (0, 0) (heap_alloc_new w _)]
  simpa using hj

/-- 'append(out, x)' of one struct, which lies in a block of its own; out is nil or one's own. -/
theorem push_rec {P : Program} {ops : Array Oper} {rest : List Oper} {o : Oper} {a : Act} {Q : Exit → Act → World → Prop} {w : World} (S : Shape α) (hgd : o.guard = none) (s x : Operand) (t : TypeId)
    (ho : o.op = .call { callee := .builtin .append, args := #[s, x], argTypes := #[t, t] })
    (base : Nat) (e : TypeId) (i : TypeInfo) (z : Value) (bytes : Nat) (ht : P.underlying t = some (.slice e)) (hi : P.info? e = some i) (hz : i.zero = some z) (hz2 : z.cells.size = S.c) (hsize : i.size = S.c) (hby : i.bytes = bytes)
    (v : Value) (n : Nat) (l : List α) (hs : a.eval s = v) (hown : w.ownsRow base e S.c v n (S.flat l)) (ad : Addr) (y : α) (hx : a.eval x = .slice (some ad) 1 1) (hy : ∀ j u, (S.f y)[j]? = some u → w.cell? (ad.add j) = some u)
    (hn : n + 1 ≤ 1099511627776) (hb8 : bytes ≤ 100) (hbase : base ≤ w.heap.size)
    (h : ∀ v' w', w'.ownsRow base e S.c v' (n + 1) (S.flat (l ++ [y])) → w.grownBy w' v.ownBlock → Below base w w' → wpList P ops Q rest (a.put o.dst v') w') :
    wpList P ops Q (o :: rest) a w := by
  refine wpList_append_own _ hgd s x t ho base e i z S.c bytes ht hi hz hsize hby hz2 S.pos v n (S.flat l) hs hown ad 1 1 (S.f y) hx (by rw [S.len]; omega) hy (S.one y) ?_ ?_ hbase ?_
  · unfold maxLen; omega
  · have := Nat.mul_le_mul hn hb8
    omega
  · intro v' w' hown' hgrow _
    exact h v' w' (by rw [flat_snoc]; exact hown') hgrow ((Below.refl _ _).grown hgrow hbase (fun j hj => (hown.lt j hj).1))

/-- The same, as a step of a region that draws. -/
theorem step_rec {P : Program} {ops : Array Oper} {o : Oper} {a : Act} {K0 : Act → World → Prop} {Q : Exit → Act → World → Prop} {E : Prop} {w : World} (S : Shape α) (hgd : o.guard = none) (s x : Operand) (t : TypeId)
    (ho : o.op = .call { callee := .builtin .append, args := #[s, x], argTypes := #[t, t] })
    (base : Nat) (e : TypeId) (i : TypeInfo) (z : Value) (bytes : Nat) (ht : P.underlying t = some (.slice e)) (hi : P.info? e = some i) (hz : i.zero = some z) (hz2 : z.cells.size = S.c) (hsize : i.size = S.c) (hby : i.bytes = bytes)
    (v : Value) (n : Nat) (l : List α) (hs : a.eval s = v) (hown : w.ownsRow base e S.c v n (S.flat l)) (ad : Addr) (m c : Nat) (l' : List α) (hx : a.eval x = .slice (some ad) m c) (hm : l'.length = m) (hy : ∀ j u, (S.flat l')[j]? = some u → w.cell? (ad.add j) = some u)
    (hn : n + m ≤ 1099511627776) (hb8 : bytes ≤ 100) (hbase : base ≤ w.heap.size)
    (h : ∀ v' w', w'.ownsRow base e S.c v' (n + m) (S.flat (l ++ l')) → w.grownBy w' v.ownBlock → Below base w w' → K0 (a.put o.dst v') w') :
    if Region.wanted o (yielded ops a.tmps) = true then Oper.wp P o a w K0 Q else E := by
  have hw : Region.wanted o (yielded ops a.tmps) = true := by simp [Region.wanted, hgd]
  rw [if_pos hw]
  have h63 : n + m ≤ maxLen := by unfold maxLen; omega
  have hbb : (n + m) * bytes ≤ 140737488355328 := by have := Nat.mul_le_mul hn hb8; omega
  obtain ⟨v', w', hrun, h2, h3, _⟩ := run_append_own (P := P) w base t o.type e i z S.c bytes ht hi hz hsize hby hz2 S.pos v n _ hown ad m c _ (by rw [flat_len, hm]) hy (flat_one l') h63 hbb hbase
  unfold Oper.wp execOp
  simp only [ho, resolve, invoke, builtin, Sem.run_bind, Sem.run_pure, Result.andThen_ok, List.map_toArray, List.map_cons, List.map_nil, hs, hx, hrun]
  exact h v' w' (by rw [flat_cat]; exact h2) h3 ((Below.refl _ _).grown h3 hbase (fun j hj => (hown.lt j hj).1))

/-- 'append(out, ys...)': out is nil or one's own; ys reads as a row, nil let in. -/
theorem cat_rec {P : Program} {ops : Array Oper} {rest : List Oper} {o : Oper} {a : Act} {Q : Exit → Act → World → Prop} {w : World} (S : Shape α) (hgd : o.guard = none) (s x : Operand) (t : TypeId)
    (ho : o.op = .call { callee := .builtin .append, args := #[s, x], argTypes := #[t, t] })
    (base : Nat) (e : TypeId) (i : TypeInfo) (z : Value) (bytes : Nat) (ht : P.underlying t = some (.slice e)) (hi : P.info? e = some i) (hz : i.zero = some z) (hz2 : z.cells.size = S.c) (hsize : i.size = S.c) (hby : i.bytes = bytes)
    (v : Value) (n : Nat) (l : List α) (hs : a.eval s = v) (hown : w.ownsRow base e S.c v n (S.flat l)) (B : Nat) (A : Option Addr) (m c : Nat) (l' : List α) (hx : a.eval x = .slice A m c) (hnil : A = none → c = 0) (hr : RRow S w B A m l')
    (hn : n + m ≤ 1099511627776) (hb8 : bytes ≤ 100) (hbase : base ≤ w.heap.size)
    (h : ∀ v' w', w'.ownsRow base e S.c v' (n + m) (S.flat (l ++ l')) → w.grownBy w' v.ownBlock → Below base w w' → wpList P ops Q rest (a.put o.dst v') w') :
    wpList P ops Q (o :: rest) a w := by
  rcases A with _ | ad
  · have hm : m = 0 := by
      rcases Nat.eq_zero_or_pos m with h0 | h0
      · exact h0
      · obtain ⟨_, _, h1, _⟩ := hr.at_ h0
        cases h1
    subst hm
    have hy : l' = [] := List.eq_nil_of_length_eq_zero hr.len
    subst hy
    rw [hnil rfl] at hx
    exact wpList_append_own_none hgd s x t ho base e i S.c ht hi v n _ hs hown hx (h v w (by simpa using hown) (World.grownBy.refl w _) (Below.refl _ _))
  · refine wpList_append_own _ hgd s x t ho base e i z S.c bytes ht hi hz hsize hby hz2 S.pos v n (S.flat l) hs hown ad m c (S.flat l') hx (by rw [flat_len, hr.len]) hr.news (flat_one l') ?_ ?_ hbase ?_
    · unfold maxLen; omega
    · have := Nat.mul_le_mul hn hb8
      omega
    · intro v' w' hown' hgrow _
      exact h v' w' (by rw [flat_cat]; exact hown') hgrow ((Below.refl _ _).grown hgrow hbase (fun j hj => (hown.lt j hj).1))
theorem ownr_base {w : World} {base base' n size : Nat} {e : TypeId} {v : Value} {xs : List Value} (h : w.ownsRow base e size v n xs) (hB : base' ≤ base) : w.ownsRow base' e size v n xs := by
  refine ⟨h.1, ?_⟩
  rcases h.2 with h0 | ⟨g, cap, cur, hv, h1, hrest⟩
  · exact .inl h0
  · exact .inr ⟨g, cap, cur, hv, Nat.le_trans hB h1, hrest⟩
end Go.Proofs.Ytdhlbcbgbmgcjaa.Rec

/- Slices of ints: what they read as; the reference's Same of two of them, as a contract. -/
namespace Go.Proofs.Ytdhlbcbgbmgcjaa.Ints
open Go.RowKit Rec

/-- An int in a cell. -/
def intS : Shape Int where
  f n := [.int .i64 n]
  c := 1
  pos := by omega
  len _ := rfl
  one _ u hu := by
    simp only [List.mem_cons, List.not_mem_nil, or_false] at hu
    subst hu
    rfl
section
variable {w : World} {B n : Nat} {A : Option Addr} {l : List Int}
theorem int_at (h : RRow intS w B A n l) {j : Nat} (hj : j < n) : ∃ b o x, A = some ⟨b, o, none⟩ ∧ b < B ∧ l[j]? = some x ∧ w.cell? ⟨b, o + j, none⟩ = some (.int .i64 x) := by
  obtain ⟨b, o, x, e, hb, hp, hc⟩ := h.at hj
  have h0 := hc 0 (by show 0 < 1; omega)
  have e1 : o + j * intS.c + 0 = o + j := by show o + j * 1 + 0 = _; omega
  rw [e1] at h0
  exact ⟨b, o, x, e, hb, hp, h0⟩
theorem new_int (w : World) (x : Int) (t : TypeId) : ∀ j u, (intS.f x)[j]? = some u → (w.alloc (.cells #[.int .i64 x] t)).cell? ((⟨w.heap.size, 0, none⟩ : Addr).add j) = some u := new_rec (S := intS) w x t
end
theorem info_int : (Try.prog.info? 3).map (fun i => (i.zero, i.size, i.bytes)) = some (some (.int .i64 0), 1, 8) := by kernel_rfl
/-- Numbers as ints. -/
def nums (L : List Nat) : List Int := L.map fun i : Nat => (i : Int)
theorem nums_len (L : List Nat) : (nums L).length = L.length := by unfold nums; simp
theorem nums_at {L : List Nat} {j : Nat} {x : Int} (h : (nums L)[j]? = some x) : ∃ i, L[j]? = some i ∧ x = (i : Int) := by
  unfold nums at h
  rw [List.getElem?_map] at h
  obtain ⟨i, h1, h2⟩ := Option.map_eq_some_iff.1 h
  exact ⟨i, h1, h2.symm⟩
theorem nums_inj {L M : List Nat} (h : nums L = nums M) : L = M := by
  unfold nums at h
  exact (List.map_inj_right (fun a b hab => Int.ofNat.inj hab)).1 h
theorem nums_cat (L M : List Nat) : nums (L ++ M) = nums L ++ nums M := by unfold nums; simp
theorem nums_take (L : List Nat) (k : Nat) : nums (L.take k) = (nums L).take k := by unfold nums; simp

/-- What came back is a slice that reads as ints. -/
def InTo (B : Nat) (w0 : World) (l : List Int) (v : Value) (w' : World) : Prop :=
  ∃ A n c, v = .slice A n c ∧ RRow intS w' w'.heap.size A n l ∧ (A = none → c = 0) ∧ n ≤ c ∧ c ≤ maxLen ∧ Below B w0 w'
theorem InTo.of_own {B : Nat} {w0 w' : World} {l : List Int} {v : Value} {n : Nat} {e : TypeId} (h : w'.ownsRow B e 1 v n (intS.flat l)) (hb : Below B w0 w') : InTo B w0 l v w' := by
  have h' : w'.ownsRow B e intS.c v n (intS.flat l) := h
  rcases h.2 with ⟨rfl, rfl⟩ | ⟨g, cap, cur, rfl, h1, h2, h3, h4, h5, h6⟩
  · exact ⟨none, 0, 0, rfl, RRow.of_own (S := intS) h', fun _ => rfl, Nat.le_refl _, Nat.zero_le _, hb⟩
  · exact ⟨_, n, cap, rfl, RRow.of_own (S := intS) h', fun h => by (cases h), h3, h4, hb⟩
theorem InTo.rebase {B B' : Nat} {w0 w1 w' : World} {l : List Int} {v : Value} (h : InTo B w0 l v w') (hb : Below B' w1 w') : InTo B' w1 l v w' := by
  obtain ⟨A, n, c, e1, e2, e3, e4, e5, _⟩ := h
  exact ⟨A, n, c, e1, e2, e3, e4, e5, hb⟩
theorem InTo.nil {B : Nat} {w0 w' : World} (hb : Below B w0 w') : InTo B w0 [] (.slice none 0 0) w' := ⟨none, 0, 0, rfl, RRow.nil_, fun _ => rfl, Nat.le_refl _, Nat.zero_le _, hb⟩
end Go.Proofs.Ytdhlbcbgbmgcjaa.Ints

/- The reference's Same of two slices of ints, as a contract. -/
namespace Go.Proofs.Ytdhlbcbgbmgcjaa.Ints
open Go.RowKit Rec

set_option maxHeartbeats 800000 in
set_option maxRecDepth 100000 in
/-- Are two lists one? -/
theorem isame_any (A A' : Option Addr) (n n' c c' B B' : Nat) (l m : List Int) (w : World) (hn : n ≤ 4398046511104) (h1 : RRow intS w B A n l) (h2 : RRow intS w B' A' n' m) :
    Calls Try.prog 14 #[.slice A n c, .slice A' n' c'] w fun e w' => e = .returned (.bool (decide (l = m))) ∧ ∃ q, w' = w.drewN q := by
  have H1 := Lib.hid h1
  have H2 := Lib.hid h2
  clear h1 h2
  by_cases hl : n = n'
  · subst hl
    have HAG : Hid (∀ j, j < 0 → l[j]? = m[j]?) := fun j hj => by omega
    go_enter Try.func14, Try.ntmps14
    go_wp2
    go_loopw [5] (fun i wr => ∃ k q : Nat, k ≤ n ∧ i = .int .i64 (k : Int) ∧ Hid (∀ j, j < k → l[j]? = m[j]?) ∧ Hid (wr = w.drewN q)) (fun i _ => n - (intOf i).toNat)
    case atStart => exact ⟨0, 0, Nat.zero_le _, rfl, HAG, rfl⟩
    case round =>
      clear HAG
      obtain ⟨k, q, hk, rfl, HA, hw⟩ := hrel
      obtain rfl := hw.out
      clear hw
      by_cases hlt : k < n
      · obtain ⟨b, o, x, rfl, _, hx, hc1⟩ := int_at H1.out hlt
        obtain ⟨b', o', y, rfl, _, hy, hc2⟩ := int_at H2.out hlt
        by_cases hxy : x = y
        · subst hxy
          have HA2 : Hid (∀ j, j < k + 1 → l[j]? = m[j]?) := fun j hj => by
            rcases Nat.lt_or_ge j k with h | h
            · exact HA.out j h
            · obtain rfl : j = k := by omega
              rw [hx, hy]
          clear hx hy HA
          go_wp2
          go_quiet (fail)
          go_wp2
          go_roundw
          case rel => exact ⟨k + 1, _, by omega, by go_num, HA2, by unfold Hid; rfl⟩
          case measure => simp [intOf]; omega
        · have e1 : (x == y) = false := beq_eq_false_iff_ne.2 hxy
          have HD := Lib.hid (show decide (l = m) = false from decide_eq_false fun e => by rw [e, hy] at hx; injection hx with hx; exact hxy hx.symm)
          clear hx hy HA
          go_wp2
          go_quiet (fail)
          go_wp2
          go_ret
          exact ⟨by rw [HD.out]; rfl, q + nq, World.drewN_drewN w q nq⟩
      · have HD := Lib.hid (show decide (l = m) = true from decide_eq_true (List.ext_getElem? fun j => by
          rcases Nat.lt_or_ge j k with h | h
          · exact HA.out j h
          · rw [List.getElem?_eq_none (by have := H1.out.len; omega), List.getElem?_eq_none (by have := H2.out.len; omega)]))
        go_wp2
        go_ret
        exact ⟨by rw [HD.out]; rfl, _, rfl⟩
  · have e0 : ((n : Int) == (n' : Int)) = false := beq_eq_false_iff_ne.2 (by omega)
    have HD := Lib.hid (show decide (l = m) = false from decide_eq_false fun e => by have a := H1.out.len; have b := H2.out.len; rw [e] at a; omega)
    go_enter Try.func14, Try.ntmps14
    go_wp2
    go_ret
    exact ⟨by rw [HD.out]; rfl, 0, rfl⟩
end Go.Proofs.Ytdhlbcbgbmgcjaa.Ints

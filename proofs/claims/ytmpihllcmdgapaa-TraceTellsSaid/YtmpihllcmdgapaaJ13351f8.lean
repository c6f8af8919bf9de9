/- Lemmas that the proof stands on, in build order: Base Own VarM VarW VarT VarR VarN FldW FldM FldR FldC. -/
import Derived.WalkKit
import Derived.Lib.Hide
import Derived.Laws.OwnMore
import Derived.Laws.AppendOwnNone
import Derived.OneCell
import Derived.OwnWalk
import Derived.Test.YtmpihllcmdgapaaProg
import Derived.KernelRfl
import Derived.Deep.QuietTactic
import Derived.BigQuiet
import Derived.WalkMore
import Derived.ScopeJumps
/- Words of our own for memory, over any program: a slice that reads as a list of numbers, and the append of one number onto a row of the call's own. -/
namespace Go.Proofs.Ytmpihllcmdgapaa
open Go.RowKit

theorem ret_int {k : IntKind} {a b : Int} (h : a = b) : Ending.returned (.int k a) = .returned (.int k b) := by rw [h]

/-- The slice '.slice A n c' reads as the numbers xs of kind k and lies below block B; nil is let in. -/
def Row (k : IntKind) (w : World) (B : Nat) (A : Option Addr) (n : Nat) (xs : List Int) : Prop :=
  xs.length = n ∧ (0 < n → ∃ b o, A = some ⟨b, o, none⟩ ∧ b < B ∧ ∀ j, j < n → w.cell? ⟨b, o + j, none⟩ = some (.int k (xs.getD j 0)))

section
variable {k : IntKind} {w w' : World} {B B' n : Nat} {A : Option Addr} {xs : List Int}
theorem Row.len (h : Row k w B A n xs) : xs.length = n := h.1
theorem Row.none_ : Row k w B A 0 [] := ⟨rfl, fun h => absurd h (by omega)⟩
theorem Row.keep (h : Row k w B A n xs) (hk : ∀ p : Addr, p.block < B → w'.cell? p = w.cell? p) : Row k w' B A n xs :=
  ⟨h.1, fun hn => by
    obtain ⟨b, o, e, hb, hc⟩ := h.2 hn
    exact ⟨b, o, e, hb, fun j hj => (hk _ hb).trans (hc j hj)⟩⟩
theorem Row.more (h : Row k w B A n xs) (hB : B ≤ B') : Row k w B' A n xs :=
  ⟨h.1, fun hn => by
    obtain ⟨b, o, e, hb, hc⟩ := h.2 hn
    exact ⟨b, o, e, by omega, hc⟩⟩
theorem Row.below (h : Row k w B A n xs) (hb : Below B w w') : Row k w' B A n xs := h.keep fun _ hp => hb.cell hp
theorem Row.alloc (h : Row k w B A n xs) (hB : B ≤ w.heap.size) (o : Obj) : Row k (w.alloc o) B A n xs := h.below ((Below.refl _ _).alloc hB o)
theorem Row.drew (h : Row k w B A n xs) : Row k w.drew B A n xs := h
theorem Row.of_own {base c : Nat} {e : TypeId} (h : w.ownsRow base e 1 (.slice A n c) n (xs.map (Value.int k))) : Row k w w.heap.size A n xs := by
  have hl : xs.length = n := by simpa using h.1
  refine ⟨hl, fun hn => ?_⟩
  rcases h.2 with ⟨h0, h1⟩ | ⟨g, cap, cur, hv, _, hg, _, _, _, _⟩
  · omega
  · injection hv with h1 h2 h3
    subst h1; subst h3
    refine ⟨g, 0, rfl, (Array.getElem?_eq_some_iff.1 hg).1, fun j hj => ?_⟩
    rw [Nat.zero_add, h.cellAt j (by omega)]
    have : j < xs.length := by omega
    simp [List.getD, this]
theorem Row.cell_at (h : Row k w B A n xs) {j : Nat} (hj : j < n) : ∃ b o, A = some ⟨b, o, none⟩ ∧ b < B ∧ w.cell? ⟨b, o + j, none⟩ = some (.int k (xs.getD j 0)) := by
  obtain ⟨b, o, e, hb, hc⟩ := h.2 (by omega)
  exact ⟨b, o, e, hb, hc j hj⟩
end

/-- A slice value that owns a row: its shape. -/
theorem own_slice {w : World} {base n : Nat} {e : TypeId} {v : Value} {xs : List Value} (h : w.ownsRow base e 1 v n xs) : ∃ A c, v = .slice A n c ∧ n ≤ c ∧ (A = none → c = 0) := by
  rcases h.2 with ⟨rfl, rfl⟩ | ⟨g, cap, cur, rfl, _, _, hc, _⟩
  · exact ⟨none, 0, rfl, Nat.le_refl _, fun _ => rfl⟩
  · exact ⟨_, cap, rfl, hc, fun h => by cases h⟩

theorem own_at {w : World} {base n c : Nat} {e : TypeId} {A : Option Addr} {xs : List Value} (h : w.ownsRow base e 1 (.slice A n c) n xs) (hn : 0 < n) : ∃ g, A = some ⟨g, 0, none⟩ ∧ base ≤ g := by
  rcases h.2 with ⟨_, h0⟩ | ⟨g, cap, cur, hv, h1, _⟩
  · omega
  · injection hv with h2
    exact ⟨g, h2, h1⟩

/-- A row of one's own, behind a call that leaves all memory so far as it was. -/
theorem own_below {w w' : World} {base n : Nat} {e : TypeId} {v : Value} {xs : List Value} (h : w.ownsRow base e 1 v n xs) (hb : Below w.heap.size w w') : w'.ownsRow base e 1 v n xs := by
  refine ⟨h.1, ?_⟩
  rcases h.2 with hn | ⟨g, cap, cur, rfl, h1, hg, rest⟩
  · exact .inl hn
  · exact .inr ⟨g, cap, cur, rfl, h1, (hb.block g (Array.getElem?_eq_some_iff.1 hg).1).trans hg, rest⟩

/-- 'append(out, x)' of one number: the number lies in a new block of one cell; out is nil or the call's own. -/
theorem push_own {P : Program} {ops : Array Oper} {rest : List Oper} {o : Oper} {a : Act} {Q : Exit → Act → World → Prop} {w : World} (hgd : o.guard = none) (s x : Operand) (t : TypeId)
    (ho : o.op = .call { callee := .builtin .append, args := #[s, x], argTypes := #[t, t] })
    (base : Nat) (e : TypeId) (i : TypeInfo) (k : IntKind) (bytes : Nat) (ht : P.underlying t = some (.slice e)) (hi : P.info? e = some i) (hz : i.zero = some (.int k 0)) (hsize : i.size = 1) (hby : i.bytes = bytes)
    (v : Value) (n : Nat) (xs : List Int) (y : Int) (hs : a.eval s = v) (hown : w.ownsRow base e 1 v n (xs.map (Value.int k))) (hx : a.eval x = .slice (some ⟨w.heap.size, 0, none⟩) 1 1)
    (hn : n + 1 ≤ 4398046511104) (hb8 : bytes ≤ 8) (hbase : base ≤ w.heap.size)
    (h : ∀ v' w', w'.ownsRow base e 1 v' (n + 1) ((xs ++ [y]).map (Value.int k)) → Below base w w' → wpList P ops Q rest (a.put o.dst v') w') :
    wpList P ops Q (o :: rest) a (w.alloc (.cells #[.int k y] e)) := by
  refine wpList_append_own _ hgd s x t ho base e i (.int k 0) 1 bytes ht hi hz hsize hby rfl (by omega) v n (xs.map (Value.int k)) hs (hown.alloc _) ⟨w.heap.size, 0, none⟩ 1 1 [.int k y] hx rfl ?_ ?_ ?_ ?_ ?_ ?_
  · intro j u hj
    match j, hj with
    | 0, hj => simp at hj; subst hj; simp [Addr.add]
  · intro u hu; simp at hu; subst hu; rfl
  · unfold maxLen; omega
  · have := Nat.mul_le_mul hn hb8
    omega
  · simp; omega
  · intro v' w' hown' hgrow _
    refine h v' w' (by simpa using hown') ?_
    refine ((Below.refl _ _).alloc hbase _).grown hgrow (by simp; omega) (fun j hj => (hown.lt j hj).1)

/-- 'append(out, ys...)': out is nil or the call's own; ys reads as a row, nil let in. -/
theorem cat_own {P : Program} {ops : Array Oper} {rest : List Oper} {o : Oper} {a : Act} {Q : Exit → Act → World → Prop} {w : World} (hgd : o.guard = none) (s x : Operand) (t : TypeId)
    (ho : o.op = .call { callee := .builtin .append, args := #[s, x], argTypes := #[t, t] })
    (base : Nat) (e : TypeId) (i : TypeInfo) (k : IntKind) (bytes : Nat) (ht : P.underlying t = some (.slice e)) (hi : P.info? e = some i) (hz : i.zero = some (.int k 0)) (hsize : i.size = 1) (hby : i.bytes = bytes)
    (v : Value) (n : Nat) (xs : List Int) (hs : a.eval s = v) (hown : w.ownsRow base e 1 v n (xs.map (Value.int k))) (B : Nat) (A : Option Addr) (m c : Nat) (ys : List Int) (hx : a.eval x = .slice A m c) (hnil : A = none → c = 0) (hr : Row k w B A m ys)
    (hn : n + m ≤ 4398046511104) (hb8 : bytes ≤ 8) (hbase : base ≤ w.heap.size)
    (h : ∀ v' w', w'.ownsRow base e 1 v' (n + m) ((xs ++ ys).map (Value.int k)) → Below base w w' → wpList P ops Q rest (a.put o.dst v') w') :
    wpList P ops Q (o :: rest) a w := by
  rcases A with _ | ad
  · have hm : m = 0 := by
      rcases Nat.eq_zero_or_pos m with h0 | h0
      · exact h0
      · obtain ⟨_, _, h1, _⟩ := hr.2 h0
        cases h1
    subst hm
    have hy : ys = [] := List.eq_nil_of_length_eq_zero hr.1
    subst hy
    rw [hnil rfl] at hx
    exact wpList_append_own_none hgd s x t ho base e i 1 ht hi v n _ hs hown hx (h v w (by simpa using hown) (Below.refl _ _))
  · refine wpList_append_own _ hgd s x t ho base e i (.int k 0) 1 bytes ht hi hz hsize hby rfl (by omega) v n (xs.map (Value.int k)) hs hown ad m c (ys.map (Value.int k)) hx (by simp [hr.1]) ?_ ?_ ?_ ?_ hbase ?_
    · intro j u hj
      have hjl : j < ys.length := by
        have := (List.getElem?_eq_some_iff.1 hj).1
        simpa using this
      have hl := hr.1
      obtain ⟨b, o, he, _, hc⟩ := hr.cell_at (show j < m by omega)
      injection he with he
      subst he
      have hadd : (⟨b, o, none⟩ : Addr).add j = ⟨b, o + j, none⟩ := by unfold Addr.add; split <;> simp_all
      rw [hadd, hc]
      simp only [List.getElem?_map, List.getElem?_eq_getElem hjl, Option.map_some, Option.some.injEq] at hj
      subst hj
      simp [List.getD, hjl]
    · intro u hu
      obtain ⟨y, _, rfl⟩ := List.mem_map.1 hu
      rfl
    · unfold maxLen; omega
    · have := Nat.mul_le_mul hn hb8
      omega
    · intro v' w' hown' hgrow _
      exact h v' w' (by simpa using hown') ((Below.refl _ _).grown hgrow hbase (fun j hj => (hown.lt j hj).1))
end Go.Proofs.Ytmpihllcmdgapaa

/- Words of our own on memory, over any program: only the blocks of a set may have turned ('Only'); the append onto a row of one's own, told with the block in which the row lies behind it; an object of one block that holds a row of its own. -/
namespace Go.Proofs.Ytmpihllcmdgapaa
open Go.RowKit

/-- Of the blocks that were there only those in M may have turned. -/
structure Only (M : Nat → Prop) (w w' : World) : Prop where
  os : w'.os = w.os
  tape : w'.tape = w.tape
  output : w'.output = w.output
  size : w.heap.size ≤ w'.heap.size
  block : ∀ k, k < w.heap.size → ¬ M k → w'.heap[k]? = w.heap[k]?

section
variable {M M' : Nat → Prop} {w w' w'' : World} {B : Nat}
theorem Only.refl (M : Nat → Prop) (w : World) : Only M w w := ⟨rfl, rfl, rfl, Nat.le_refl _, fun _ _ _ => rfl⟩
theorem Only.trans (h : Only M w w') (k : Only M' w' w'') (hM : ∀ i, i < w.heap.size → M' i → M i) : Only M w w'' :=
  ⟨k.os.trans h.os, k.tape.trans h.tape, k.output.trans h.output, Nat.le_trans h.size k.size, fun i hi hn => (k.block i (Nat.lt_of_lt_of_le hi h.size) (fun hm => hn (hM i hi hm))).trans (h.block i hi hn)⟩
theorem Only.mono (h : Only M w w') (hM : ∀ i, M i → M' i) : Only M' w w' := ⟨h.os, h.tape, h.output, h.size, fun i hi hn => h.block i hi (fun m => hn (hM i m))⟩
theorem Only.of_below (h : Below w.heap.size w w') : Only M w w' := ⟨h.os, h.tape, h.output, h.size, fun i hi _ => h.block i hi⟩
theorem Only.below (h : Only M w w') (hB : B ≤ w.heap.size) (hM : ∀ k, M k → B ≤ k) : Below B w w' :=
  ⟨h.os, h.tape, h.output, h.size, fun i hi => h.block i (by omega) (fun m => by have := hM i m; omega)⟩
theorem Only.drew (h : Only M w w') : Only M w w'.drew := ⟨h.os, h.tape, h.output, h.size, h.block⟩
theorem Only.of_grown {row : Option Nat} (h : w.grownBy w' row) : Only (fun k => row = some k) w w' := ⟨h.os, h.tape, h.output, h.size, fun i hi hn => h.block i hi (fun e => hn e.symm)⟩
theorem Only.setCell (w : World) (a : Addr) (u : Value) : Only (fun k => k = a.block) w (w.setCell a u) :=
  ⟨rfl, rfl, rfl, by simp [World.setCell], fun i _ hn => Below.heap_setCell _ _ _ _ hn⟩
theorem Only.alloc (w : World) (o : Obj) : Only M w (w.alloc o) := Only.of_below ((Below.refl _ _).alloc (Nat.le_refl _) o)
theorem Only.at {o : Obj} {g : Nat} (h : Only M w w') (hg : w.heap[g]? = some o) (hn : ¬ M g) : w'.heap[g]? = some o :=
  (h.block g (Array.getElem?_eq_some_iff.1 hg).1 hn).trans hg
theorem Only.own {base n : Nat} {e : TypeId} {v : Value} {xs : List Value} (h : Only M w w') (ho : w.ownsRow base e 1 v n xs) (hn : ∀ k, v.ownBlock = some k → ¬ M k) : w'.ownsRow base e 1 v n xs := by
  refine ⟨ho.1, ?_⟩
  rcases ho.2 with h0 | ⟨g, cap, cur, rfl, h1, hg, rest⟩
  · exact .inl h0
  · exact .inr ⟨g, cap, cur, rfl, h1, h.at hg (hn g rfl), rest⟩
theorem Only.row {k : IntKind} {A : Option Addr} {n : Nat} {xs : List Int} (h : Only M w w') (hr : Row k w B A n xs) (hB : B ≤ w.heap.size) (hn : ∀ b o, A = some ⟨b, o, none⟩ → b < B → ¬ M b) : Row k w' B A n xs :=
  ⟨hr.1, fun h0 => by
    obtain ⟨b, o, e, hb, hc⟩ := hr.2 h0
    exact ⟨b, o, e, hb, fun j hj => (World.cell?_of_block (w := w) (h.block b (by omega) (hn b o e hb))).trans (hc j hj)⟩⟩
end

/-- Behind an append the row lies where it lay, or in a new block. -/
theorem append_lies {P : Program} (w : World) (base : Nat) (t ty e : TypeId) (i : TypeInfo) (z : Value) (size bytes : Nat) (ht : P.underlying t = some (.slice e)) (hi : P.info? e = some i) (hz : i.zero = some z)
    (hsize : i.size = size) (hby : i.bytes = bytes)
    (v : Value) (n : Nat) (xs : List Value) (hown : w.ownsRow base e size v n xs)
    (a : Addr) (m c : Nat) (news : List Value) (hl : news.length = m * size) (hnews : ∀ j u, news[j]? = some u → w.cell? (a.add j) = some u) (h1 : ∀ u ∈ news, u.oneCell' = true)
    (h63 : n + m ≤ maxLen) (hbytes : (n + m) * bytes ≤ 140737488355328) (v' : Value) (w' : World)
    (hrun : (Builtin.append_ #[t, t] ty #[v, .slice (some a) m c]).run P w = .ok v' w') : v'.ownBlock = v.ownBlock ∨ v'.ownBlock = some w.heap.size := by
  subst hsize
  subst hby
  have hsmall : n + m ≤ 9223372036854775807 := by simp only [maxLen] at h63; omega
  rcases hown.2 with ⟨rfl, rfl⟩ | ⟨g, cap, cur, rfl, hbg, hg, hnc, hcm, hcs, htake⟩
  · by_cases hm : m = 0
    · subst hm
      simp [Builtin.append_, run_underlying ht, sizeOf, typeInfo, hi, Builtin.lenOf, Builtin.firstCells, loadCells, loadCellsFrom] at hrun
      left; rw [← hrun.1]
    · have hr := run_append_nil (P := P) w t ty e i z ht hi hz a m c news hl hnews (by omega) (by omega) (by have hb := hbytes; simp only [Nat.zero_add] at hb; omega)
      rw [hr] at hrun
      injection hrun with e1 e2
      right; rw [← e1]; rfl
  · by_cases hroom : n + m ≤ cap
    · have hfit : n * i.size + news.length ≤ cur.size := by rw [hl, hcs, ← Nat.add_mul]; exact Nat.mul_le_mul_right _ hroom
      have hr := run_append_room (P := P) w t ty e i ht hi g n cap cur hg a m c news hl hnews h1 hroom hfit
      rw [hr] at hrun
      injection hrun with e1 e2
      left; rw [← e1]; rfl
    · have holds : ∀ j u, xs[j]? = some u → w.cell? ((⟨g, 0, none⟩ : Addr).add j) = some u := hown.cells (g := g) rfl
      have hr := run_append_grow (P := P) w t ty e i z ht hi hz ⟨g, 0, none⟩ n cap xs hown.1 holds a m c news hl hnews (by omega) (by omega) (growslice_fits (by omega) hbytes)
      rw [hr] at hrun
      injection hrun with e1 e2
      right; rw [← e1]; rfl

/-- 'append(out, ys...)' where the block matters: out is nil or one's own; ys reads as a row, nil let in. -/
theorem cat_mine {P : Program} {ops : Array Oper} {rest : List Oper} {o : Oper} {a : Act} {Q : Exit → Act → World → Prop} {w : World} (hgd : o.guard = none) (s x : Operand) (t : TypeId)
    (ho : o.op = .call { callee := .builtin .append, args := #[s, x], argTypes := #[t, t] })
    (base : Nat) (e : TypeId) (i : TypeInfo) (k : IntKind) (bytes : Nat) (ht : P.underlying t = some (.slice e)) (hi : P.info? e = some i) (hz : i.zero = some (.int k 0)) (hsize : i.size = 1) (hby : i.bytes = bytes)
    (v : Value) (n : Nat) (xs : List Int) (hs : a.eval s = v) (hown : w.ownsRow base e 1 v n (xs.map (Value.int k))) (B : Nat) (A : Option Addr) (m c : Nat) (ys : List Int) (hx : a.eval x = .slice A m c) (hnil : A = none → c = 0) (hr : Row k w B A m ys)
    (hn : n + m ≤ 4398046511104) (hb8 : bytes ≤ 8) (hbase : base ≤ w.heap.size)
    (h : ∀ v' w', w'.ownsRow base e 1 v' (n + m) ((xs ++ ys).map (Value.int k)) → w.grownBy w' v.ownBlock → (v'.ownBlock = v.ownBlock ∨ v'.ownBlock = some w.heap.size) → wpList P ops Q rest (a.put o.dst v') w') :
    wpList P ops Q (o :: rest) a w := by
  rcases A with _ | ad
  · have hm : m = 0 := by
      rcases Nat.eq_zero_or_pos m with h0 | h0
      · exact h0
      · obtain ⟨_, _, h1, _⟩ := hr.2 h0
        cases h1
    subst hm
    have hy : ys = [] := List.eq_nil_of_length_eq_zero hr.1
    subst hy
    rw [hnil rfl] at hx
    exact wpList_append_own_none hgd s x t ho base e i 1 ht hi v n _ hs hown hx (h v w (by simpa using hown) (World.grownBy.refl w _) (.inl rfl))
  · have hnews : ∀ j u, (ys.map (Value.int k))[j]? = some u → w.cell? (ad.add j) = some u := by
      intro j u hj
      have hjl : j < ys.length := by
        have := (List.getElem?_eq_some_iff.1 hj).1
        simpa using this
      have hl := hr.1
      obtain ⟨b, o, he, _, hc⟩ := hr.cell_at (show j < m by omega)
      injection he with he
      subst he
      have hadd : (⟨b, o, none⟩ : Addr).add j = ⟨b, o + j, none⟩ := by unfold Addr.add; split <;> simp_all
      rw [hadd, hc]
      simp only [List.getElem?_map, List.getElem?_eq_getElem hjl, Option.map_some, Option.some.injEq] at hj
      subst hj
      simp [List.getD, hjl]
    have h1 : ∀ u ∈ ys.map (Value.int k), u.oneCell' = true := by
      intro u hu
      obtain ⟨y, _, rfl⟩ := List.mem_map.1 hu
      rfl
    have hl : (ys.map (Value.int k)).length = m * 1 := by simp [hr.1]
    have h63 : n + m ≤ maxLen := by unfold maxLen; omega
    have hbb : (n + m) * bytes ≤ 140737488355328 := by have := Nat.mul_le_mul hn hb8; omega
    obtain ⟨v', w', hrun, h2, h3, _⟩ := run_append_own (P := P) w base t o.type e i (.int k 0) 1 bytes ht hi hz hsize hby rfl (by omega) v n _ hown ad m c _ hl hnews h1 h63 hbb hbase
    have h5 := append_lies (P := P) w base t o.type e i (.int k 0) 1 bytes ht hi hz hsize hby v n _ hown ad m c _ hl hnews h1 h63 hbb v' w' hrun
    refine wpList_plain hgd fun K hK => ?_
    unfold Oper.wp execOp
    simp only [ho, resolve, invoke, builtin, Sem.run_bind, Sem.run_pure, Result.andThen_ok, List.map_toArray, List.map_cons, List.map_nil, hs, hx, hrun]
    exact hK _ _ (h v' w' (by simpa using h2) h3 h5)

/-- A block of cells that may be written: what a cell of it holds, and what the block is behind a store. -/
theorem cell_of_blk {w : World} {b j : Nat} {cs : Array Value} {t : TypeId} {v : Value} (h : w.heap[b]? = some (.cells cs t (0, 0))) (hv : cs[j]? = some v) : w.cell? ⟨b, j, none⟩ = some v := by
  rw [cell_of_row w b j cs t (0, 0) h]; exact hv
theorem free_of_blk {w : World} {b j : Nat} {cs : Array Value} {t : TypeId} (h : w.heap[b]? = some (.cells cs t (0, 0))) : w.frozen? ⟨b, j, none⟩ = false := frozen_of_row w b j cs t h
theorem set_blk {w : World} {b j : Nat} {cs : Array Value} {t : TypeId} {u : Value} (h : w.heap[b]? = some (.cells cs t (0, 0))) : (w.setCell ⟨b, j, none⟩ u).heap[b]? = some (.cells (cs.setIfInBounds j u) t (0, 0)) := heap_setCell_same w b j cs t u h
end Go.Proofs.Ytmpihllcmdgapaa

/- Plain mathematics of layer 1 (varint): a number's bytes, what bytes begin with, and that the two are inverse; no program is named here. -/
namespace Go.Proofs.Ytmpihllcmdgapaa.Var

/-- A number's bytes, least significant seven bits first. -/
def put (n : Nat) : List Int := if n < 128 then [(n : Int)] else (((n % 128 : Nat) : Int) + 128) :: put (n / 128)
  termination_by n
  decreasing_by omega

theorem put_last {n : Nat} (h : n < 128) : put n = [(n : Int)] := by rw [put, if_pos h]
theorem put_more {n : Nat} (h : ¬ n < 128) : put n = (((n % 128 : Nat) : Int) + 128) :: put (n / 128) := by rw [put, if_neg h]

theorem put_pos (n : Nat) : 1 ≤ (put n).length := by
  rw [put]; split <;> simp

theorem put_len : ∀ (k n : Nat), n < 128 ^ (k + 1) → (put n).length ≤ k + 1
  | 0, n, h => by rw [put_last (by simpa using h)]; simp
  | k + 1, n, h => by
    by_cases hn : n < 128
    · rw [put_last hn]; simp
    · rw [put_more hn]
      have : n / 128 < 128 ^ (k + 1) := by
        rw [Nat.pow_succ] at h
        exact Nat.div_lt_of_lt_mul (by rw [Nat.mul_comm]; exact h)
      have := put_len k (n / 128) this
      simp; omega

theorem put_len10 {n : Nat} (h : n < 18446744073709551616) : (put n).length ≤ 10 := put_len 9 n (by omega)

theorem put_byte : ∀ (n : Nat) (x : Int), x ∈ put n → 0 ≤ x ∧ x ≤ 255 := by
  intro n
  induction n using Nat.strongRecOn with
  | ind n ih =>
    intro x hx
    by_cases hn : n < 128
    · rw [put_last hn] at hx
      simp at hx
      omega
    · rw [put_more hn] at hx
      rcases List.mem_cons.1 hx with rfl | hx
      · omega
      · exact ih (n / 128) (by omega) x hx

/-- What bytes begin with, from the i-th byte on, X being what was read: the number, how many bytes, the error. -/
def take (X i : Nat) : List Int → Nat × Nat × Nat
  | [] => (0, 0, 10)
  | c :: cs =>
    if i = 9 ∧ 1 < c then (0, 0, 11)
    else if c < 128 then (if c = 0 ∧ 0 < i then (0, 0, 11) else (X + c.toNat % 128 * 128 ^ i, i + 1, 0))
    else take (X + c.toNat % 128 * 128 ^ i) (i + 1) cs

theorem take_put : ∀ (m i X : Nat) (b : List Int), m * 128 ^ i < 18446744073709551616 → i ≤ 9 → (m ≠ 0 ∨ i = 0) →
    take X i (put m ++ b) = (X + m * 128 ^ i, i + (put m).length, 0) := by
  intro m
  induction m using Nat.strongRecOn with
  | ind m ih =>
    intro i X b h hi h0
    have h9 : i = 9 → m < 2 := by
      rintro rfl
      have : m * 128 ^ 9 < 2 * 128 ^ 9 := by omega
      exact Nat.lt_of_mul_lt_mul_right this
    by_cases hm : m < 128
    · rw [put_last hm]
      have e1 : ¬ (i = 9 ∧ (1 : Int) < (m : Int)) := by
        rintro ⟨a, b⟩
        have := h9 a
        omega
      have e2 : (m : Int) < 128 := by omega
      have e3 : ¬ ((m : Int) = 0 ∧ 0 < i) := by omega
      have e4 : (m : Int).toNat % 128 = m := by omega
      simp only [List.cons_append, List.nil_append, take, if_neg e1, if_pos e2, if_neg e3, e4, List.length_singleton]
    · have hi9 : i ≠ 9 := fun h => by have := h9 h; omega
      rw [put_more hm]
      have e1 : ¬ (i = 9 ∧ (1 : Int) < ((m % 128 : Nat) : Int) + 128) := fun h => hi9 h.1
      have e2 : ¬ (((m % 128 : Nat) : Int) + 128 < 128) := by omega
      have e4 : (((m % 128 : Nat) : Int) + 128).toNat % 128 = m % 128 := by omega
      have hd : m / 128 * 128 ^ (i + 1) ≤ m * 128 ^ i := by
        rw [Nat.pow_succ, Nat.mul_comm (128 ^ i), ← Nat.mul_assoc]
        exact Nat.mul_le_mul_right _ (Nat.div_mul_le_self m 128)
      have hr := ih (m / 128) (by omega) (i + 1) (X + m % 128 * 128 ^ i) b (by omega) (by omega) (Or.inl (by omega))
      simp only [List.cons_append, take, if_neg e1, if_neg e2, e4, hr, List.length_cons, Prod.mk.injEq, and_true]
      refine ⟨?_, by omega⟩
      have hs : m % 128 * 128 ^ i + m / 128 * 128 ^ (i + 1) = m * 128 ^ i := by
        rw [Nat.pow_succ, Nat.mul_comm (128 ^ i), ← Nat.mul_assoc, ← Nat.add_mul]
        congr 1
        omega
      omega

/-- What is taken is put so again. -/
theorem put_take : ∀ (b : List Int) (i X : Nat), (∀ x ∈ b, 0 ≤ x ∧ x ≤ 255) → (take X i b).2.2 = 0 →
    ∃ m, (take X i b).1 = X + m * 128 ^ i ∧ (m ≠ 0 ∨ i = 0) ∧ i < (take X i b).2.1 ∧ (take X i b).2.1 ≤ i + b.length ∧ put m = b.take ((take X i b).2.1 - i)
  | [], i, X, _, h => by simp [take] at h
  | c :: cs, i, X, hb, h => by
    have hc := hb c (by simp)
    have hcs : ∀ x ∈ cs, 0 ≤ x ∧ x ≤ 255 := fun x hx => hb x (by simp [hx])
    by_cases e1 : i = 9 ∧ 1 < c
    · simp [take, if_pos e1] at h
    by_cases e2 : c < 128
    · by_cases e3 : c = 0 ∧ 0 < i
      · simp [take, if_pos e2, if_pos e3] at h
      · have hv : take X i (c :: cs) = (X + c.toNat % 128 * 128 ^ i, i + 1, 0) := by simp [take, if_neg e1, if_pos e2, if_neg e3]
        rw [hv]
        refine ⟨c.toNat, ?_, by omega, by simp, by simp, ?_⟩
        · simp [Nat.mod_eq_of_lt (show c.toNat < 128 by omega)]
        · rw [put_last (by omega)]
          simp
          omega
    · have hv : take X i (c :: cs) = take (X + c.toNat % 128 * 128 ^ i) (i + 1) cs := by simp [take, if_neg e1, if_neg e2]
      rw [hv] at h ⊢
      obtain ⟨m, h1, h2, h3, h4, h5⟩ := put_take cs (i + 1) (X + c.toNat % 128 * 128 ^ i) hcs h
      have hm : m ≠ 0 := by omega
      refine ⟨c.toNat % 128 + 128 * m, ?_, by omega, by omega, by simp; omega, ?_⟩
      · rw [h1, Nat.add_mul, Nat.pow_succ, Nat.mul_comm (128 ^ i), ← Nat.mul_assoc, Nat.mul_comm m 128]
        omega
      · rw [put_more (by omega)]
        have a1 : (c.toNat % 128 + 128 * m) / 128 = m := by omega
        have a2 : (((c.toNat % 128 + 128 * m) % 128 : Nat) : Int) + 128 = c := by omega
        rw [a1, a2, h5]
        obtain ⟨d, hd⟩ : ∃ d, (take (X + c.toNat % 128 * 128 ^ i) (i + 1) cs).2.1 - i = d + 1 := ⟨(take (X + c.toNat % 128 * 128 ^ i) (i + 1) cs).2.1 - i - 1, by omega⟩
        rw [hd, List.take_succ_cons]
        congr 2
        omega

theorem take_fails : ∀ (b : List Int) (i X : Nat), (take X i b).2.2 ≠ 0 → (take X i b).1 = 0 ∧ (take X i b).2.1 = 0
  | [], _, _, _ => by simp [take]
  | c :: cs, i, X, h => by
    by_cases e1 : i = 9 ∧ 1 < c
    · simp [take, if_pos e1]
    by_cases e2 : c < 128
    · by_cases e3 : c = 0 ∧ 0 < i
      · simp [take, if_pos e2, if_pos e3]
      · simp [take, if_neg e1, if_pos e2, if_neg e3] at h
    · have hv : take X i (c :: cs) = take (X + c.toNat % 128 * 128 ^ i) (i + 1) cs := by simp [take, if_neg e1, if_neg e2]
      rw [hv] at h ⊢
      exact take_fails cs _ _ h

/-- The code of a signed number, and back. -/
def turn (n : Int) : Int := if n < 0 then -(n + 1) * 2 + 1 else n * 2
def back (m : Int) : Int := if m % 2 = 1 then -(m / 2) - 1 else m / 2
theorem back_turn (n : Int) : back (turn n) = n := by unfold back turn; split <;> split <;> omega
theorem turn_back {m : Int} (h : 0 ≤ m) : turn (back m) = m := by unfold back turn; split <;> split <;> omega
theorem turn_bd {n : Int} (h1 : -9223372036854775808 ≤ n) (h2 : n ≤ 9223372036854775807) : 0 ≤ turn n ∧ turn n ≤ 18446744073709551615 := by unfold turn; split <;> omega
theorem back_bd {m : Int} (h1 : 0 ≤ m) (h2 : m ≤ 18446744073709551615) : -9223372036854775808 ≤ back m ∧ back m ≤ 9223372036854775807 := by unfold back; split <;> omega

/-- A number below 128^i and a seven-bit group at place i, joined bit by bit, are their sum. -/
theorem or_group (X c i : Nat) (hX : X < 2 ^ (7 * i)) : X ||| c * 2 ^ (7 * i) = X + c * 2 ^ (7 * i) := by
  rw [Nat.or_comm, nat_join (7 * i) (c * 2 ^ (7 * i)) X (Nat.mul_mod_left _ _) hX, Nat.add_comm]
theorem pow7 (i : Nat) : 2 ^ (7 * i) = 128 ^ i := by rw [Nat.pow_mul]
end Go.Proofs.Ytmpihllcmdgapaa.Var

/- What the functions of layer 1 (varint) and of its reference return, each for every input, as contracts over the program. -/
namespace Go.Proofs.Ytmpihllcmdgapaa.Var
open Go.RowKit

theorem info_u8 : (Try.prog.info? 5).map (fun i => (i.zero, i.size, i.bytes)) = some (some (.int .u8 0), 1, 1) := by kernel_rfl

def PutsTo (n : Nat) (w : World) (e : Ending) (w' : World) : Prop :=
  ∃ v, e = .returned v ∧ w'.ownsRow w.heap.size 5 1 v (put n).length ((put n).map (Value.int .u8)) ∧ Below w.heap.size w w'

set_option maxHeartbeats 800000 in
set_option maxRecDepth 100000 in
theorem put_any (n : Nat) (hn : n < 18446744073709551616) (w : World) :
    Calls Try.prog 42 #[.int .u64 (n : Int)] w (PutsTo n w) := by
  obtain ⟨i0, hi, hz0, hz1, hz2⟩ := info_parts info_u8
  have hL := put_len10 hn
  have HN := Lib.hid hn
  clear hn
  go_enter Try.func42, Try.ntmps42
  go_wp2
  go_loopw [0, 3] (fun a v wr => ∃ (m : Nat) (xs : List Int), a = .int .u64 (m : Int) ∧ m ≤ n ∧ Hid (put n = xs ++ put m) ∧ wr.ownsRow w.heap.size 5 1 v xs.length (xs.map (Value.int .u8)) ∧ Below w.heap.size w wr)
    (fun a _ _ => (intOf a).toNat)
  case atStart => exact ⟨n, [], rfl, Nat.le_refl _, rfl, World.ownsRow_nil _ _ _ _, Below.refl _ _⟩
  case round =>
    obtain ⟨m, xs, rfl, hm, HP, hown, hbl⟩ := hrel
    have hsz := hbl.size
    have hpl : xs.length + (put m).length ≤ 10 := by
      have := congrArg List.length HP.out
      simp at this
      omega
    have hpp := put_pos m
    by_cases hlt : m < 128
    · have hw8 : IntKind.u8.wrap (m : Int) = (m : Int) := by rw [IntKind.wrap_u8']; omega
      have Hm := Lib.hid (put_last hlt)
      go_wp2_with (at_builtin; refine push_own rfl (.tmp 15) (.tmp 18) 23 rfl w.heap.size 5 i0 .u8 1 Try.underlying23 hi hz0 hz1 hz2 _ xs.length xs (m : Int) rfl hown rfl (by omega) (by omega) hsz ?_; intro v1 w1 hown1 hb1)
      go_ret
      exact ⟨v1, rfl, by rw [HP.out, Hm.out]; simpa using hown1, hbl.trans hb1⟩
    · have hd : m / 128 ≤ n := by omega
      have Hm := Lib.hid (put_more hlt)
      have hw8 : IntKind.u8.wrap ((m : Int) % 128) = (m : Int) % 128 := by rw [IntKind.wrap_u8']; omega
      have hwd : IntKind.u64.wrap ((m : Int) / 128) = (m : Int) / 128 := IntWalk.u64_in _ ⟨by omega, by have := HN.out; omega⟩
      have hor := u8_or128_right ((m : Int) % 128) (by omega) (by omega)
      go_wp2_with (at_builtin; refine push_own rfl (.tmp 6) (.tmp 11) 23 rfl w.heap.size 5 i0 .u8 1 Try.underlying23 hi hz0 hz1 hz2 _ xs.length xs ((m : Int) % 128 + 128) rfl hown rfl (by omega) (by omega) hsz ?_; intro v1 w1 hown1 hb1)
      go_roundw
      case rel => exact ⟨m / 128, xs ++ [((m % 128 : Nat) : Int) + 128], by go_num, hd, by unfold Hid; rw [HP.out, Hm.out]; simp, by simpa using hown1, hbl.trans hb1⟩
      case measure => simp [intOf]; omega

set_option maxHeartbeats 800000 in
set_option maxRecDepth 100000 in
theorem refput_any (n : Nat) (hn : n < 18446744073709551616) (w : World) :
    Calls Try.prog 48 #[.int .u64 (n : Int)] w (PutsTo n w) := by
  obtain ⟨i0, hi, hz0, hz1, hz2⟩ := info_parts info_u8
  have hL := put_len10 hn
  have HN := Lib.hid hn
  clear hn
  go_enter Try.func48, Try.ntmps48
  go_wp2
  go_loopw [0, 3] (fun a v wr => ∃ (m : Nat) (xs : List Int), a = .int .u64 (m : Int) ∧ m ≤ n ∧ Hid (put n = xs ++ put m) ∧ wr.ownsRow w.heap.size 5 1 v xs.length (xs.map (Value.int .u8)) ∧ Below w.heap.size w wr)
    (fun a _ _ => (intOf a).toNat)
  case atStart => exact ⟨n, [], rfl, Nat.le_refl _, rfl, World.ownsRow_nil _ _ _ _, Below.refl _ _⟩
  case round =>
    obtain ⟨m, xs, rfl, hm, HP, hown, hbl⟩ := hrel
    have hsz := hbl.size
    have hpl : xs.length + (put m).length ≤ 10 := by
      have := congrArg List.length HP.out
      simp at this
      omega
    have hpp := put_pos m
    by_cases hlt : m < 128
    · have hw8 : IntKind.u8.wrap (m : Int) = (m : Int) := by rw [IntKind.wrap_u8']; omega
      have Hm := Lib.hid (put_last hlt)
      go_wp2_with (at_builtin; refine push_own rfl (.tmp 15) (.tmp 18) 23 rfl w.heap.size 5 i0 .u8 1 Try.underlying23 hi hz0 hz1 hz2 _ xs.length xs (m : Int) rfl hown rfl (by omega) (by omega) hsz ?_; intro v1 w1 hown1 hb1)
      go_ret
      exact ⟨v1, rfl, by rw [HP.out, Hm.out]; simpa using hown1, hbl.trans hb1⟩
    · have hd : m / 128 ≤ n := by omega
      have Hm := Lib.hid (put_more hlt)
      have hw6 : IntKind.u64.wrap (128 + (m : Int) % 128) = 128 + (m : Int) % 128 := IntWalk.u64_in _ ⟨by omega, by omega⟩
      have hw8 : IntKind.u8.wrap (128 + (m : Int) % 128) = (m : Int) % 128 + 128 := by rw [IntKind.wrap_u8']; omega
      have hwd : IntKind.u64.wrap ((m : Int) / 128) = (m : Int) / 128 := IntWalk.u64_in _ ⟨by omega, by have := HN.out; omega⟩
      go_wp2_with (at_builtin; refine push_own rfl (.tmp 6) (.tmp 11) 23 rfl w.heap.size 5 i0 .u8 1 Try.underlying23 hi hz0 hz1 hz2 _ xs.length xs ((m : Int) % 128 + 128) rfl hown rfl (by omega) (by omega) hsz ?_; intro v1 w1 hown1 hb1)
      go_roundw
      case rel => exact ⟨m / 128, xs ++ [((m % 128 : Nat) : Int) + 128], by go_num, hd, by unfold Hid; rw [HP.out, Hm.out]; simp, by simpa using hown1, hbl.trans hb1⟩
      case measure => simp [intOf]; omega

set_option maxHeartbeats 800000 in
set_option maxRecDepth 100000 in
/-- Two slices that read alike are the same. -/
theorem same_yes (A A' : Option Addr) (n c c' B B' : Nat) (xs : List Int) (w : World) (hn : n ≤ 4398046511104) (h1 : Row .u8 w B A n xs) (h2 : Row .u8 w B' A' n xs) :
    Calls Try.prog 11 #[.slice A n c, .slice A' n c'] w fun e w' => e = .returned (.bool true) ∧ ∃ q, w' = w.drewN q := by
  have H1 := Lib.hid h1
  have H2 := Lib.hid h2
  clear h1 h2
  go_enter Try.func11, Try.ntmps11
  go_wp2
  go_loopw [5] (fun i wr => ∃ k q : Nat, k ≤ n ∧ i = .int .i64 (k : Int) ∧ Hid (wr = w.drewN q)) (fun i _ => n - (intOf i).toNat)
  case atStart => exact ⟨0, 0, Nat.zero_le _, rfl, rfl⟩
  case round =>
    obtain ⟨k, q, hk, rfl, hw⟩ := hrel
    obtain rfl := hw.out
    clear hw
    by_cases hlt : k < n
    · obtain ⟨b, o, rfl, _, hc1⟩ := H1.out.cell_at hlt
      obtain ⟨b', o', rfl, _, hc2⟩ := H2.out.cell_at hlt
      go_wp2
      go_quiet (fail)
      go_wp2
      go_roundw
      case rel => exact ⟨k + 1, _, by omega, by go_num, by unfold Hid; rfl⟩
      case measure => simp [intOf]; omega
    · go_wp2
      go_ret
      exact ⟨rfl, _, rfl⟩
end Go.Proofs.Ytmpihllcmdgapaa.Var

/- Take of layer 1 and of its reference, as contracts. -/
namespace Go.Proofs.Ytmpihllcmdgapaa
open Go.RowKit

/-- A scope whose one label is jumped back to: what holds at the label, at the first time and at every jump; a measure that each pass lowers. -/
theorem scope_back {P : Program} {a : Act} {w : World} {Q : Exit → Act → World → Prop} {c rest : Code} (l : Nat) (J : Act → World → Prop) (μ : Act → World → Nat) (hf : findLabel c l = some (.seq .skip rest))
    (first : ∀ Q' : Exit → Act → World → Prop, (∀ a w, J a w → rest.wp P Q' a w) → c.wp P Q' a w)
    (pass : ∀ a w, J a w → rest.wp P (Exit.jump l (fun a' w' => J a' w' ∧ μ a' w' < μ a w) Q) a w) : (Code.scope c).wp P Q a w := by
  refine wp_scope_jumps l J μ hf (first _ fun a w hJ => wp_mono (pass a w hJ) ?_) (fun a w hJ => wp_seq (wp_skip (pass a w hJ)))
  intro e a' w' h
  cases e <;> first | exact ⟨h.1, h.2.1⟩ | exact h

namespace Var

/-- What holds at Take's label. -/
def AtNext (A : Option Addr) (n c : Nat) (xs : List Int) (w : World) (a' : Act) (w' : World) : Prop :=
  w = w' ∧ ∃ (i X : Nat) (u7 u8 u9 u10 u11 u12 u13 u14 u15 u16 u17 u18 u19 u20 u21 u22 u23 u24 u25 u26 u27 u28 u29 u30 u31 u32 u33 u34 u35 u36 u37 u38 u39 u40 u41 : Value), i ≤ n ∧ i ≤ 9 ∧ X < 128 ^ i ∧ take 0 0 xs = take X i (xs.drop i) ∧
      a' = { tmps := #[.slice A n c, undef, .int .u64 0, .int .i64 0, .int .i64 0, .int .u64 (X : Int), .int .i64 (i : Int), u7, u8, u9, u10, u11, u12, u13, u14, u15, u16, u17, u18, u19, u20, u21, u22, u23, u24, u25, u26, u27, u28, u29, u30, u31, u32, u33, u34, u35, u36, u37, u38, u39, u40, u41], defers := [] }
def left (n : Nat) (a' : Act) : Nat := n - (intOf (a'.tmps.getD 6 undef)).toNat

/-- One group of seven bits more. -/
theorem group (X i : Nat) (y : Int) (h0 : 0 ≤ y) (hi : i ≤ 9) (h9 : i = 9 → y ≤ 1) (hX : X < 128 ^ i) :
    bits .or .u64 (X : Int) (IntKind.u64.wrap (y % 128 * 2 ^ (7 * i))) = ((X + y.toNat % 128 * 128 ^ i : Nat) : Int) ∧ (i < 9 → X + y.toNat % 128 * 128 ^ i < 128 ^ (i + 1)) ∧ X + y.toNat % 128 * 128 ^ i < 18446744073709551616 := by
  obtain ⟨d, rfl⟩ := Int.eq_ofNat_of_zero_le h0
  have hm : d % 128 ≤ 127 := by omega
  have h1 : X + d % 128 * 128 ^ i < 128 ^ (i + 1) := by
    have := Nat.mul_le_mul_right (128 ^ i) hm
    rw [Nat.pow_succ]
    omega
  have h2 : X + d % 128 * 128 ^ i < 18446744073709551616 := by
    by_cases e : i = 9
    · subst e
      have := h9 rfl
      have hd : d % 128 ≤ 1 := by omega
      have := Nat.mul_le_mul_right (128 ^ 9) hd
      omega
    · have : 128 ^ (i + 1) ≤ 128 ^ 9 := Nat.pow_le_pow_right (by omega) (by omega)
      omega
  have e1 : ((d : Int) % 128 * 2 ^ (7 * i)) = ((d % 128 * 128 ^ i : Nat) : Int) := by
    have := pow7 i
    rw [← this]
    simp
  have e2 : (d : Int).toNat = d := by simp
  rw [e1, e2]
  refine ⟨?_, fun _ => h1, h2⟩
  rw [IntWalk.u64_in _ ⟨by omega, by omega⟩, u64_or_nat _ _ (by omega) (by omega)]
  congr 1
  have := or_group X (d % 128) i (by rw [pow7]; exact hX)
  rw [pow7] at this
  exact this

theorem take_no {X i : Nat} {y : Int} {cs : List Int} (h9 : 9 ≤ i) (hi : i ≤ 9) (hy : 1 < y) : take X i (y :: cs) = (0, 0, 11) := by
  simp only [take]; rw [if_pos ⟨by omega, hy⟩]
theorem take_zero {X i : Nat} {y : Int} {cs : List Int} (hy : y ≤ 0) (h0 : 0 ≤ y) (hi : 0 < i) : take X i (y :: cs) = (0, 0, 11) := by
  simp only [take]; rw [if_neg (by omega), if_pos (by omega), if_pos ⟨by omega, hi⟩]
theorem take_end {X i : Nat} {y : Int} {cs : List Int} (h0 : 0 ≤ y) (h9 : i = 9 → y ≤ 1) (hy : y < 128) (hz : y = 0 → i = 0) : take X i (y :: cs) = (X + y.toNat % 128 * 128 ^ i, i + 1, 0) := by
  simp only [take]; rw [if_neg (by omega), if_pos hy, if_neg (by omega)]
theorem take_on {X i : Nat} {y : Int} {cs : List Int} (h9 : i = 9 → y ≤ 1) (hy : 128 ≤ y) : take X i (y :: cs) = take (X + y.toNat % 128 * 128 ^ i) (i + 1) cs := by
  simp only [take]; rw [if_neg (by omega), if_neg (by omega)]

set_option maxHeartbeats 3200000 in
set_option maxRecDepth 100000 in
theorem take_any (A : Option Addr) (n c B : Nat) (xs : List Int) (w : World) (h : Row .u8 w B A n xs) (hb : ∀ x ∈ xs, 0 ≤ x ∧ x ≤ 255) :
    Calls Try.prog 67 #[.slice A n c] w fun e w' =>
      e = .returned (.tuple #[.int .u64 ((take 0 0 xs).1 : Int), .int .i64 ((take 0 0 xs).2.1 : Int), .int .i64 ((take 0 0 xs).2.2 : Int)]) ∧ w = w' := by
  have H := Lib.hid h
  have HB := Lib.hid hb
  clear h hb
  go_enter Try.func67, Try.ntmps67
  go_wp2
  refine scope_back 0 (AtNext A n c xs w) (fun a' _ => left n a') rfl ?_ ?_
  · intro Q' hQ
    have HQ := Lib.hid hQ
    clear hQ
    go_wp2
    go_step3
    rename_i hK
    exact hK _ _ (HQ.out _ _ ⟨rfl, 0, 0, _, _, _, _, _, _, _, _, _, _, _, _, _, _, _, _, _, _, _, _, _, _, _, _, _, _, _, _, _, _, _, _, _, _, _, Nat.zero_le _, by omega, by simp, rfl, rfl⟩)
  · rintro a' w' ⟨hw, i, X, u7, u8, u9, u10, u11, u12, u13, u14, u15, u16, u17, u18, u19, u20, u21, u22, u23, u24, u25, u26, u27, u28, u29, u30, u31, u32, u33, u34, u35, u36, u37, u38, u39, u40, u41, hi, hi9, hX, hT, rfl⟩
    obtain rfl := hw
    have HT := Lib.hid hT
    have HX := Lib.hid hX
    clear hT hX
    by_cases hlt : i < n
    · obtain ⟨b, o, rfl, _, hcell⟩ := H.out.cell_at hlt
      have hxi : i < xs.length := by rw [H.out.len]; exact hlt
      have hy := HB.out (xs.getD i 0) (by simp [List.getD, hxi])
      have HT' : Hid (take 0 0 xs = take X i (xs.getD i 0 :: xs.drop (i + 1))) := by
        unfold Hid; rw [HT.out, List.drop_eq_getElem_cons hxi]; simp [List.getD, hxi]
      clear HT
      generalize xs.getD i 0 = y at *
      obtain ⟨hy0, hy1⟩ := hy
      by_cases hno : i = 9 ∧ 1 < y
      · obtain ⟨h9, hy2⟩ := hno
        have hb9 : ((i : Int) == 9) = true := beq_iff_eq.2 (by omega)
        have HV := Lib.hid (HT'.out.trans (take_no (by omega) hi9 hy2))
        clear HT' HX h9
        go_wp2
        simp only [Exit.jump]
        go_ret3
        exact ⟨by rw [HV.out]; rfl, rfl⟩
      · have h9y : i = 9 → y ≤ 1 := by omega
        have G := group X i y hy0 hi9 h9y HX.out
        obtain ⟨Y, hY⟩ : ∃ Y, Y = X + y.toNat % 128 * 128 ^ i := ⟨_, rfl⟩
        rw [← hY] at G
        obtain ⟨hor, hY9, hY64⟩ := G
        have HY9 := Lib.hid hY9
        by_cases h128 : y < 128
        · by_cases h0 : y = 0 ∧ 0 < i
          · have HV := Lib.hid (HT'.out.trans (take_zero (by omega) hy0 h0.2))
            have hyb : (y == 0) = true := beq_iff_eq.2 h0.1
            have hi0 : 0 < i := h0.2
            clear HT' HX hY hY9 hY64 HY9 h9y hno h0
            by_cases h9 : i = 9
            · have hb9 : ((i : Int) == 9) = true := beq_iff_eq.2 (by omega)
              have hy2 : y ≤ 1 := by have := beq_iff_eq.1 hyb; omega
              clear h9
              go_wp2
              simp only [Exit.jump]
              go_ret3
              exact ⟨by rw [HV.out]; rfl, rfl⟩
            · have hb9 : ((i : Int) == 9) = false := beq_eq_false_iff_ne.2 (by omega)
              clear h9
              go_wp2
              simp only [Exit.jump]
              go_ret3
              exact ⟨by rw [HV.out]; rfl, rfl⟩
          · have HV := Lib.hid (HT'.out.trans (take_end hy0 h9y h128 (by omega)))
            have HY := Lib.hid hY
            have fin : ∀ i1 : Int, i1 = (i : Int) + 1 → Ending.returned (.tuple #[.int .u64 (Y : Int), .int .i64 i1, .int .i64 0]) = .returned (.tuple #[.int .u64 ((take 0 0 xs).1 : Int), .int .i64 ((take 0 0 xs).2.1 : Int), .int .i64 ((take 0 0 xs).2.2 : Int)]) := by
              intro i1 h1
              rw [HV.out, ← HY.out, h1]
              rfl
            have FIN := Lib.hid fin
            by_cases hyz : y = 0
            · have hyb : (y == 0) = true := beq_iff_eq.2 hyz
              have hi0 : i ≤ 0 := by omega
              have hb9 : ((i : Int) == 9) = false := beq_eq_false_iff_ne.2 (by omega)
              clear HT' HX hY hY9 hY64 HY9 h9y hno h0 hyz fin HV HY
              go_wp2
              simp only [Exit.jump]
              go_ret3
              exact ⟨FIN.out _ rfl, rfl⟩
            · have hyb : (y == 0) = false := beq_eq_false_iff_ne.2 hyz
              by_cases h9 : i = 9
              · have hb9 : ((i : Int) == 9) = true := beq_iff_eq.2 (by omega)
                have hy2 : y ≤ 1 := h9y h9
                clear HT' HX hY hY9 hY64 HY9 h9y hno h0 hyz fin HV HY h9
                go_wp2
                simp only [Exit.jump]
                go_ret3
                exact ⟨FIN.out _ rfl, rfl⟩
              · have hb9 : ((i : Int) == 9) = false := beq_eq_false_iff_ne.2 (by omega)
                clear HT' HX hY hY9 hY64 HY9 h9y hno h0 hyz fin HV HY h9
                go_wp2
                simp only [Exit.jump]
                go_ret3
                exact ⟨FIN.out _ rfl, rfl⟩
        · have h9 : i ≠ 9 := by omega
          have hb9 : ((i : Int) == 9) = false := beq_eq_false_iff_ne.2 (by omega)
          have h128' : 128 ≤ y := by omega
          have HV := Lib.hid (HT'.out.trans (take_on h9y h128'))
          have HY := Lib.hid hY
          clear HT' HX hY hY9 hY64 h9y hno h128
          go_wp2
          go_step3
          have ei : (i : Int) + 1 = ((i + 1 : Nat) : Int) := by omega
          rw [ei]
          exact ⟨rfl, ⟨rfl, i + 1, Y, _, _, _, _, _, _, _, _, _, _, _, _, _, _, _, _, _, _, _, _, _, _, _, _, _, _, _, _, _, _, _, _, _, _, _, by omega, by omega, HY9.out (by omega), by rw [HV.out, HY.out], rfl⟩, by simp [left, intOf]; omega⟩
    · have hv : take 0 0 xs = (0, 0, 10) := by rw [HT.out, List.drop_eq_nil_of_le (by rw [H.out.len]; omega)]; rfl
      have HV := Lib.hid hv
      clear hv
      go_wp2
      simp only [Exit.jump]
      go_ret3
      exact ⟨by rw [HV.out]; rfl, rfl⟩
end Var
end Go.Proofs.Ytmpihllcmdgapaa

/- The reference's Take of layer 1, as a contract. -/
namespace Go.Proofs.Ytmpihllcmdgapaa.Var
open Go.RowKit

theorem group_sum (X i S : Nat) (y : Int) (h0 : 0 ≤ y) (hi : i ≤ 9) (h9 : i = 9 → y ≤ 1) (hX : X < 128 ^ i) (hS : S = 128 ^ i) :
    ∃ P Y : Nat, IntKind.u64.wrap (y % 128 * (S : Int)) = (P : Int) ∧ IntKind.u64.wrap ((X : Int) + (P : Int)) = (Y : Int) ∧ Hid (Y = X + y.toNat % 128 * 128 ^ i) ∧ Hid (i < 9 → Y < 128 ^ (i + 1)) ∧
      (i < 9 → IntKind.u64.wrap ((S : Int) * 128) = ((128 ^ (i + 1) : Nat) : Int)) := by
  subst hS
  obtain ⟨-, g1, g2⟩ := group X i y h0 hi h9 hX
  obtain ⟨d, rfl⟩ := Int.eq_ofNat_of_zero_le h0
  have e2 : (d : Int).toNat = d := by simp
  rw [e2] at g1 g2 ⊢
  have e1 : (d : Int) % 128 * ((128 ^ i : Nat) : Int) = ((d % 128 * 128 ^ i : Nat) : Int) := by simp
  refine ⟨d % 128 * 128 ^ i, X + d % 128 * 128 ^ i, ?_, ?_, rfl, g1, fun h => ?_⟩
  · rw [e1]; exact IntWalk.u64_in _ ⟨by omega, by omega⟩
  · rw [IntWalk.u64_in _ ⟨by omega, by omega⟩]; omega
  · have hp : 128 ^ (i + 1) ≤ 128 ^ 9 := Nat.pow_le_pow_right (by omega) (by omega)
    have e3 : ((128 ^ i : Nat) : Int) * 128 = ((128 ^ (i + 1) : Nat) : Int) := by rw [Nat.pow_succ]; simp
    rw [e3]
    exact IntWalk.u64_in _ ⟨by omega, by omega⟩

set_option maxHeartbeats 3200000 in
set_option maxRecDepth 100000 in
theorem reftake_any (A : Option Addr) (n c B : Nat) (xs : List Int) (w : World) (h : Row .u8 w B A n xs) (hb : ∀ x ∈ xs, 0 ≤ x ∧ x ≤ 255) :
    Calls Try.prog 72 #[.slice A n c] w fun e w' =>
      e = .returned (.tuple #[.int .u64 ((take 0 0 xs).1 : Int), .int .i64 ((take 0 0 xs).2.1 : Int), .int .i64 ((take 0 0 xs).2.2 : Int)]) ∧ w = w' := by
  have H := Lib.hid h
  have HB := Lib.hid hb
  clear h hb
  go_enter Try.func72, Try.ntmps72
  go_wp2
  go_loop [5, 6, 7] (fun a s t => ∃ i X S : Nat, i ≤ n ∧ i ≤ 9 ∧ Hid (X < 128 ^ i) ∧ Hid (S = 128 ^ i) ∧ Hid (take 0 0 xs = take X i (xs.drop i)) ∧ a = .int .u64 (X : Int) ∧ s = .int .u64 (S : Int) ∧ t = .int .i64 (i : Int)) (fun _ _ t => n - (intOf t).toNat)
  case atStart => exact ⟨0, 0, 1, Nat.zero_le _, by omega, by unfold Hid; simp, by unfold Hid; simp, rfl, rfl, rfl, rfl⟩
  case round =>
    obtain ⟨i, X, S, hi, hi9, HX, HS, HT, rfl, rfl, rfl⟩ := hrel
    by_cases hlt : i < n
    · obtain ⟨b, o, rfl, _, hcell⟩ := H.out.cell_at hlt
      have hxi : i < xs.length := by rw [H.out.len]; exact hlt
      have hy := HB.out (xs.getD i 0) (by simp [List.getD, hxi])
      have HT' : Hid (take 0 0 xs = take X i (xs.getD i 0 :: xs.drop (i + 1))) := by
        unfold Hid; rw [HT.out, List.drop_eq_getElem_cons hxi]; simp [List.getD, hxi]
      clear HT
      generalize xs.getD i 0 = y at *
      obtain ⟨hy0, hy1⟩ := hy
      by_cases hno : i = 9 ∧ 1 < y
      · obtain ⟨h9, hy2⟩ := hno
        have hb9 : ((i : Int) == 9) = true := beq_iff_eq.2 (by omega)
        have HV := Lib.hid (HT'.out.trans (take_no (by omega) hi9 hy2))
        clear HT' HX h9
        go_wp2
        go_ret3
        exact ⟨by rw [HV.out]; rfl, rfl⟩
      · have h9y : i = 9 → y ≤ 1 := by omega
        obtain ⟨P, Y, hmul, hsum, HY, HY9, hsc⟩ := group_sum X i S y hy0 hi9 h9y HX.out HS.out
        by_cases h128 : y < 128
        · by_cases h0 : y = 0 ∧ 0 < i
          · have HV := Lib.hid (HT'.out.trans (take_zero (by omega) hy0 h0.2))
            have hyb : (y == 0) = true := beq_iff_eq.2 h0.1
            have hi0 : 0 < i := h0.2
            by_cases h9 : i = 9
            · have hb9 : ((i : Int) == 9) = true := beq_iff_eq.2 (by omega)
              have hy2 : y ≤ 1 := h9y h9
              clear h9 HT' HX HY HY9 h9y hno h0 hsc
              go_wp2
              go_ret3
              exact ⟨by rw [HV.out]; rfl, rfl⟩
            · have hb9 : ((i : Int) == 9) = false := beq_eq_false_iff_ne.2 (by omega)
              clear h9 HT' HX HY HY9 h9y hno h0 hsc
              go_wp2
              go_ret3
              exact ⟨by rw [HV.out]; rfl, rfl⟩
          · have HV := Lib.hid (HT'.out.trans (take_end hy0 h9y h128 (by omega)))
            have fin : ∀ i1 : Int, i1 = (i : Int) + 1 → Ending.returned (.tuple #[.int .u64 (Y : Int), .int .i64 i1, .int .i64 0]) = .returned (.tuple #[.int .u64 ((take 0 0 xs).1 : Int), .int .i64 ((take 0 0 xs).2.1 : Int), .int .i64 ((take 0 0 xs).2.2 : Int)]) := by
              intro i1 h1
              rw [HV.out, ← HY.out, h1]
              rfl
            have FIN := Lib.hid fin
            by_cases hyz : y = 0
            · have hyb : (y == 0) = true := beq_iff_eq.2 hyz
              have hi0 : i ≤ 0 := by omega
              have hb9 : ((i : Int) == 9) = false := beq_eq_false_iff_ne.2 (by omega)
              clear HT' HX HY9 h9y hno h0 hyz fin HV HY hsc
              go_wp2
              go_ret3
              exact ⟨FIN.out _ rfl, rfl⟩
            · have hyb : (y == 0) = false := beq_eq_false_iff_ne.2 hyz
              by_cases h9 : i = 9
              · have hb9 : ((i : Int) == 9) = true := beq_iff_eq.2 (by omega)
                have hy2 : y ≤ 1 := h9y h9
                clear HT' HX HY9 h9y hno h0 hyz fin HV HY h9 hsc
                go_wp2
                go_ret3
                exact ⟨FIN.out _ rfl, rfl⟩
              · have hb9 : ((i : Int) == 9) = false := beq_eq_false_iff_ne.2 (by omega)
                clear HT' HX HY9 h9y hno h0 hyz fin HV HY h9 hsc
                go_wp2
                go_ret3
                exact ⟨FIN.out _ rfl, rfl⟩
        · have h9 : i ≠ 9 := by omega
          have hb9 : ((i : Int) == 9) = false := beq_eq_false_iff_ne.2 (by omega)
          have h128' : 128 ≤ y := by omega
          have HV := Lib.hid (HT'.out.trans (take_on h9y h128'))
          have hs' := hsc (by omega)
          obtain ⟨S', HS'⟩ : ∃ S', Hid (S' = 128 ^ (i + 1)) := ⟨128 ^ (i + 1), Lib.hid rfl⟩
          rw [← HS'.out] at hs'
          clear HT' HX h9y hno h128 hsc
          go_wp2
          go_round
          case rel => exact ⟨i + 1, Y, S', by omega, by omega, HY9.out (by omega), HS', by unfold Hid; rw [HV.out, HY.out], rfl, rfl, by go_num⟩
          case measure => simp [intOf]; omega
    · have hv : take 0 0 xs = (0, 0, 10) := by rw [HT.out, List.drop_eq_nil_of_le (by rw [H.out.len]; omega)]; rfl
      have HV := Lib.hid hv
      clear hv
      go_wp2
      go_ret3
      exact ⟨by rw [HV.out]; rfl, rfl⟩
end Go.Proofs.Ytmpihllcmdgapaa.Var

/- The turns of layer 1 (varint), signed numbers as codes, and those of its reference, as contracts over the program. -/
namespace Go.Proofs.Ytmpihllcmdgapaa.Var
open Go.RowKit

set_option maxRecDepth 100000 in
theorem turn_any (n : Int) (h1 : -9223372036854775808 ≤ n) (h2 : n ≤ 9223372036854775807) (w : World) :
    Calls Try.prog 75 #[.int .i64 n] w fun e w' => e = .returned (.int .u64 (turn n)) ∧ w = w' := by
  by_cases hn : n < 0
  · go_enter Try.func75, Try.ntmps75
    go_wp2
    go_ret
    exact ⟨ret_int (by unfold turn; split <;> omega), rfl⟩
  · go_enter Try.func75, Try.ntmps75
    go_wp2
    go_ret
    exact ⟨ret_int (by unfold turn; split <;> omega), rfl⟩

set_option maxRecDepth 100000 in
theorem refturn_any (n : Int) (h1 : -9223372036854775808 ≤ n) (h2 : n ≤ 9223372036854775807) (w : World) :
    Calls Try.prog 66 #[.int .i64 n] w fun e w' => e = .returned (.int .u64 (turn n)) ∧ w = w' := by
  by_cases hn : n < 0
  · go_enter Try.func66, Try.ntmps66
    go_wp2
    go_ret
    exact ⟨ret_int (by unfold turn; split <;> omega), rfl⟩
  · go_enter Try.func66, Try.ntmps66
    go_wp2
    go_ret
    exact ⟨ret_int (by unfold turn; split <;> omega), rfl⟩

set_option maxRecDepth 100000 in
theorem back_any (m : Int) (h1 : 0 ≤ m) (h2 : m ≤ 18446744073709551615) (w : World) :
    Calls Try.prog 78 #[.int .u64 m] w fun e w' => e = .returned (.int .i64 (back m)) ∧ w = w' := by
  by_cases hm : m % 2 = 1
  · go_enter Try.func78, Try.ntmps78
    go_wp2
    go_ret
    exact ⟨ret_int (by unfold back; split <;> omega), rfl⟩
  · go_enter Try.func78, Try.ntmps78
    go_wp2
    go_ret
    exact ⟨ret_int (by unfold back; split <;> omega), rfl⟩
end Go.Proofs.Ytmpihllcmdgapaa.Var

/- The Writer of layer 3 (field) and its reference: what each method does, as contracts over the program. -/
namespace Go.Proofs.Ytmpihllcmdgapaa.Fld
open Go.RowKit Var

/-- A slice value of one's own, from its shape. -/
theorem own_nil {w : World} {base n : Nat} {e : TypeId} {v : Value} {xs : List Value} (h : w.ownsRow base e 1 v n xs) : ∃ A c, v = .slice A n c ∧ (A = none → c = 0) := by
  obtain ⟨A, c, h1, _, h2⟩ := own_slice h
  exact ⟨A, c, h1, h2⟩

set_option maxHeartbeats 800000 in
set_option maxRecDepth 100000 in
/-- slices.Clone: a row of its own that reads alike. -/
theorem clone_any (A : Option Addr) (n c B : Nat) (xs : List Int) (w : World) (h : Row .u8 w B A n xs) (hB : B ≤ w.heap.size) (hnil : A = none → c = 0) (hn : n ≤ 4398046511104) :
    Calls Try.prog 52 #[.slice A n c] w fun e w' =>
      ∃ v, e = .returned v ∧ w'.ownsRow w.heap.size 5 1 v n (xs.map (Value.int .u8)) ∧ Below w.heap.size w w' := by
  obtain ⟨i0, hi, hz0, hz1, hz2⟩ := info_parts info_u8
  rcases A with _ | ad
  · have hn0 : n = 0 := by
      rcases Nat.eq_zero_or_pos n with h0 | h0
      · exact h0
      · obtain ⟨_, _, h1, _⟩ := h.2 h0
        cases h1
    subst hn0
    have hx : xs = [] := List.eq_nil_of_length_eq_zero h.1
    subst hx
    rw [hnil rfl]
    have he : ∀ w : World, (binOp .eql 23 (.slice none 0 0) (.slice none 0 0)).run Try.prog w = .ok (.bool true) w := fun _ => rfl
    go_enter Try.func52, Try.ntmps52
    go_wp2
    go_ret
    exact ⟨_, rfl, World.ownsRow_nil _ _ _ _, Below.refl _ _⟩
  · have H := Lib.hid h
    have H2 := Lib.hid hnil
    clear h hnil
    have he : ∀ w : World, (binOp .eql 23 (.slice (some ad) n c) (.slice none 0 0)).run Try.prog w = .ok (.bool false) w := fun _ => rfl
    go_enter Try.func52, Try.ntmps52
    go_wp2_with (at_builtin; refine cat_own rfl (.tmp 5) (.tmp 6) 23 rfl w.heap.size 5 i0 .u8 1 Try.underlying23 hi hz0 hz1 hz2 _ 0 [] rfl (World.ownsRow_made w #[] 0 (Nat.le_refl _) (Nat.zero_le _) rfl) B (some ad) n c xs rfl H2.out (H.out.alloc hB _) (by omega) (by omega) (by simp) ?_; intro v1 w1 hown1 hb1)
    go_ret
    exact ⟨v1, rfl, by simpa using hown1, ((Below.refl _ _).alloc (Nat.le_refl _) _).trans hb1⟩

/-- A Writer behind a pointer: its block, the row that it owns. -/
structure Wr (w : World) (base g : Nat) (v : Value) (n : Nat) (xs : List Int) : Prop where
  blk : w.heap[g]? = some (.cells #[v] 73 (0, 0))
  own : w.ownsRow base 5 1 v n (xs.map (Value.int .u8))
  ne : v.ownBlock ≠ some g
  low : base ≤ g

/-- What a Writer's method may turn, and where its row lies behind it. -/
structure Mv (w w' : World) (g : Nat) (v v' : Value) : Prop where
  only : Only (fun k => k = g ∨ v.ownBlock = some k) w w'
  new : ∀ k, v'.ownBlock = some k → v.ownBlock = some k ∨ w.heap.size ≤ k

theorem Mv.refl (w : World) (g : Nat) (v : Value) : Mv w w g v v := ⟨Only.refl _ _, fun _ h => .inl h⟩
theorem Mv.trans {w w1 w2 : World} {g : Nat} {v v1 v2 : Value} (h : Mv w w1 g v v1) (k : Mv w1 w2 g v1 v2) : Mv w w2 g v v2 := by
  refine ⟨h.only.trans k.only ?_, fun i hi => ?_⟩
  · rintro i hi (rfl | hm)
    · exact .inl rfl
    · rcases h.new i hm with h1 | h1
      · exact .inr h1
      · omega
  · rcases k.new i hi with h1 | h1
    · exact h.new i h1
    · exact .inr (Nat.le_trans h.only.size h1)
theorem Mv.of_below {w w1 : World} {g : Nat} {v : Value} (h : Below w.heap.size w w1) : Mv w w1 g v v := ⟨Only.of_below h, fun _ h => .inl h⟩
theorem Wr.below {w w1 : World} {base g n : Nat} {v : Value} {xs : List Int} (h : Wr w base g v n xs) (hb : Below w.heap.size w w1) : Wr w1 base g v n xs :=
  ⟨(hb.block g (Array.getElem?_eq_some_iff.1 h.blk).1).trans h.blk, own_below h.own hb, h.ne, h.low⟩
theorem Wr.lt {w : World} {base g n : Nat} {v : Value} {xs : List Int} (h : Wr w base g v n xs) : g < w.heap.size := (Array.getElem?_eq_some_iff.1 h.blk).1

def Adds (w : World) (base g : Nat) (v : Value) (n : Nat) (xs ys : List Int) (e : Ending) (w' : World) : Prop :=
  e = .returned (.tuple #[]) ∧ ∃ v', Wr w' base g v' (n + ys.length) (xs ++ ys) ∧ Mv w w' g v v'

theorem after_add {w w1 : World} {base g n m : Nat} {v v1 : Value} {xs : List Int} {zs : List Value} (hw : Wr w base g v n xs) (hown1 : w1.ownsRow base 5 1 v1 m zs) (hg1 : w.grownBy w1 v.ownBlock) (hl1 : v1.ownBlock = v.ownBlock ∨ v1.ownBlock = some w.heap.size) :
    ∃ A1 c1, v1 = .slice A1 m c1 ∧ w1.cell? ⟨g, 0, none⟩ = some v ∧ w1.frozen? ⟨g, 0, none⟩ = false ∧ Hid (w1.ownsRow base 5 1 v1 m zs) ∧ Hid (w.grownBy w1 v.ownBlock) ∧ Hid (v1.ownBlock = v.ownBlock ∨ v1.ownBlock = some w.heap.size) ∧ Hid (v1.ownBlock ≠ some g) ∧ Hid (w1.heap[g]? = some (.cells #[v] 73 (0, 0))) := by
  have hblk : w1.heap[g]? = some (.cells #[v] 73 (0, 0)) := (hg1.block g hw.lt (fun e => hw.ne e.symm)).trans hw.blk
  obtain ⟨A1, c1, h1, -⟩ := own_nil hown1
  refine ⟨A1, c1, h1, cell_of_one hblk, free_of_one hblk, hown1, hg1, hl1, ?_, hblk⟩
  unfold Hid
  rcases hl1 with h | h
  · rw [h]; exact hw.ne
  · rw [h]; intro e; injection e with e; have := hw.lt; omega

set_option maxHeartbeats 800000 in
set_option maxRecDepth 100000 in
theorem add_any (base g n : Nat) (v : Value) (xs : List Int) (A : Option Addr) (m c B : Nat) (ys : List Int) (w : World) (hw : Wr w base g v n xs) (hr : Row .u8 w B A m ys) (hnil : A = none → c = 0) (hn : n + m ≤ 4398046511104) :
    Calls Try.prog 65 #[.pointer (some ⟨g, 0, none⟩), .slice A m c] w (Adds w base g v n xs ys) := by
  obtain ⟨i0, hi, hz0, hz1, hz2⟩ := info_parts info_u8
  have HW := Lib.hid hw
  have HR := Lib.hid hr
  have HN := Lib.hid hnil
  have hc := cell_of_one hw.blk
  have hlow : base ≤ w.heap.size := Nat.le_trans hw.low (Nat.le_of_lt hw.lt)
  clear hw hr hnil
  obtain ⟨A0, c0, rfl, -⟩ := own_nil HW.out.own
  go_enter Try.func65, Try.ntmps65
  go_wp2_with (at_builtin; refine cat_mine rfl (.tmp 10) (.tmp 11) 23 rfl base 5 i0 .u8 1 Try.underlying23 hi hz0 hz1 hz2 (.slice A0 n c0) n xs rfl HW.out.own B A m c ys rfl HN.out HR.out hn (by omega) hlow ?_; intro v1 w1 hown1 hg1 hl1; obtain ⟨A1, c1, rfl, hc1, hf1, HO, HG, HL, HE, HK⟩ := after_add HW.out hown1 hg1 hl1; clear hown1 hg1 hl1)
  go_end0
  have hm : ys.length = m := HR.out.len
  refine ⟨rfl, _, ⟨one_setCell HK.out, by rw [hm]; exact ownsRow_setCell_other HO.out HE.out _, HE.out, HW.out.low⟩, ?_, ?_⟩
  · refine (Only.of_grown HG.out |>.mono (fun i h => Or.inr h)).trans (Only.setCell _ ⟨g, 0, none⟩ _) (fun i _ h => Or.inl h)
  · intro k hk
    rcases HL.out with h | h
    · left; rw [← h]; exact hk
    · right; rw [h] at hk; injection hk with hk; omega

set_option maxHeartbeats 800000 in
set_option maxRecDepth 100000 in
/-- A nil Writer: nothing happens. -/
theorem add_nil (v : Value) (w : World) : Calls Try.prog 65 #[.pointer none, v] w fun e w' => e = .returned (.tuple #[]) ∧ w = w' := by
  go_enter Try.func65, Try.ntmps65
  go_wp2
  go_end0
  exact ⟨rfl, rfl⟩

/-- A number's field. -/
def num (k : Int) : List Int := put k.toNat
theorem num_len {k : Int} (h : k ≤ 9223372036854775807) : (num k).length ≤ 10 := put_len10 (by omega)

theorem Adds.from_below {w w1 w2 : World} {base g n : Nat} {v : Value} {xs ys : List Int} {e : Ending} (hb : Below w.heap.size w w1) (h : Adds w1 base g v n xs ys e w2) : Adds w base g v n xs ys e w2 := by
  obtain ⟨he, v', h1, h2⟩ := h
  exact ⟨he, v', h1, (Mv.of_below hb).trans h2⟩

theorem Wr.below_of {w w' : World} {base g n : Nat} {v v' : Value} {xs : List Int} (h : Wr w base g v n xs) (k : Mv w w' g v v') : Below base w w' :=
  k.only.below (Nat.le_trans h.low (Nat.le_of_lt h.lt)) (fun i hi => by
    rcases hi with rfl | hi
    · exact h.low
    · exact (h.own.lt i hi).1)

set_option maxHeartbeats 800000 in
set_option maxRecDepth 100000 in
theorem number_any (base g n : Nat) (v : Value) (xs : List Int) (k : Int) (w : World) (hw : Wr w base g v n xs) (h2 : k ≤ 9223372036854775807) (hn : n + 10 ≤ 4398046511104) :
    Calls Try.prog 45 #[.pointer (some ⟨g, 0, none⟩), .int .i64 k] w (Adds w base g v n xs (num k)) := by
  have HW := Lib.hid hw
  have HK := Lib.hid h2
  clear hw h2
  have fin : ∀ (v1 : Value) (w1 : World), w1.ownsRow w.heap.size 5 1 v1 (put k.toNat).length ((put k.toNat).map (Value.int .u8)) → Below w.heap.size w w1 →
      Calls Try.prog 65 #[.pointer (some ⟨g, 0, none⟩), v1] w1 (Adds w base g v n xs (num k)) := by
    intro v1 w1 hown hb
    obtain ⟨A, c, rfl, hnil⟩ := own_nil hown
    have := num_len HK.out
    unfold num at this
    exact (add_any base g n v xs A _ c _ _ w1 (HW.out.below hb) (Row.of_own hown) hnil (by omega)).mono fun e w2 h => Adds.from_below hb h
  have FIN := Lib.hid fin
  clear fin
  go_enter Try.func45, Try.ntmps45
  by_cases hk : k < 0
  · have hm : max k 0 = 0 := by omega
    have HZ : Hid (k.toNat = 0) := by unfold Hid; omega
    go_wp2_with fail
    refine (put_any 0 (by omega) _).mono ?_
    rintro e1 w1 ⟨v1, rfl, hown, hb⟩
    rw [← HZ.out] at hown
    go_wp2_with fail
    refine (FIN.out v1 w1 hown hb).mono ?_
    rintro e2 w2 h
    obtain ⟨rfl, -⟩ := id h
    have H := Lib.hid h
    clear h
    go_wp2
    go_end0
    exact H.out
  · have hm : max k 0 = k := by omega
    have hku : IntKind.u64.wrap k = k := IntWalk.u64_in _ ⟨by omega, by have := HK.out; omega⟩
    have HZ : Hid (k = (k.toNat : Int)) := by unfold Hid; omega
    go_wp2_with fail
    have P := put_any k.toNat (by have := HK.out; omega) w
    rw [← HZ.out] at P
    refine P.mono ?_
    clear P
    rintro e1 w1 ⟨v1, rfl, hown, hb⟩
    go_wp2_with fail
    refine (FIN.out v1 w1 hown hb).mono ?_
    rintro e2 w2 h
    obtain ⟨rfl, -⟩ := id h
    have H := Lib.hid h
    clear h
    go_wp2
    go_end0
    exact H.out

/-- A signed number's field. -/
def sgn (k : Int) : List Int := put (turn k).toNat
theorem sgn_len {k : Int} (h1 : -9223372036854775808 ≤ k) (h2 : k ≤ 9223372036854775807) : (sgn k).length ≤ 10 := put_len10 (by have := turn_bd h1 h2; omega)

set_option maxHeartbeats 800000 in
set_option maxRecDepth 100000 in
theorem signed_any (base g n : Nat) (v : Value) (xs : List Int) (k : Int) (w : World) (hw : Wr w base g v n xs) (h1 : -9223372036854775808 ≤ k) (h2 : k ≤ 9223372036854775807) (hn : n + 10 ≤ 4398046511104) :
    Calls Try.prog 62 #[.pointer (some ⟨g, 0, none⟩), .int .i64 k] w (Adds w base g v n xs (sgn k)) := by
  have HW := Lib.hid hw
  have H1 := Lib.hid h1
  have H2 := Lib.hid h2
  have HT := Lib.hid (turn_bd h1 h2)
  clear hw h1 h2
  go_enter Try.func62, Try.ntmps62
  go_wp2_with fail
  refine (turn_any k H1.out H2.out _).mono ?_
  rintro e0 w0 ⟨rfl, rfl⟩
  have HZ : Hid (turn k = ((turn k).toNat : Int)) := by have := HT.out; unfold Hid; omega
  go_wp2_with fail
  have P := put_any (turn k).toNat (by have := HT.out; omega) w
  rw [← HZ.out] at P
  refine P.mono ?_
  clear P
  rintro e1 w1 ⟨v1, rfl, hown, hb⟩
  obtain ⟨A, c, rfl, hnil⟩ := own_nil hown
  have HO := Lib.hid hown
  have HB := Lib.hid hb
  have HNI := Lib.hid hnil
  clear hown hb hnil
  go_wp2_with fail
  refine (add_any base g n v xs A _ c _ _ w1 (HW.out.below HB.out) (Row.of_own HO.out) HNI.out (by have := sgn_len H1.out H2.out; unfold sgn at this; omega)).mono ?_
  rintro e2 w2 h
  obtain ⟨rfl, -⟩ := id h
  have H := Lib.hid h
  clear h
  go_wp2
  go_end0
  exact Adds.from_below HB.out H.out

set_option maxHeartbeats 800000 in
set_option maxRecDepth 100000 in
theorem number_nil (k : Nat) (hk : k ≤ 9223372036854775807) (w : World) : Calls Try.prog 45 #[.pointer none, .int .i64 (k : Int)] w fun e w' => e = .returned (.tuple #[]) ∧ Below w.heap.size w w' := by
  have hm : max (k : Int) 0 = k := by omega
  have hku : IntKind.u64.wrap (k : Int) = k := IntWalk.u64_in _ ⟨by omega, by omega⟩
  have HK := Lib.hid hk
  clear hk
  go_enter Try.func45, Try.ntmps45
  go_wp2_with fail
  refine (put_any k (by have := HK.out; omega) _).mono ?_
  rintro e1 w1 ⟨v1, rfl, -, hb⟩
  go_wp2_with fail
  refine (add_nil _ _).mono ?_
  rintro e2 w2 ⟨rfl, rfl⟩
  go_wp2
  go_end0
  exact ⟨rfl, hb⟩

set_option maxHeartbeats 800000 in
set_option maxRecDepth 100000 in
theorem out_any (base g n : Nat) (v : Value) (xs : List Int) (w : World) (hw : Wr w base g v n xs) (hn : n ≤ 4398046511104) :
    Calls Try.prog 46 #[.pointer (some ⟨g, 0, none⟩)] w fun e w' =>
      ∃ v', e = .returned v' ∧ w'.ownsRow w.heap.size 5 1 v' n (xs.map (Value.int .u8)) ∧ Below w.heap.size w w' := by
  have HW := Lib.hid hw
  have hc := cell_of_one hw.blk
  clear hw
  obtain ⟨A0, c0, rfl, hnil⟩ := own_nil HW.out.own
  have HN := Lib.hid hnil
  clear hnil
  go_enter Try.func46, Try.ntmps46
  go_wp2_with fail
  refine (clone_any A0 n c0 _ xs w (Row.of_own HW.out.own) (Nat.le_refl _) HN.out hn).mono ?_
  rintro e1 w1 ⟨v1, rfl, hown, hb⟩
  go_wp2
  go_ret
  exact ⟨v1, rfl, hown, hb⟩

set_option maxHeartbeats 800000 in
set_option maxRecDepth 100000 in
theorem out_nil (w : World) : Calls Try.prog 46 #[.pointer none] w fun e w' => e = .returned (.slice none 0 0) ∧ w = w' := by
  go_enter Try.func46, Try.ntmps46
  go_wp2
  go_ret
  exact ⟨rfl, rfl⟩

/-- The reference's: a row of its own. -/
def Makes (ys : List Int) (w : World) (e : Ending) (w' : World) : Prop :=
  ∃ v, e = .returned v ∧ w'.ownsRow w.heap.size 5 1 v ys.length (ys.map (Value.int .u8)) ∧ Below w.heap.size w w'

set_option maxHeartbeats 800000 in
set_option maxRecDepth 100000 in
theorem refnumber_any (k : Int) (h2 : k ≤ 9223372036854775807) (w : World) : Calls Try.prog 25 #[.int .i64 k] w (Makes (num k) w) := by
  have HK := Lib.hid h2
  clear h2
  by_cases hk : k < 0
  · have HZ : Hid (k.toNat = 0) := by unfold Hid; omega
    go_enter Try.func25, Try.ntmps25
    go_wp2_with fail
    refine (refput_any 0 (by omega) _).mono ?_
    rintro e1 w1 ⟨v1, rfl, hown, hb⟩
    rw [← HZ.out] at hown
    go_wp2
    go_ret
    exact ⟨v1, rfl, hown, hb⟩
  · have hku : IntKind.u64.wrap k = k := IntWalk.u64_in _ ⟨by omega, by have := HK.out; omega⟩
    have HZ : Hid (k = (k.toNat : Int)) := by unfold Hid; omega
    go_enter Try.func25, Try.ntmps25
    go_wp2_with fail
    have P := refput_any k.toNat (by have := HK.out; omega) w
    rw [← HZ.out] at P
    refine P.mono ?_
    clear P
    rintro e1 w1 ⟨v1, rfl, hown, hb⟩
    go_wp2
    go_ret
    exact ⟨v1, rfl, hown, hb⟩

set_option maxHeartbeats 800000 in
set_option maxRecDepth 100000 in
theorem refsigned_any (k : Int) (h1 : -9223372036854775808 ≤ k) (h2 : k ≤ 9223372036854775807) (w : World) : Calls Try.prog 47 #[.int .i64 k] w (Makes (sgn k) w) := by
  have H1 := Lib.hid h1
  have H2 := Lib.hid h2
  have HT := Lib.hid (turn_bd h1 h2)
  clear h1 h2
  go_enter Try.func47, Try.ntmps47
  go_wp2_with fail
  refine (refturn_any k H1.out H2.out _).mono ?_
  rintro e0 w0 ⟨rfl, rfl⟩
  have HZ : Hid (turn k = ((turn k).toNat : Int)) := by have := HT.out; unfold Hid; omega
  go_wp2_with fail
  have P := refput_any (turn k).toNat (by have := HT.out; omega) w
  rw [← HZ.out] at P
  refine P.mono ?_
  clear P
  rintro e1 w1 ⟨v1, rfl, hown, hb⟩
  go_wp2
  go_ret
  exact ⟨v1, rfl, hown, hb⟩

end Go.Proofs.Ytmpihllcmdgapaa.Fld

/- Plain mathematics of layer 3's Reader: what a field reads as; no program is named here. -/
namespace Go.Proofs.Ytmpihllcmdgapaa.Fld
open Var

/-- Is an absolute value above what may be? -/
def abv (n : Nat) (most : Int) : Bool := decide (most < 0) || decide (most < (n : Int)) || decide (4611686018427387904 < n)

theorem abv_no {n : Nat} {most : Int} (h : abv n most = false) : 0 ≤ most ∧ (n : Int) ≤ most ∧ n ≤ 4611686018427387904 := by
  unfold abv at h
  simp only [Bool.or_eq_false_iff, decide_eq_false_iff_not] at h
  omega

/-- The next number: its value, its size, the error. -/
def nxt (xs : List Int) (most : Int) : Int × Nat × Nat :=
  if (take 0 0 xs).2.2 ≠ 0 then (0, 0, (take 0 0 xs).2.2)
  else if abv (take 0 0 xs).1 most then (0, 0, 3)
  else ((take 0 0 xs).1, (take 0 0 xs).2.1, 0)

/-- The next signed number. -/
def nxs (xs : List Int) (most : Int) : Int × Nat × Nat :=
  if (take 0 0 xs).2.2 ≠ 0 then (0, 0, (take 0 0 xs).2.2)
  else if abv (back (take 0 0 xs).1).natAbs most then (0, 0, 3)
  else (back (take 0 0 xs).1, (take 0 0 xs).2.1, 0)

/-- The next byte. -/
def nxb : List Int → Int × Nat × Nat
  | [] => (0, 0, 10)
  | x :: _ => (x, 1, 0)

/-- The next bytes. -/
def nxl (xs : List Int) (most : Int) : List Int × Nat × Nat :=
  if (nxt xs most).2.2 ≠ 0 then ([], 0, (nxt xs most).2.2)
  else if (xs.length : Int) - (nxt xs most).2.1 < (nxt xs most).1 then ([], 0, 10)
  else ((xs.drop (nxt xs most).2.1).take (nxt xs most).1.toNat, (nxt xs most).2.1 + (nxt xs most).1.toNat, 0)

theorem take_lim : ∀ (xs : List Int) (i X : Nat), (∀ x ∈ xs, 0 ≤ x ∧ x ≤ 255) → X < 128 ^ i → i ≤ 9 → (take X i xs).1 < 18446744073709551616
  | [], i, X, _, _, _ => by simp [take]
  | c :: cs, i, X, hb, hX, hi => by
    have hc := hb c (by simp)
    have hcs : ∀ x ∈ cs, 0 ≤ x ∧ x ≤ 255 := fun x hx => hb x (by simp [hx])
    by_cases e1 : i = 9 ∧ 1 < c
    · simp [take, if_pos e1]
    have hm : c.toNat % 128 ≤ 127 := by omega
    have h1 : X + c.toNat % 128 * 128 ^ i < 128 ^ (i + 1) := by
      have := Nat.mul_le_mul_right (128 ^ i) hm
      rw [Nat.pow_succ]
      omega
    have h2 : X + c.toNat % 128 * 128 ^ i < 18446744073709551616 := by
      by_cases e : i = 9
      · subst e
        have hd : c.toNat % 128 ≤ 1 := by omega
        have := Nat.mul_le_mul_right (128 ^ 9) hd
        omega
      · have : 128 ^ (i + 1) ≤ 128 ^ 9 := Nat.pow_le_pow_right (by omega) (by omega)
        omega
    by_cases e2 : c < 128
    · by_cases e3 : c = 0 ∧ 0 < i
      · simp [take, if_pos e2, if_pos e3]
      · simp only [take, if_neg e1, if_pos e2, if_neg e3]
        exact h2
    · have hv : take X i (c :: cs) = take (X + c.toNat % 128 * 128 ^ i) (i + 1) cs := by simp [take, if_neg e1, if_neg e2]
      rw [hv]
      exact take_lim cs (i + 1) _ hcs h1 (by omega)

theorem take64 {xs : List Int} (hb : ∀ x ∈ xs, 0 ≤ x ∧ x ≤ 255) : (take 0 0 xs).1 < 18446744073709551616 := take_lim xs 0 0 hb (by simp) (by omega)
theorem take_size {xs : List Int} (hb : ∀ x ∈ xs, 0 ≤ x ∧ x ≤ 255) (h : (take 0 0 xs).2.2 = 0) : 0 < (take 0 0 xs).2.1 ∧ (take 0 0 xs).2.1 ≤ xs.length := by
  obtain ⟨m, _, _, h3, h4, _⟩ := put_take xs 0 0 hb h
  omega
theorem take_err (xs : List Int) (i X : Nat) : (take X i xs).2.2 = 0 ∨ (take X i xs).2.2 = 10 ∨ (take X i xs).2.2 = 11 := by
  induction xs generalizing i X with
  | nil => simp [take]
  | cons c cs ih =>
    simp only [take]
    split
    · simp
    · split
      · split <;> simp
      · exact ih _ _
theorem nxt_ok {xs : List Int} {most : Int} (hb : ∀ x ∈ xs, 0 ≤ x ∧ x ≤ 255) (h : (nxt xs most).2.2 = 0) : 0 < (nxt xs most).2.1 ∧ (nxt xs most).2.1 ≤ xs.length ∧ 0 ≤ (nxt xs most).1 ∧ (nxt xs most).1 ≤ 4611686018427387904 := by
  unfold nxt at h ⊢
  by_cases he : (take 0 0 xs).2.2 ≠ 0
  · rw [if_pos he] at h
    exact absurd h he
  · rw [if_neg he] at h ⊢
    cases ha : abv (take 0 0 xs).1 most with
    | true => rw [ha] at h; simp at h
    | false =>
      have h1 := abv_no ha
      have h2 := take_size hb (by omega)
      simp only [Bool.false_eq_true, if_false]
      omega
theorem nxs_ok {xs : List Int} {most : Int} (hb : ∀ x ∈ xs, 0 ≤ x ∧ x ≤ 255) (h : (nxs xs most).2.2 = 0) : 0 < (nxs xs most).2.1 ∧ (nxs xs most).2.1 ≤ xs.length := by
  unfold nxs at h ⊢
  by_cases he : (take 0 0 xs).2.2 ≠ 0
  · rw [if_pos he] at h
    exact absurd h he
  · rw [if_neg he] at h ⊢
    cases ha : abv (back (take 0 0 xs).1).natAbs most with
    | true => rw [ha] at h; simp at h
    | false =>
      have h2 := take_size hb (by omega)
      simp only [Bool.false_eq_true, if_false]
      omega
theorem nxb_ok {xs : List Int} (h : (nxb xs).2.2 = 0) : 0 < (nxb xs).2.1 ∧ (nxb xs).2.1 ≤ xs.length := by
  cases xs with
  | nil => simp [nxb] at h
  | cons x xs => simp [nxb]
theorem nxl_ok {xs : List Int} {most : Int} (hb : ∀ x ∈ xs, 0 ≤ x ∧ x ≤ 255) (h : (nxl xs most).2.2 = 0) : 0 < (nxl xs most).2.1 ∧ (nxl xs most).2.1 ≤ xs.length := by
  unfold nxl at h ⊢
  by_cases he : (nxt xs most).2.2 ≠ 0
  · rw [if_pos he] at h
    exact absurd h he
  · rw [if_neg he] at h ⊢
    obtain ⟨h1, h2, h3, _⟩ := nxt_ok (most := most) hb (by omega)
    by_cases hx : (xs.length : Int) - (nxt xs most).2.1 < (nxt xs most).1
    · rw [if_pos hx] at h
      simp at h
    · rw [if_neg hx]
      simp only
      omega
end Go.Proofs.Ytmpihllcmdgapaa.Fld

/- The Reader of layer 3 (field): what each function of it does, as contracts over the program. -/
namespace Go.Proofs.Ytmpihllcmdgapaa.Fld
open Go.RowKit Var

set_option maxRecDepth 100000 in
theorem above_any (n : Nat) (most : Int) (hn : n < 18446744073709551616) (h1 : -9223372036854775808 ≤ most) (h2 : most ≤ 9223372036854775807) (w : World) :
    Calls Try.prog 69 #[.int .u64 (n : Int), .int .i64 most] w fun e w' => e = .returned (.bool (abv n most)) ∧ w = w' := by
  have HN := Lib.hid hn
  have H1 := Lib.hid h1
  have H2 := Lib.hid h2
  clear hn h1 h2
  go_enter Try.func69, Try.ntmps69
  by_cases hm : most < 0
  · have hd : decide (most < 0) = true := decide_eq_true hm
    go_wp2
    go_ret
    refine ⟨?_, rfl⟩
    unfold abv
    rw [hd]
    rfl
  · have hd : decide (most < 0) = false := decide_eq_false hm
    by_cases hb : 4611686018427387904 < most
    · go_wp2
      go_ret
      refine ⟨?_, rfl⟩
      have : abv n most = decide (4611686018427387904 < (n : Int)) := by
        unfold abv
        rw [hd, Bool.false_or, ← Bool.decide_or]
        exact decide_eq_decide.2 (by omega)
      rw [this]
      rfl
    · have hw : IntKind.u64.wrap most = most := IntWalk.u64_in _ ⟨by omega, by omega⟩
      go_wp2
      go_ret
      refine ⟨?_, rfl⟩
      have : abv n most = decide (most < (n : Int)) := by
        unfold abv
        rw [hd, Bool.false_or, ← Bool.decide_or]
        exact decide_eq_decide.2 (by omega)
      rw [this]
      rfl

set_option maxRecDepth 100000 in
theorem absolute_any (k : Int) (h1 : -9223372036854775808 ≤ k) (h2 : k ≤ 9223372036854775807) (w : World) :
    Calls Try.prog 79 #[.int .i64 k] w fun e w' => e = .returned (.int .u64 (k.natAbs : Int)) ∧ w = w' := by
  by_cases hn : k < 0
  · go_enter Try.func79, Try.ntmps79
    go_wp2
    go_ret
    exact ⟨ret_int (by omega), rfl⟩
  · go_enter Try.func79, Try.ntmps79
    go_wp2
    go_ret
    exact ⟨ret_int (by omega), rfl⟩

/-- A tuple of a value, a size, an error. -/
def Tells (v : Value) (s e : Nat) : Ending := .returned (.tuple #[v, .int .i64 (s : Int), .int .i64 (e : Int)])

set_option maxHeartbeats 800000 in
set_option maxRecDepth 100000 in
theorem numb_any (A : Option Addr) (n c B : Nat) (xs : List Int) (most : Int) (w : World) (h : Row .u8 w B A n xs) (hb : ∀ x ∈ xs, 0 ≤ x ∧ x ≤ 255) (h1 : -9223372036854775808 ≤ most) (h2 : most ≤ 9223372036854775807) :
    Calls Try.prog 55 #[.slice A n c, .int .i64 most] w fun e w' => e = Tells (.int .i64 (nxt xs most).1) (nxt xs most).2.1 (nxt xs most).2.2 ∧ w = w' := by
  have H := Lib.hid h
  have HB := Lib.hid hb
  have H1 := Lib.hid h1
  have H2 := Lib.hid h2
  have H64 := Lib.hid (take64 hb)
  clear h hb h1 h2
  obtain ⟨t, HT⟩ : ∃ t, Hid (take 0 0 xs = t) := ⟨_, rfl⟩
  obtain ⟨x, s, er⟩ := t
  have HX : Hid (nxt xs most = if er ≠ 0 then (0, 0, er) else if abv x most then (0, 0, 3) else ((x : Int), s, 0)) := by unfold Hid nxt; rw [HT.out]
  go_enter Try.func55, Try.ntmps55
  go_wp2_with fail
  refine (take_any A n c B xs _ H.out HB.out).mono ?_
  rintro e1 w1 ⟨rfl, rfl⟩
  rw [HT.out]
  rw [HT.out] at H64
  by_cases he : er = 0
  · subst he
    go_wp2_with fail
    refine (above_any x most H64.out H1.out H2.out _).mono ?_
    rintro e2 w2 ⟨rfl, rfl⟩
    cases ha : abv x most with
    | true =>
      go_wp2
      go_ret3
      refine ⟨?_, rfl⟩
      rw [HX.out, ha]
      rfl
    | false =>
      have hx := (abv_no ha).2.2
      have hw : IntKind.i64.wrap (x : Int) = x := IntWalk.i64_in _ ⟨by omega, by omega⟩
      clear hx
      go_wp2
      go_ret3
      refine ⟨?_, rfl⟩
      rw [HX.out, ha]
      rfl
  · have hne : ((er : Int) == 0) = false := beq_eq_false_iff_ne.2 (by omega)
    go_wp2
    go_ret3
    refine ⟨?_, rfl⟩
    rw [HX.out, if_pos he]
    rfl

/-- A Reader behind a pointer: its block, what is left, the first error. -/
structure Rd (w : World) (g : Nat) (A : Option Addr) (n c : Nat) (e : Int) : Prop where
  blk : w.heap[g]? = some (.cells #[.bool true, .slice A n c, .int .i64 e] 82 (0, 0))

theorem Rd.c0 {w : World} {g n c : Nat} {A : Option Addr} {e : Int} (h : Rd w g A n c e) : w.cell? ⟨g, 0, none⟩ = some (.bool true) := cell_of_blk h.blk rfl
theorem Rd.c1 {w : World} {g n c : Nat} {A : Option Addr} {e : Int} (h : Rd w g A n c e) : w.cell? ⟨g, 1, none⟩ = some (.slice A n c) := cell_of_blk h.blk rfl
theorem Rd.c2 {w : World} {g n c : Nat} {A : Option Addr} {e : Int} (h : Rd w g A n c e) : w.cell? ⟨g, 2, none⟩ = some (.int .i64 e) := cell_of_blk h.blk rfl

set_option maxRecDepth 100000 in
theorem error_any (g n c : Nat) (A : Option Addr) (e : Int) (w : World) (h : Rd w g A n c e) :
    Calls Try.prog 29 #[.pointer (some ⟨g, 0, none⟩)] w fun r w' => r = .returned (.int .i64 e) ∧ w = w' := by
  have c0 := h.c0
  have c2 := h.c2
  clear h
  go_enter Try.func29, Try.ntmps29
  go_wp2
  go_ret
  exact ⟨rfl, rfl⟩

set_option maxRecDepth 100000 in
theorem error_nil (w : World) : Calls Try.prog 29 #[.pointer none] w fun r w' => r = .returned (.int .i64 1) ∧ w = w' := by
  go_enter Try.func29, Try.ntmps29
  go_wp2
  go_ret
  exact ⟨rfl, rfl⟩

/-- What a reading leaves: the Reader's cells, and nothing else turned. -/
def ReadsTo (w : World) (g : Nat) (A : Option Addr) (n c : Nat) (zero v : Value) (s er : Nat) (w1 : World) (r : Ending) (w' : World) : Prop :=
  (er = 0 → r = .returned v ∧ ∃ b o o', A = some ⟨b, o, none⟩ ∧ Rd w' g (some ⟨b, o', none⟩) (n - s) (c - s) 0 ∧ (n - s ≠ 0 → o' = o + s)) ∧ (er ≠ 0 → r = .returned zero ∧ Rd w' g A n c er) ∧ Only (fun k => k = g) w1 w' ∧ Below w.heap.size w w1

theorem Rd.below {w w1 : World} {g n c : Nat} {A : Option Addr} {e : Int} (h : Rd w g A n c e) (hb : Below w.heap.size w w1) : Rd w1 g A n c e :=
  ⟨(hb.block g (lt_of_block h.blk)).trans h.blk⟩

def Enters (fn : Nat) : Prop := ∀ (args : Array Value) (w : World), (callFunc fn args).run Try.prog w = .ok (.enter fn args) w

set_option maxHeartbeats 800000 in
set_option maxRecDepth 100000 in
theorem next_int (g n c : Nat) (A : Option Addr) (fn : Nat) (p : Value) (Q : Value → World → Prop) (s er : Nat) (w : World) (h : Rd w g A n c 0) (hnc : n ≤ c) (hs : er = 0 → 0 < s ∧ s ≤ n) (hA : 0 < n → ∃ b o, A = some ⟨b, o, none⟩) (hent : Enters fn)
    (how : Calls Try.prog fn #[.slice A n c, p] w fun e w' => ∃ v, e = Tells v s er ∧ Below w.heap.size w w' ∧ Q v w') :
    Calls Try.prog 53 #[.pointer (some ⟨g, 0, none⟩), .func (.func fn) #[] #[p]] w (fun r w' => ∃ v w1, Q v w1 ∧ ReadsTo w g A n c (.int .i64 0) v s er w1 r w') := by
  have HR := Lib.hid h
  have HH := Lib.hid how
  have HS := Lib.hid hs
  have HA := Lib.hid hA
  have c1 := h.c1
  have c2 := h.c2
  unfold Enters at hent
  clear h how hs hA
  go_enter Try.func53, Try.ntmps53
  go_wp2_with fail
  refine (error_any g n c A 0 w HR.out).mono ?_
  rintro e1 w1 ⟨rfl, rfl⟩
  go_wp2_with fail
  refine HH.out.mono ?_
  rintro e1 w1 ⟨v, rfl, hb1, hq⟩
  have HB := Lib.hid hb1
  have HQ := Lib.hid hq
  have HR1 := Lib.hid (HR.out.below hb1)
  have d1 := HR1.out.c1
  have f1 : w1.frozen? ⟨g, 1, none⟩ = false := free_of_blk HR1.out.blk
  have d2 := HR1.out.c2
  have f2 : w1.frozen? ⟨g, 2, none⟩ = false := free_of_blk HR1.out.blk
  clear hb1 c1 c2 hq
  unfold Tells
  by_cases he : er = 0
  · subst he
    obtain ⟨hs0, hsn⟩ := HS.out rfl
    obtain ⟨b, o, rfl⟩ := HA.out (by omega)
    by_cases hcs : c = s
    · have hz : n - s = 0 := by omega
      have hz' : c - s = 0 := by omega
      subst hcs
      go_wp2
      go_ret
      refine ⟨v, w1, HQ.out, fun _ => ⟨rfl, b, o, o, rfl, ⟨?_⟩, fun h => by omega⟩, fun h => absurd rfl h, Only.setCell _ ⟨g, 1, none⟩ _, HB.out⟩
      have := set_blk (u := .slice (some ⟨b, o, none⟩) (n - c) (c - c)) (j := 1) HR1.out.blk
      simpa [hz, hz'] using this
    · go_wp2
      go_ret
      refine ⟨v, w1, HQ.out, fun _ => ⟨rfl, b, o, o + s, rfl, ⟨set_blk HR1.out.blk⟩, fun _ => rfl⟩, fun h => absurd rfl h, Only.setCell _ ⟨g, 1, none⟩ _, HB.out⟩
  · have hne : ((er : Int) == 0) = false := beq_eq_false_iff_ne.2 (by omega)
    go_wp2
    go_ret
    refine ⟨v, w1, HQ.out, fun h => absurd h he, fun _ => ⟨rfl, ⟨set_blk HR1.out.blk⟩⟩, Only.setCell _ ⟨g, 2, none⟩ _, HB.out⟩

set_option maxHeartbeats 800000 in
set_option maxRecDepth 100000 in
theorem next_int_bad (g n c : Nat) (A : Option Addr) (e : Int) (fv : Value) (w : World) (h : Rd w g A n c e) (he : e ≠ 0) :
    Calls Try.prog 53 #[.pointer (some ⟨g, 0, none⟩), fv] w fun r w' => r = .returned (.int .i64 0) ∧ w = w' := by
  have HR := Lib.hid h
  have hne : (e == 0) = false := beq_eq_false_iff_ne.2 he
  clear h he
  go_enter Try.func53, Try.ntmps53
  go_wp2_with fail
  refine (error_any g n c A e w HR.out).mono ?_
  rintro e1 w1 ⟨rfl, rfl⟩
  go_wp2
  go_ret
  exact ⟨rfl, rfl⟩

set_option maxHeartbeats 800000 in
set_option maxRecDepth 100000 in
theorem next_int_nil (fv : Value) (w : World) :
    Calls Try.prog 53 #[.pointer none, fv] w fun r w' => r = .returned (.int .i64 0) ∧ w = w' := by
  go_enter Try.func53, Try.ntmps53
  go_wp2_with fail
  refine (error_nil w).mono ?_
  rintro e1 w1 ⟨rfl, rfl⟩
  go_wp2
  go_ret
  exact ⟨rfl, rfl⟩

end Go.Proofs.Ytmpihllcmdgapaa.Fld

/- The closures and the methods of layer 3's Reader, as contracts: each returns the next field, or nothing behind an error. -/
namespace Go.Proofs.Ytmpihllcmdgapaa.Fld
open Go.RowKit Var

theorem Row.drop {k : IntKind} {w : World} {B b o o' n s : Nat} {xs : List Int} (h : Row k w B (some ⟨b, o, none⟩) n xs) (ho : n - s ≠ 0 → o' = o + s) : Row k w B (some ⟨b, o', none⟩) (n - s) (xs.drop s) := by
  refine ⟨by rw [List.length_drop, h.1], fun hn => ?_⟩
  obtain ⟨b1, o1, e, hb, hc⟩ := h.2 (by omega)
  injection e with e
  injection e with e1 e2
  subst e1 e2
  refine ⟨b, o', rfl, hb, fun j hj => ?_⟩
  rw [ho (by omega), Nat.add_assoc, hc (s + j) (by omega)]
  have hl := h.1
  simp [List.getD, List.getElem?_drop]

theorem Row.take_ {k : IntKind} {w : World} {B n m : Nat} {A : Option Addr} {xs : List Int} (h : Row k w B A n xs) (hm : m ≤ n) : Row k w B A m (xs.take m) := by
  refine ⟨by rw [List.length_take, h.1]; omega, fun hn => ?_⟩
  obtain ⟨b, o, e, hb, hc⟩ := h.2 (by omega)
  refine ⟨b, o, e, hb, fun j hj => ?_⟩
  rw [hc j (by omega)]
  simp [List.getD, hj]

theorem Row.some_of {k : IntKind} {w : World} {B n : Nat} {A : Option Addr} {xs : List Int} (h : Row k w B A n xs) (hn : 0 < n) : ∃ b o, A = some ⟨b, o, none⟩ := by
  obtain ⟨b, o, e, _⟩ := h.2 hn
  exact ⟨b, o, e⟩

/-- A Reader: what is left of its bytes, and its first error. -/
structure Rdr (w : World) (g : Nat) (xs : List Int) (e : Nat) : Prop where
  ex : ∃ A n c, Rd w g A n c e ∧ Row .u8 w g A n xs ∧ n ≤ c ∧ (A = none → c = 0)
  byt : ∀ x ∈ xs, 0 ≤ x ∧ x ≤ 255

theorem Rdr.lt {w : World} {g e : Nat} {xs : List Int} (h : Rdr w g xs e) : g < w.heap.size := by
  obtain ⟨A, n, c, h1, _⟩ := h.ex
  exact lt_of_block h1.blk
theorem Rdr.only {M : Nat → Prop} {w w' : World} {g e : Nat} {xs : List Int} (h : Rdr w g xs e) (ho : Only M w w') (hM : ∀ k, k ≤ g → ¬ M k) : Rdr w' g xs e := by
  obtain ⟨A, n, c, h1, h2, h3, h4⟩ := h.ex
  have hg := h.lt
  exact ⟨⟨A, n, c, ⟨ho.at h1.blk (hM g (Nat.le_refl _))⟩, ho.row h2 (Nat.le_of_lt hg) (fun b _ _ hb => hM b (by omega)), h3, h4⟩, h.byt⟩
theorem Rdr.below {w w' : World} {g e : Nat} {xs : List Int} (h : Rdr w g xs e) (hb : Below w.heap.size w w') : Rdr w' g xs e :=
  h.only (M := fun _ => False) (Only.of_below hb) (fun _ _ h => h)

/-- What a step of the Reader leaves. -/
def after (xs : List Int) (e s er : Nat) : List Int × Nat := if e ≠ 0 then (xs, e) else if er ≠ 0 then (xs, er) else (xs.drop s, 0)

theorem reads_ok {w w2 w1 w' : World} {g n c s er : Nat} {A : Option Addr} {xs : List Int} {zero v : Value} {r : Ending} (h1 : Rd w g A n c 0) (h2 : Row .u8 w g A n xs) (h3 : n ≤ c) (h4 : A = none → c = 0) (hbyt : ∀ x ∈ xs, 0 ≤ x ∧ x ≤ 255)
    (hb2 : Below w.heap.size w w2) (h : ReadsTo w2 g A n c zero v s er w1 r w') : r = .returned (if er ≠ 0 then zero else v) ∧ Rdr w' g (after xs 0 s er).1 (after xs 0 s er).2 ∧ Only (fun k => k = g) w w' := by
  obtain ⟨ok, bad, ho, hb⟩ := h
  have hO : Only (fun k => k = g) w w' := ((Only.of_below (hb2.trans (hb.mono hb2.size)) : Only (fun k => k = g) w w1)).trans ho (fun _ _ h => h)
  have hlt : g < w.heap.size := lt_of_block h1.blk
  have hr : Row .u8 w' g A n xs := hO.row h2 (Nat.le_of_lt hlt) (fun b _ _ hb e => by omega)
  by_cases he : er = 0
  · obtain ⟨hv, b, o, o', rfl, hrd, hoo⟩ := ok he
    refine ⟨by simp [he, hv], ?_, hO⟩
    have : after xs 0 s er = (xs.drop s, 0) := by unfold after; simp [he]
    rw [this]
    exact ⟨⟨_, _, _, hrd, Row.drop hr hoo, by omega, fun h => by cases h⟩, fun x hx => hbyt x (List.mem_of_mem_drop hx)⟩
  · obtain ⟨hv, hrd⟩ := bad he
    refine ⟨by simp [he, hv], ?_, hO⟩
    have : after xs 0 s er = (xs, er) := by unfold after; simp [he]
    rw [this]
    exact ⟨⟨_, _, _, hrd, hr, h3, h4⟩, hbyt⟩

theorem ent_number : Enters 54 := fun _ _ => rfl
theorem ent_signed : Enters 77 := fun _ _ => rfl
set_option maxHeartbeats 800000 in
set_option maxRecDepth 100000 in
theorem how_number (A : Option Addr) (n c B mb : Nat) (xs : List Int) (most : Int) (w : World) (h : Row .u8 w B A n xs) (hb : ∀ x ∈ xs, 0 ≤ x ∧ x ≤ 255) (h1 : -9223372036854775808 ≤ most) (h2 : most ≤ 9223372036854775807) (hm : w.cell? ⟨mb, 0, none⟩ = some (.int .i64 most)) :
    Calls Try.prog 54 #[.slice A n c, .pointer (some ⟨mb, 0, none⟩)] w fun e w' =>
      ∃ v, e = Tells v (nxt xs most).2.1 (nxt xs most).2.2 ∧ Below w.heap.size w w' ∧ v = .int .i64 (nxt xs most).1 := by
  have H := Lib.hid h
  have HB := Lib.hid hb
  have H1 := Lib.hid h1
  have H2 := Lib.hid h2
  clear h hb h1 h2
  go_enter Try.func54, Try.ntmps54
  go_wp2_with fail
  refine (numb_any A n c B xs most w H.out HB.out H1.out H2.out).mono ?_
  rintro e1 w1 ⟨rfl, rfl⟩
  unfold Tells
  go_wp2
  go_ret3
  exact ⟨_, rfl, Below.refl _ _, rfl⟩

theorem same_flip {P : Program} {f : FuncId} {args : Array Value} {w : World} {v : Value} (h : Calls P f args w fun e w' => e = .returned v ∧ w = w') : Calls P f args w fun e w' => e = .returned v ∧ w' = w := h.mono fun _ _ ⟨a, b⟩ => ⟨a, b.symm⟩

set_option maxHeartbeats 800000 in
set_option maxRecDepth 100000 in
theorem how_signed (A : Option Addr) (n c B mb : Nat) (xs : List Int) (most : Int) (w : World) (h : Row .u8 w B A n xs) (hb : ∀ x ∈ xs, 0 ≤ x ∧ x ≤ 255) (h1 : -9223372036854775808 ≤ most) (h2 : most ≤ 9223372036854775807) (hm : w.cell? ⟨mb, 0, none⟩ = some (.int .i64 most)) :
    Calls Try.prog 77 #[.slice A n c, .pointer (some ⟨mb, 0, none⟩)] w fun e w' =>
      ∃ v, e = Tells v (nxs xs most).2.1 (nxs xs most).2.2 ∧ Below w.heap.size w w' ∧ v = .int .i64 (nxs xs most).1 := by
  have H := Lib.hid h
  have HB := Lib.hid hb
  have H1 := Lib.hid h1
  have H2 := Lib.hid h2
  have H64 := Lib.hid (take64 hb)
  clear h hb h1 h2
  obtain ⟨t, HT⟩ : ∃ t, Hid (take 0 0 xs = t) := ⟨_, rfl⟩
  obtain ⟨x, s, er⟩ := t
  have HX : Hid (nxs xs most = if er ≠ 0 then (0, 0, er) else if abv (back x).natAbs most then (0, 0, 3) else (back x, s, 0)) := by unfold Hid nxs; rw [HT.out]
  go_enter Try.func77, Try.ntmps77
  go_wp2_with fail
  refine (take_any A n c B xs _ H.out HB.out).mono ?_
  rintro e1 w1 ⟨rfl, rfl⟩
  rw [HT.out]
  rw [HT.out] at H64
  by_cases he : er = 0
  · subst he
    go_wp2_with fail
    refine (back_any x (by omega) (by have := H64.out; omega) _).mono ?_
    rintro e2 w2 ⟨rfl, rfl⟩
    have HBK := Lib.hid (back_bd (m := (x : Int)) (by omega) (by have := H64.out; omega))
    go_wp2_with fail
    go_quiet (first | (go_at_call 79; refine Calls.quiet_of_same (same_flip (absolute_any (back x) HBK.out.1 HBK.out.2 _))) | (go_at_call 69; refine Calls.quiet_of_same (same_flip (above_any (back x).natAbs most (by have := HBK.out; omega) H1.out H2.out _))))
    cases ha : abv (back x).natAbs most with
    | true =>
      go_wp2
      go_ret3
      refine ⟨.int .i64 0, ?_, ?_, ?_⟩
      · rw [HX.out, ha]; rfl
      · exact ⟨rfl, rfl, rfl, Nat.le_refl _, fun _ _ => rfl⟩
      · rw [HX.out, ha]; rfl
    | false =>
      go_wp2
      go_ret3
      refine ⟨.int .i64 (back x), ?_, ?_, ?_⟩
      · rw [HX.out, ha]; rfl
      · exact ⟨rfl, rfl, rfl, Nat.le_refl _, fun _ _ => rfl⟩
      · rw [HX.out, ha]; rfl
  · have hne : ((er : Int) == 0) = false := beq_eq_false_iff_ne.2 (by omega)
    go_wp2
    go_ret3
    refine ⟨.int .i64 0, ?_, Below.refl _ _, ?_⟩
    · rw [HX.out, if_pos he]; rfl
    · rw [HX.out, if_pos he]

end Go.Proofs.Ytmpihllcmdgapaa.Fld

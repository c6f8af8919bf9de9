/- Over any program: append of one struct, told in which block the row lies behind it; clear of a piece of a row whose zero is one value. -/
import Derived.Test.YthhnemanaciikaaRecM
import Derived.Test.YthhnemanaciikaaOwn
namespace Go.Proofs.Ythhnemanaciikaa.Rec
open Go.RowKit

section
variable {α : Type}
/-- As push_rec, and the row lies where it lay or in a new block. -/
theorem push_mine {P : Program} {ops : Array Oper} {rest : List Oper} {o : Oper} {a : Act} {Q : Exit → Act → World → Prop} {w : World} (S : Shape α) (hgd : o.guard = none) (s x : Operand) (t : TypeId)
    (ho : o.op = .call { callee := .builtin .append, args := #[s, x], argTypes := #[t, t] })
    (base : Nat) (e : TypeId) (i : TypeInfo) (z : Value) (bytes : Nat) (ht : P.underlying t = some (.slice e)) (hi : P.info? e = some i) (hz : i.zero = some z) (hz2 : z.cells.size = S.c) (hsize : i.size = S.c) (hby : i.bytes = bytes)
    (v : Value) (n : Nat) (l : List α) (hs : a.eval s = v) (hown : w.ownsRow base e S.c v n (S.flat l)) (ad : Addr) (y : α) (hx : a.eval x = .slice (some ad) 1 1) (hy : ∀ j u, (S.f y)[j]? = some u → w.cell? (ad.add j) = some u)
    (hn : n + 1 ≤ 1099511627776) (hb8 : bytes ≤ 100) (hbase : base ≤ w.heap.size)
    (h : ∀ v' w', w'.ownsRow base e S.c v' (n + 1) (S.flat (l ++ [y])) → w.grownBy w' v.ownBlock → (v'.ownBlock = v.ownBlock ∨ v'.ownBlock = some w.heap.size) → wpList P ops Q rest (a.put o.dst v') w') :
    wpList P ops Q (o :: rest) a w := by
  have hl : (S.f y).length = 1 * S.c := by rw [S.len]; omega
  have h63 : n + 1 ≤ maxLen := by unfold maxLen; omega
  have hbb : (n + 1) * bytes ≤ 140737488355328 := by have := Nat.mul_le_mul hn hb8; omega
  obtain ⟨v', w', hrun, h2, h3, _⟩ := run_append_own (P := P) w base t o.type e i z S.c bytes ht hi hz hsize hby hz2 S.pos v n _ hown ad 1 1 _ hl hy (S.one y) h63 hbb hbase
  have h5 := append_lies (P := P) w base t o.type e i z S.c bytes ht hi hz hsize hby v n _ hown ad 1 1 _ hl hy (S.one y) h63 hbb v' w' hrun
  refine wpList_plain hgd fun K hK => ?_
  unfold Oper.wp execOp
  simp only [ho, resolve, invoke, builtin, Sem.run_bind, Sem.run_pure, Result.andThen_ok, List.map_toArray, List.map_cons, List.map_nil, hs, hx, hrun]
  exact hK _ _ (h v' w' (by rw [flat_snoc]; exact h2) h3 h5)
/-- The same, as the run of append. -/
theorem run_added {P : Program} (w : World) (S : Shape α) (t ty : TypeId) (base : Nat) (e : TypeId) (i : TypeInfo) (z : Value) (bytes : Nat) (ht : P.underlying t = some (.slice e)) (hi : P.info? e = some i) (hz : i.zero = some z) (hz2 : z.cells.size = S.c) (hsize : i.size = S.c) (hby : i.bytes = bytes)
    (v : Value) (n : Nat) (l : List α) (hown : w.ownsRow base e S.c v n (S.flat l)) (ad : Addr) (y : α) (hy : ∀ j u, (S.f y)[j]? = some u → w.cell? (ad.add j) = some u)
    (hn : n + 1 ≤ 1099511627776) (hb8 : bytes ≤ 100) (hbase : base ≤ w.heap.size) :
    ∃ v' w', (Builtin.append_ #[t, t] ty #[v, .slice (some ad) 1 1]).run P w = .ok v' w' ∧ w'.ownsRow base e S.c v' (n + 1) (S.flat (l ++ [y])) ∧ w.grownBy w' v.ownBlock ∧ (v'.ownBlock = v.ownBlock ∨ v'.ownBlock = some w.heap.size) := by
  have hl : (S.f y).length = 1 * S.c := by rw [S.len]; omega
  have h63 : n + 1 ≤ maxLen := by unfold maxLen; omega
  have hbb : (n + 1) * bytes ≤ 140737488355328 := by have := Nat.mul_le_mul hn hb8; omega
  obtain ⟨v', w', hrun, h2, h3, _⟩ := run_append_own (P := P) w base t ty e i z S.c bytes ht hi hz hsize hby hz2 S.pos v n _ hown ad 1 1 _ hl hy (S.one y) h63 hbb hbase
  exact ⟨v', w', hrun, by rw [flat_snoc]; exact h2, h3, append_lies (P := P) w base t ty e i z S.c bytes ht hi hz hsize hby v n _ hown ad 1 1 _ hl hy (S.one y) h63 hbb v' w' hrun⟩
/-- 'clear(s)' of a piece of it. -/
theorem run_clear_of {P : Program} (w : World) (t elem ty : TypeId) (S : Shape α) (z : α) (zv : Value) (ht : P.underlying t = some (.slice elem)) (hv : ∀ w, (zeroValue elem).run P w = .ok zv w) (hcl : zv.cells = (S.f z).toArray)
    (base : Nat) (e : TypeId) (g cap i n c o : Nat) (hoff : o = i * S.c) (L : List α) (hg : Hold S w base e g cap L) (hn : 0 < n) (hfit : i + n ≤ cap) :
    (Builtin.clear_ #[t] ty #[.slice (some ⟨g, o, none⟩) n c]).run P w = .ok (.tuple #[]) (w.setCells g (i * S.c) (S.flat (List.replicate n z))) := by
  subst hoff
  have hm : i * S.c + n * S.c ≤ cap * S.c := by rw [← Nat.add_mul]; exact Nat.mul_le_mul_right _ hfit
  have hst := run_storeCells_cells (P := P) g (i * S.c) (S.flat (List.replicate n z)) 0 w (fun j hj => by rw [flat_len, List.length_replicate] at hj; exact hg.some_ (by omega)) (fun j _ => hg.free _) (flat_one _)
  rw [flat_replicate] at hst ⊢
  obtain ⟨m, rfl⟩ : ∃ m, n = m + 1 := ⟨n - 1, by omega⟩
  simp only [Nat.add_zero] at hst
  simp [Builtin.clear_, run_underlying ht, hv, hcl, hst]
end
end Go.Proofs.Ythhnemanaciikaa.Rec

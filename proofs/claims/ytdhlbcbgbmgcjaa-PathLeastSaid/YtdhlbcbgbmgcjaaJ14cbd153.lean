/- Lemmas that the proof stands on, in build order: Cat. -/
import Derived.Test.YtdhlbcbgbmgcjaaJ1a85310
/- Appends as steps of a region that draws, over any program: what is told of the block, and that what was read before still reads so. -/
namespace Go.Proofs.Ytdhlbcbgbmgcjaa
open Go.RowKit

/-- Behind an append the old address still reads what it read. -/
theorem append_keeps {P : Program} (w : World) (base : Nat) (t ty e : TypeId) (i : TypeInfo) (z : Value) (bytes : Nat) (ht : P.underlying t = some (.slice e)) (hi : P.info? e = some i) (hz : i.zero = some z)
    (hsize : i.size = 1) (hby : i.bytes = bytes)
    (v : Value) (n : Nat) (xs : List Value) (hown : w.ownsRow base e 1 v n xs)
    (a : Addr) (m c : Nat) (news : List Value) (hl : news.length = m * 1) (hnews : ∀ j u, news[j]? = some u → w.cell? (a.add j) = some u) (h1 : ∀ u ∈ news, u.oneCell' = true)
    (h63 : n + m ≤ maxLen) (hbytes : (n + m) * bytes ≤ 140737488355328) (v' : Value) (w' : World)
    (hrun : (Builtin.append_ #[t, t] ty #[v, .slice (some a) m c]).run P w = .ok v' w') (hown' : w'.ownsRow base e 1 v' (n + m) (xs ++ news)) :
    ∀ g n' c', v = .slice (some ⟨g, 0, none⟩) n' c' → ∀ j u, xs[j]? = some u → w'.cell? ⟨g, j, none⟩ = some u := by
  intro g n' c' hv j u hj
  subst hby
  have hsmall : n + m ≤ 9223372036854775807 := by simp only [maxLen] at h63; omega
  rcases hown.2 with ⟨h0, _⟩ | ⟨g', cap, cur, hv', hbg, hg, hnc, hcm, hcs, htake⟩
  · rw [h0] at hv; cases hv
  · rw [hv'] at hv
    injection hv with hv1 _ _
    injection hv1 with hv1
    injection hv1 with hv1 _
    subst hv1
    subst hv'
    have hadd : (⟨g', 0, none⟩ : Addr).add j = ⟨g', j, none⟩ := by unfold Addr.add; split <;> simp_all
    by_cases hroom : n + m ≤ cap
    · have hfit : n * i.size + news.length ≤ cur.size := by rw [hl, hcs, hsize, ← Nat.add_mul]; exact Nat.mul_le_mul_right _ hroom
      have hr := run_append_room (P := P) w t ty e i ht hi g' n cap cur hg a m c news (by rw [hsize]; exact hl) hnews h1 hroom hfit
      rw [hr] at hrun
      injection hrun with e1 e2
      rw [← e1] at hown'
      have := hown'.cells (g := g') rfl j u (by rw [List.getElem?_append_left (List.getElem?_eq_some_iff.1 hj).1]; exact hj)
      rwa [hadd] at this
    · have holds : ∀ j u, xs[j]? = some u → w.cell? ((⟨g', 0, none⟩ : Addr).add j) = some u := hown.cells (g := g') rfl
      have hr := run_append_grow (P := P) w t ty e i z ht hi hz ⟨g', 0, none⟩ n cap xs (by rw [hsize]; exact hown.1) holds a m c news (by rw [hsize]; exact hl) hnews (by omega) (by omega) (growslice_fits (by omega) hbytes)
      rw [hr] at hrun
      injection hrun with e1 e2
      rw [← e2]
      have hb : Below w.heap.size w (w.drew.alloc (.cells (xs.toArray ++ news.toArray ++ Builtin.zeroCells z.cells (grownCap w (n + m) cap e - (n + m))) e)) := ((Below.refl _ w).drew).alloc (Nat.le_refl _) _
      have := holds j u hj
      rw [hadd] at this
      exact (hb.cell (p := ⟨g', j, none⟩) (Array.getElem?_eq_some_iff.1 hg).1).trans this

/-- 'append(out, y)' of a literal of one number, as a step of a region that draws: out is nil or one's own. -/
theorem step_push {P : Program} {ops : Array Oper} {o : Oper} {a : Act} {K : Act → World → Prop} {Q : Exit → Act → World → Prop} {E : Prop} {w0 : World} {y : Int} {k : IntKind} {e : TypeId} (hgd : o.guard = none) (s x : Operand) (t : TypeId)
    (ho : o.op = .call { callee := .builtin .append, args := #[s, x], argTypes := #[t, t] })
    (base : Nat) (i : TypeInfo) (bytes : Nat) (ht : P.underlying t = some (.slice e)) (hi : P.info? e = some i) (hz : i.zero = some (.int k 0)) (hsize : i.size = 1) (hby : i.bytes = bytes)
    (v : Value) (n : Nat) (xs : List Int) (hs : a.eval s = v) (hown0 : w0.ownsRow base e 1 v n (xs.map (Value.int k))) (hx : a.eval x = .slice (some ⟨w0.heap.size, 0, none⟩) 1 1)
    (hn : n + 1 ≤ 4398046511104) (hb8 : bytes ≤ 8) (hbase : base ≤ w0.heap.size)
    (h : ∀ v' w', w'.ownsRow base e 1 v' (n + 1) ((xs ++ [y]).map (Value.int k)) → Below base w0 w' → (∀ i, i < w0.heap.size → v.ownBlock ≠ some i → w'.heap[i]? = w0.heap[i]?) → (∀ g n' c', v = .slice (some ⟨g, 0, none⟩) n' c' → ∀ j u, (xs.map (Value.int k))[j]? = some u → w'.cell? ⟨g, j, none⟩ = some u) → K (a.put o.dst v') w') :
    if Region.wanted o (yielded ops a.tmps) = true then Oper.wp P o a (w0.alloc (.cells #[.int k y] e)) K Q else E := by
  have hw : Region.wanted o (yielded ops a.tmps) = true := by simp [Region.wanted, hgd]
  rw [if_pos hw]
  have hown : (w0.alloc (.cells #[.int k y] e)).ownsRow base e 1 v n (xs.map (Value.int k)) := hown0.alloc _
  have hnews : ∀ j u, ([Value.int k y])[j]? = some u → (w0.alloc (.cells #[.int k y] e)).cell? ((⟨w0.heap.size, 0, none⟩ : Addr).add j) = some u := by
    intro j u hj
    match j, hj with
    | 0, hj => simp at hj; subst hj; simp [Addr.add]
  have h1 : ∀ u ∈ [Value.int k y], u.oneCell' = true := by intro u hu; simp at hu; subst hu; rfl
  have h63 : n + 1 ≤ maxLen := by unfold maxLen; omega
  have hbb : (n + 1) * bytes ≤ 140737488355328 := by have := Nat.mul_le_mul hn hb8; omega
  have hbase' : base ≤ (w0.alloc (.cells #[.int k y] e)).heap.size := by simp; omega
  obtain ⟨v', w', hrun, h2, h3, _⟩ := run_append_own (P := P) (w0.alloc (.cells #[.int k y] e)) base t o.type e i (.int k 0) 1 bytes ht hi hz hsize hby rfl (by omega) v n _ hown ⟨w0.heap.size, 0, none⟩ 1 1 _ rfl hnews h1 h63 hbb hbase'
  have h5 := append_keeps (P := P) (w0.alloc (.cells #[.int k y] e)) base t o.type e i (.int k 0) bytes ht hi hz hsize hby v n _ hown ⟨w0.heap.size, 0, none⟩ 1 1 _ rfl hnews h1 h63 hbb v' w' hrun h2
  unfold Oper.wp execOp
  simp only [ho, resolve, invoke, builtin, Sem.run_bind, Sem.run_pure, Result.andThen_ok, List.map_toArray, List.map_cons, List.map_nil, hs, hx, hrun]
  refine h v' w' (by simpa using h2) (((Below.refl _ _).alloc hbase _).grown h3 hbase' (fun j hj => (hown.lt j hj).1)) (fun i hi hne => ?_) h5
  exact (h3.block i (by simp; omega) (fun e => hne e.symm)).trans (((Below.refl w0.heap.size w0).alloc (Nat.le_refl _) _).block i hi)

/-- 'append(out, y1, y2, ..)' of a literal of numbers, as a step of a region that draws: out is nil or one's own. -/
theorem step_lit {P : Program} {ops : Array Oper} {o : Oper} {a : Act} {K : Act → World → Prop} {Q : Exit → Act → World → Prop} {E : Prop} {w0 : World} {cs : Array Value} {k : IntKind} {e : TypeId} (hgd : o.guard = none) (s x : Operand) (t : TypeId)
    (ho : o.op = .call { callee := .builtin .append, args := #[s, x], argTypes := #[t, t] })
    (base : Nat) (i : TypeInfo) (bytes : Nat) (ht : P.underlying t = some (.slice e)) (hi : P.info? e = some i) (hz : i.zero = some (.int k 0)) (hsize : i.size = 1) (hby : i.bytes = bytes)
    (v : Value) (n : Nat) (xs : List Int) (hs : a.eval s = v) (hown0 : w0.ownsRow base e 1 v n (xs.map (Value.int k))) (m : Nat) (ys : List Int) (hx : a.eval x = .slice (some ⟨w0.heap.size, 0, none⟩) m m) (hm : ys.length = m) (hcs : cs = (ys.map (Value.int k)).toArray)
    (hn : n + m ≤ 4398046511104) (hb8 : bytes ≤ 8) (hbase : base ≤ w0.heap.size)
    (h : ∀ v' w', w'.ownsRow base e 1 v' (n + m) ((xs ++ ys).map (Value.int k)) → Below base w0 w' → K (a.put o.dst v') w') :
    if Region.wanted o (yielded ops a.tmps) = true then Oper.wp P o a (w0.alloc (.cells cs e)) K Q else E := by
  have hw : Region.wanted o (yielded ops a.tmps) = true := by simp [Region.wanted, hgd]
  rw [if_pos hw]
  subst hcs
  have hown : (w0.alloc (.cells (ys.map (Value.int k)).toArray e)).ownsRow base e 1 v n (xs.map (Value.int k)) := hown0.alloc _
  have hnews : ∀ j u, (ys.map (Value.int k))[j]? = some u → (w0.alloc (.cells (ys.map (Value.int k)).toArray e)).cell? ((⟨w0.heap.size, 0, none⟩ : Addr).add j) = some u := by
    intro j u hj
    have hadd : (⟨w0.heap.size, 0, none⟩ : Addr).add j = ⟨w0.heap.size, j, none⟩ := by unfold Addr.add; split <;> simp_all
    rw [hadd]
    exact cell_of_blk (heap_alloc_new w0 _) (by simpa using hj)
  have h1 : ∀ u ∈ ys.map (Value.int k), u.oneCell' = true := by
    intro u hu
    obtain ⟨y, _, rfl⟩ := List.mem_map.1 hu
    rfl
  have h63 : n + m ≤ maxLen := by unfold maxLen; omega
  have hbb : (n + m) * bytes ≤ 140737488355328 := by have := Nat.mul_le_mul hn hb8; omega
  have hbase' : base ≤ (w0.alloc (.cells (ys.map (Value.int k)).toArray e)).heap.size := by simp; omega
  obtain ⟨v', w', hrun, h2, h3, _⟩ := run_append_own (P := P) (w0.alloc (.cells (ys.map (Value.int k)).toArray e)) base t o.type e i (.int k 0) 1 bytes ht hi hz hsize hby rfl (by omega) v n _ hown ⟨w0.heap.size, 0, none⟩ m m _ (by simp [hm]) hnews h1 h63 hbb hbase'
  unfold Oper.wp execOp
  simp only [ho, resolve, invoke, builtin, Sem.run_bind, Sem.run_pure, Result.andThen_ok, List.map_toArray, List.map_cons, List.map_nil, hs, hx, hrun]
  exact h v' w' (by simpa using h2) (((Below.refl _ _).alloc hbase _).grown h3 hbase' (fun j hj => (hown.lt j hj).1))

/-- 'append(out, y1, y2, ..)' of a literal of numbers, in plain code: out is nil or one's own. -/
theorem lit_own {P : Program} {ops : Array Oper} {rest : List Oper} {o : Oper} {a : Act} {Q : Exit → Act → World → Prop} {w : World} {cs : Array Value} (hgd : o.guard = none) (s x : Operand) (t : TypeId)
    (ho : o.op = .call { callee := .builtin .append, args := #[s, x], argTypes := #[t, t] })
    (base : Nat) (e : TypeId) (i : TypeInfo) (k : IntKind) (bytes : Nat) (ht : P.underlying t = some (.slice e)) (hi : P.info? e = some i) (hz : i.zero = some (.int k 0)) (hsize : i.size = 1) (hby : i.bytes = bytes)
    (v : Value) (n : Nat) (xs : List Int) (hs : a.eval s = v) (hown : w.ownsRow base e 1 v n (xs.map (Value.int k))) (m : Nat) (ys : List Int) (hx : a.eval x = .slice (some ⟨w.heap.size, 0, none⟩) m m) (hm : ys.length = m) (hcs : cs = (ys.map (Value.int k)).toArray)
    (hn : n + m ≤ 4398046511104) (hb8 : bytes ≤ 8) (hbase : base ≤ w.heap.size)
    (h : ∀ v' w', w'.ownsRow base e 1 v' (n + m) ((xs ++ ys).map (Value.int k)) → Below base w w' → wpList P ops Q rest (a.put o.dst v') w') :
    wpList P ops Q (o :: rest) a (w.alloc (.cells cs e)) := by
  subst hcs
  refine cat_own hgd s x t ho base e i k bytes ht hi hz hsize hby v n xs hs (hown.alloc _) (w.heap.size + 1) (some ⟨w.heap.size, 0, none⟩) m m ys hx (fun h => by cases h) ⟨hm, fun _ => ⟨w.heap.size, 0, rfl, by omega, fun j hj => ?_⟩⟩ hn hb8 (by simp; omega) (fun v' w' h1 h2 => h v' w' h1 (((Below.refl _ _).alloc hbase _).trans h2))
  rw [Nat.zero_add]
  refine cell_of_blk (heap_alloc_new w _) ?_
  rw [List.getElem?_toArray, List.getElem?_map, List.getElem?_eq_getElem (by omega)]
  simp [List.getD, List.getElem?_eq_getElem (show j < ys.length by omega)]
end Go.Proofs.Ytdhlbcbgbmgcjaa

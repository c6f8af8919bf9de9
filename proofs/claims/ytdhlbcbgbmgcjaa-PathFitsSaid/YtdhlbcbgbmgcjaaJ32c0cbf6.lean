/- Lemmas that the proof stands on, in build order: RecL HqDU Res HqDK. -/
import Derived.Lib.OwnKind
import Derived.Test.YtdhlbcbgbmgcjaaProg
import Derived.WalkKit
import Derived.Laws.Rows
import Derived.Lib.SmallJoins
import Derived.Test.YtdhlbcbgbmgcjaaJ1a85310
import Derived.Test.YtdhlbcbgbmgcjaaJ2538e119
import Derived.Test.YtdhlbcbgbmgcjaaJ26b1b13a
import Derived.Test.YtdhlbcbgbmgcjaaJ316bd57e
/- Over any program: append of one struct, told in which block the row lies behind it; clear of a piece of a row whose zero is one value. -/
namespace Go.Proofs.Ytdhlbcbgbmgcjaa.Rec
open Go.RowKit

section
variable {α : Type}
/-- As push_rec, and the row lies where it lay or in a new block. -/
theorem push_mine {P : Program} {ops : Array Oper} {rest : List Oper} {o : Oper} {a : Act} {Q : Exit → Act → World → Prop} {w : World} (S : Shape α) (hgd : o.guard = none) (s x : Operand) (t : TypeId)
    (ho : o.op = .call { callee := .builtin .append, args := #[s, x], argTypes := #[t, t] })
    (base : Nat) (e : TypeId) (i : TypeInfo) (z : Value) (bytes : Nat) (ht : P.underlying t = some (.slice e)) (hi : P.info? e = some i) (hz : i.zero = some z) (hz2 : z.cells.size = S.c) (hsize : i.size = S.c) (hby : i.bytes = bytes)
    (v : Value) (n : Nat) (l : List α) (hs : a.eval s = v) (hown : w.ownsRow base e S.c v n (S.flat l)) (ad : Addr) (y : α) (hx : a.eval x = .slice (some ad) 1 1) (hy : ∀ j u, (S.f y)[j]? = some u → w.cell? (ad.add j) = some u)
    (hn : n + 1 ≤ 1099511627776) (hb8 : bytes ≤ 100) (hbase : base ≤ w.heap.size)
    (h : ∀ v' w', w'.ownsRow base e S.c v' (n + 1) (S.flat (l ++ [y])) → w.grownBy w' v.ownBlock → (v'.ownBlock = v.ownBlock ∨ v'.ownBlock = some w.heap.size) → wpList P ops Q rest (a.put o.dst v') w') :
    wpList P ops Q (o :: rest) a w := by
  have hl : (S.f y).length = 1 * S.c := by rw [S.len]; omega
  have h63 : n + 1 ≤ maxLen := by unfold maxLen; omega
  have hbb : (n + 1) * bytes ≤ 140737488355328 := by have := Nat.mul_le_mul hn hb8; omega
  obtain ⟨v', w', hrun, h2, h3, _⟩ := run_append_own (P := P) w base t o.type e i z S.c bytes ht hi hz hsize hby hz2 S.pos v n _ hown ad 1 1 _ hl hy (S.one y) h63 hbb hbase
  have h5 := append_lies (P := P) w base t o.type e i z S.c bytes ht hi hz hsize hby v n _ hown ad 1 1 _ hl hy (S.one y) h63 hbb v' w' hrun
  refine wpList_plain hgd fun K hK => ?_
  unfold Oper.wp execOp
  simp only [ho, resolve, invoke, builtin, Sem.run_bind, Sem.run_pure, Result.andThen_ok, List.map_toArray, List.map_cons, List.map_nil, hs, hx, hrun]
  exact hK _ _ (h v' w' (by rw [flat_snoc]; exact h2) h3 h5)
/-- The same, as the run of append. -/
theorem run_added {P : Program} (w : World) (S : Shape α) (t ty : TypeId) (base : Nat) (e : TypeId) (i : TypeInfo) (z : Value) (bytes : Nat) (ht : P.underlying t = some (.slice e)) (hi : P.info? e = some i) (hz : i.zero = some z) (hz2 : z.cells.size = S.c) (hsize : i.size = S.c) (hby : i.bytes = bytes)
    (v : Value) (n : Nat) (l : List α) (hown : w.ownsRow base e S.c v n (S.flat l)) (ad : Addr) (y : α) (hy : ∀ j u, (S.f y)[j]? = some u → w.cell? (ad.add j) = some u)
    (hn : n + 1 ≤ 1099511627776) (hb8 : bytes ≤ 100) (hbase : base ≤ w.heap.size) :
    ∃ v' w', (Builtin.append_ #[t, t] ty #[v, .slice (some ad) 1 1]).run P w = .ok v' w' ∧ w'.ownsRow base e S.c v' (n + 1) (S.flat (l ++ [y])) ∧ w.grownBy w' v.ownBlock ∧ (v'.ownBlock = v.ownBlock ∨ v'.ownBlock = some w.heap.size) := by
  have hl : (S.f y).length = 1 * S.c := by rw [S.len]; omega
  have h63 : n + 1 ≤ maxLen := by unfold maxLen; omega
  have hbb : (n + 1) * bytes ≤ 140737488355328 := by have := Nat.mul_le_mul hn hb8; omega
  obtain ⟨v', w', hrun, h2, h3, _⟩ := run_append_own (P := P) w base t ty e i z S.c bytes ht hi hz hsize hby hz2 S.pos v n _ hown ad 1 1 _ hl hy (S.one y) h63 hbb hbase
  exact ⟨v', w', hrun, by rw [flat_snoc]; exact h2, h3, append_lies (P := P) w base t ty e i z S.c bytes ht hi hz hsize hby v n _ hown ad 1 1 _ hl hy (S.one y) h63 hbb v' w' hrun⟩
/-- 'clear(s)' of a piece of it. -/
theorem run_clear_of {P : Program} (w : World) (t elem ty : TypeId) (S : Shape α) (z : α) (zv : Value) (ht : P.underlying t = some (.slice elem)) (hv : ∀ w, (zeroValue elem).run P w = .ok zv w) (hcl : zv.cells = (S.f z).toArray)
    (base : Nat) (e : TypeId) (g cap i n c o : Nat) (hoff : o = i * S.c) (L : List α) (hg : Hold S w base e g cap L) (hn : 0 < n) (hfit : i + n ≤ cap) :
    (Builtin.clear_ #[t] ty #[.slice (some ⟨g, o, none⟩) n c]).run P w = .ok (.tuple #[]) (w.setCells g (i * S.c) (S.flat (List.replicate n z))) := by
  subst hoff
  have hm : i * S.c + n * S.c ≤ cap * S.c := by rw [← Nat.add_mul]; exact Nat.mul_le_mul_right _ hfit
  have hst := run_storeCells_cells (P := P) g (i * S.c) (S.flat (List.replicate n z)) 0 w (fun j hj => by rw [flat_len, List.length_replicate] at hj; exact hg.some_ (by omega)) (fun j _ => hg.free _) (flat_one _)
  rw [flat_replicate] at hst ⊢
  obtain ⟨m, rfl⟩ : ∃ m, n = m + 1 := ⟨n - 1, by omega⟩
  simp only [Nat.add_zero] at hst
  simp [Builtin.clear_, run_underlying ht, hv, hcl, hst]
end
end Go.Proofs.Ytdhlbcbgbmgcjaa.Rec

/- Layer 16 (heap), the landed code at Int × Int: New, Push, Top. -/
namespace Go.Proofs.Ytdhlbcbgbmgcjaa.Hq.D
open Go.RowKit Rec Ints Ge

/-- How a heap lies in memory. -/
structure Base (w : World) (B : Nat) (f : FuncId) (lb : Array Value) (b : Nat) (v : Value) (l : List El) : Prop where
  blk : w.heap[b]? = some (.cells #[.func (.func f) #[] lb, v] 77 (0, 0))
  own : w.ownsRow B 62 2 v l.length (twoS.flat l)
  le : B ≤ b
/-- .. with nothing coming before what is above it. -/
def Hin (lt : El → El → Bool) (B : Nat) (f : FuncId) (lb : Array Value) (w : World) (M : Nat → Prop) (a : Addr) (L : List El) : Prop :=
  ∃ b v l, a = ⟨b, 0, none⟩ ∧ Base w B f lb b v l ∧ (∀ k, M k ↔ k = b ∨ v.ownBlock = some k) ∧ l.Perm L ∧ Hp.Hp lt l l.length
section
variable {ltb : El → El → Bool} {w w' : World} {B : Nat} {f : FuncId} {lb : Array Value} {b g cap n : Nat} {v : Value} {l L : List El} {M : Nat → Prop} {a : Addr}
theorem Base.ne (h : Base w B f lb b v l) : v.ownBlock ≠ some b := by
  intro e
  obtain ⟨_, _, h1⟩ := Lib.ownsRow_kind h.own b e
  rw [h.blk] at h1
  injection h1 with h1
  injection h1 with _ h1
  exact absurd h1 (by decide)
theorem Base.lt (h : Base w B f lb b v l) : b < w.heap.size := (Array.getElem?_eq_some_iff.1 h.blk).1
theorem Base.big (h : Base w B f lb b v l) : B ≤ w.heap.size := by have := h.lt; have := h.le; omega
theorem Base.lies (h : Base w B f lb b (.slice (some ⟨g, 0, none⟩) n cap) l) : Lies w B f lb b g cap n l := by
  have hf := h.own.1
  have hn : l.length = n := by
    rcases h.own.2 with ⟨h1, _⟩ | ⟨_, _, _, h1, _⟩
    · cases h1
    · injection h1 with _ h1 _
      exact h1.symm
  have ho := h.own
  rw [hn] at ho
  obtain ⟨h1, h2⟩ := Hold.of_own (S := twoS) ho
  exact ⟨h.blk, h1, h2, fun e => h.ne (by rw [e]; rfl), h.le⟩
theorem Lies.base (h : Lies w B f lb b g cap n l) : Base w B f lb b (.slice (some ⟨g, 0, none⟩) n cap) l := by
  have h1 := h.hold.own'
  rw [h.len] at h1
  exact ⟨h.blk, by rw [h.len]; exact h1, h.le⟩
theorem Base.keep (h : Base w B f lb b v l) (hk : ∀ k, (k = b ∨ v.ownBlock = some k) → w'.heap[k]? = w.heap[k]?) : Base w' B f lb b v l := by
  refine ⟨(hk b (.inl rfl)).trans h.blk, ⟨h.own.1, ?_⟩, h.le⟩
  rcases h.own.2 with h1 | ⟨g, c, cur, rfl, h2, h3, h4⟩
  · exact .inl h1
  · exact .inr ⟨g, c, cur, rfl, h2, (hk g (.inr rfl)).trans h3, h4⟩
theorem Hin.lies (h : Hin ltb B f lb w M a L) : ∀ k, M k → B ≤ k ∧ k < w.heap.size := by
  obtain ⟨b, v, l, _, hb, hM, _⟩ := h
  intro k hk
  rcases (hM k).1 hk with rfl | h1
  · exact ⟨hb.le, hb.lt⟩
  · exact hb.own.lt k h1
theorem Hin.keep (h : Hin ltb B f lb w M a L) (hk : ∀ k, M k → w'.heap[k]? = w.heap[k]?) : Hin ltb B f lb w' M a L := by
  obtain ⟨b, v, l, rfl, hb, hM, hp⟩ := h
  exact ⟨b, v, l, rfl, hb.keep fun k h1 => hk k ((hM k).2 h1), hM, hp⟩
/-- Behind an append whose slice was stored. -/
theorem stored {w w2 : World} {v2 : Value} {x : El} (h : Base w B f lb b v l) {o : Obj} (ho : w2.ownsRow B 62 2 v2 (l.length + 1) (twoS.flat (l ++ [x]))) (hg : (w.alloc o).grownBy w2 v.ownBlock) (hl : v2.ownBlock = v.ownBlock ∨ v2.ownBlock = some (w.alloc o).heap.size) :
    w2.heap[b]? = some (.cells #[.func (.func f) #[] lb, v] 77 (0, 0)) ∧ Base (w2.setCell ⟨b, 1, none⟩ v2) B f lb b v2 (l ++ [x]) ∧ Only (fun k => k = b ∨ v.ownBlock = some k) w (w2.setCell ⟨b, 1, none⟩ v2) ∧ ∀ k, v2.ownBlock = some k → v.ownBlock = some k ∨ w.heap.size ≤ k := by
  have hlt := h.lt
  have e1 : w2.heap[b]? = some (.cells #[.func (.func f) #[] lb, v] 77 (0, 0)) := by
    rw [hg.block b (by rw [World.size_alloc]; omega) (fun e => h.ne e.symm), Below.heap_alloc _ _ _ hlt]
    exact h.blk
  have hn : v2.ownBlock ≠ some b := by
    rcases hl with h1 | h1
    · rw [h1]; exact h.ne
    · rw [h1]
      intro e
      injection e with e
      rw [World.size_alloc] at e
      omega
  refine ⟨e1, ⟨?_, ?_, h.le⟩, ?_, ?_⟩
  · rw [heap_setCell_same w2 b 1 _ _ v2 e1]
    rfl
  · have e2 : (l ++ [x]).length = l.length + 1 := by simp
    rw [e2]
    exact ownr_only ho (Only.setCell w2 ⟨b, 1, none⟩ v2) (fun k hk e => hn (by rw [hk, e]))
  · exact ((Only.alloc w o).trans ((Only.of_grown hg).mono fun k hk => .inr hk) (fun _ _ h => h)).trans (Only.setCell w2 ⟨b, 1, none⟩ v2) (fun _ _ h => .inl h)
  · intro k hk
    rcases hl with h1 | h1
    · exact .inl (by rw [← h1]; exact hk)
    · rw [h1] at hk
      injection hk with hk
      rw [World.size_alloc] at hk
      exact .inr (by omega)
/-- The last one was cleared, and the slice cut off ahead of it. -/
theorem popped {k : Nat} {w3 : World} (h : Lies w B f lb b g cap (k + 1) l) (z : El) (hw : w3 = w.setCells g (k * 2) (twoS.flat (List.replicate 1 z))) :
    w3.heap[b]? = some (.cells #[.func (.func f) #[] lb, .slice (some ⟨g, 0, none⟩) (k + 1) cap] 77 (0, 0)) ∧ Lies (w3.setCell ⟨b, 1, none⟩ (.slice (some ⟨g, 0, none⟩) k cap)) B f lb b g cap k (l.take k) ∧ Only (fun k => k = b ∨ k = g) w (w3.setCell ⟨b, 1, none⟩ (.slice (some ⟨g, 0, none⟩) k cap)) := by
  have ho : Only (fun k => k = g) w w3 := by rw [hw]; exact only_setCells w g _ _
  have e1 := (ho.block b (Array.getElem?_eq_some_iff.1 h.blk).1 h.ne).trans h.blk
  have hlen := h.len
  have hfit := h.hold.fit
  have hp := h.hold.put (i := k) (List.replicate 1 z) (by omega) (by simp only [List.length_replicate]; omega)
  have hc : Hold twoS w3 B 62 g cap (l.take k) := by
    have h1 := hp.cut k
    rw [List.append_assoc, List.take_append_of_le_length (by rw [List.length_take]; omega), List.take_take, Nat.min_self] at h1
    rw [hw]
    exact h1
  refine ⟨e1, ⟨?_, hc.keep ?_, by rw [List.length_take]; omega, h.ne, h.le⟩, (ho.mono fun _ h => .inr h).trans (Only.setCell _ _ _) fun _ _ h => .inl h⟩
  · rw [heap_setCell_same w3 b 1 _ _ _ e1]
    rfl
  · exact Below.heap_setCell _ _ _ _ (fun e => h.ne e.symm)
theorem cut_of {k : Nat} (h : l.length = k + 1) : (Hp.sw l 0 k).take k = Hp.cut l := by
  unfold Hp.sw Hp.cut
  rw [h, Nat.add_sub_cancel, List.take_set_of_le (Nat.le_refl _)]
end
theorem new_any (lt : El → El → Bool) (B : Nat) (f : FuncId) (lb : Array Value) (w : World) (hB : B ≤ w.heap.size) :
    Calls Try.prog 25 #[.func (.func f) #[] lb] w fun e w' => ∃ a M, e = .returned (.pointer (some a)) ∧ Hin lt B f lb w' M a [] ∧ (∀ k, M k → w.heap.size ≤ k) ∧ Below w.heap.size w w' := by
  have hq : ∀ w : World, (binOp BinOp.eql 63 (Value.func (Fn.func f) #[] lb) Value.nilFunc).run Try.prog w = .ok (.bool false) w := fun w => by rfl
  have HB := Lib.hid hB
  clear hB
  go_enter Try.func25, Try.ntmps25
  go_wp2
  go_ret
  refine ⟨_, fun k => k = w.heap.size, rfl, ⟨w.heap.size, .slice none 0 0, [], rfl, ⟨heap_alloc_new w _, World.ownsRow_nil _ _ _ _, HB.out⟩, fun k => ⟨fun h => .inl h, fun h => ?_⟩, List.Perm.refl _, fun j _ h => absurd h (by simp)⟩, fun k h => by rw [h]; exact Nat.le_refl _, (Below.refl _ _).alloc (Nat.le_refl _) _⟩
  rcases h with h | h
  · exact h
  · cases h
end Go.Proofs.Ytdhlbcbgbmgcjaa.Hq.D

/- Results of which the first lies in a block of its own, over any program. -/
namespace Go.Proofs.Ytdhlbcbgbmgcjaa
open Go.RowKit

theorem results_cell_tmps {fn : Func} {p u v : Tmp} {ty : TypeId} {P : Program} (h : fn.results = #[.cell p ty, .tmp u, .tmp v]) (tmps : Array Value) (w : World) (g : Nat) (cs : Array Value)
    (hp : tmps.getD p undef = .pointer (some ⟨g, 0, none⟩)) (hl : (loadVar ty ⟨g, 0, none⟩).run P w = .ok (.agg cs) w) :
    (results fn tmps).run P w = .ok (.tuple #[.agg cs, tmps.getD u undef, tmps.getD v undef]) w := by
  have hp' : tmps[p]?.getD undef = .pointer (some ⟨g, 0, none⟩) := by simpa using hp
  simp [results, h, hp', asAddr, hl]
theorem results_cell_one {fn : Func} {p u : Tmp} {ty : TypeId} {P : Program} (h : fn.results = #[.cell p ty, .tmp u]) (tmps : Array Value) (w : World) (g : Nat) (cs : Array Value)
    (hp : tmps.getD p undef = .pointer (some ⟨g, 0, none⟩)) (hl : (loadVar ty ⟨g, 0, none⟩).run P w = .ok (.agg cs) w) :
    (results fn tmps).run P w = .ok (.tuple #[.agg cs, tmps.getD u undef]) w := by
  have hp' : tmps[p]?.getD undef = .pointer (some ⟨g, 0, none⟩) := by simpa using hp
  simp [results, h, hp', asAddr, hl]
end Go.Proofs.Ytdhlbcbgbmgcjaa

/- Layer 16 (heap), the landed code at Int × Int: Top, whose result lies in a block. -/
namespace Go.Proofs.Ytdhlbcbgbmgcjaa.Hq.D
open Go.RowKit Rec Ints Ge

theorem info_pl : (Try.prog.info? 62).map (·.size) = some (#[.int .i64 0, .int .i64 0] : Array Value).size := by kernel_rfl
/-- A result's block. -/
structure Box (w0 w : World) (G : Nat) (p : El) : Prop where
  blk : w.heap[G]? = some (.cells #[.int .i64 p.1, .int .i64 p.2] 62 (0, 0))
  old : w0.heap.size ≤ G
  bel : Below w0.heap.size w0 w
section
variable {w0 w w' : World} {G : Nat} {p q : El}
theorem Box.new (w : World) : Box w (w.alloc (.cells #[.int .i64 0, .int .i64 0] 62)) w.heap.size (0, 0) :=
  ⟨heap_alloc_new w _, Nat.le_refl _, (Below.refl _ _).alloc (Nat.le_refl _) _⟩
theorem Box.below (h : Box w0 w G p) (hb : Below w.heap.size w w') : Box w0 w' G p :=
  ⟨(hb.block G (Array.getElem?_eq_some_iff.1 h.blk).1).trans h.blk, h.old, h.bel.trans (hb.mono h.bel.size)⟩
theorem Box.facts (h : Box w0 w G p) : w.cell? ⟨G, 0, none⟩ = some (.int .i64 p.1) ∧ w.cell? ⟨G, 1, none⟩ = some (.int .i64 p.2) ∧ w.frozen? ⟨G, 0, none⟩ = false ∧ w.frozen? ⟨G, 1, none⟩ = false :=
  ⟨cell_of_blk h.blk rfl, cell_of_blk h.blk rfl, frozen_of_row w G 0 _ _ h.blk, frozen_of_row w G 1 _ _ h.blk⟩
theorem Box.put (h : Box w0 w G p) (q : El) : Box w0 ((w.setCell ⟨G, 0, none⟩ (.int .i64 q.1)).setCell ⟨G, 1, none⟩ (.int .i64 q.2)) G q := by
  have h1 : Only (fun k => k = G) w ((w.setCell ⟨G, 0, none⟩ (.int .i64 q.1)).setCell ⟨G, 1, none⟩ (.int .i64 q.2)) := (Only.setCell w ⟨G, 0, none⟩ (.int .i64 q.1)).trans (Only.setCell _ ⟨G, 1, none⟩ (.int .i64 q.2)) (fun _ _ h => h)
  exact ⟨Sto.whole_set (vs := #[.int .i64 q.1, .int .i64 q.2]) h.blk rfl, h.old, h.bel.trans (h1.below h.bel.size fun k hk => by rw [hk]; exact h.old)⟩
theorem Box.load (h : Box w0 w G p) : (loadVar 62 ⟨G, 0, none⟩).run Try.prog w = .ok (.agg #[.int .i64 p.1, .int .i64 p.2]) w := run_loadVar_row _ _ 62 62 _ (0, 0) _ h.blk Try.underlying62 rfl info_pl
end
theorem top_nil (w : World) :
    Calls Try.prog 38 #[.pointer none] w fun e w' => e = .returned (.tuple #[pl ((0 : Int), (0 : Int)), .bool false]) ∧ Below w.heap.size w w' := by
  have HN := Lib.hid (len_nil (w.alloc (.cells #[.int .i64 0, .int .i64 0] 62)))
  have HB0 := Lib.hid (Box.new w)
  go_enter Try.func38, Try.ntmps38
  go_wp2_with fail
  generalize w.alloc (.cells #[.int .i64 0, .int .i64 0] 62) = w0 at *
  refine HN.out.mono ?_
  rintro e1 w1 ⟨rfl, hb1⟩
  have hb2 := HB0.out.below (hb1.alloc (Nat.le_trans (Nat.le_refl _) hb1.size) (.cells #[.int .i64 0, .int .i64 0] 62))
  obtain ⟨d0, d1, d2, d3⟩ := hb2.facts
  have HB2 := Lib.hid (hb2.put (0, 0))
  clear HN hb1 hb2 HB0
  go_wp2
  (try simp only [Exit.inBlock, Exit.then]); refine bodyPost_ret (results_cell_one rfl _ _ w.heap.size #[.int .i64 0, .int .i64 0] rfl HB2.out.load) rfl ?_
  exact ⟨rfl, HB2.out.bel⟩
theorem top_none (B : Nat) (f : FuncId) (lb : Array Value) (w : World) (b : Nat) (v : Value) (h : Base w B f lb b v []) :
    Calls Try.prog 38 #[.pointer (some ⟨b, 0, none⟩)] w fun e w' => e = .returned (.tuple #[pl ((0 : Int), (0 : Int)), .bool false]) ∧ Below w.heap.size w w' := by
  obtain ⟨A, c, rfl, -⟩ := ownr_slice h.own
  have HB0 := Lib.hid (Box.new w)
  have HN := Lib.hid (len_any (w.alloc (.cells #[.int .i64 0, .int .i64 0] 62)) b f lb A 0 c ((HB0.out.bel.block b h.lt).trans h.blk))
  clear h
  go_enter Try.func38, Try.ntmps38
  go_wp2_with fail
  generalize w.alloc (.cells #[.int .i64 0, .int .i64 0] 62) = w0 at *
  refine HN.out.mono ?_
  rintro e1 w1 ⟨rfl, hb1⟩
  have hb2 := HB0.out.below (hb1.alloc (Nat.le_trans (Nat.le_refl _) hb1.size) (.cells #[.int .i64 0, .int .i64 0] 62))
  obtain ⟨d0, d1, d2, d3⟩ := hb2.facts
  have HB2 := Lib.hid (hb2.put (0, 0))
  clear HN hb1 hb2 HB0
  go_wp2
  (try simp only [Exit.inBlock, Exit.then]); refine bodyPost_ret (results_cell_one rfl _ _ w.heap.size #[.int .i64 0, .int .i64 0] rfl HB2.out.load) rfl ?_
  exact ⟨rfl, HB2.out.bel⟩
theorem top_some (B : Nat) (f : FuncId) (lb : Array Value) (w : World) (b g cap n : Nat) (l : List El) (x : El) (h : Lies w B f lb b g cap n l) (hx : l[0]? = some x) :
    Calls Try.prog 38 #[.pointer (some ⟨b, 0, none⟩)] w fun e w' => e = .returned (.tuple #[pl x, .bool true]) ∧ Below w.heap.size w w' := by
  have hn : 0 < n := by have := (List.getElem?_eq_some_iff.1 hx).1; have := h.len; omega
  have HB0 := Lib.hid (Box.new w)
  have HN := Lib.hid (len_any (w.alloc (.cells #[.int .i64 0, .int .i64 0] 62)) b f lb (some ⟨g, 0, none⟩) n cap (h.below HB0.out.bel).blk)
  have H := Lib.hid h
  have HX := Lib.hid hx
  clear h hx
  have a1 : ((n : Int) == 0) = false := beq_eq_false_iff_ne.2 (by omega)
  have a2 : (0 : Int) < (n : Int) := by omega
  go_enter Try.func38, Try.ntmps38
  go_wp2_with fail
  generalize w.alloc (.cells #[.int .i64 0, .int .i64 0] 62) = w0 at *
  refine HN.out.mono ?_
  rintro e1 w1 ⟨rfl, hb1⟩
  have H1 := Lib.hid (H.out.below (HB0.out.bel.trans (hb1.mono HB0.out.bel.size)))
  have hb2 := HB0.out.below hb1
  have c1 : w1.cell? ⟨b, 1, none⟩ = some (.slice (some ⟨g, 0, none⟩) n cap) := cell_of_blk H1.out.blk rfl
  have x0 : w1.cell? ⟨g, 0, none⟩ = some (.int .i64 x.1) := by have := (el_at H1.out.hold HX.out).1; rwa [Nat.zero_mul] at this
  have x1 : w1.cell? ⟨g, 1, none⟩ = some (.int .i64 x.2) := by have := (el_at H1.out.hold HX.out).2; rwa [Nat.zero_mul] at this
  obtain ⟨d0, d1, d2, d3⟩ := hb2.facts
  have HB2 := Lib.hid (hb2.put x)
  clear HN hb1 hb2 HB0
  go_wp2
  (try simp only [Exit.inBlock, Exit.then]); refine bodyPost_ret (results_cell_one rfl _ _ w.heap.size #[.int .i64 x.1, .int .i64 x.2] rfl HB2.out.load) rfl ?_
  exact ⟨rfl, HB2.out.bel⟩
end Go.Proofs.Ytdhlbcbgbmgcjaa.Hq.D

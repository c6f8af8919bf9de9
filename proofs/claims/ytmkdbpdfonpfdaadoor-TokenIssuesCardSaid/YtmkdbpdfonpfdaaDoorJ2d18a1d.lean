/- Lemmas that the proof stands on, in build order: ShaR Cat ShaV ShaG ShaH ShaN. -/
import Derived.StillTailTactics
import Derived.Deep.MidRow
import Derived.Deep.QuietTactic
import Derived.BigQuiet
import Derived.Laws.CopyOwn
import Derived.Test.YtmkdbpdfonpfdaaDoorJ127b64a
/- Layer 7 (sha): the program's right, as a contract; the small functions in the program's spelling. -/
namespace Go.Proofs.YtmkdbpdfonpfdaaDoor.Sha
open Go.RowKit

theorem cho_or (e f g : Wd) : (e &&& f) ||| (~~~e &&& g) = cho e f g := by
  unfold cho
  ext i hi
  simp only [BitVec.getElem_or, BitVec.getElem_and, BitVec.getElem_xor, BitVec.getElem_not]
  cases e[i] <;> cases f[i] <;> cases g[i] <;> rfl
theorem maj_or (a b c : Wd) : (a &&& b) ||| (a &&& c) ||| (b &&& c) = maj a b c := by
  unfold maj
  ext i hi
  simp only [BitVec.getElem_or, BitVec.getElem_and, BitVec.getElem_xor]
  cases a[i] <;> cases b[i] <;> cases c[i] <;> rfl

set_option maxHeartbeats 800000 in
set_option maxRecDepth 100000 in
theorem rotl_any (a : Wd) (n : Nat) (h1 : 0 < n) (h2 : n < 32) (w : World) : Calls Tryd.prog 102 #[.int .u32 (wi a), .int .i64 (-(n : Int))] w fun e w' => e = .returned (.int .u32 (wi (rot a n))) ∧ w' = w := by
  have hw : bits .and .u64 (IntKind.u64.wrap (-(n : Int))) 31 = 32 - (n : Int) := by
    have : ∀ n : Fin 32, 0 < n.val → bits .and .u64 (IntKind.u64.wrap (-(n.val : Int))) 31 = 32 - (n.val : Int) := by decide +kernel
    exact this ⟨n, h2⟩ h1
  have hw2 : IntKind.u64.wrap (32 - (32 - (n : Int))) = (n : Int) := by rw [IntWalk.u64_in _ ⟨by omega, by omega⟩]; omega
  have i1 : (0 : Int) ≤ (n : Int) := by omega
  have i2 : (0 : Int) ≤ 32 - (n : Int) := by omega
  go_enter Tryd.func102, Tryd.ntmps102
  go_wp2
  go_ret
  refine ⟨?_, rfl⟩
  show Ending.returned (.int .u32 (bits .or .u32 (wi a * 2 ^ (32 - n) % 4294967296) (wi a / 2 ^ n))) = _
  rw [wi_shr, wi_shl, wi_or, BitVec.or_comm]
  rfl

set_option maxHeartbeats 800000 in
set_option maxRecDepth 100000 in
theorem right_any (a : Wd) (n : Nat) (h1 : 0 < n) (h2 : n < 32) (w : World) : Calls Tryd.prog 100 #[.int .u32 (wi a), .int .i64 (n : Int)] w fun e w' => e = .returned (.int .u32 (wi (rot a n))) ∧ w' = w := by
  go_enter Tryd.func100, Tryd.ntmps100
  go_wp2_with fail
  refine (rotl_any a n h1 h2 _).mono ?_
  rintro e w' ⟨rfl, rfl⟩
  go_wp2
  go_ret
  exact ⟨rfl, rfl⟩
/-- The same, by the number as it stands. -/
theorem right_z (a : Wd) (z : Int) (h1 : 0 < z) (h2 : z < 32) (w : World) : Calls Tryd.prog 100 #[.int .u32 (wi a), .int .i64 z] w fun e w' => e = .returned (.int .u32 (wi (rot a z.toNat))) ∧ w' = w := by
  obtain ⟨n, rfl⟩ := Int.eq_ofNat_of_zero_le (show 0 ≤ z by omega)
  exact right_any a n (by omega) (by omega) w
end Go.Proofs.YtmkdbpdfonpfdaaDoor.Sha

/- Appends as steps of a region that draws, over any program: what is told of the block, and that what was read before still reads so. -/
namespace Go.Proofs.YtmkdbpdfonpfdaaDoor
open Go.RowKit

/-- Behind an append the old address still reads what it read. -/
theorem append_keeps {P : Program} (w : World) (base : Nat) (t ty e : TypeId) (i : TypeInfo) (z : Value) (bytes : Nat) (ht : P.underlying t = some (.slice e)) (hi : P.info? e = some i) (hz : i.zero = some z)
    (hsize : i.size = 1) (hby : i.bytes = bytes)
    (v : Value) (n : Nat) (xs : List Value) (hown : w.ownsRow base e 1 v n xs)
    (a : Addr) (m c : Nat) (news : List Value) (hl : news.length = m * 1) (hnews : ∀ j u, news[j]? = some u → w.cell? (a.add j) = some u) (h1 : ∀ u ∈ news, u.oneCell' = true)
    (h63 : n + m ≤ maxLen) (hbytes : (n + m) * bytes ≤ 140737488355328) (v' : Value) (w' : World)
    (hrun : (Builtin.append_ #[t, t] ty #[v, .slice (some a) m c]).run P w = .ok v' w') (hown' : w'.ownsRow base e 1 v' (n + m) (xs ++ news)) :
    ∀ g n' c', v = .slice (some ⟨g, 0, none⟩) n' c' → ∀ j u, xs[j]? = some u → w'.cell? ⟨g, j, none⟩ = some u := by
  intro g n' c' hv j u hj
  subst hby
  have hsmall : n + m ≤ 9223372036854775807 := by simp only [maxLen] at h63; omega
  rcases hown.2 with ⟨h0, _⟩ | ⟨g', cap, cur, hv', hbg, hg, hnc, hcm, hcs, htake⟩
  · rw [h0] at hv; cases hv
  · rw [hv'] at hv
    injection hv with hv1 _ _
    injection hv1 with hv1
    injection hv1 with hv1 _
    subst hv1
    subst hv'
    have hadd : (⟨g', 0, none⟩ : Addr).add j = ⟨g', j, none⟩ := by unfold Addr.add; split <;> simp_all
    by_cases hroom : n + m ≤ cap
    · have hfit : n * i.size + news.length ≤ cur.size := by rw [hl, hcs, hsize, ← Nat.add_mul]; exact Nat.mul_le_mul_right _ hroom
      have hr := run_append_room (P := P) w t ty e i ht hi g' n cap cur hg a m c news (by rw [hsize]; exact hl) hnews h1 hroom hfit
      rw [hr] at hrun
      injection hrun with e1 e2
      rw [← e1] at hown'
      have := hown'.cells (g := g') rfl j u (by rw [List.getElem?_append_left (List.getElem?_eq_some_iff.1 hj).1]; exact hj)
      rwa [hadd] at this
    · have holds : ∀ j u, xs[j]? = some u → w.cell? ((⟨g', 0, none⟩ : Addr).add j) = some u := hown.cells (g := g') rfl
      have hr := run_append_grow (P := P) w t ty e i z ht hi hz ⟨g', 0, none⟩ n cap xs (by rw [hsize]; exact hown.1) holds a m c news (by rw [hsize]; exact hl) hnews (by omega) (by omega) (growslice_fits (by omega) hbytes)
      rw [hr] at hrun
      injection hrun with e1 e2
      rw [← e2]
      have hb : Below w.heap.size w (w.drew.alloc (.cells (xs.toArray ++ news.toArray ++ Builtin.zeroCells z.cells (grownCap w (n + m) cap e - (n + m))) e)) := ((Below.refl _ w).drew).alloc (Nat.le_refl _) _
      have := holds j u hj
      rw [hadd] at this
      exact (hb.cell (p := ⟨g', j, none⟩) (Array.getElem?_eq_some_iff.1 hg).1).trans this

/-- 'append(out, y)' of a literal of one number, as a step of a region that draws: out is nil or one's own. -/
theorem step_push {P : Program} {ops : Array Oper} {o : Oper} {a : Act} {K : Act → World → Prop} {Q : Exit → Act → World → Prop} {E : Prop} {w0 : World} {y : Int} {k : IntKind} {e : TypeId} (hgd : o.guard = none) (s x : Operand) (t : TypeId)
    (ho : o.op = .call { callee := .builtin .append, args := #[s, x], argTypes := #[t, t] })
    (base : Nat) (i : TypeInfo) (bytes : Nat) (ht : P.underlying t = some (.slice e)) (hi : P.info? e = some i) (hz : i.zero = some (.int k 0)) (hsize : i.size = 1) (hby : i.bytes = bytes)
    (v : Value) (n : Nat) (xs : List Int) (hs : a.eval s = v) (hown0 : w0.ownsRow base e 1 v n (xs.map (Value.int k))) (hx : a.eval x = .slice (some ⟨w0.heap.size, 0, none⟩) 1 1)
    (hn : n + 1 ≤ 4398046511104) (hb8 : bytes ≤ 8) (hbase : base ≤ w0.heap.size)
    (h : ∀ v' w', w'.ownsRow base e 1 v' (n + 1) ((xs ++ [y]).map (Value.int k)) → Below base w0 w' → (∀ i, i < w0.heap.size → v.ownBlock ≠ some i → w'.heap[i]? = w0.heap[i]?) → (∀ g n' c', v = .slice (some ⟨g, 0, none⟩) n' c' → ∀ j u, (xs.map (Value.int k))[j]? = some u → w'.cell? ⟨g, j, none⟩ = some u) → K (a.put o.dst v') w') :
    if Region.wanted o (yielded ops a.tmps) = true then Oper.wp P o a (w0.alloc (.cells #[.int k y] e)) K Q else E := by
  have hw : Region.wanted o (yielded ops a.tmps) = true := by simp [Region.wanted, hgd]
  rw [if_pos hw]
  have hown : (w0.alloc (.cells #[.int k y] e)).ownsRow base e 1 v n (xs.map (Value.int k)) := hown0.alloc _
  have hnews : ∀ j u, ([Value.int k y])[j]? = some u → (w0.alloc (.cells #[.int k y] e)).cell? ((⟨w0.heap.size, 0, none⟩ : Addr).add j) = some u := by
    intro j u hj
    match j, hj with
    | 0, hj => simp at hj; subst hj; simp [Addr.add]
  have h1 : ∀ u ∈ [Value.int k y], u.oneCell' = true := by intro u hu; simp at hu; subst hu; rfl
  have h63 : n + 1 ≤ maxLen := by unfold maxLen; omega
  have hbb : (n + 1) * bytes ≤ 140737488355328 := by have := Nat.mul_le_mul hn hb8; omega
  have hbase' : base ≤ (w0.alloc (.cells #[.int k y] e)).heap.size := by simp; omega
  obtain ⟨v', w', hrun, h2, h3, _⟩ := run_append_own (P := P) (w0.alloc (.cells #[.int k y] e)) base t o.type e i (.int k 0) 1 bytes ht hi hz hsize hby rfl (by omega) v n _ hown ⟨w0.heap.size, 0, none⟩ 1 1 _ rfl hnews h1 h63 hbb hbase'
  have h5 := append_keeps (P := P) (w0.alloc (.cells #[.int k y] e)) base t o.type e i (.int k 0) bytes ht hi hz hsize hby v n _ hown ⟨w0.heap.size, 0, none⟩ 1 1 _ rfl hnews h1 h63 hbb v' w' hrun h2
  unfold Oper.wp execOp
  simp only [ho, resolve, invoke, builtin, Sem.run_bind, Sem.run_pure, Result.andThen_ok, List.map_toArray, List.map_cons, List.map_nil, hs, hx, hrun]
  refine h v' w' (by simpa using h2) (((Below.refl _ _).alloc hbase _).grown h3 hbase' (fun j hj => (hown.lt j hj).1)) (fun i hi hne => ?_) h5
  exact (h3.block i (by simp; omega) (fun e => hne e.symm)).trans (((Below.refl w0.heap.size w0).alloc (Nat.le_refl _) _).block i hi)

/-- 'append(out, y1, y2, ..)' of a literal of numbers, as a step of a region that draws: out is nil or one's own. -/
theorem step_lit {P : Program} {ops : Array Oper} {o : Oper} {a : Act} {K : Act → World → Prop} {Q : Exit → Act → World → Prop} {E : Prop} {w0 : World} {cs : Array Value} {k : IntKind} {e : TypeId} (hgd : o.guard = none) (s x : Operand) (t : TypeId)
    (ho : o.op = .call { callee := .builtin .append, args := #[s, x], argTypes := #[t, t] })
    (base : Nat) (i : TypeInfo) (bytes : Nat) (ht : P.underlying t = some (.slice e)) (hi : P.info? e = some i) (hz : i.zero = some (.int k 0)) (hsize : i.size = 1) (hby : i.bytes = bytes)
    (v : Value) (n : Nat) (xs : List Int) (hs : a.eval s = v) (hown0 : w0.ownsRow base e 1 v n (xs.map (Value.int k))) (m : Nat) (ys : List Int) (hx : a.eval x = .slice (some ⟨w0.heap.size, 0, none⟩) m m) (hm : ys.length = m) (hcs : cs = (ys.map (Value.int k)).toArray)
    (hn : n + m ≤ 4398046511104) (hb8 : bytes ≤ 8) (hbase : base ≤ w0.heap.size)
    (h : ∀ v' w', w'.ownsRow base e 1 v' (n + m) ((xs ++ ys).map (Value.int k)) → Below base w0 w' → K (a.put o.dst v') w') :
    if Region.wanted o (yielded ops a.tmps) = true then Oper.wp P o a (w0.alloc (.cells cs e)) K Q else E := by
  have hw : Region.wanted o (yielded ops a.tmps) = true := by simp [Region.wanted, hgd]
  rw [if_pos hw]
  subst hcs
  have hown : (w0.alloc (.cells (ys.map (Value.int k)).toArray e)).ownsRow base e 1 v n (xs.map (Value.int k)) := hown0.alloc _
  have hnews : ∀ j u, (ys.map (Value.int k))[j]? = some u → (w0.alloc (.cells (ys.map (Value.int k)).toArray e)).cell? ((⟨w0.heap.size, 0, none⟩ : Addr).add j) = some u := by
    intro j u hj
    have hadd : (⟨w0.heap.size, 0, none⟩ : Addr).add j = ⟨w0.heap.size, j, none⟩ := by unfold Addr.add; split <;> simp_all
    rw [hadd]
    exact cell_of_blk (heap_alloc_new w0 _) (by simpa using hj)
  have h1 : ∀ u ∈ ys.map (Value.int k), u.oneCell' = true := by
    intro u hu
    obtain ⟨y, _, rfl⟩ := List.mem_map.1 hu
    rfl
  have h63 : n + m ≤ maxLen := by unfold maxLen; omega
  have hbb : (n + m) * bytes ≤ 140737488355328 := by have := Nat.mul_le_mul hn hb8; omega
  have hbase' : base ≤ (w0.alloc (.cells (ys.map (Value.int k)).toArray e)).heap.size := by simp; omega
  obtain ⟨v', w', hrun, h2, h3, _⟩ := run_append_own (P := P) (w0.alloc (.cells (ys.map (Value.int k)).toArray e)) base t o.type e i (.int k 0) 1 bytes ht hi hz hsize hby rfl (by omega) v n _ hown ⟨w0.heap.size, 0, none⟩ m m _ (by simp [hm]) hnews h1 h63 hbb hbase'
  unfold Oper.wp execOp
  simp only [ho, resolve, invoke, builtin, Sem.run_bind, Sem.run_pure, Result.andThen_ok, List.map_toArray, List.map_cons, List.map_nil, hs, hx, hrun]
  exact h v' w' (by simpa using h2) (((Below.refl _ _).alloc hbase _).grown h3 hbase' (fun j hj => (hown.lt j hj).1))

/-- 'append(out, y1, y2, ..)' of a literal of numbers, in plain code: out is nil or one's own. -/
theorem lit_own {P : Program} {ops : Array Oper} {rest : List Oper} {o : Oper} {a : Act} {Q : Exit → Act → World → Prop} {w : World} {cs : Array Value} (hgd : o.guard = none) (s x : Operand) (t : TypeId)
    (ho : o.op = .call { callee := .builtin .append, args := #[s, x], argTypes := #[t, t] })
    (base : Nat) (e : TypeId) (i : TypeInfo) (k : IntKind) (bytes : Nat) (ht : P.underlying t = some (.slice e)) (hi : P.info? e = some i) (hz : i.zero = some (.int k 0)) (hsize : i.size = 1) (hby : i.bytes = bytes)
    (v : Value) (n : Nat) (xs : List Int) (hs : a.eval s = v) (hown : w.ownsRow base e 1 v n (xs.map (Value.int k))) (m : Nat) (ys : List Int) (hx : a.eval x = .slice (some ⟨w.heap.size, 0, none⟩) m m) (hm : ys.length = m) (hcs : cs = (ys.map (Value.int k)).toArray)
    (hn : n + m ≤ 4398046511104) (hb8 : bytes ≤ 8) (hbase : base ≤ w.heap.size)
    (h : ∀ v' w', w'.ownsRow base e 1 v' (n + m) ((xs ++ ys).map (Value.int k)) → Below base w w' → wpList P ops Q rest (a.put o.dst v') w') :
    wpList P ops Q (o :: rest) a (w.alloc (.cells cs e)) := by
  subst hcs
  refine cat_own hgd s x t ho base e i k bytes ht hi hz hsize hby v n xs hs (hown.alloc _) (w.heap.size + 1) (some ⟨w.heap.size, 0, none⟩) m m ys hx (fun h => by cases h) ⟨hm, fun _ => ⟨w.heap.size, 0, rfl, by omega, fun j hj => ?_⟩⟩ hn hb8 (by simp; omega) (fun v' w' h1 h2 => h v' w' h1 (((Below.refl _ _).alloc hbase _).trans h2))
  rw [Nat.zero_add]
  refine cell_of_blk (heap_alloc_new w _) ?_
  rw [List.getElem?_toArray, List.getElem?_map, List.getElem?_eq_getElem (by omega)]
  simp [List.getD, List.getElem?_eq_getElem (show j < ys.length by omega)]
end Go.Proofs.YtmkdbpdfonpfdaaDoor

/- Layer 7 (sha): words in memory: slices of words, what holds while a block is worked on. -/
namespace Go.Proofs.YtmkdbpdfonpfdaaDoor.Sha
open Go.RowKit

/-- A slice of words reads. -/
def WRow (w : World) (B : Nat) (A : Option Addr) (n : Nat) (l : List Wd) : Prop := Row .u32 w B A n (l.map wi)

theorem WRow.below {w w' : World} {B n : Nat} {A : Option Addr} {l : List Wd} (h : WRow w B A n l) (hb : Below B w w') : WRow w' B A n l := Row.below h hb
theorem WRow.more {w : World} {B B' n : Nat} {A : Option Addr} {l : List Wd} (h : WRow w B A n l) (hb : B ≤ B') : WRow w B' A n l := Row.more h hb
theorem WRow.at {w : World} {B n : Nat} {A : Option Addr} {l : List Wd} (h : WRow w B A n l) {j : Nat} (hj : j < n) : ∃ b o, A = some ⟨b, o, none⟩ ∧ b < B ∧ w.cell? ⟨b, o + j, none⟩ = some (.int .u32 (wi (wat l j))) := by
  obtain ⟨b, o, e, hb, hc⟩ := Row.cell_at h hj
  have hl : (l.map wi).length = n := h.1
  rw [List.length_map] at hl
  refine ⟨b, o, e, hb, ?_⟩
  rw [hc]
  unfold wat
  simp [List.getD, List.getElem?_map, List.getElem?_eq_getElem (show j < l.length by omega)]
theorem byte_at {b : List Int} (hb : ∀ x ∈ b, 0 ≤ x ∧ x ≤ 255) (i : Nat) : ∃ y : Nat, b.getD i 0 = (y : Int) ∧ y ≤ 255 := by
  by_cases h : i < b.length
  · have := hb b[i] (List.getElem_mem h)
    refine ⟨(b[i]).toNat, ?_, by omega⟩
    rw [List.getD, List.getElem?_eq_getElem h]
    simp
    omega
  · exact ⟨0, by rw [List.getD, List.getElem?_eq_none (by omega)]; rfl, by omega⟩

/-- In a block: the row that grows, the words so far, all that lay. -/
structure Blk (w3 : World) (B0 : Nat) (Ah : Option Addr) (h : List Wd) (v : Value) (t : Nat) (l : List Wd) (w : World) : Prop where
  own : w.ownsRow B0 87 1 v t (wv l)
  row : WRow w B0 Ah 8 h
  bel : Below w3.heap.size w3 w
  sz : B0 ≤ w.heap.size
  base : w3.heap.size ≤ B0

theorem wv_snoc (l : List Wd) (a : Wd) : wv (l ++ [a]) = wv l ++ [.int .u32 (wi a)] := by simp [wv]
theorem Blk.push {w3 w w' : World} {B0 t : Nat} {Ah : Option Addr} {h l : List Wd} {v v' : Value} {a : Wd} (hb : Blk w3 B0 Ah h v t l w) (ho : w'.ownsRow B0 87 1 v' (t + 1) ((l.map wi ++ [wi a]).map (Value.int .u32))) (hw : Below B0 w w') : Blk w3 B0 Ah h v' (t + 1) (l ++ [a]) w' :=
  ⟨by rw [wv_snoc]; simpa [wv] using ho, hb.row.below hw, hb.bel.trans (hw.mono hb.base), Nat.le_trans hb.sz hw.size, hb.base⟩
theorem Blk.drew {w3 w : World} {B0 t q : Nat} {Ah : Option Addr} {h l : List Wd} {v : Value} (hb : Blk w3 B0 Ah h v t l w) : Blk w3 B0 Ah h v t l (w.drewN q) :=
  ⟨hb.own, hb.row, ⟨hb.bel.os, hb.bel.tape, hb.bel.output, hb.bel.size, hb.bel.block⟩, hb.sz, hb.base⟩

theorem Blk.read {w3 w : World} {B0 t : Nat} {Ah : Option Addr} {h l : List Wd} {v : Value} (hb : Blk w3 B0 Ah h v t l w) (ht : 0 < t) : ∃ g c, v = .slice (some ⟨g, 0, none⟩) t c ∧ g < w.heap.size ∧ ∀ j, j < t → w.cell? ⟨g, j, none⟩ = some (.int .u32 (wi (wat l j))) := by
  obtain ⟨A, c, rfl, -, -⟩ := own_slice hb.own
  obtain ⟨g, rfl, -⟩ := own_at hb.own ht
  have hr : WRow w w.heap.size (some ⟨g, 0, none⟩) t l := Row.of_own hb.own
  obtain ⟨b, o, e, hbl, -⟩ := hr.at ht
  injection e with e
  injection e with e1 e2
  subst e1 e2
  refine ⟨g, c, rfl, hbl, fun j hj => ?_⟩
  obtain ⟨b', o', e, -, hc⟩ := hr.at hj
  injection e with e
  injection e with e1 e2
  subst e1 e2
  rwa [Nat.zero_add] at hc
theorem wv_at {l : List Wd} {j : Nat} (hj : j < l.length) : (wv l)[j]? = some (.int .u32 (wi (wat l j))) := by
  unfold wv wat
  simp [List.getD, List.getElem?_eq_getElem hj]

theorem Blk.below {w3 w w' : World} {B0 t : Nat} {Ah : Option Addr} {h l : List Wd} {v : Value} (hb : Blk w3 B0 Ah h v t l w) (hw : Below w.heap.size w w') : Blk w3 B0 Ah h v t l w' :=
  ⟨own_below hb.own hw, hb.row.below (hw.mono hb.sz), hb.bel.trans (hw.mono hb.bel.size), Nat.le_trans hb.sz hw.size, hb.base⟩
/-- Eight words lie there. -/
structure V8 (w : World) (b o : Nat) (l : List Wd) : Prop where
  c0 : w.cell? ⟨b, o, none⟩ = some (.int .u32 (wi (wat l 0)))
  c1 : w.cell? ⟨b, o + 1, none⟩ = some (.int .u32 (wi (wat l 1)))
  c2 : w.cell? ⟨b, o + 2, none⟩ = some (.int .u32 (wi (wat l 2)))
  c3 : w.cell? ⟨b, o + 3, none⟩ = some (.int .u32 (wi (wat l 3)))
  c4 : w.cell? ⟨b, o + 4, none⟩ = some (.int .u32 (wi (wat l 4)))
  c5 : w.cell? ⟨b, o + 5, none⟩ = some (.int .u32 (wi (wat l 5)))
  c6 : w.cell? ⟨b, o + 6, none⟩ = some (.int .u32 (wi (wat l 6)))
  c7 : w.cell? ⟨b, o + 7, none⟩ = some (.int .u32 (wi (wat l 7)))
theorem V8.drew {w : World} {b o q : Nat} {l : List Wd} (h : V8 w b o l) : V8 (w.drewN q) b o l := ⟨h.c0, h.c1, h.c2, h.c3, h.c4, h.c5, h.c6, h.c7⟩
theorem V8.of {w : World} {B b o : Nat} {l : List Wd} (h : WRow w B (some ⟨b, o, none⟩) 8 l) : V8 w b o l := by
  have k : ∀ j, j < 8 → w.cell? ⟨b, o + j, none⟩ = some (.int .u32 (wi (wat l j))) := by
    intro j hj
    obtain ⟨b', o', e, -, hc⟩ := h.at hj
    injection e with e
    injection e with e1 e2
    subst e1 e2
    exact hc
  exact ⟨k 0 (by omega), k 1 (by omega), k 2 (by omega), k 3 (by omega), k 4 (by omega), k 5 (by omega), k 6 (by omega), k 7 (by omega)⟩

theorem lit8 (w : World) (e : TypeId) (a0 a1 a2 a3 a4 a5 a6 a7 : Wd) : WRow (w.alloc (.cells #[.int .u32 (wi a0), .int .u32 (wi a1), .int .u32 (wi a2), .int .u32 (wi a3), .int .u32 (wi a4), .int .u32 (wi a5), .int .u32 (wi a6), .int .u32 (wi a7)] e)) (w.alloc (.cells #[.int .u32 (wi a0), .int .u32 (wi a1), .int .u32 (wi a2), .int .u32 (wi a3), .int .u32 (wi a4), .int .u32 (wi a5), .int .u32 (wi a6), .int .u32 (wi a7)] e)).heap.size (some ⟨w.heap.size, 0, none⟩) 8 [a0, a1, a2, a3, a4, a5, a6, a7] := by
  have q := heap_alloc_new w (.cells #[.int .u32 (wi a0), .int .u32 (wi a1), .int .u32 (wi a2), .int .u32 (wi a3), .int .u32 (wi a4), .int .u32 (wi a5), .int .u32 (wi a6), .int .u32 (wi a7)] e)
  refine ⟨rfl, fun _ => ⟨w.heap.size, 0, rfl, (Array.getElem?_eq_some_iff.1 q).1, fun j hj => ?_⟩⟩
  rw [Nat.zero_add]
  match j, hj with
  | 0, _ => exact cell_of_blk q rfl
  | 1, _ => exact cell_of_blk q rfl
  | 2, _ => exact cell_of_blk q rfl
  | 3, _ => exact cell_of_blk q rfl
  | 4, _ => exact cell_of_blk q rfl
  | 5, _ => exact cell_of_blk q rfl
  | 6, _ => exact cell_of_blk q rfl
  | 7, _ => exact cell_of_blk q rfl

/-- While the words are added: the row that grows, both summands, all that lay. -/
structure Sm (w3 : World) (B1 : Nat) (bh oh : Nat) (h : List Wd) (bv ov : Nat) (r : List Wd) (v : Value) (t : Nat) (w : World) : Prop where
  own : w.ownsRow B1 87 1 v t (wv (adds h r t))
  rh : WRow w B1 (some ⟨bh, oh, none⟩) 8 h
  rv : WRow w B1 (some ⟨bv, ov, none⟩) 8 r
  bel : Below w3.heap.size w3 w
  sz : B1 ≤ w.heap.size
  base : w3.heap.size ≤ B1
theorem Sm.push {w3 w w' : World} {B1 bh oh bv ov t : Nat} {h r : List Wd} {v v' : Value} (hb : Sm w3 B1 bh oh h bv ov r v t w) (ho : w'.ownsRow B1 87 1 v' (t + 1) (((adds h r t).map wi ++ [wi (wat h t + wat r t)]).map (Value.int .u32))) (hw : Below B1 w w') : Sm w3 B1 bh oh h bv ov r v' (t + 1) w' :=
  ⟨by have e : wv (adds h r (t + 1)) = (((adds h r t).map wi ++ [wi (wat h t + wat r t)]).map (Value.int .u32)) := by simp [wv, adds]
      rw [e]; exact ho, hb.rh.below hw, hb.rv.below hw, hb.bel.trans (hw.mono hb.base), Nat.le_trans hb.sz hw.size, hb.base⟩
theorem Sm.drew {w3 w : World} {B1 bh oh bv ov t q : Nat} {h r : List Wd} {v : Value} (hb : Sm w3 B1 bh oh h bv ov r v t w) : Sm w3 B1 bh oh h bv ov r v t (w.drewN q) :=
  ⟨hb.own, hb.rh, hb.rv, ⟨hb.bel.os, hb.bel.tape, hb.bel.output, hb.bel.size, hb.bel.block⟩, hb.sz, hb.base⟩

theorem own_low {w : World} {base base' n : Nat} {e : TypeId} {v : Value} {xs : List Value} (h : w.ownsRow base e 1 v n xs) (hb : base' ≤ base) : w.ownsRow base' e 1 v n xs := by
  refine ⟨h.1, ?_⟩
  rcases h.2 with h0 | ⟨g, cap, cur, h1, h2, rest⟩
  · exact .inl h0
  · exact .inr ⟨g, cap, cur, h1, Nat.le_trans hb h2, rest⟩
/-- While the bytes are written. -/
structure Ou (w3 : World) (B1 bh oh : Nat) (h : List Wd) (v : Value) (t : Nat) (w : World) : Prop where
  own : w.ownsRow B1 5 1 v (4 * t) ((outs h t).map (Value.int .u8))
  rh : WRow w B1 (some ⟨bh, oh, none⟩) 8 h
  bel : Below w3.heap.size w3 w
  sz : B1 ≤ w.heap.size
  base : w3.heap.size ≤ B1
theorem Ou.push {w3 w w' : World} {B1 bh oh t : Nat} {h : List Wd} {v v' : Value} (hb : Ou w3 B1 bh oh h v t w) (ho : w'.ownsRow B1 5 1 v' (4 * t + 4) ((outs h t ++ out4 (wat h t)).map (Value.int .u8))) (hw : Below B1 w w') : Ou w3 B1 bh oh h v' (t + 1) w' :=
  ⟨ho, hb.rh.below hw, hb.bel.trans (hw.mono hb.base), Nat.le_trans hb.sz hw.size, hb.base⟩
theorem Ou.drew {w3 w : World} {B1 bh oh t q : Nat} {h : List Wd} {v : Value} (hb : Ou w3 B1 bh oh h v t w) : Ou w3 B1 bh oh h v t (w.drewN q) :=
  ⟨hb.own, hb.rh, ⟨hb.bel.os, hb.bel.tape, hb.bel.output, hb.bel.size, hb.bel.block⟩, hb.sz, hb.base⟩
end Go.Proofs.YtmkdbpdfonpfdaaDoor.Sha

/- Layer 7 (sha): the program's schedule, as a contract. -/
namespace Go.Proofs.YtmkdbpdfonpfdaaDoor.Sha
open Go.RowKit

attribute [local go_sem] wi_xor wi_and wi_or wi_add wi_shr3 wi_shr10 wi_com

/-- Four bytes joined. -/
theorem shl_or (a b i : Nat) (P : Nat) (hP : 2 ^ i = P) (hb : b < P) : a * P ||| b = a * P + b := by
  subst hP
  have := Nat.shiftLeft_add_eq_or_of_lt (b := b) (i := i) hb a
  rw [Nat.shiftLeft_eq] at this
  exact this.symm
set_option maxRecDepth 100000 in
theorem four_join (P Q R y0 y1 y2 y3 : Nat) (hP : P = 16777216) (hQ : Q = 65536) (hR : R = 256) (h1 : y1 < 256) (h2 : y2 < 256) (h3 : y3 < 256) : y0 * P ||| y1 * Q ||| y2 * R ||| y3 = ((y0 * 256 + y1) * 256 + y2) * 256 + y3 := by
  have pP : 2 ^ 24 = P := by rw [hP]
  have pQ : 2 ^ 16 = Q := by rw [hQ]
  have pR : 2 ^ 8 = R := by rw [hR]
  have b1 : y1 * Q < P := by subst hP hQ; omega
  have b2 : y2 * R < Q := by subst hR hQ; omega
  have b3 : y3 < R := by subst hR; omega
  have a1 := shl_or y0 (y1 * Q) 24 P pP b1
  have a2 := shl_or (y0 * 256 + y1) (y2 * R) 16 Q pQ b2
  have a3 := shl_or ((y0 * 256 + y1) * 256 + y2) y3 8 R pR b3
  have e2 : (y0 * 256 + y1) * Q = y0 * P + y1 * Q := by subst hP hQ; omega
  have e3 : ((y0 * 256 + y1) * 256 + y2) * R = y0 * P + y1 * Q + y2 * R := by subst hP hQ hR; omega
  rw [e2] at a2
  rw [e3] at a3
  rw [a1, a2, a3]
  clear a1 a2 a3 e2 e3 pP pQ pR b1 b2 b3
  subst hP hQ hR
  omega

theorem four_or (y0 y1 y2 y3 : Nat) (h0 : y0 < 256) (h1 : y1 < 256) (h2 : y2 < 256) (h3 : y3 < 256) : bits .or .u32 (bits .or .u32 (bits .or .u32 ((y0 : Int) * 16777216) ((y1 : Int) * 65536)) ((y2 : Int) * 256)) (y3 : Int) = wi (BitVec.ofNat 32 (((y0 * 256 + y1) * 256 + y2) * 256 + y3)) := by
  obtain ⟨P, hP⟩ : ∃ P : Nat, P = 16777216 := ⟨_, rfl⟩
  obtain ⟨Q, hQ⟩ : ∃ Q : Nat, Q = 65536 := ⟨_, rfl⟩
  obtain ⟨R, hR⟩ : ∃ R : Nat, R = 256 := ⟨_, rfl⟩
  have f := four_join P Q R y0 y1 y2 y3 hP hQ hR h1 h2 h3
  have l1 : y0 * P < 2 ^ 32 := by subst hP; omega
  have l2 : y1 * Q < 2 ^ 32 := by subst hQ; omega
  have l3 : y2 * R < 2 ^ 32 := by subst hR; omega
  have a1 : ((y0 : Int) * 16777216) = ((y0 * P : Nat) : Int) := by subst hP; omega
  have a2 : ((y1 : Int) * 65536) = ((y1 * Q : Nat) : Int) := by subst hQ; omega
  have a3 : ((y2 : Int) * 256) = ((y2 * R : Nat) : Int) := by subst hR; omega
  rw [a1, a2, a3]
  have g1 : y0 * P ||| y1 * Q < 2 ^ 32 := Nat.or_lt_two_pow l1 l2
  have g2 : y0 * P ||| y1 * Q ||| y2 * R < 2 ^ 32 := Nat.or_lt_two_pow g1 l3
  rw [u32_or_nat _ _ (by omega) (by omega), u32_or_nat _ _ (by omega) (by omega), u32_or_nat _ _ (by omega) (by omega), f]
  exact wi_of _ (by omega)
/-- Bytes as values. -/
def bv (l : List Int) : List Value := l.map (Value.int .u8)
/-- 64 words of which the first are given. -/
def fill (l : List Wd) : List Wd := l ++ List.replicate (64 - l.length) 0
theorem fill_len {l : List Wd} (h : l.length ≤ 64) : (fill l).length = 64 := by simp [fill]; omega
theorem fill_set {l : List Wd} (x : Wd) (h : l.length < 64) : ((wv (fill l)).toArray).setIfInBounds l.length (.int .u32 (wi x)) = (wv (fill (l ++ [x]))).toArray := by
  have e : 64 - l.length = (64 - (l ++ [x]).length) + 1 := by simp; omega
  unfold fill
  rw [e, List.replicate_succ]
  simp [wv]
theorem fill_full {l : List Wd} (h : l.length = 64) : fill l = l := by simp [fill, h]

theorem heap3 (w : World) (a b c : Obj) : (((w.alloc a).alloc b).alloc c).heap[w.heap.size + 1 + 1]? = some c := by
  have e : ((w.alloc a).alloc b).heap.size = w.heap.size + 1 + 1 := by simp
  rw [← e]
  exact heap_alloc_new _ _
theorem below_setRow {B g : Nat} {w w' : World} (h : Below B w w') (hg : B ≤ g) (cs : Array Value) : Below B w (w'.setRow g cs) :=
  ⟨h.os, h.tape, h.output, by rw [size_setRow]; exact h.size, fun i hi => (setRow_other w' g i cs (by omega)).trans (h.block i hi)⟩
/-- While the schedule is made: G the content's block. -/
structure Sch (w : World) (G : Nat) (L : List Int) (l : List Wd) (w' : World) : Prop where
  con : w'.heap[G]? = some (.cells (bv L).toArray 103 (0, 0))
  res : w'.heap[G + 1]? = some (.cells (wv (fill [])).toArray 134 (0, 0))
  arr : w'.heap[G + 1 + 1]? = some (.cells (wv (fill l)).toArray 134 (0, 0))
  bel : Below G w w'
  len : l.length ≤ 64
theorem Sch.byte {w w' : World} {G : Nat} {L : List Int} {l : List Wd} (h : Sch w G L l w') {j : Nat} (hj : j < L.length) : w'.cell? ⟨G, j, none⟩ = some (.int .u8 (L.getD j 0)) := by
  refine cell_of_blk h.con ?_
  simp [bv, List.getD, List.getElem?_eq_getElem hj]
theorem Sch.word {w w' : World} {G : Nat} {L : List Int} {l : List Wd} (h : Sch w G L l w') {j : Nat} (hj : j < l.length) : w'.cell? ⟨G + 1 + 1, j, none⟩ = some (.int .u32 (wi (wat l j))) := by
  refine cell_of_blk h.arr ?_
  have e : wv (fill l) = wv l ++ wv (List.replicate (64 - l.length) 0) := by simp [wv, fill]
  rw [List.getElem?_toArray, e, List.getElem?_append_left (by simpa [wv] using hj)]
  exact wv_at hj
theorem Sch.target {w w' : World} {G : Nat} {L : List Int} {l : List Wd} (h : Sch w G L l w') {j : Nat} (hj : j < 64) : (∃ x : Int, w'.cell? ⟨G + 1 + 1, j, none⟩ = some (.int .u32 x)) ∧ w'.frozen? ⟨G + 1 + 1, j, none⟩ = false := by
  have hl := fill_len h.len
  refine ⟨⟨wi (wat (fill l) j), cell_of_blk h.arr ?_⟩, free_of_blk h.arr⟩
  rw [List.getElem?_toArray]
  exact wv_at (by omega)
theorem Sch.drew {w w' : World} {G q : Nat} {L : List Int} {l : List Wd} (h : Sch w G L l w') : Sch w G L l (w'.drewN q) :=
  ⟨h.con, h.res, h.arr, ⟨h.bel.os, h.bel.tape, h.bel.output, h.bel.size, h.bel.block⟩, h.len⟩
theorem Sch.store {w w' : World} {G t : Nat} {L : List Int} {l : List Wd} (h : Sch w G L l w') (ht : l.length = t) (ht4 : t < 64) (x : Wd) : Sch w G L (l ++ [x]) (w'.setCell ⟨G + 1 + 1, t, none⟩ (.int .u32 (wi x))) := by
  subst ht
  refine ⟨?_, ?_, ?_, h.bel.setCell (by simp; omega) _, by simp; omega⟩
  · rw [heap_setCell_other _ _ _ _ (by simp; omega)]; exact h.con
  · rw [heap_setCell_other _ _ _ _ (by simp)]; exact h.res
  · rw [set_blk h.arr, fill_set x ht4]

set_option maxHeartbeats 1600000 in
set_option maxRecDepth 100000 in
theorem schedule_any (L : List Int) (hL : L.length = 64) (hb : ∀ x ∈ L, 0 ≤ x ∧ x ≤ 255) (w : World) :
    Calls Tryd.prog 99 #[.agg (bv L).toArray] w fun e w' => e = .returned (.agg (wv (sched 48 (words L 0 16))).toArray) ∧ Below w.heap.size w w' := by
  have HL := Lib.hid hL
  have HB := Lib.hid hb
  clear hL hb
  go_enter Tryd.func99, Tryd.ntmps99
  go_wp2
  have HW0 : Hid ((words L 0 16).length = 16) := words_len _ _ _
  have HX : Hid (Sch w w.heap.size L (words L 0 0) (((w.alloc (.cells (bv L).toArray 103)).alloc (.cells (wv (fill [])).toArray 134)).alloc (.cells (wv (fill [])).toArray 134))) :=
    ⟨by rw [heap_alloc_old _ _ (by simp; omega)]; exact heap_alloc2_old w _ _, by rw [heap_alloc_old _ _ (by simp)]; exact heap_alloc2_new w _ _, heap3 w _ _ _,
      (((Below.refl _ w).alloc (Nat.le_refl _) _).alloc (by simp) _).alloc (by simp; omega) _, by simp [words]⟩
  go_loopw [8] (fun i wr => ∃ t : Nat, t ≤ 16 ∧ i = .int .i64 (t : Int) ∧ Hid (Sch w w.heap.size L (words L 0 t) wr)) (fun i _ => 16 - (intOf i).toNat)
  case atStart => exact ⟨0, Nat.zero_le _, rfl, HX⟩
  case round =>
    obtain ⟨t, ht, rfl, HS⟩ := hrel
    by_cases hlt : t < 16
    · have hLn := HL.out
      obtain ⟨y0, e0, b0⟩ := byte_at HB.out (4 * t)
      obtain ⟨y1, e1, b1⟩ := byte_at HB.out (4 * t + 1)
      obtain ⟨y2, e2, b2⟩ := byte_at HB.out (4 * t + 2)
      obtain ⟨y3, e3, b3⟩ := byte_at HB.out (4 * t + 3)
      have k0 := HS.out.byte (j := 4 * t) (by omega)
      have k1 := HS.out.byte (j := 4 * t + 1) (by omega)
      have k2 := HS.out.byte (j := 4 * t + 2) (by omega)
      have k3 := HS.out.byte (j := 4 * t + 3) (by omega)
      rw [e0] at k0
      rw [e1] at k1
      rw [e2] at k2
      rw [e3] at k3
      obtain ⟨⟨x0, k4⟩, k5⟩ := HS.out.target (j := t) (by omega)
      have m0 : IntKind.i64.wrap (4 * (t : Int)) = 4 * (t : Int) := IntWalk.i64_in _ ⟨by omega, by omega⟩
      have m1 : IntKind.i64.wrap (4 * (t : Int) + 1) = 4 * (t : Int) + 1 := IntWalk.i64_in _ ⟨by omega, by omega⟩
      have m2 : IntKind.i64.wrap (4 * (t : Int) + 2) = 4 * (t : Int) + 2 := IntWalk.i64_in _ ⟨by omega, by omega⟩
      have m3 : IntKind.i64.wrap (4 * (t : Int) + 3) = 4 * (t : Int) + 3 := IntWalk.i64_in _ ⟨by omega, by omega⟩
      have p0 : (0 : Int) ≤ 4 * (t : Int) := by omega
      have p1 : (0 : Int) ≤ 4 * (t : Int) + 1 := by omega
      have p2 : (0 : Int) ≤ 4 * (t : Int) + 2 := by omega
      have p3 : (0 : Int) ≤ 4 * (t : Int) + 3 := by omega
      have q0 : 4 * (t : Int) < 64 := by omega
      have q1 : 4 * (t : Int) + 1 < 64 := by omega
      have q2 : 4 * (t : Int) + 2 < 64 := by omega
      have q3 : 4 * (t : Int) + 3 < 64 := by omega
      have n0 : (4 * (t : Int)).toNat = 4 * t := by omega
      have n1 : (4 * (t : Int) + 1).toNat = 4 * t + 1 := by omega
      have n2 : (4 * (t : Int) + 2).toNat = 4 * t + 2 := by omega
      have n3 : (4 * (t : Int) + 3).toNat = 4 * t + 3 := by omega
      have ht64 : (t : Int) < 64 := by omega
      have HV : Hid (Value.int .u32 (bits .or .u32 (bits .or .u32 (bits .or .u32 ((y0 : Int) * 16777216) ((y1 : Int) * 65536)) ((y2 : Int) * 256)) (y3 : Int)) = .int .u32 (wi (BitVec.ofNat 32 (four L (0 + 4 * t) 4)))) := by
        unfold Hid
        rw [four_or y0 y1 y2 y3 (by omega) (by omega) (by omega) (by omega)]
        congr 3
        simp only [four, Nat.zero_add, Nat.add_zero]
        rw [e0, e1, e2, e3]
        simp
      clear e0 e1 e2 e3 hLn
      go_wp2
      go_still_tail 31, (by kernel_rfl)
      go_wp2
      go_roundw
      case rel =>
        refine ⟨t + 1, by omega, by go_num, ?_⟩
        have hv := HV.out
        rw [hv]
        exact (HS.out.store (words_len _ _ _) (by omega) _).drew (q := 1)
      case measure => simp [intOf]; omega
    · obtain rfl : t = 16 := by omega
      have HS0 : Hid (Sch w w.heap.size L (sched (16 - 16) (words L 0 16)) wr) := HS.out
      clear HS HX ht hlt
      obtain ⟨W0, hW⟩ : ∃ W0, words L 0 16 = W0 := ⟨_, rfl⟩
      rw [hW] at HS0 HW0
      have HWE := Lib.hid hW
      clear hW
      go_wp2_with fail
      go_loopw [5, 6, 7] (fun i _ _ wr => ∃ t : Nat, 16 ≤ t ∧ t ≤ 64 ∧ i = .int .i64 (t : Int) ∧ Hid (Sch w w.heap.size L (sched (t - 16) W0) wr)) (fun i _ _ _ => 64 - (intOf i).toNat)
      case atStart => exact ⟨16, Nat.le_refl _, by omega, rfl, HS0⟩
      case round =>
        obtain ⟨t, ht, ht2, rfl, HS⟩ := hrel
        by_cases hlt : t < 64
        · have hlen := sched_len W0 (t - 16)
          have hw16 := HW0.out
          obtain ⟨l, hl⟩ : ∃ l, sched (t - 16) W0 = l := ⟨_, rfl⟩
          have hnext : sched (t + 1 - 16) W0 = l ++ [more l] := by rw [show t + 1 - 16 = (t - 16) + 1 by omega, sched, hl]
          rw [hl] at HS hlen
          have hll : l.length = t := by omega
          have hmo : more l = wat l (t - 16) + wat l (t - 7) + sg0 (wat l (t - 15)) + sg1 (wat l (t - 2)) := by
            unfold more
            rw [hll]
            ac_rfl
          have HMO := Lib.hid hmo
          have HNX := Lib.hid hnext
          have HLL := Lib.hid hll
          have k2 := HS.out.word (j := t - 2) (by omega)
          have k15 := HS.out.word (j := t - 15) (by omega)
          have c16 := HS.out.word (j := t - 16) (by omega)
          have c7 := HS.out.word (j := t - 7) (by omega)
          have HC := Lib.hid (And.intro c16 c7)
          obtain ⟨⟨x0, k4⟩, k5⟩ := HS.out.target (j := t) (by omega)
          have HT := Lib.hid (And.intro k4 k5)
          clear c16 c7 k4 k5 hl hlen hw16 hnext hll hmo
          have m2 : IntKind.i64.wrap ((t : Int) - 2) = (t : Int) - 2 := IntWalk.i64_in _ ⟨by omega, by omega⟩
          have m15 : IntKind.i64.wrap ((t : Int) - 15) = (t : Int) - 15 := IntWalk.i64_in _ ⟨by omega, by omega⟩
          have p2 : (0 : Int) ≤ (t : Int) - 2 := by omega
          have p15 : (0 : Int) ≤ (t : Int) - 15 := by omega
          have q2 : (t : Int) - 2 < 64 := by omega
          have q15 : (t : Int) - 15 < 64 := by omega
          have n2 : ((t : Int) - 2).toNat = t - 2 := by omega
          have n15 : ((t : Int) - 15).toNat = t - 15 := by omega
          have r2 : (2 : Int) ≤ (t : Int) := by omega
          have r15 : (15 : Int) ≤ (t : Int) := by omega
          go_wp2_with fail
          go_quiet (fail)
          have HS1 := Lib.hid (HS.out.drew (q := nq))
          have HC1 : Hid ((wr.drewN nq).cell? ⟨w.heap.size + 1 + 1, t - 16, none⟩ = some (.int .u32 (wi (wat l (t - 16)))) ∧ (wr.drewN nq).cell? ⟨w.heap.size + 1 + 1, t - 7, none⟩ = some (.int .u32 (wi (wat l (t - 7))))) := HC.out
          have HT1 : Hid ((wr.drewN nq).cell? ⟨w.heap.size + 1 + 1, t, none⟩ = some (.int .u32 x0) ∧ (wr.drewN nq).frozen? ⟨w.heap.size + 1 + 1, t, none⟩ = false) := HT.out
          clear HS HC HT k2 k15 m2 m15 p2 p15 q2 q15 n2 n15 r2 r15
          generalize wr.drewN nq = wx at HS1 HC1 HT1 ⊢
          have c16 := HC1.out.1
          have c7 := HC1.out.2
          have k4 := HT1.out.1
          have k5 := HT1.out.2
          have m2 : IntKind.i64.wrap ((t : Int) - 16) = (t : Int) - 16 := IntWalk.i64_in _ ⟨by omega, by omega⟩
          have m15 : IntKind.i64.wrap ((t : Int) - 7) = (t : Int) - 7 := IntWalk.i64_in _ ⟨by omega, by omega⟩
          have p2 : (0 : Int) ≤ (t : Int) - 16 := by omega
          have p15 : (0 : Int) ≤ (t : Int) - 7 := by omega
          have q2 : (t : Int) - 16 < 64 := by omega
          have q15 : (t : Int) - 7 < 64 := by omega
          have n2 : ((t : Int) - 16).toNat = t - 16 := by omega
          have n15 : ((t : Int) - 7).toNat = t - 7 := by omega
          have r2 : (16 : Int) ≤ (t : Int) := by omega
          have r15 : (7 : Int) ≤ (t : Int) := by omega
          have r0 : (0 : Int) ≤ (t : Int) := by omega
          have r1 : (t : Int) < 64 := by omega
          go_wp2_with fail
          refine wp_region_still_tail 29 (by kernel_rfl) (by kernel_rfl) ?_
          simp only [List.take_succ_cons, List.take_zero, List.drop_succ_cons, List.drop_zero]
          repeat (first | still_step | still_call (right_z _ _ (by decide) (by decide) _))
          try refine wpStill_nil ?_
          go_wp2
          go_roundw
          case rel =>
            have HZ := Lib.hid ((HS1.out.store HLL.out (by omega) (wat l (t - 16) + wat l (t - 7) + sg0 (wat l (t - 15)) + sg1 (wat l (t - 2)))).drew (q := 1))
            have HZ2 : Hid (Sch w w.heap.size L (sched (t + 1 - 16) W0) ((wx.setCell ⟨w.heap.size + 1 + 1, t, none⟩ (.int .u32 (wi (wat l (t - 16) + wat l (t - 7) + sg0 (wat l (t - 15)) + sg1 (wat l (t - 2)))))).drewN 1)) := by
              rw [HNX.out]
              have := HMO.out
              rw [← this] at HZ ⊢
              exact HZ.out
            (repeat apply Exists.intro); exact ⟨⟨t + 1, by omega, by omega, by go_num, HZ2⟩, rfl⟩
          case measure => simp [intOf]; omega
        · obtain rfl : t = 64 := by omega
          have hl : (sched (64 - 16) W0).length = 64 := by rw [sched_len, HW0.out]
          have hf := fill_full hl
          have hsz : (wv (sched 48 W0)).toArray.size = 64 := by rw [List.size_toArray, wv_len]; exact hl
          have hs0 : (wv (fill [])).toArray.size = 64 := by rw [List.size_toArray, wv_len]; exact fill_len (by simp)
          have hi : (Tryd.prog.info? 134).map (·.size) = some (wv (sched 48 W0)).toArray.size := by rw [hsz]; kernel_rfl
          have har := HS.out.arr
          rw [hf] at har
          have har' : wr.heap[w.heap.size + 1 + 1]? = some (.cells (wv (sched 48 W0)).toArray 134 (0, 0)) := har
          have HA := Lib.hid har'
          have HI := Lib.hid hi
          have HR := Lib.hid HS.out.res
          have HSZ := Lib.hid (hs0.trans hsz.symm)
          have HBE := Lib.hid HS.out.bel
          have h1 : (wv (sched 48 W0)).toArray.all (·.oneCell') = true := all_oneCell_toArray (fun v hv => by
            unfold wv at hv
            obtain ⟨x, _, rfl⟩ := List.mem_map.1 hv
            rfl)
          have H1 := Lib.hid h1
          clear hl hf hsz hs0 hi har har' HS ht ht2 hlt h1
          go_wp2_with (first
            | (with_reducible refine wpList_load_row rfl 134 (.tmp 3) rfl (w.heap.size + 1 + 1) rfl 134 (wv (sched 48 W0)).toArray (0, 0) _ HA.out Tryd.underlying134 rfl HI.out ?_)
            | (with_reducible refine wpList_store_row rfl 134 (.tmp 2) (.tmp 84) rfl (w.heap.size + 1) (wv (sched 48 W0)).toArray rfl rfl 134 _ HR.out HI.out HSZ.out H1.out ?_))
          refine bodyPost_ret (results_cell_row (g := w.heap.size + 1) rfl _ _ _ _ _ _ rfl (setRow_heap _ _ _ _ _ _ HR.out) Tryd.underlying134 rfl HI.out) rfl ⟨by rw [HWE.out], ?_⟩
          exact below_setRow HBE.out (by omega) _
end Go.Proofs.YtmkdbpdfonpfdaaDoor.Sha

/- Layer 7 (sha): the program's through (the rounds on a block), as a contract. -/
namespace Go.Proofs.YtmkdbpdfonpfdaaDoor.Sha
open Go.RowKit

attribute [local go_sem] wi_xor wi_and wi_or wi_add wi_shr3 wi_shr10 wi_com

/-- Beyond the blocks of the package's two tables. -/
def Glo : Nat := max 0 1
theorem Glo.con {B : Nat} (h : Glo < B) : 1 < B := Nat.lt_of_le_of_lt (by decide +kernel) h
theorem Glo.ini {B : Nat} (h : Glo < B) : 0 < B := Nat.lt_of_le_of_lt (by decide +kernel) h
/-- The program's table of constants lies in its block. -/
def Tab (w : World) : Prop := Glo < w.heap.size ∧ ∀ j, j < 64 → w.cell? ⟨1, j, none⟩ = some (.int .u32 (wi (wat ks j)))
theorem Tab.below {w w' : World} {B : Nat} (h : Tab w) (hb : Below B w w') (hB : Glo < B) : Tab w' :=
  ⟨Nat.lt_of_lt_of_le h.1 hb.size, fun j hj => (hb.cell (p := ⟨1, j, none⟩) (Glo.con hB)).trans (h.2 j hj)⟩

/-- While a block goes through the rounds: G the words' block, S the schedule's. -/
structure Thr (w : World) (G S : Nat) (ws cur : List Wd) (w' : World) : Prop where
  inp : w'.heap[G]? = some (.cells (wv cur).toArray 122 (0, 0))
  res : w'.heap[G + 1 + 1]? = some (.cells (wv (List.replicate 8 0)).toArray 122 (0, 0))
  sch : w'.heap[S]? = some (.cells (wv ws).toArray 134 (0, 0))
  bel : Below G w w'
  tab : Tab w'
  c8 : cur.length = 8
  c64 : ws.length = 64
  far : G + 1 + 1 < S
theorem Thr.drew {w w' : World} {G S q : Nat} {ws cur : List Wd} (h : Thr w G S ws cur w') : Thr w G S ws cur (w'.drewN q) :=
  ⟨h.inp, h.res, h.sch, ⟨h.bel.os, h.bel.tape, h.bel.output, h.bel.size, h.bel.block⟩, h.tab, h.c8, h.c64, h.far⟩
theorem Thr.word {w w' : World} {G S : Nat} {ws cur : List Wd} (h : Thr w G S ws cur w') {j : Nat} (hj : j < 8) : w'.cell? ⟨G, j, none⟩ = some (.int .u32 (wi (wat cur j))) ∧ w'.frozen? ⟨G, j, none⟩ = false := by
  have := h.c8
  exact ⟨cell_of_blk h.inp (by rw [List.getElem?_toArray]; exact wv_at (by omega)), free_of_blk h.inp⟩
theorem Thr.sched {w w' : World} {G S : Nat} {ws cur : List Wd} (h : Thr w G S ws cur w') {j : Nat} (hj : j < 64) : w'.cell? ⟨S, j, none⟩ = some (.int .u32 (wi (wat ws j))) := by
  have := h.c64
  exact cell_of_blk h.sch (by rw [List.getElem?_toArray]; exact wv_at (by omega))
theorem Thr.store {w w' : World} {G S i : Nat} {ws cur : List Wd} (h : Thr w G S ws cur w') (hG : Glo < G) (x : Wd) : Thr w G S ws (cur.set i x) (w'.setCell ⟨G, i, none⟩ (.int .u32 (wi x))) := by
  have hf := h.far
  refine ⟨?_, ?_, ?_, h.bel.setCell (Nat.le_refl _) _, ?_, by rw [List.length_set]; exact h.c8, h.c64, h.far⟩
  · rw [set_blk h.inp]
    simp [wv, List.map_set]
  · rw [heap_setCell_other _ _ _ _ (by simp; omega)]; exact h.res
  · rw [heap_setCell_other _ _ _ _ (by simp; omega)]; exact h.sch
  · exact h.tab.below ((Below.refl G w').setCell (Nat.le_refl _) _) hG

/-- The words while v is added to h: i of them are done. -/
def part (h v : List Wd) (i : Nat) : List Wd := adds h v i ++ h.drop i
theorem part_set {h v : List Wd} {i : Nat} (hh : h.length = 8) (hi : i < 8) : (part h v i).set i (wat h i + wat v i) = part h v (i + 1) := by
  have hd : h.drop i = wat h i :: h.drop (i + 1) := by
    rw [List.drop_eq_getElem_cons (by omega)]
    simp [wat, List.getD, List.getElem?_eq_getElem (show i < h.length by omega)]
  unfold part
  rw [hd]
  have hl : i = (adds h v i).length := (adds_len h v i).symm
  conv => lhs; rw [List.set_append_right _ _ (by omega)]
  simp [adds, adds_len]
theorem part_wat {h v : List Wd} {i : Nat} : wat (part h v i) i = wat h i := by
  unfold part wat
  simp only [List.getD]
  rw [List.getElem?_append_right (by rw [adds_len]; exact Nat.le_refl _), adds_len]
  simp
theorem part_end {h v : List Wd} (hh : h.length = 8) : part h v 8 = adds h v 8 := by
  unfold part
  rw [List.drop_of_length_le (by omega), List.append_nil]
theorem part_len {h v : List Wd} {i : Nat} (hh : h.length = 8) (hi : i ≤ 8) : (part h v i).length = 8 := by
  unfold part
  rw [List.length_append, adds_len, List.length_drop]
  omega

set_option maxRecDepth 100000 in
theorem index8 (V : List Wd) (i : Nat) (hi : i < 8) (w : World) : (Instr.index 122 (.agg #[.int .u32 (wi (wat V 0)), .int .u32 (wi (wat V 1)), .int .u32 (wi (wat V 2)), .int .u32 (wi (wat V 3)), .int .u32 (wi (wat V 4)), .int .u32 (wi (wat V 5)), .int .u32 (wi (wat V 6)), .int .u32 (wi (wat V 7))]) (.int .i64 (i : Int))).run Tryd.prog w = .ok (.int .u32 (wi (wat V i))) w := by
  have e : ∀ (a b c d e f g h : Value) (w : World), a.oneCell' = true → True := fun _ _ _ _ _ _ _ _ _ _ => trivial
  clear e
  obtain rfl | rfl | rfl | rfl | rfl | rfl | rfl | rfl : i = 0 ∨ i = 1 ∨ i = 2 ∨ i = 3 ∨ i = 4 ∨ i = 5 ∨ i = 6 ∨ i = 7 := by omega
  all_goals rfl

theorem wv_one (l : List Wd) : (wv l).toArray.all (·.oneCell') = true := all_oneCell_toArray (fun v hv => by
  unfold wv at hv
  obtain ⟨x, _, rfl⟩ := List.mem_map.1 hv
  rfl)
theorem e64 : (Tryd.prog.info? 134).map (·.size) = some 64 := by kernel_rfl
theorem e8 : (Tryd.prog.info? 122).map (·.size) = some 8 := by kernel_rfl
theorem e64b : (Tryd.prog.info? 103).map (·.size) = some 64 := by kernel_rfl
theorem info64 {l : List Wd} (hl : l.length = 64) : (Tryd.prog.info? 134).map (·.size) = some (wv l).toArray.size := by
  rw [List.size_toArray, wv_len, hl]; exact e64
theorem info8w {l : List Wd} (hl : l.length = 8) : (Tryd.prog.info? 122).map (·.size) = some (wv l).toArray.size := by
  rw [List.size_toArray, wv_len, hl]; exact e8
theorem info64b {l : List Int} (hl : l.length = 64) : (Tryd.prog.info? 103).map (·.size) = some (bv l).toArray.size := by
  have : (bv l).toArray.size = 64 := by simpa [bv] using hl
  rw [this]; exact e64b

/-- Behind the schedule's call. -/
theorem thr_start (z : Array Value) {w w1 : World} {h ws : List Wd} {L : List Int} (hh : h.length = 8) (hw : ws.length = 64) (hT : Tab w)
    (hb : Below (((w.alloc (.cells (wv h).toArray 122)).alloc (.cells (bv L).toArray 103)).alloc (.cells (wv (List.replicate 8 0)).toArray 122)).heap.size (((w.alloc (.cells (wv h).toArray 122)).alloc (.cells (bv L).toArray 103)).alloc (.cells (wv (List.replicate 8 0)).toArray 122)) w1) :
    Thr w w.heap.size w1.heap.size ws h ((w1.alloc (.cells z 134)).setRow w1.heap.size (wv ws).toArray) := by
  have hsz := hb.size
  simp only [World.size_alloc] at hsz
  have hg : w.heap.size < (((w.alloc (.cells (wv h).toArray 122)).alloc (.cells (bv L).toArray 103)).alloc (.cells (wv (List.replicate 8 0)).toArray 122)).heap.size := by simp; omega
  have hg2 : w.heap.size + 1 + 1 < (((w.alloc (.cells (wv h).toArray 122)).alloc (.cells (bv L).toArray 103)).alloc (.cells (wv (List.replicate 8 0)).toArray 122)).heap.size := by simp
  have b0 : Below w.heap.size w w1 := ((((Below.refl _ w).alloc (Nat.le_refl _) _).alloc (by simp) _).alloc (by simp; omega) _).trans (hb.mono (by simp; omega))
  have b1 : Below w.heap.size w (w1.alloc (.cells z 134)) := b0.alloc (by omega) _
  have b2 := below_setRow b1 (show w.heap.size ≤ w1.heap.size by omega) (wv ws).toArray
  refine ⟨?_, ?_, ?_, b2, hT.below b2 hT.1, hh, hw, by omega⟩
  · rw [setRow_other _ _ _ _ (by omega), heap_alloc_old _ _ (by omega), hb.block _ hg, heap_alloc_old _ _ (by simp; omega)]
    exact heap_alloc2_old w _ _
  · rw [setRow_other _ _ _ _ (by omega), heap_alloc_old _ _ (by omega), hb.block _ hg2]
    exact heap3 w _ _ _
  · exact setRow_heap _ _ _ _ _ _ (heap_alloc_new _ _)

set_option maxHeartbeats 3200000 in
set_option maxRecDepth 100000 in
theorem through_any (h : List Wd) (L : List Int) (hh : h.length = 8) (hL : L.length = 64) (hb : ∀ x ∈ L, 0 ≤ x ∧ x ≤ 255) (w : World) (ht : Tab w) :
    Calls Tryd.prog 93 #[.agg (wv h).toArray, .agg (bv L).toArray] w fun e w' => e = .returned (.agg (wv (adds h (rounds ks (sched 48 (words L 0 16)) h 64) 8)).toArray) ∧ Below w.heap.size w w' := by
  have HL := Lib.hid hL
  have HB := Lib.hid hb
  have HH := Lib.hid hh
  have HT := Lib.hid ht
  clear hL hb hh ht
  have HI := Lib.hid (info64b HL.out)
  go_enter Tryd.func93, Tryd.ntmps93
  go_wp2_with (first
    | (with_reducible refine wpList_load_row rfl 103 (.tmp 3) rfl (w.heap.size + 1) rfl 103 (bv L).toArray (0, 0) _ (by rw [heap_alloc_old _ _ (by simp)]; exact heap_alloc2_new w _ _) Tryd.underlying103 rfl HI.out ?_))
  refine (schedule_any L HL.out HB.out _).mono ?_
  rintro e1 w1 ⟨rfl, hb1⟩
  have hws : (sched 48 (words L 0 16)).length = 64 := by rw [sched_len, words_len]
  obtain ⟨ws, hW⟩ : ∃ ws, sched 48 (words L 0 16) = ws := ⟨_, rfl⟩
  rw [hW] at hws
  rw [hW]
  have HWE := Lib.hid hW
  have HX := Lib.hid (thr_start #[.int .u32 0, .int .u32 0, .int .u32 0, .int .u32 0, .int .u32 0, .int .u32 0, .int .u32 0, .int .u32 0, .int .u32 0, .int .u32 0, .int .u32 0, .int .u32 0, .int .u32 0, .int .u32 0, .int .u32 0, .int .u32 0, .int .u32 0, .int .u32 0, .int .u32 0, .int .u32 0, .int .u32 0, .int .u32 0, .int .u32 0, .int .u32 0, .int .u32 0, .int .u32 0, .int .u32 0, .int .u32 0, .int .u32 0, .int .u32 0, .int .u32 0, .int .u32 0, .int .u32 0, .int .u32 0, .int .u32 0, .int .u32 0, .int .u32 0, .int .u32 0, .int .u32 0, .int .u32 0, .int .u32 0, .int .u32 0, .int .u32 0, .int .u32 0, .int .u32 0, .int .u32 0, .int .u32 0, .int .u32 0, .int .u32 0, .int .u32 0, .int .u32 0, .int .u32 0, .int .u32 0, .int .u32 0, .int .u32 0, .int .u32 0, .int .u32 0, .int .u32 0, .int .u32 0, .int .u32 0, .int .u32 0, .int .u32 0, .int .u32 0, .int .u32 0] HH.out hws HT.out hb1)
  have HI2 := Lib.hid (info64 hws)
  have HSZ : Hid ((#[.int .u32 0, .int .u32 0, .int .u32 0, .int .u32 0, .int .u32 0, .int .u32 0, .int .u32 0, .int .u32 0, .int .u32 0, .int .u32 0, .int .u32 0, .int .u32 0, .int .u32 0, .int .u32 0, .int .u32 0, .int .u32 0, .int .u32 0, .int .u32 0, .int .u32 0, .int .u32 0, .int .u32 0, .int .u32 0, .int .u32 0, .int .u32 0, .int .u32 0, .int .u32 0, .int .u32 0, .int .u32 0, .int .u32 0, .int .u32 0, .int .u32 0, .int .u32 0, .int .u32 0, .int .u32 0, .int .u32 0, .int .u32 0, .int .u32 0, .int .u32 0, .int .u32 0, .int .u32 0, .int .u32 0, .int .u32 0, .int .u32 0, .int .u32 0, .int .u32 0, .int .u32 0, .int .u32 0, .int .u32 0, .int .u32 0, .int .u32 0, .int .u32 0, .int .u32 0, .int .u32 0, .int .u32 0, .int .u32 0, .int .u32 0, .int .u32 0, .int .u32 0, .int .u32 0, .int .u32 0, .int .u32 0, .int .u32 0, .int .u32 0, .int .u32 0] : Array Value).size = (wv ws).toArray.size) := by
    unfold Hid
    have e : (wv ws).toArray.size = 64 := by rw [List.size_toArray, wv_len, hws]
    rw [e]
    rfl
  clear hb1 hW hws HI
  go_wp2_with (first
    | (with_reducible refine wpList_store_row rfl 134 (.tmp 5) (.tmp 20) rfl w1.heap.size (wv ws).toArray rfl rfl 134 _ (heap_alloc_new _ _) HI2.out HSZ.out (wv_one _) ?_))
  generalize (w1.alloc (.cells #[.int .u32 0, .int .u32 0, .int .u32 0, .int .u32 0, .int .u32 0, .int .u32 0, .int .u32 0, .int .u32 0, .int .u32 0, .int .u32 0, .int .u32 0, .int .u32 0, .int .u32 0, .int .u32 0, .int .u32 0, .int .u32 0, .int .u32 0, .int .u32 0, .int .u32 0, .int .u32 0, .int .u32 0, .int .u32 0, .int .u32 0, .int .u32 0, .int .u32 0, .int .u32 0, .int .u32 0, .int .u32 0, .int .u32 0, .int .u32 0, .int .u32 0, .int .u32 0, .int .u32 0, .int .u32 0, .int .u32 0, .int .u32 0, .int .u32 0, .int .u32 0, .int .u32 0, .int .u32 0, .int .u32 0, .int .u32 0, .int .u32 0, .int .u32 0, .int .u32 0, .int .u32 0, .int .u32 0, .int .u32 0, .int .u32 0, .int .u32 0, .int .u32 0, .int .u32 0, .int .u32 0, .int .u32 0, .int .u32 0, .int .u32 0, .int .u32 0, .int .u32 0, .int .u32 0, .int .u32 0, .int .u32 0, .int .u32 0, .int .u32 0, .int .u32 0] 134)).setRow w1.heap.size (wv ws).toArray = wz at HX ⊢
  have k0 := (HX.out.word (j := 0) (by omega)).1
  have k1 := (HX.out.word (j := 1) (by omega)).1
  have k2 := (HX.out.word (j := 2) (by omega)).1
  have k3 := (HX.out.word (j := 3) (by omega)).1
  go_wp2_with fail
  go_quiet (fail)
  have HX1 := Lib.hid (HX.out.drew (q := nq))
  clear k0 k1 k2 k3 HX
  generalize wz.drewN nq = wy at HX1 ⊢
  have k0 := (HX1.out.word (j := 4) (by omega)).1
  have k1 := (HX1.out.word (j := 5) (by omega)).1
  have k2 := (HX1.out.word (j := 6) (by omega)).1
  have k3 := (HX1.out.word (j := 7) (by omega)).1
  go_wp2_with fail
  go_quiet (fail)
  have HX := Lib.hid (HX1.out.drew (q := nq))
  clear k0 k1 k2 k3 HX1
  generalize wy.drewN nq = wz at HX ⊢
  have HG1 := Lib.hid HT.out.1
  go_wp2_with fail
  go_loopw [6, 7, 8, 9, 10, 11, 12, 13, 37] (fun a b c d e f g h_ i wr => ∃ t : Nat, t ≤ 64 ∧ i = .int .i64 (t : Int) ∧ a = .int .u32 (wi (wat (rounds ks ws h t) 0)) ∧ b = .int .u32 (wi (wat (rounds ks ws h t) 1)) ∧ c = .int .u32 (wi (wat (rounds ks ws h t) 2)) ∧ d = .int .u32 (wi (wat (rounds ks ws h t) 3)) ∧ e = .int .u32 (wi (wat (rounds ks ws h t) 4)) ∧ f = .int .u32 (wi (wat (rounds ks ws h t) 5)) ∧ g = .int .u32 (wi (wat (rounds ks ws h t) 6)) ∧ h_ = .int .u32 (wi (wat (rounds ks ws h t) 7)) ∧ Hid (Thr w w.heap.size w1.heap.size ws h wr)) (fun _ _ _ _ _ _ _ _ i _ => 64 - (intOf i).toNat)
  case atStart => exact ⟨0, Nat.zero_le _, rfl, rfl, rfl, rfl, rfl, rfl, rfl, rfl, rfl, HX⟩
  case round =>
    obtain ⟨t, ht, rfl, rfl, rfl, rfl, rfl, rfl, rfl, rfl, rfl, HR⟩ := hrel
    by_cases hlt : t < 64
    · have kc := HR.out.tab.2 t hlt
      have kw := HR.out.sched hlt
      have hnx : rounds ks ws h (t + 1) = round (rounds ks ws h t) (wat ks t) (wat ws t) := rfl
      obtain ⟨V, hV⟩ : ∃ V, rounds ks ws h t = V := ⟨_, rfl⟩
      rw [hV] at hnx
      obtain ⟨kd, hkd⟩ : ∃ kd, wat ks t = kd := ⟨_, rfl⟩
      obtain ⟨wd, hwd⟩ : ∃ wd, wat ws t = wd := ⟨_, rfl⟩
      rw [hkd] at kc hnx
      rw [hwd] at kw hnx
      rw [hV]
      have HNX := Lib.hid hnx
      have h64 : (t : Int) < 64 := by omega
      clear hnx hV hkd hwd
      go_wp2_with fail
      go_quiet ((go_at_call 100; exact Calls.quiet_of_same (right_z _ _ (by decide) (by decide) _)))
      have HR1 := Lib.hid (HR.out.drew (q := nq))
      clear HR kc kw h64
      generalize wr.drewN nq = wx at HR1 ⊢
      go_wp2_with (go_at_call 100; with_reducible refine (right_z _ _ (by decide) (by decide) _).mono ?_; rintro e9 w9 ⟨rfl, rfl⟩)
      go_roundw
      case rel =>
        refine ⟨t + 1, by omega, by go_num, ?_⟩
        rw [HNX.out, cho_or, maj_or, ← BitVec.add_assoc]
        exact ⟨rfl, rfl, rfl, rfl, rfl, rfl, rfl, rfl, HR1⟩
      case measure => simp [intOf]; omega
    · obtain rfl : t = 64 := by omega
      obtain ⟨V, hV⟩ : ∃ V, rounds ks ws h 64 = V := ⟨_, rfl⟩
      rw [hV]
      have HV := Lib.hid hV
      have HP : Hid (Thr w w.heap.size w1.heap.size ws (part h V 0) wr) := by
        have e : part h V 0 = h := by simp [part, adds]
        rw [e]; exact HR.out
      clear hV HR HX hlt
      go_wp2_with fail
      go_loopw [17, 18, 109] (fun _ _ i wq => ∃ t : Nat, t ≤ 8 ∧ i = .int .i64 (t : Int) ∧ Hid (Thr w w.heap.size w1.heap.size ws (part h V t) wq)) (fun _ _ i _ => 8 - (intOf i).toNat)
      case atStart => exact ⟨0, Nat.zero_le _, rfl, HP⟩
      case round =>
        obtain ⟨t, ht, rfl, HS⟩ := hrel
        by_cases hlt : t < 8
        · have hix := index8 V t hlt
          obtain ⟨k0, k1⟩ := HS.out.word hlt
          rw [part_wat] at k0
          have hst := (HS.out.store (i := t) HG1.out (wat h t + wat V t))
          rw [part_set HH.out hlt] at hst
          have HST := Lib.hid hst
          have h8 : (t : Int) < 8 := by omega
          clear hst HS
          go_wp2
          go_roundw
          case rel => first | exact ⟨t + 1, by omega, by go_num, HST⟩ | ((repeat apply Exists.intro); exact ⟨⟨t + 1, by omega, by go_num, HST⟩, rfl⟩)
          case measure => simp [intOf]; omega
        · obtain rfl : t = 8 := by omega
          have hc := HS.out.inp
          rw [part_end HH.out] at hc
          have h8 : (adds h V 8).length = 8 := adds_len _ _ _
          have HC := Lib.hid hc
          have HI8 := Lib.hid (info8w h8)
          have HRS := Lib.hid HS.out.res
          have HBE := Lib.hid HS.out.bel
          have HSZ : Hid ((wv (List.replicate 8 0)).toArray.size = (wv (adds h V 8)).toArray.size) := by
            have e : (wv (adds h V 8)).toArray.size = 8 := by rw [List.size_toArray, wv_len, h8]
            rw [e]
            rfl
          clear hc h8 HS ht hlt
          go_wp2_with (first
            | (with_reducible refine wpList_load_row rfl 122 (.tmp 2) rfl w.heap.size rfl 122 (wv (adds h V 8)).toArray (0, 0) _ HC.out Tryd.underlying122 rfl HI8.out ?_)
            | (with_reducible refine wpList_store_row rfl 122 (.tmp 4) (.tmp 120) rfl (w.heap.size + 1 + 1) (wv (adds h V 8)).toArray rfl rfl 122 _ HRS.out HI8.out HSZ.out (wv_one _) ?_))
          refine bodyPost_ret (results_cell_row (g := w.heap.size + 1 + 1) rfl _ _ _ _ _ _ rfl (setRow_heap _ _ _ _ _ _ HRS.out) Tryd.underlying122 rfl HI8.out) rfl ⟨by rw [HWE.out, HV.out], ?_⟩
          exact below_setRow HBE.out (by omega) _
end Go.Proofs.YtmkdbpdfonpfdaaDoor.Sha

/- Layer 7 (sha): a run in memory (the words, the bytes kept, the count), and what bytes that go into it turn. -/
namespace Go.Proofs.YtmkdbpdfonpfdaaDoor.Sha
open Go.RowKit

/-! ### mathematics -/
theorem getD_app_left {b c : List Int} {i : Nat} (h : i < b.length) : (b ++ c).getD i 0 = b.getD i 0 := by
  simp [List.getD, List.getElem?_append_left h]
theorem four_app {b c : List Int} {a : Nat} : ∀ j, a + j ≤ b.length → four (b ++ c) a j = four b a j
  | 0, _ => rfl
  | j + 1, h => by rw [four, four, four_app j (by omega), getD_app_left (by omega)]
theorem words_app {b c : List Int} {a : Nat} : ∀ n, a + 4 * n ≤ b.length → words (b ++ c) a n = words b a n
  | 0, _ => rfl
  | n + 1, h => by rw [words, words, words_app n (by omega), four_app 4 (by omega)]
theorem blocks_app {b c : List Int} (k h : List Wd) : ∀ n, 64 * n ≤ b.length → blocks k h (b ++ c) n = blocks k h b n
  | 0, _ => rfl
  | n + 1, hl => by
    rw [blocks, blocks, blocks_app k h n (by omega)]
    unfold block
    rw [words_app 16 (by omega)]
theorem four_drop {b : List Int} {a : Nat} (o : Nat) : ∀ j, four (b.drop a) o j = four b (a + o) j
  | 0 => rfl
  | j + 1 => by
    rw [four, four, four_drop o j]
    have e : (b.drop a).getD (o + j) 0 = b.getD (a + o + j) 0 := by
      simp [List.getD, List.getElem?_drop, Nat.add_assoc]
    rw [e]
theorem words_drop {b : List Int} {a : Nat} : ∀ n, words (b.drop a) 0 n = words b a n
  | 0 => rfl
  | n + 1 => by rw [words, words, words_drop n, four_drop, Nat.zero_add]
theorem block_at (k h : List Wd) (b : List Int) (m : Nat) (L : List Int) (hL : L = b.drop (64 * m)) : adds h (rounds k (sched 48 (words L 0 16)) h 64) 8 = block k h b (64 * m) := by
  subst hL
  unfold block
  rw [words_drop]
theorem blocks_len (k h b) (hh : h.length = 8) : ∀ n, (blocks k h b n).length = 8
  | 0 => hh
  | n + 1 => by rw [blocks]; unfold block; exact adds_len _ _ _

/-- What a run holds behind the bytes b. -/
structure Rn (b : List Int) (H : List Wd) (L : List Int) : Prop where
  l64 : L.length = 64
  byt : ∀ x ∈ L, 0 ≤ x ∧ x ≤ 255
  hash : H = blocks ks hs b (b.length / 64)
  last : L.take (b.length % 64) = b.drop (64 * (b.length / 64))
theorem Rn.h8 {b : List Int} {H : List Wd} {L : List Int} (h : Rn b H L) : H.length = 8 := by rw [h.hash]; exact blocks_len _ _ _ hs_len _
theorem Rn.start : Rn [] hs (List.replicate 64 0) :=
  ⟨by simp, fun x hx => by rw [List.mem_replicate] at hx; omega, rfl, by simp⟩
theorem splice_byt {L cs : List Int} {q : Nat} (h : ∀ x ∈ L, 0 ≤ x ∧ x ≤ 255) (h' : ∀ x ∈ cs, 0 ≤ x ∧ x ≤ 255) : ∀ x ∈ splice L q cs, 0 ≤ x ∧ x ≤ 255 := by
  intro x hx
  unfold splice at hx
  rw [List.mem_append, List.mem_append] at hx
  rcases hx with hx | hx | hx
  · exact h x (List.mem_of_mem_take hx)
  · exact h' x hx
  · exact h x (List.mem_of_mem_drop hx)
theorem splice_take {L cs : List Int} {q : Nat} (hq : q ≤ L.length) : (splice L q cs).take (q + cs.length) = L.take q ++ cs := by
  unfold splice
  rw [← List.append_assoc]
  exact List.take_left' (by simp; omega)
/-- Bytes that do not fill the block. -/
theorem Rn.some {b : List Int} {H : List Wd} {L cs : List Int} (h : Rn b H L) (hc : ∀ x ∈ cs, 0 ≤ x ∧ x ≤ 255) (hq : b.length % 64 + cs.length < 64) : Rn (b ++ cs) H (splice L (b.length % 64) cs) := by
  have hl := h.l64
  have e1 : (b ++ cs).length / 64 = b.length / 64 := by rw [List.length_append]; omega
  have e2 : (b ++ cs).length % 64 = b.length % 64 + cs.length := by rw [List.length_append]; omega
  refine ⟨by rw [length_splice _ _ _ (by omega)]; exact hl, splice_byt h.byt hc, ?_, ?_⟩
  · rw [e1, blocks_app _ _ _ (by omega)]; exact h.hash
  · rw [e1, e2, splice_take (by omega), h.last, List.drop_append_of_le_length (by omega)]
/-- Bytes that fill the block. -/
theorem Rn.full {b : List Int} {H : List Wd} {L cs : List Int} (h : Rn b H L) (hc : ∀ x ∈ cs, 0 ≤ x ∧ x ≤ 255) (hq : b.length % 64 + cs.length = 64) : Rn (b ++ cs) (adds H (rounds ks (sched 48 (words (splice L (b.length % 64) cs) 0 16)) H 64) 8) (splice L (b.length % 64) cs) := by
  have hl := h.l64
  have e1 : (b ++ cs).length / 64 = b.length / 64 + 1 := by rw [List.length_append]; omega
  have e2 : (b ++ cs).length % 64 = 0 := by rw [List.length_append]; omega
  have hls : (splice L (b.length % 64) cs).length = 64 := by rw [length_splice _ _ _ (by omega)]; exact hl
  have e3 : splice L (b.length % 64) cs = (b ++ cs).drop (64 * (b.length / 64)) := by
    have := splice_take (L := L) (cs := cs) (q := b.length % 64) (by omega)
    rw [hq, List.take_of_length_le (by omega), h.last] at this
    rw [this, List.drop_append_of_le_length (by omega)]
  refine ⟨hls, splice_byt h.byt hc, ?_, ?_⟩
  · rw [e1, blocks, blocks_app _ _ _ (by omega), ← h.hash]
    exact block_at _ _ _ _ _ e3
  · rw [e1, e2, List.take_zero, List.drop_of_length_le (by rw [List.length_append]; omega)]

/-! ### memory -/
/-- The cells of a run. -/
def rcells (H : List Wd) (L : List Int) (c : Nat) : List Value := wv H ++ (bv L ++ [.int .u64 (c : Int)])
theorem bv_len (l : List Int) : (bv l).length = l.length := by simp [bv]
theorem rcells_len {H : List Wd} {L : List Int} {c : Nat} (h : H.length = 8) (hl : L.length = 64) : (rcells H L c).length = 73 := by
  simp [rcells, wv_len, bv_len, h, hl]
theorem rcells_splice {H : List Wd} {L cs : List Int} {c q : Nat} (h : H.length = 8) (hq : q + cs.length ≤ L.length) : splice (rcells H L c) (8 + q) (bv cs) = rcells H (splice L q cs) c := by
  have hw : (wv H).length = 8 := by rw [wv_len, h]
  unfold splice rcells
  rw [bv_len, List.take_append, List.drop_append, hw, List.take_of_length_le (by omega), List.drop_of_length_le (by omega), List.nil_append, List.append_assoc,
    show 8 + q - 8 = q by omega, show 8 + q + cs.length - 8 = q + cs.length by omega, List.take_append_of_le_length (by rw [bv_len]; omega), List.drop_append_of_le_length (by rw [bv_len]; omega)]
  simp [bv, List.map_take, List.map_drop]
theorem rcells_count {H : List Wd} {L : List Int} {c d : Nat} (h : H.length = 8) (hl : L.length = 64) : (rcells H L c).toArray.setIfInBounds 72 (.int .u64 (d : Int)) = (rcells H L d).toArray := by
  have hw : (wv H).length = 8 := by rw [wv_len, h]
  have hb : (bv L).length = 64 := by rw [bv_len, hl]
  unfold rcells
  simp only [List.setIfInBounds_toArray]
  congr 1
  rw [List.set_append_right _ _ (by omega), hw, List.set_append_right _ _ (by omega), hb]
  rfl
theorem rcells_words {H H' : List Wd} {L : List Int} {c : Nat} (h : H.length = 8) (h' : H'.length = 8) : splice (rcells H L c) 0 (wv H') = rcells H' L c := by
  have hw : (wv H).length = 8 := by rw [wv_len, h]
  have hw' : (wv H').length = 8 := by rw [wv_len, h']
  unfold splice rcells
  rw [List.take_zero, List.nil_append, hw', List.drop_append, hw, List.drop_of_length_le (by omega), List.nil_append]
  simp
theorem setCells_blk {t : TypeId} (b : Nat) : ∀ (vs : List Value) (o : Nat) (cur : List Value) (w : World), w.heap[b]? = some (.cells cur.toArray t (0, 0)) → o + vs.length ≤ cur.length →
    (w.setCells b o vs).heap[b]? = some (.cells (splice cur o vs).toArray t (0, 0))
  | [], o, cur, w, h, _ => by simpa [World.setCells, splice] using h
  | v :: r, o, cur, w, h, hl => by
    rw [List.length_cons] at hl
    have h1 := heap_setCell_same w b o cur.toArray t v h
    rw [List.setIfInBounds_toArray] at h1
    rw [World.setCells, setCells_blk b r (o + 1) (cur.set o v) _ h1 (by rw [List.length_set]; omega)]
    congr 3
    unfold splice
    rw [List.length_cons, List.take_succ_eq_append_getElem (by rw [List.length_set]; omega), List.take_set_of_le (Nat.le_refl _), List.drop_set_of_lt (by omega)]
    simp [show o + 1 + r.length = o + (r.length + 1) by omega]
theorem setCells_other (b : Nat) : ∀ (vs : List Value) (o : Nat) (w : World) (k : Nat), k ≠ b → (w.setCells b o vs).heap[k]? = w.heap[k]?
  | [], _, _, _, _ => rfl
  | v :: r, o, w, k, h => by rw [World.setCells, setCells_other b r (o + 1) _ k h, heap_setCell_other _ _ _ _ h]
theorem setCells_os (b : Nat) : ∀ (vs : List Value) (o : Nat) (w : World), (w.setCells b o vs).os = w.os ∧ (w.setCells b o vs).tape = w.tape ∧ (w.setCells b o vs).output = w.output ∧ (w.setCells b o vs).heap.size = w.heap.size
  | [], _, _ => ⟨rfl, rfl, rfl, rfl⟩
  | v :: r, o, w => by
    obtain ⟨h1, h2, h3, h4⟩ := setCells_os b r (o + 1) (w.setCell ⟨b, o, none⟩ v)
    rw [World.setCells]
    exact ⟨h1, h2, h3, h4.trans (by simp [World.setCell])⟩
theorem Only.setCells (w : World) (b o : Nat) (vs : List Value) : Only (fun k => k = b) w (w.setCells b o vs) := by
  obtain ⟨h1, h2, h3, h4⟩ := setCells_os b vs o w
  exact ⟨h1, h2, h3, by omega, fun k _ hn => setCells_other b vs o w k hn⟩
theorem Only.setRow (w : World) (b : Nat) (cs : Array Value) : Only (fun k => k = b) w (w.setRow b cs) :=
  ⟨rfl, rfl, rfl, by simp, fun k _ hn => setRow_other w b k cs hn⟩

/-- A run lies in block R, behind the bytes b. -/
structure Run (w : World) (R : Nat) (b : List Int) (H : List Wd) (L : List Int) : Prop where
  blk : w.heap[R]? = some (.cells (rcells H L b.length).toArray 124 (0, 0))
  rn : Rn b H L
theorem Run.lt {w : World} {R : Nat} {b : List Int} {H : List Wd} {L : List Int} (h : Run w R b H L) : R < w.heap.size := (Array.getElem?_eq_some_iff.1 h.blk).1
theorem Run.count {w : World} {R : Nat} {b : List Int} {H : List Wd} {L : List Int} (h : Run w R b H L) : w.cell? ⟨R, 72, none⟩ = some (.int .u64 (b.length : Int)) ∧ w.frozen? ⟨R, 72, none⟩ = false := by
  refine ⟨cell_of_blk h.blk ?_, free_of_blk h.blk⟩
  have h1 := h.rn.h8
  have h2 := h.rn.l64
  rw [List.getElem?_toArray]
  unfold rcells
  rw [List.getElem?_append_right (by rw [wv_len]; omega), wv_len, List.getElem?_append_right (by rw [bv_len]; omega), bv_len, h1, h2]
  rfl
theorem Run.words {w : World} {R : Nat} {b : List Int} {H : List Wd} {L : List Int} (h : Run w R b H L) : w.rangeAt R 0 (wv H) := fun j v hv => by
  rw [Nat.zero_add]
  refine cell_of_blk h.blk ?_
  rw [List.getElem?_toArray]
  unfold rcells
  rw [List.getElem?_append_left (List.getElem?_eq_some_iff.1 hv).1]
  exact hv
theorem Run.bytes {w : World} {R : Nat} {b : List Int} {H : List Wd} {L : List Int} (h : Run w R b H L) : w.rangeAt R 8 (bv L) := fun j v hv => by
  refine cell_of_blk h.blk ?_
  have h1 := h.rn.h8
  rw [List.getElem?_toArray]
  unfold rcells
  rw [List.getElem?_append_right (by rw [wv_len]; omega), wv_len, h1, show 8 + j - 8 = j by omega, List.getElem?_append_left (List.getElem?_eq_some_iff.1 hv).1]
  exact hv
theorem Run.there {w : World} {R : Nat} {b : List Int} {H : List Wd} {L : List Int} (h : Run w R b H L) : w.there R 0 8 := fun j hj => by
  have h1 := h.rn.h8
  have := h.words j _ (wv_at (by omega))
  exact ⟨by rw [this]; rfl, free_of_blk h.blk⟩
theorem row_tail {k : IntKind} {w : World} {B b o n j : Nat} {xs : List Int} (h : Row k w B (some ⟨b, o, none⟩) n xs) (hj : j ≤ n) : Row k w B (some ⟨b, o + j, none⟩) (n - j) (xs.drop j) := by
  have hl := h.1
  refine ⟨by simp; omega, fun h0 => ?_⟩
  obtain ⟨b', o', e, hb, hc⟩ := h.2 (by omega)
  injection e with e
  injection e with e1 e2
  subst e1; subst e2
  refine ⟨b, o + j, rfl, hb, fun i hi => ?_⟩
  rw [Nat.add_assoc, hc (j + i) (by omega)]
  simp [List.getD]
theorem Tab.only {w w' : World} {R : Nat} (h : Tab w) (ho : Only (fun k => k = R) w w') (hR : Glo < R) : Tab w' :=
  ⟨Nat.lt_of_lt_of_le h.1 ho.size, fun j hj => (World.cell?_of_block (w := w) (ho.block 1 (Glo.con h.1) (by have := Glo.con hR; omega))).trans (h.2 j hj)⟩

/-- While bytes go into a run: zs are in, ys are not yet. -/
structure Ad (w : World) (R B : Nat) (b0 xs : List Int) (A : Option Addr) (m c : Nat) (zs ys : List Int) (H : List Wd) (L : List Int) (w' : World) : Prop where
  run : Run w' R (b0 ++ zs) H L
  row : Row .u8 w' B A m ys
  ne : 0 < m → ∀ b o, A = some ⟨b, o, none⟩ → b ≠ R
  le : B ≤ w.heap.size
  mc : m ≤ c
  all : xs = zs ++ ys
  only : Only (fun k => k = R) w w'
  tab : Tab w'
theorem Ad.next {w w' w3 : World} {R B bb oo m c j o' c' : Nat} {b0 xs zs ys : List Int} {H H' : List Wd} {L L' : List Int} (h : Ad w R B b0 xs (some ⟨bb, oo, none⟩) m c zs ys H L w') (hm : 0 < m) (hj : j ≤ m) (hR : Glo < R)
    (hr : Run w3 R (b0 ++ (zs ++ ys.take j)) H' L') (ho : Only (fun k => k = R) w' w3) (hoo : o' = oo + j ∨ m = j) (hc : m - j ≤ c') : Ad w R B b0 xs (some ⟨bb, o', none⟩) (m - j) c' (zs ++ ys.take j) (ys.drop j) H' L' w3 := by
  have hne := h.ne hm bb oo rfl
  refine ⟨hr, ?_, fun _ b o e => ?_, h.le, hc, ?_, h.only.trans ho (fun _ _ h => h), h.tab.only ho hR⟩
  · have hrow : Row .u8 w3 B (some ⟨bb, oo, none⟩) m ys := ho.row h.row (Nat.le_trans h.le h.only.size) (fun b o e _ => by
      injection e with e
      injection e with e1 e2
      omega)
    rcases hoo with rfl | rfl
    · exact row_tail hrow hj
    · refine ⟨by have := hrow.len; simp; omega, fun h0 => by omega⟩
  · injection e with e
    injection e with e1 e2
    omega
  · rw [List.append_assoc, List.take_append_drop]
    exact h.all
end Go.Proofs.YtmkdbpdfonpfdaaDoor.Sha

/- Lemmas that the proof stands on, in build order: Cat GfK. -/
import Derived.Test.YtdgaaghkhkklpaaJ14943df
import Derived.Test.YtdgaaghkhkklpaaJ4090e641
/- Appends as steps of a region that draws, over any program: what is told of the block, and that what was read before still reads so. -/
namespace Go.Proofs.Ytdgaaghkhkklpaa
open Go.RowKit

/-- Behind an append the old address still reads what it read. -/
theorem append_keeps {P : Program} (w : World) (base : Nat) (t ty e : TypeId) (i : TypeInfo) (z : Value) (bytes : Nat) (ht : P.underlying t = some (.slice e)) (hi : P.info? e = some i) (hz : i.zero = some z)
    (hsize : i.size = 1) (hby : i.bytes = bytes)
    (v : Value) (n : Nat) (xs : List Value) (hown : w.ownsRow base e 1 v n xs)
    (a : Addr) (m c : Nat) (news : List Value) (hl : news.length = m * 1) (hnews : ∀ j u, news[j]? = some u → w.cell? (a.add j) = some u) (h1 : ∀ u ∈ news, u.oneCell' = true)
    (h63 : n + m ≤ maxLen) (hbytes : (n + m) * bytes ≤ 140737488355328) (v' : Value) (w' : World)
    (hrun : (Builtin.append_ #[t, t] ty #[v, .slice (some a) m c]).run P w = .ok v' w') (hown' : w'.ownsRow base e 1 v' (n + m) (xs ++ news)) :
    ∀ g n' c', v = .slice (some ⟨g, 0, none⟩) n' c' → ∀ j u, xs[j]? = some u → w'.cell? ⟨g, j, none⟩ = some u := by
  intro g n' c' hv j u hj
  subst hby
  have hsmall : n + m ≤ 9223372036854775807 := by simp only [maxLen] at h63; omega
  rcases hown.2 with ⟨h0, _⟩ | ⟨g', cap, cur, hv', hbg, hg, hnc, hcm, hcs, htake⟩
  · rw [h0] at hv; cases hv
  · rw [hv'] at hv
    injection hv with hv1 _ _
    injection hv1 with hv1
    injection hv1 with hv1 _
    subst hv1
    subst hv'
    have hadd : (⟨g', 0, none⟩ : Addr).add j = ⟨g', j, none⟩ := by unfold Addr.add; split <;> simp_all
    by_cases hroom : n + m ≤ cap
    · have hfit : n * i.size + news.length ≤ cur.size := by rw [hl, hcs, hsize, ← Nat.add_mul]; exact Nat.mul_le_mul_right _ hroom
      have hr := run_append_room (P := P) w t ty e i ht hi g' n cap cur hg a m c news (by rw [hsize]; exact hl) hnews h1 hroom hfit
      rw [hr] at hrun
      injection hrun with e1 e2
      rw [← e1] at hown'
      have := hown'.cells (g := g') rfl j u (by rw [List.getElem?_append_left (List.getElem?_eq_some_iff.1 hj).1]; exact hj)
      rwa [hadd] at this
    · have holds : ∀ j u, xs[j]? = some u → w.cell? ((⟨g', 0, none⟩ : Addr).add j) = some u := hown.cells (g := g') rfl
      have hr := run_append_grow (P := P) w t ty e i z ht hi hz ⟨g', 0, none⟩ n cap xs (by rw [hsize]; exact hown.1) holds a m c news (by rw [hsize]; exact hl) hnews (by omega) (by omega) (growslice_fits (by omega) hbytes)
      rw [hr] at hrun
      injection hrun with e1 e2
      rw [← e2]
      have hb : Below w.heap.size w (w.drew.alloc (.cells (xs.toArray ++ news.toArray ++ Builtin.zeroCells z.cells (grownCap w (n + m) cap e - (n + m))) e)) := ((Below.refl _ w).drew).alloc (Nat.le_refl _) _
      have := holds j u hj
      rw [hadd] at this
      exact (hb.cell (p := ⟨g', j, none⟩) (Array.getElem?_eq_some_iff.1 hg).1).trans this

/-- 'append(out, y)' of a literal of one number, as a step of a region that draws: out is nil or one's own. -/
theorem step_push {P : Program} {ops : Array Oper} {o : Oper} {a : Act} {K : Act → World → Prop} {Q : Exit → Act → World → Prop} {E : Prop} {w0 : World} {y : Int} {k : IntKind} {e : TypeId} (hgd : o.guard = none) (s x : Operand) (t : TypeId)
    (ho : o.op = .call { callee := .builtin .append, args := #[s, x], argTypes := #[t, t] })
    (base : Nat) (i : TypeInfo) (bytes : Nat) (ht : P.underlying t = some (.slice e)) (hi : P.info? e = some i) (hz : i.zero = some (.int k 0)) (hsize : i.size = 1) (hby : i.bytes = bytes)
    (v : Value) (n : Nat) (xs : List Int) (hs : a.eval s = v) (hown0 : w0.ownsRow base e 1 v n (xs.map (Value.int k))) (hx : a.eval x = .slice (some ⟨w0.heap.size, 0, none⟩) 1 1)
    (hn : n + 1 ≤ 4398046511104) (hb8 : bytes ≤ 8) (hbase : base ≤ w0.heap.size)
    (h : ∀ v' w', w'.ownsRow base e 1 v' (n + 1) ((xs ++ [y]).map (Value.int k)) → Below base w0 w' → (∀ i, i < w0.heap.size → v.ownBlock ≠ some i → w'.heap[i]? = w0.heap[i]?) → (∀ g n' c', v = .slice (some ⟨g, 0, none⟩) n' c' → ∀ j u, (xs.map (Value.int k))[j]? = some u → w'.cell? ⟨g, j, none⟩ = some u) → K (a.put o.dst v') w') :
    if Region.wanted o (yielded ops a.tmps) = true then Oper.wp P o a (w0.alloc (.cells #[.int k y] e)) K Q else E := by
  have hw : Region.wanted o (yielded ops a.tmps) = true := by simp [Region.wanted, hgd]
  rw [if_pos hw]
  have hown : (w0.alloc (.cells #[.int k y] e)).ownsRow base e 1 v n (xs.map (Value.int k)) := hown0.alloc _
  have hnews : ∀ j u, ([Value.int k y])[j]? = some u → (w0.alloc (.cells #[.int k y] e)).cell? ((⟨w0.heap.size, 0, none⟩ : Addr).add j) = some u := by
    intro j u hj
    match j, hj with
    | 0, hj => simp at hj; subst hj; simp [Addr.add]
  have h1 : ∀ u ∈ [Value.int k y], u.oneCell' = true := by intro u hu; simp at hu; subst hu; rfl
  have h63 : n + 1 ≤ maxLen := by unfold maxLen; omega
  have hbb : (n + 1) * bytes ≤ 140737488355328 := by have := Nat.mul_le_mul hn hb8; omega
  have hbase' : base ≤ (w0.alloc (.cells #[.int k y] e)).heap.size := by simp; omega
  obtain ⟨v', w', hrun, h2, h3, _⟩ := run_append_own (P := P) (w0.alloc (.cells #[.int k y] e)) base t o.type e i (.int k 0) 1 bytes ht hi hz hsize hby rfl (by omega) v n _ hown ⟨w0.heap.size, 0, none⟩ 1 1 _ rfl hnews h1 h63 hbb hbase'
  have h5 := append_keeps (P := P) (w0.alloc (.cells #[.int k y] e)) base t o.type e i (.int k 0) bytes ht hi hz hsize hby v n _ hown ⟨w0.heap.size, 0, none⟩ 1 1 _ rfl hnews h1 h63 hbb v' w' hrun h2
  unfold Oper.wp execOp
  simp only [ho, resolve, invoke, builtin, Sem.run_bind, Sem.run_pure, Result.andThen_ok, List.map_toArray, List.map_cons, List.map_nil, hs, hx, hrun]
  refine h v' w' (by simpa using h2) (((Below.refl _ _).alloc hbase _).grown h3 hbase' (fun j hj => (hown.lt j hj).1)) (fun i hi hne => ?_) h5
  exact (h3.block i (by simp; omega) (fun e => hne e.symm)).trans (((Below.refl w0.heap.size w0).alloc (Nat.le_refl _) _).block i hi)

/-- 'append(out, y1, y2, ..)' of a literal of numbers, as a step of a region that draws: out is nil or one's own. -/
theorem step_lit {P : Program} {ops : Array Oper} {o : Oper} {a : Act} {K : Act → World → Prop} {Q : Exit → Act → World → Prop} {E : Prop} {w0 : World} {cs : Array Value} {k : IntKind} {e : TypeId} (hgd : o.guard = none) (s x : Operand) (t : TypeId)
    (ho : o.op = .call { callee := .builtin .append, args := #[s, x], argTypes := #[t, t] })
    (base : Nat) (i : TypeInfo) (bytes : Nat) (ht : P.underlying t = some (.slice e)) (hi : P.info? e = some i) (hz : i.zero = some (.int k 0)) (hsize : i.size = 1) (hby : i.bytes = bytes)
    (v : Value) (n : Nat) (xs : List Int) (hs : a.eval s = v) (hown0 : w0.ownsRow base e 1 v n (xs.map (Value.int k))) (m : Nat) (ys : List Int) (hx : a.eval x = .slice (some ⟨w0.heap.size, 0, none⟩) m m) (hm : ys.length = m) (hcs : cs = (ys.map (Value.int k)).toArray)
    (hn : n + m ≤ 4398046511104) (hb8 : bytes ≤ 8) (hbase : base ≤ w0.heap.size)
    (h : ∀ v' w', w'.ownsRow base e 1 v' (n + m) ((xs ++ ys).map (Value.int k)) → Below base w0 w' → K (a.put o.dst v') w') :
    if Region.wanted o (yielded ops a.tmps) = true then Oper.wp P o a (w0.alloc (.cells cs e)) K Q else E := by
  have hw : Region.wanted o (yielded ops a.tmps) = true := by simp [Region.wanted, hgd]
  rw [if_pos hw]
  subst hcs
  have hown : (w0.alloc (.cells (ys.map (Value.int k)).toArray e)).ownsRow base e 1 v n (xs.map (Value.int k)) := hown0.alloc _
  have hnews : ∀ j u, (ys.map (Value.int k))[j]? = some u → (w0.alloc (.cells (ys.map (Value.int k)).toArray e)).cell? ((⟨w0.heap.size, 0, none⟩ : Addr).add j) = some u := by
    intro j u hj
    have hadd : (⟨w0.heap.size, 0, none⟩ : Addr).add j = ⟨w0.heap.size, j, none⟩ := by unfold Addr.add; split <;> simp_all
    rw [hadd]
    exact cell_of_blk (heap_alloc_new w0 _) (by simpa using hj)
  have h1 : ∀ u ∈ ys.map (Value.int k), u.oneCell' = true := by
    intro u hu
    obtain ⟨y, _, rfl⟩ := List.mem_map.1 hu
    rfl
  have h63 : n + m ≤ maxLen := by unfold maxLen; omega
  have hbb : (n + m) * bytes ≤ 140737488355328 := by have := Nat.mul_le_mul hn hb8; omega
  have hbase' : base ≤ (w0.alloc (.cells (ys.map (Value.int k)).toArray e)).heap.size := by simp; omega
  obtain ⟨v', w', hrun, h2, h3, _⟩ := run_append_own (P := P) (w0.alloc (.cells (ys.map (Value.int k)).toArray e)) base t o.type e i (.int k 0) 1 bytes ht hi hz hsize hby rfl (by omega) v n _ hown ⟨w0.heap.size, 0, none⟩ m m _ (by simp [hm]) hnews h1 h63 hbb hbase'
  unfold Oper.wp execOp
  simp only [ho, resolve, invoke, builtin, Sem.run_bind, Sem.run_pure, Result.andThen_ok, List.map_toArray, List.map_cons, List.map_nil, hs, hx, hrun]
  exact h v' w' (by simpa using h2) (((Below.refl _ _).alloc hbase _).grown h3 hbase' (fun j hj => (hown.lt j hj).1))

/-- 'append(out, y1, y2, ..)' of a literal of numbers, in plain code: out is nil or one's own. -/
theorem lit_own {P : Program} {ops : Array Oper} {rest : List Oper} {o : Oper} {a : Act} {Q : Exit → Act → World → Prop} {w : World} {cs : Array Value} (hgd : o.guard = none) (s x : Operand) (t : TypeId)
    (ho : o.op = .call { callee := .builtin .append, args := #[s, x], argTypes := #[t, t] })
    (base : Nat) (e : TypeId) (i : TypeInfo) (k : IntKind) (bytes : Nat) (ht : P.underlying t = some (.slice e)) (hi : P.info? e = some i) (hz : i.zero = some (.int k 0)) (hsize : i.size = 1) (hby : i.bytes = bytes)
    (v : Value) (n : Nat) (xs : List Int) (hs : a.eval s = v) (hown : w.ownsRow base e 1 v n (xs.map (Value.int k))) (m : Nat) (ys : List Int) (hx : a.eval x = .slice (some ⟨w.heap.size, 0, none⟩) m m) (hm : ys.length = m) (hcs : cs = (ys.map (Value.int k)).toArray)
    (hn : n + m ≤ 4398046511104) (hb8 : bytes ≤ 8) (hbase : base ≤ w.heap.size)
    (h : ∀ v' w', w'.ownsRow base e 1 v' (n + m) ((xs ++ ys).map (Value.int k)) → Below base w w' → wpList P ops Q rest (a.put o.dst v') w') :
    wpList P ops Q (o :: rest) a (w.alloc (.cells cs e)) := by
  subst hcs
  refine cat_own hgd s x t ho base e i k bytes ht hi hz hsize hby v n xs hs (hown.alloc _) (w.heap.size + 1) (some ⟨w.heap.size, 0, none⟩) m m ys hx (fun h => by cases h) ⟨hm, fun _ => ⟨w.heap.size, 0, rfl, by omega, fun j hj => ?_⟩⟩ hn hb8 (by simp; omega) (fun v' w' h1 h2 => h v' w' h1 (((Below.refl _ _).alloc hbase _).trans h2))
  rw [Nat.zero_add]
  refine cell_of_blk (heap_alloc_new w _) ?_
  rw [List.getElem?_toArray, List.getElem?_map, List.getElem?_eq_getElem (by omega)]
  simp [List.getD, List.getElem?_eq_getElem (show j < ys.length by omega)]
end Go.Proofs.Ytdgaaghkhkklpaa

/- Layer 15 (graph), the landed program: spread, as a contract. -/
namespace Go.Proofs.Ytdgaaghkhkklpaa.Gf
open Go.RowKit Rec Ints Ge

theorem hold_cell {w : World} {base g cap j : Nat} {e : TypeId} {L : List Int} {x : Int} (h : Hold intS w base e g cap L) (hj : L[j]? = some x) : w.cell? ⟨g, j, none⟩ = some (.int .i64 x) := by
  have h1 := h.cells hj 0 (by show 0 < 1; omega)
  have h2 : j * intS.c + 0 = j := Nat.mul_one j
  rw [h2] at h1
  exact h1
theorem hold_set {w : World} {base g cap k : Nat} {e : TypeId} {L : List Int} (h : Hold intS w base e g cap L) (x : Int) (hk : k < L.length) : Hold intS (w.setCell ⟨g, k, none⟩ (.int .i64 x)) base e g cap (L.set k x) := by
  have h1 := h.field (i := 0) (b := x) (u := .int .i64 x) (List.getElem?_eq_getElem hk) (by show 0 < 1; omega) rfl
  have h2 : k * intS.c + 0 = k := Nat.mul_one k
  rw [h2] at h1
  exact h1
theorem ints_flat (l : List Int) : intS.flat l = l.map (Value.int .i64) := by
  induction l with
  | nil => rfl
  | cons a t ih => rw [flat_cons, ih]; rfl
theorem nxt_len (L : List L3) (u : Nat) : (nxt L u).length ≤ 2 * L.length := by
  unfold nxt pick
  rw [List.length_map, ← wys_len]
  exact List.length_filter_le _ _
/-- Under way. -/
structure SpS (N : Nt) (t : Nat) (ys : List Int) (w : World) (n cap tb base pb bp : Nat) (V : List Value) (R : List Nat) (xs : List Int) (v : Value) (k j : Nat) (wr : World) : Prop where
  sp : Sp N t ys R xs k j
  own : wr.ownsRow w.heap.size 3 1 v R.length (intS.flat (nums R))
  hold : Hold intS wr bp 3 pb cap xs
  tab : Tab wr base tb n V (nxt N.lk)
  only : Only (fun i => i = pb) w wr
/-- Nothing but what is new turned. -/
theorem only_far {w w1 w2 : World} {pb : Nat} {M : Nat → Prop} (h : Only (fun i => i = pb) w w1) (ho : Only M w1 w2) (hM : ∀ i, i < w.heap.size → M i → i = pb) : Only (fun i => i = pb) w w2 := h.trans ho hM

set_option maxHeartbeats 1600000 in
set_option maxRecDepth 100000 in
theorem spread_any (N : Nt) (hN : Valid N) (t n cap tb base pb bp : Nat) (V : List Value) (xs : List Int) (w : World) (hn : N.st.length = n) (hT : Tab w base tb n V (nxt N.lk)) (hH : Hold intS w bp 3 pb cap xs)
    (hsep : pb ≠ tb ∧ ∀ (u : Nat) (v : Value), V[u]? = some v → v.ownBlock ≠ some pb) (hpm : Pm N t xs) (ht : t < n) (hx : xs[t]? = some (-1)) :
    Calls Try.prog 38 #[.int .i64 (t : Int), .slice (some ⟨tb, 0, none⟩) n n, .slice (some ⟨pb, 0, none⟩) n cap] w fun e w' => e = .returned (.tuple #[]) ∧ ∃ xs', Hold intS w' bp 3 pb cap xs' ∧ Pm N (t + 1) xs' ∧ Only (fun i => i = pb) w w' := by
  obtain ⟨i0, hi, hz0, hz1, hz2⟩ := info_of info_int
  have hn9 : n ≤ 4096 := by have := hN.ns; omega
  have hpl := hH.lt
  have hxl : xs.length = n := by rw [hpm.len, hn]
  have HSP := Lib.hid (Sp.start hpm (by rw [hn]; exact ht) hx)
  have c0 : w.cell? ⟨pb, t, none⟩ = some (.int .i64 (-1)) := hold_cell hH hx
  have f0 : w.frozen? ⟨pb, t, none⟩ = false := hH.free _
  have HH1 := Lib.hid (hold_set hH (t : Int) (by rw [hxl]; exact ht))
  have hos := Only.setCell w ⟨pb, t, none⟩ (.int .i64 (t : Int))
  have HT1 := Lib.hid (hT.keep hos (show ¬ tb = pb from fun e => hsep.1 e.symm) (fun i _ _ ⟨u, v, hv, hvi⟩ e => hsep.2 u v hv (by rw [hvi]; exact congrArg some e)))
  have HO1 : Hid (Only (fun i => i = pb) w (w.setCell ⟨pb, t, none⟩ (.int .i64 (t : Int)))) := hos
  have HSEP := Lib.hid hsep
  have HN := Lib.hid hN
  have HNL := Lib.hid hn
  have HBT := Lib.hid (hT.lt)
  have HVL : Hid (∀ (u : Nat) (v : Value), V[u]? = some v → ∀ i, v.ownBlock = some i → i < w.heap.size) := fun u v hv i hi => ((hT.own u v hv).1.lt i hi).2
  have b1 : (0 : Int) ≤ (t : Int) := by omega
  have b2 : (t : Int) < (n : Int) := by omega
  clear hH hT hpm hx hos hsep hxl hN hn
  go_enter Try.func38, Try.ntmps38
  go_wp2
  have hs1 : (w.setCell ⟨pb, t, none⟩ (.int .i64 (t : Int))).heap.size = w.heap.size := by rw [World.size_setCell]
  have hbA := (Below.refl (w.setCell ⟨pb, t, none⟩ (.int .i64 (t : Int))).heap.size (w.setCell ⟨pb, t, none⟩ (.int .i64 (t : Int)))).alloc (Nat.le_refl _) (.cells #[.int .i64 (t : Int)] 3)
  have hnw := heap_alloc_new (w.setCell ⟨pb, t, none⟩ (.int .i64 (t : Int))) (.cells #[.int .i64 (t : Int)] 3)
  have HS0 : Hid (SpS N t xs w n cap tb base pb bp V [t] (xs.set t (t : Int)) (.slice (some ⟨w.heap.size, 0, none⟩) 1 1) 0 0 ((w.setCell ⟨pb, t, none⟩ (.int .i64 (t : Int))).alloc (.cells #[.int .i64 (t : Int)] 3))) := by
    refine ⟨HSP.out, ?_, HH1.out.below hbA, HT1.out.below hbA, only_far HO1.out (Only.of_below (M := fun _ => False) hbA) (fun _ _ h => h.elim)⟩
    rw [hs1] at hnw
    exact ⟨rfl, .inr ⟨w.heap.size, 1, _, rfl, Nat.le_refl _, hnw, Nat.le_refl _, by unfold maxLen; omega, rfl, rfl⟩⟩
  try rw [hs1]
  clear hbA hnw HSP HH1 HT1 HO1 c0 f0 hs1
  generalize ((w.setCell ⟨pb, t, none⟩ (.int .i64 (t : Int))).alloc (.cells #[.int .i64 (t : Int)] 3)) = wz at HS0 ⊢
  go_loopw [6, 7, 9, 30] (fun v6 v7 v9 v30 wr => ∃ (k : Nat) (R : List Nat) (zs : List Int), v7 = .int .i64 (k : Int) ∧ k ≤ R.length ∧ Hid (SpS N t xs w n cap tb base pb bp V R zs v6 k 0 wr)) (fun _ v7 _ _ _ => n + 1 - (intOf v7).toNat)
  case atStart => exact ⟨0, [t], _, rfl, by simp, HS0⟩
  case round =>
    clear HS0
    obtain ⟨k, R, zs, rfl, hkR, HS⟩ := hrel
    have hRn : R.length ≤ n := by have := HS.out.sp.le; rw [HNL.out] at this; exact this
    obtain ⟨A6, c6, rfl, -⟩ := ownr_slice HS.out.own
    have hbr : w.heap.size ≤ wr.heap.size := HS.out.only.size
    by_cases hlt : k < R.length
    · have hrow : RRow intS wr wr.heap.size A6 R.length (nums R) := RRow.of_own (S := intS) HS.out.own
      obtain ⟨b6, o6, xu, rfl, -, hxu, cu⟩ := int_at hrow hlt
      obtain ⟨u, hu, rfl⟩ := nums_at hxu
      have HU := Lib.hid hu
      have hun : u < n := by have := HS.out.sp.lt u (List.mem_of_getElem? hu); rw [HNL.out] at this; exact this
      obtain ⟨v, hv⟩ : ∃ v, V[u]? = some v := ⟨_, List.getElem?_eq_getElem (by rw [HS.out.tab.len]; exact hun)⟩
      have HV := Lib.hid hv
      obtain ⟨An, cn, rfl, -⟩ := ownr_slice (HS.out.tab.own u v hv).1
      obtain ⟨ln, hln⟩ : ∃ ln, (nxt N.lk u).length = ln := ⟨_, rfl⟩
      have HLN := Lib.hid hln
      have hl9 : ln ≤ 32768 := by have h1 := nxt_len N.lk u; have h2 := HN.out.nl; omega
      rw [hln] at hv
      have ct : wr.cell? ⟨tb, u, none⟩ = some (.slice An ln cn) := cell_of_blk HS.out.tab.blk (by simpa using hv)
      have a1 : (0 : Int) ≤ (u : Int) := by omega
      have a2 : (u : Int) < (n : Int) := by omega
      have a3 : (0 : Int) ≤ (k : Int) := by omega
      have a4 : (k : Int) < (R.length : Int) := by omega
      have HS1 := HS
      have HU1 : Hid (R[k]? = some u) := HU
      have hnum : (nums R).length = R.length := nums_len R
      clear hrow hxu hu hv hln
      go_wp2
      clear cu ct
      go_loopw [6, 9, 30] (fun v6 v9 v30 wr => ∃ (j : Nat) (R : List Nat) (zs : List Int), v30 = .int .i64 (j : Int) ∧ j ≤ ln ∧ k < R.length ∧ Hid (R[k]? = some u) ∧ Hid (SpS N t xs w n cap tb base pb bp V R zs v6 k j wr)) (fun _ _ v30 _ => ln - (intOf v30).toNat)
      case atStart => exact ⟨0, R, zs, rfl, Nat.zero_le _, hlt, HU1, HS1⟩
      case round =>
        clear HS1 HU1 HS HU hnum a4 hlt hkR hRn
        obtain ⟨j, R, zs, rfl, hj, hkR, HU, HS⟩ := hrel
        have hRn : R.length ≤ n := by have := HS.out.sp.le; rw [HNL.out] at this; exact this
        by_cases hlj : j < ln
        · have hrow : RRow intS wr wr.heap.size An ln (nxt N.lk u) := by
            have h1 := (HS.out.tab.own u _ HV.out).1
            rw [HLN.out] at h1
            have h2 : wr.ownsRow base 3 1 (.slice An ln cn) ln (intS.flat (nxt N.lk u)) := by rw [show intS.flat (nxt N.lk u) = (nxt N.lk u).map (Value.int .i64) from ints_flat _]; exact h1
            exact RRow.of_own (S := intS) h2
          obtain ⟨bq, oq, y, rfl, -, hy, cy⟩ := int_at hrow hlj
          obtain ⟨y, wg, rfl, hyn, -⟩ := nxt_of HN.out (List.mem_of_getElem? hy)
          rw [HNL.out] at hyn
          have HY := Lib.hid hy
          obtain ⟨px, hpx⟩ : ∃ px, zs[y]? = some px := ⟨_, List.getElem?_eq_getElem (by rw [HS.out.sp.len, HNL.out]; exact hyn)⟩
          have cp := hold_cell HS.out.hold hpx
          have fp : wr.frozen? ⟨pb, y, none⟩ = false := HS.out.hold.free _
          have HPX := Lib.hid hpx
          have hjw : IntKind.i64.wrap ((j : Int) + 1) = (j : Int) + 1 := IntWalk.i64_in _ ⟨by omega, by omega⟩
          have a5 : (0 : Int) ≤ (y : Int) := by omega
          have a6 : (y : Int) < (n : Int) := by omega
          have a7 : (0 : Int) ≤ (j : Int) := by omega
          have a8 : (j : Int) < (ln : Int) := by omega
          obtain ⟨A6, c6, rfl, -⟩ := ownr_slice HS.out.own
          clear hrow hy hpx
          cases hd : (px == (-1)) with
          | false =>
            have HSN : Hid (SpS N t xs w n cap tb base pb bp V R zs (.slice A6 R.length c6) k (j + 1) wr) := { HS.out with sp := HS.out.sp.old HN.out HU.out HY.out (fun e => by rw [HPX.out] at e; injection e with e; exact beq_eq_false_iff_ne.1 hd e) }
            go_wp2
            go_roundw
            case rel => exact ⟨j + 1, R, zs, by go_num, by omega, hkR, HU, HSN⟩
            case measure => simp [intOf]; omega
          | true =>
            have hpe : px = -1 := beq_iff_eq.1 hd
            subst hpe
            have HSP := Lib.hid (HS.out.sp.new HN.out HU.out HY.out HPX.out)
            have hos := Only.setCell wr ⟨pb, y, none⟩ (.int .i64 (t : Int))
            have HH1 := Lib.hid (hold_set HS.out.hold (t : Int) (by rw [HS.out.sp.len, HNL.out]; exact hyn))
            have HT1 := Lib.hid (HS.out.tab.keep hos (show ¬ tb = pb from fun e => HSEP.out.1 e.symm) (fun i _ _ ⟨a, va, hva, hvi⟩ e => HSEP.out.2 a va hva (by rw [hvi]; exact congrArg some e)))
            have hown1 := ownr_only HS.out.own hos (fun i hi e => by have := (HS.out.own.lt i hi).1; have e : i = pb := e; omega)
            have HO1 := Lib.hid (only_far HS.out.only hos (fun i _ h => h))
            have HDO := Lib.hid (ownr_alloc hown1 (.cells #[.int .i64 (y : Int)] 3))
            have HNEW := Lib.hid (new_int (wr.setCell ⟨pb, y, none⟩ (.int .i64 (t : Int))) (y : Int) 3)
            have hbA := (Below.refl (wr.setCell ⟨pb, y, none⟩ (.int .i64 (t : Int))).heap.size (wr.setCell ⟨pb, y, none⟩ (.int .i64 (t : Int)))).alloc (Nat.le_refl _) (.cells #[.int .i64 (y : Int)] 3)
            have HBA := Lib.hid hbA
            have hsz : (wr.setCell ⟨pb, y, none⟩ (.int .i64 (t : Int))).heap.size = wr.heap.size := by rw [World.size_setCell]
            have hbz : w.heap.size ≤ ((wr.setCell ⟨pb, y, none⟩ (.int .i64 (t : Int))).alloc (.cells #[.int .i64 (y : Int)] 3)).heap.size := by have := HS.out.only.size; rw [World.size_alloc, hsz]; omega
            clear hos hown1 hbA
            go_wp2_with (at_builtin; go_loud (refine push_rec intS rfl (.tmp 43) (.tmp 45) 42 rfl w.heap.size 3 i0 (.int .i64 0) 8 Try.underlying42 hi hz0 rfl hz1 hz2 _ R.length (nums R) rfl HDO.out ⟨wr.heap.size, 0, none⟩ (y : Int) rfl (by rw [← hsz]; exact HNEW.out) (by omega) (by omega) hbz ?_); intro v2 w2 hown2 hgr2 hb2; have HO2 := Lib.hid hown2; have HG2 := Lib.hid hgr2; clear hown2 hgr2 hb2)
            have HSN : Hid (SpS N t xs w n cap tb base pb bp V (R ++ [y]) (zs.set y (t : Int)) v2 k (j + 1) w2) := by
              have hog := Only.of_grown HG2.out
              have hlo : ∀ i, i < w.heap.size → ¬ (Value.slice A6 R.length c6).ownBlock = some i := fun i hi e => by have := (HDO.out.lt i e).1; omega
              refine ⟨HSP.out, ?_, (HH1.out.below HBA.out).keep (hog.block pb (HH1.out.below HBA.out).lt (hlo pb hpl)), (HT1.out.below HBA.out).keep hog (hlo tb HBT.out) (fun i _ _ ⟨a, va, hva, hvi⟩ => ?_), only_far (only_far HO1.out (Only.of_below (M := fun _ => False) HBA.out) (fun _ _ h => h.elim)) hog (fun i hi e => absurd e (hlo i hi))⟩
              · have h1 := HO2.out
                rw [List.length_append]
                unfold nums at h1 ⊢
                rw [List.map_append]
                exact h1
              · exact hlo i (HVL.out a va hva i hvi)
            clear HDO HNEW HBA HO2 HG2 HSP HH1 HT1 HO1 HS
            go_wp2
            go_roundw
            case rel => exact ⟨j + 1, R ++ [y], _, by go_num, by omega, by rw [List.length_append]; omega, by unfold Hid; rw [List.getElem?_append_left hkR]; exact HU.out, HSN⟩
            case measure => simp [intOf]; omega
        · have hjl : j = ln := by omega
          subst hjl
          have HSN : Hid (SpS N t xs w n cap tb base pb bp V R zs u6 (k + 1) 0 wr) := { HS.out with sp := HS.out.sp.next HU.out (Nat.le_of_eq HLN.out) }
          have hkw : IntKind.i64.wrap ((k : Int) + 1) = (k : Int) + 1 := IntWalk.i64_in _ ⟨by omega, by omega⟩
          clear HS
          go_wp2
          go_roundw
          case rel => exact ⟨k + 1, R, zs, by go_num, by omega, HSN⟩
          case measure => simp [intOf]; omega
    · have HE : Hid (Pm N (t + 1) zs) := HS.out.sp.done HN.out (by omega)
      have a4 : ¬ (k : Int) < (R.length : Int) := by omega
      go_wp2
      go_end0
      exact ⟨rfl, zs, HS.out.hold, HE.out, HS.out.only⟩
end Go.Proofs.Ytdgaaghkhkklpaa.Gf

/- Lemmas that the proof stands on, in build order: ChM ShaT Cat ShaV. -/
import Derived.Deep.QuietTactic
import Derived.BigQuiet
import Derived.Test.YtppbpmmfcoblmaaDoorJ1ef7bc1
import Derived.Test.YtppbpmmfcoblmaaDoorJ24e72b8
import Derived.Test.YtppbpmmfcoblmaaDoorJ8c07942
/- Layer 11 (challenge) as plain mathematics; no program's text is named here. -/
namespace Go.Proofs.YtppbpmmfcoblmaaDoor.Chl
open Go.RowKit Var Fld Frm Sha Hmc Rg Tok

def devn : List Int := [100, 101, 118, 105, 99, 101]
def answ : List Int := [97, 110, 115, 119, 101, 114]
/-- A device's key; an answer's tag; an answer. -/
def devK (k b : List Int) : List Int := mac k (devn ++ 0 :: b)
def ansT (k q : List Int) (t : Int) : List Int := mac k (answ ++ 0 :: (q ++ num t))
def cont (k q : List Int) (t : Int) : List Int := num t ++ (num 32 ++ ansT k q t)
def may (q : List Int) (t : Int) : Prop := q.length = 16 ∧ 0 ≤ t ∧ t ≤ 1099511627776
instance (q : List Int) (t : Int) : Decidable (may q t) := by unfold may; infer_instance
def answer (k q : List Int) (t : Int) : List Int × Nat := if may q t then (frame 6 (cont k q t), 0) else ([], 2)
def device (E : List Kl) (b : List Int) : List Int × Nat :=
  if (opn b).2.2 ≠ 0 then ([], (opn b).2.2)
  else match fnd E (opn b).1.ep with
    | none => ([], 20)
    | some k => if tagT k (opn b).1 ≠ (opn b).2.1 then ([], 21) else (devK k b, 0)
/-- An answer that is read: its time, its tag, what was wrong. -/
def a1 (C : List Int) : List Int × Nat := rd1 (C, 0) 1099511627776
def aAt (C : List Int) : Int := rv1 (C, 0) 1099511627776
def aTag (C : List Int) : List Int := vals (a1 C).2 (nxl (a1 C).1 32)
def a2 (C : List Int) : List Int × Nat := after (a1 C).1 (a1 C).2 (nxl (a1 C).1 32).2.1 (nxl (a1 C).1 32).2.2
def aDn (C : List Int) : Nat := done (a2 C).1 (a2 C).2
def chkF (ok : Bool) (v : T × Nat) (er dn : Nat) (at_ : Int) (same : Bool) (nw sl : Int) : T × Nat :=
  if ok = false then (T.zero, 2)
  else if v.2 ≠ 0 then (T.zero, v.2)
  else if er ≠ 0 then (T.zero, er)
  else if dn ≠ 0 then (T.zero, dn)
  else if sl < at_ - nw ∨ sl < nw - at_ then (T.zero, 22)
  else if same = false then (T.zero, 21)
  else (v.1, 0)
def check (E : List Kl) (b q a : List Int) (nw sl : Int) : T × Nat :=
  chkF (decide (may q nw ∧ 0 ≤ sl)) (verify E b nw) (wholly 6 a).2 (aDn (wholly 6 a).1) (aAt (wholly 6 a).1) (decide (aTag (wholly 6 a).1 = ansT (device E b).1 q (aAt (wholly 6 a).1))) nw sl

theorem ansT_len (k q : List Int) (t : Int) : (ansT k q t).length = 32 := mac_len _ _
theorem ansT_byt (k q : List Int) (t : Int) : ∀ x ∈ ansT k q t, 0 ≤ x ∧ x ≤ 255 := sum256_byt _
theorem devK_len (k b : List Int) : (devK k b).length = 32 := mac_len _ _
theorem devK_byt (k b : List Int) : ∀ x ∈ devK k b, 0 ≤ x ∧ x ≤ 255 := sum256_byt _
theorem cont_byt (k q : List Int) (t : Int) : ∀ x ∈ cont k q t, 0 ≤ x ∧ x ≤ 255 := by
  intro x hx
  simp only [cont, List.mem_append] at hx
  rcases hx with h | h | h
  · exact num_byt _ x h
  · exact num_byt _ x h
  · exact ansT_byt k q t x h
theorem cont_len {k q : List Int} {t : Int} (h : t ≤ 9223372036854775807) : (cont k q t).length ≤ 52 := by
  have a := num_len h
  have b : (num 32).length ≤ 10 := num_len (by omega)
  have c := ansT_len k q t
  simp only [cont, List.length_append]
  omega
/-- Bytes that were written are read. -/
theorem nxl_32 {G : List Int} (hG : G.length = 32) : nxl (num 32 ++ G) 32 = (G, (num 32).length + 32, 0) := by
  have en : nxt (num 32 ++ G) 32 = (32, (num 32).length, 0) := by
    have e : take 0 0 (num 32 ++ G) = (32, (num 32).length, 0) := take_put0 (n := 32) (by omega) G
    unfold nxt
    rw [e]
    rfl
  unfold nxl
  simp only [en, ne_eq, not_true_eq_false, if_false]
  rw [if_neg (by simp; omega)]
  rw [List.drop_left' rfl]
  simp only [Prod.mk.injEq, and_true]
  exact ⟨List.take_of_length_le (by show G.length ≤ 32; omega), rfl⟩
/-- What was answered is read. -/
theorem read_cont {k q : List Int} {t : Int} (h0 : 0 ≤ t) (h1 : t ≤ 1099511627776) : aAt (cont k q t) = t ∧ aTag (cont k q t) = ansT k q t ∧ aDn (cont k q t) = 0 := by
  obtain ⟨G, hG⟩ : ∃ G, ansT k q t = G := ⟨_, rfl⟩
  have hGl : G.length = 32 := by rw [← hG]; exact ansT_len _ _ _
  have e : cont k q t = num t ++ (num 32 ++ G) := by unfold cont; rw [hG]
  obtain ⟨a, b⟩ := rd1_num (k := t) (most := 1099511627776) (ys := num 32 ++ G) h0 h1 (by omega)
  have el := nxl_32 hGl
  rw [e, hG]
  have e1 : a1 (num t ++ (num 32 ++ G)) = (num 32 ++ G, 0) := a
  refine ⟨b, ?_, ?_⟩
  · unfold aTag
    rw [e1]
    simp [vals, el]
  · have e2 : a2 (num t ++ (num 32 ++ G)) = ([], 0) := by
      unfold a2
      rw [e1]
      simp only [el, after, ne_eq, not_true_eq_false, if_false]
      rw [List.drop_of_length_le (by simp; omega)]
    unfold aDn
    rw [e2]
    rfl
theorem device_body {E : List Kl} {k : List Int} {t : T} (h : t.may) (hf : fnd E t.ep = some k) : device E (frame 2 (body k t)) = (devK k (frame 2 (body k t)), 0) := by
  unfold device
  rw [opn_body h]
  simp only [ne_eq, not_true_eq_false, if_false, hf]
/-- What verifies has a device's key. -/
theorem device_of {E : List Kl} {b : List Int} {nw : Int} (h : (verify E b nw).2 = 0) : ∃ k, fnd E (opn b).1.ep = some k ∧ device E b = (devK k b, 0) := by
  unfold verify at h
  unfold device
  by_cases h0 : (opn b).2.2 = 0
  · simp only [h0, ne_eq, not_true_eq_false, if_false] at h ⊢
    cases hf : fnd E (opn b).1.ep with
    | none => rw [hf] at h; cases h
    | some k =>
      rw [hf] at h
      simp only at h ⊢
      by_cases h1 : tagT k (opn b).1 = (opn b).2.1
      · simp only [h1, not_true_eq_false, if_false]
        exact ⟨k, rfl, rfl⟩
      · simp only [h1, not_false_eq_true, if_true] at h; cases h
  · simp only [h0, ne_eq, not_false_eq_true, if_true] at h
/-- The answer to a question, taken for another one. -/
theorem check_cont {E : List Kl} {b q q' : List Int} {nw sl at_ : Int} {t : T} {k : List Int} (hq : may q' nw) (hsl : 0 ≤ sl) (hv : verify E b nw = (t, 0)) (hd : (device E b).1 = k) (h0 : 0 ≤ at_) (h1 : at_ ≤ 1099511627776) :
    check E b q' (frame 6 (cont k q at_)) nw sl = if sl < at_ - nw ∨ sl < nw - at_ then (T.zero, 22) else if ansT k q at_ = ansT k q' at_ then (t, 0) else (T.zero, 21) := by
  have hl := cont_len (k := k) (q := q) (t := at_) (by omega)
  have hw : wholly 6 (frame 6 (cont k q at_)) = (cont k q at_, 0) := wholly_frame (by omega)
  obtain ⟨r1, r2, r3⟩ := read_cont (k := k) (q := q) h0 h1
  unfold check
  rw [hw]
  simp only
  rw [r1, r2, r3, hv, hd]
  unfold chkF
  rw [if_neg (by simp [hq, hsl])]
  simp only [ne_eq, not_true_eq_false, if_false, decide_eq_false_iff_not]
  by_cases c : ansT k q at_ = ansT k q' at_
  · simp only [c, not_true_eq_false, if_false, if_true]
  · simp only [c, not_false_eq_true, if_true, if_false]
end Go.Proofs.YtppbpmmfcoblmaaDoor.Chl

/- Layer 7 (sha): the reference's turned, as a contract. -/
namespace Go.Proofs.YtppbpmmfcoblmaaDoor.Sha
open Go.RowKit

set_option maxHeartbeats 800000 in
set_option maxRecDepth 100000 in
theorem turned_any (a : Wd) (n : Nat) (h1 : 0 < n) (h2 : n < 32) (w : World) : Calls Tryd.prog 96 #[.int .u32 (wi a), .int .i64 (n : Int)] w fun e w' => e = .returned (.int .u32 (wi (rot a n))) ∧ ∃ q, w' = w.drewN q := by
  have hw : IntKind.i64.wrap (32 - (n : Int)) = 32 - (n : Int) := IntWalk.i64_in _ ⟨by omega, by omega⟩
  have i1 : (0 : Int) ≤ (n : Int) := by omega
  have i2 : (0 : Int) ≤ 32 - (n : Int) := by omega
  go_enter Tryd.func96, Tryd.ntmps96
  go_wp2_with fail
  go_quiet (fail)
  go_wp2
  go_ret
  refine ⟨?_, _, rfl⟩
  show Ending.returned (.int .u32 (bits .or .u32 (wi a / 2 ^ n) (wi a * 2 ^ (32 - n) % 4294967296))) = _
  rw [wi_shr, wi_shl, wi_or]
  rfl
/-- The same, by the number as it stands. -/
theorem turned_z (a : Wd) (z : Int) (h1 : 0 < z) (h2 : z < 32) (w : World) : Calls Tryd.prog 96 #[.int .u32 (wi a), .int .i64 z] w fun e w' => e = .returned (.int .u32 (wi (rot a z.toNat))) ∧ ∃ q, w' = w.drewN q := by
  obtain ⟨n, rfl⟩ := Int.eq_ofNat_of_zero_le (show 0 ≤ z by omega)
  exact turned_any a n (by omega) (by omega) w
end Go.Proofs.YtppbpmmfcoblmaaDoor.Sha

/- Appends as steps of a region that draws, over any program: what is told of the block, and that what was read before still reads so. -/
namespace Go.Proofs.YtppbpmmfcoblmaaDoor
open Go.RowKit

/-- Behind an append the old address still reads what it read. -/
theorem append_keeps {P : Program} (w : World) (base : Nat) (t ty e : TypeId) (i : TypeInfo) (z : Value) (bytes : Nat) (ht : P.underlying t = some (.slice e)) (hi : P.info? e = some i) (hz : i.zero = some z)
    (hsize : i.size = 1) (hby : i.bytes = bytes)
    (v : Value) (n : Nat) (xs : List Value) (hown : w.ownsRow base e 1 v n xs)
    (a : Addr) (m c : Nat) (news : List Value) (hl : news.length = m * 1) (hnews : ∀ j u, news[j]? = some u → w.cell? (a.add j) = some u) (h1 : ∀ u ∈ news, u.oneCell' = true)
    (h63 : n + m ≤ maxLen) (hbytes : (n + m) * bytes ≤ 140737488355328) (v' : Value) (w' : World)
    (hrun : (Builtin.append_ #[t, t] ty #[v, .slice (some a) m c]).run P w = .ok v' w') (hown' : w'.ownsRow base e 1 v' (n + m) (xs ++ news)) :
    ∀ g n' c', v = .slice (some ⟨g, 0, none⟩) n' c' → ∀ j u, xs[j]? = some u → w'.cell? ⟨g, j, none⟩ = some u := by
  intro g n' c' hv j u hj
  subst hby
  have hsmall : n + m ≤ 9223372036854775807 := by simp only [maxLen] at h63; omega
  rcases hown.2 with ⟨h0, _⟩ | ⟨g', cap, cur, hv', hbg, hg, hnc, hcm, hcs, htake⟩
  · rw [h0] at hv; cases hv
  · rw [hv'] at hv
    injection hv with hv1 _ _
    injection hv1 with hv1
    injection hv1 with hv1 _
    subst hv1
    subst hv'
    have hadd : (⟨g', 0, none⟩ : Addr).add j = ⟨g', j, none⟩ := by unfold Addr.add; split <;> simp_all
    by_cases hroom : n + m ≤ cap
    · have hfit : n * i.size + news.length ≤ cur.size := by rw [hl, hcs, hsize, ← Nat.add_mul]; exact Nat.mul_le_mul_right _ hroom
      have hr := run_append_room (P := P) w t ty e i ht hi g' n cap cur hg a m c news (by rw [hsize]; exact hl) hnews h1 hroom hfit
      rw [hr] at hrun
      injection hrun with e1 e2
      rw [← e1] at hown'
      have := hown'.cells (g := g') rfl j u (by rw [List.getElem?_append_left (List.getElem?_eq_some_iff.1 hj).1]; exact hj)
      rwa [hadd] at this
    · have holds : ∀ j u, xs[j]? = some u → w.cell? ((⟨g', 0, none⟩ : Addr).add j) = some u := hown.cells (g := g') rfl
      have hr := run_append_grow (P := P) w t ty e i z ht hi hz ⟨g', 0, none⟩ n cap xs (by rw [hsize]; exact hown.1) holds a m c news (by rw [hsize]; exact hl) hnews (by omega) (by omega) (growslice_fits (by omega) hbytes)
      rw [hr] at hrun
      injection hrun with e1 e2
      rw [← e2]
      have hb : Below w.heap.size w (w.drew.alloc (.cells (xs.toArray ++ news.toArray ++ Builtin.zeroCells z.cells (grownCap w (n + m) cap e - (n + m))) e)) := ((Below.refl _ w).drew).alloc (Nat.le_refl _) _
      have := holds j u hj
      rw [hadd] at this
      exact (hb.cell (p := ⟨g', j, none⟩) (Array.getElem?_eq_some_iff.1 hg).1).trans this

/-- 'append(out, y)' of a literal of one number, as a step of a region that draws: out is nil or one's own. -/
theorem step_push {P : Program} {ops : Array Oper} {o : Oper} {a : Act} {K : Act → World → Prop} {Q : Exit → Act → World → Prop} {E : Prop} {w0 : World} {y : Int} {k : IntKind} {e : TypeId} (hgd : o.guard = none) (s x : Operand) (t : TypeId)
    (ho : o.op = .call { callee := .builtin .append, args := #[s, x], argTypes := #[t, t] })
    (base : Nat) (i : TypeInfo) (bytes : Nat) (ht : P.underlying t = some (.slice e)) (hi : P.info? e = some i) (hz : i.zero = some (.int k 0)) (hsize : i.size = 1) (hby : i.bytes = bytes)
    (v : Value) (n : Nat) (xs : List Int) (hs : a.eval s = v) (hown0 : w0.ownsRow base e 1 v n (xs.map (Value.int k))) (hx : a.eval x = .slice (some ⟨w0.heap.size, 0, none⟩) 1 1)
    (hn : n + 1 ≤ 4398046511104) (hb8 : bytes ≤ 8) (hbase : base ≤ w0.heap.size)
    (h : ∀ v' w', w'.ownsRow base e 1 v' (n + 1) ((xs ++ [y]).map (Value.int k)) → Below base w0 w' → (∀ i, i < w0.heap.size → v.ownBlock ≠ some i → w'.heap[i]? = w0.heap[i]?) → (∀ g n' c', v = .slice (some ⟨g, 0, none⟩) n' c' → ∀ j u, (xs.map (Value.int k))[j]? = some u → w'.cell? ⟨g, j, none⟩ = some u) → K (a.put o.dst v') w') :
    if Region.wanted o (yielded ops a.tmps) = true then Oper.wp P o a (w0.alloc (.cells #[.int k y] e)) K Q else E := by
  have hw : Region.wanted o (yielded ops a.tmps) = true := by simp [Region.wanted, hgd]
  rw [if_pos hw]
  have hown : (w0.alloc (.cells #[.int k y] e)).ownsRow base e 1 v n (xs.map (Value.int k)) := hown0.alloc _
  have hnews : ∀ j u, ([Value.int k y])[j]? = some u → (w0.alloc (.cells #[.int k y] e)).cell? ((⟨w0.heap.size, 0, none⟩ : Addr).add j) = some u := by
    intro j u hj
    match j, hj with
    | 0, hj => simp at hj; subst hj; simp [Addr.add]
  have h1 : ∀ u ∈ [Value.int k y], u.oneCell' = true := by intro u hu; simp at hu; subst hu; rfl
  have h63 : n + 1 ≤ maxLen := by unfold maxLen; omega
  have hbb : (n + 1) * bytes ≤ 140737488355328 := by have := Nat.mul_le_mul hn hb8; omega
  have hbase' : base ≤ (w0.alloc (.cells #[.int k y] e)).heap.size := by simp; omega
  obtain ⟨v', w', hrun, h2, h3, _⟩ := run_append_own (P := P) (w0.alloc (.cells #[.int k y] e)) base t o.type e i (.int k 0) 1 bytes ht hi hz hsize hby rfl (by omega) v n _ hown ⟨w0.heap.size, 0, none⟩ 1 1 _ rfl hnews h1 h63 hbb hbase'
  have h5 := append_keeps (P := P) (w0.alloc (.cells #[.int k y] e)) base t o.type e i (.int k 0) bytes ht hi hz hsize hby v n _ hown ⟨w0.heap.size, 0, none⟩ 1 1 _ rfl hnews h1 h63 hbb v' w' hrun h2
  unfold Oper.wp execOp
  simp only [ho, resolve, invoke, builtin, Sem.run_bind, Sem.run_pure, Result.andThen_ok, List.map_toArray, List.map_cons, List.map_nil, hs, hx, hrun]
  refine h v' w' (by simpa using h2) (((Below.refl _ _).alloc hbase _).grown h3 hbase' (fun j hj => (hown.lt j hj).1)) (fun i hi hne => ?_) h5
  exact (h3.block i (by simp; omega) (fun e => hne e.symm)).trans (((Below.refl w0.heap.size w0).alloc (Nat.le_refl _) _).block i hi)

/-- 'append(out, y1, y2, ..)' of a literal of numbers, as a step of a region that draws: out is nil or one's own. -/
theorem step_lit {P : Program} {ops : Array Oper} {o : Oper} {a : Act} {K : Act → World → Prop} {Q : Exit → Act → World → Prop} {E : Prop} {w0 : World} {cs : Array Value} {k : IntKind} {e : TypeId} (hgd : o.guard = none) (s x : Operand) (t : TypeId)
    (ho : o.op = .call { callee := .builtin .append, args := #[s, x], argTypes := #[t, t] })
    (base : Nat) (i : TypeInfo) (bytes : Nat) (ht : P.underlying t = some (.slice e)) (hi : P.info? e = some i) (hz : i.zero = some (.int k 0)) (hsize : i.size = 1) (hby : i.bytes = bytes)
    (v : Value) (n : Nat) (xs : List Int) (hs : a.eval s = v) (hown0 : w0.ownsRow base e 1 v n (xs.map (Value.int k))) (m : Nat) (ys : List Int) (hx : a.eval x = .slice (some ⟨w0.heap.size, 0, none⟩) m m) (hm : ys.length = m) (hcs : cs = (ys.map (Value.int k)).toArray)
    (hn : n + m ≤ 4398046511104) (hb8 : bytes ≤ 8) (hbase : base ≤ w0.heap.size)
    (h : ∀ v' w', w'.ownsRow base e 1 v' (n + m) ((xs ++ ys).map (Value.int k)) → Below base w0 w' → K (a.put o.dst v') w') :
    if Region.wanted o (yielded ops a.tmps) = true then Oper.wp P o a (w0.alloc (.cells cs e)) K Q else E := by
  have hw : Region.wanted o (yielded ops a.tmps) = true := by simp [Region.wanted, hgd]
  rw [if_pos hw]
  subst hcs
  have hown : (w0.alloc (.cells (ys.map (Value.int k)).toArray e)).ownsRow base e 1 v n (xs.map (Value.int k)) := hown0.alloc _
  have hnews : ∀ j u, (ys.map (Value.int k))[j]? = some u → (w0.alloc (.cells (ys.map (Value.int k)).toArray e)).cell? ((⟨w0.heap.size, 0, none⟩ : Addr).add j) = some u := by
    intro j u hj
    have hadd : (⟨w0.heap.size, 0, none⟩ : Addr).add j = ⟨w0.heap.size, j, none⟩ := by unfold Addr.add; split <;> simp_all
    rw [hadd]
    exact cell_of_blk (heap_alloc_new w0 _) (by simpa using hj)
  have h1 : ∀ u ∈ ys.map (Value.int k), u.oneCell' = true := by
    intro u hu
    obtain ⟨y, _, rfl⟩ := List.mem_map.1 hu
    rfl
  have h63 : n + m ≤ maxLen := by unfold maxLen; omega
  have hbb : (n + m) * bytes ≤ 140737488355328 := by have := Nat.mul_le_mul hn hb8; omega
  have hbase' : base ≤ (w0.alloc (.cells (ys.map (Value.int k)).toArray e)).heap.size := by simp; omega
  obtain ⟨v', w', hrun, h2, h3, _⟩ := run_append_own (P := P) (w0.alloc (.cells (ys.map (Value.int k)).toArray e)) base t o.type e i (.int k 0) 1 bytes ht hi hz hsize hby rfl (by omega) v n _ hown ⟨w0.heap.size, 0, none⟩ m m _ (by simp [hm]) hnews h1 h63 hbb hbase'
  unfold Oper.wp execOp
  simp only [ho, resolve, invoke, builtin, Sem.run_bind, Sem.run_pure, Result.andThen_ok, List.map_toArray, List.map_cons, List.map_nil, hs, hx, hrun]
  exact h v' w' (by simpa using h2) (((Below.refl _ _).alloc hbase _).grown h3 hbase' (fun j hj => (hown.lt j hj).1))

/-- 'append(out, y1, y2, ..)' of a literal of numbers, in plain code: out is nil or one's own. -/
theorem lit_own {P : Program} {ops : Array Oper} {rest : List Oper} {o : Oper} {a : Act} {Q : Exit → Act → World → Prop} {w : World} {cs : Array Value} (hgd : o.guard = none) (s x : Operand) (t : TypeId)
    (ho : o.op = .call { callee := .builtin .append, args := #[s, x], argTypes := #[t, t] })
    (base : Nat) (e : TypeId) (i : TypeInfo) (k : IntKind) (bytes : Nat) (ht : P.underlying t = some (.slice e)) (hi : P.info? e = some i) (hz : i.zero = some (.int k 0)) (hsize : i.size = 1) (hby : i.bytes = bytes)
    (v : Value) (n : Nat) (xs : List Int) (hs : a.eval s = v) (hown : w.ownsRow base e 1 v n (xs.map (Value.int k))) (m : Nat) (ys : List Int) (hx : a.eval x = .slice (some ⟨w.heap.size, 0, none⟩) m m) (hm : ys.length = m) (hcs : cs = (ys.map (Value.int k)).toArray)
    (hn : n + m ≤ 4398046511104) (hb8 : bytes ≤ 8) (hbase : base ≤ w.heap.size)
    (h : ∀ v' w', w'.ownsRow base e 1 v' (n + m) ((xs ++ ys).map (Value.int k)) → Below base w w' → wpList P ops Q rest (a.put o.dst v') w') :
    wpList P ops Q (o :: rest) a (w.alloc (.cells cs e)) := by
  subst hcs
  refine cat_own hgd s x t ho base e i k bytes ht hi hz hsize hby v n xs hs (hown.alloc _) (w.heap.size + 1) (some ⟨w.heap.size, 0, none⟩) m m ys hx (fun h => by cases h) ⟨hm, fun _ => ⟨w.heap.size, 0, rfl, by omega, fun j hj => ?_⟩⟩ hn hb8 (by simp; omega) (fun v' w' h1 h2 => h v' w' h1 (((Below.refl _ _).alloc hbase _).trans h2))
  rw [Nat.zero_add]
  refine cell_of_blk (heap_alloc_new w _) ?_
  rw [List.getElem?_toArray, List.getElem?_map, List.getElem?_eq_getElem (by omega)]
  simp [List.getD, List.getElem?_eq_getElem (show j < ys.length by omega)]
end Go.Proofs.YtppbpmmfcoblmaaDoor

/- Layer 7 (sha): words in memory: slices of words, what holds while a block is worked on. -/
namespace Go.Proofs.YtppbpmmfcoblmaaDoor.Sha
open Go.RowKit

/-- A slice of words reads. -/
def WRow (w : World) (B : Nat) (A : Option Addr) (n : Nat) (l : List Wd) : Prop := Row .u32 w B A n (l.map wi)

theorem WRow.below {w w' : World} {B n : Nat} {A : Option Addr} {l : List Wd} (h : WRow w B A n l) (hb : Below B w w') : WRow w' B A n l := Row.below h hb
theorem WRow.more {w : World} {B B' n : Nat} {A : Option Addr} {l : List Wd} (h : WRow w B A n l) (hb : B ≤ B') : WRow w B' A n l := Row.more h hb
theorem WRow.at {w : World} {B n : Nat} {A : Option Addr} {l : List Wd} (h : WRow w B A n l) {j : Nat} (hj : j < n) : ∃ b o, A = some ⟨b, o, none⟩ ∧ b < B ∧ w.cell? ⟨b, o + j, none⟩ = some (.int .u32 (wi (wat l j))) := by
  obtain ⟨b, o, e, hb, hc⟩ := Row.cell_at h hj
  have hl : (l.map wi).length = n := h.1
  rw [List.length_map] at hl
  refine ⟨b, o, e, hb, ?_⟩
  rw [hc]
  unfold wat
  simp [List.getD, List.getElem?_map, List.getElem?_eq_getElem (show j < l.length by omega)]
theorem byte_at {b : List Int} (hb : ∀ x ∈ b, 0 ≤ x ∧ x ≤ 255) (i : Nat) : ∃ y : Nat, b.getD i 0 = (y : Int) ∧ y ≤ 255 := by
  by_cases h : i < b.length
  · have := hb b[i] (List.getElem_mem h)
    refine ⟨(b[i]).toNat, ?_, by omega⟩
    rw [List.getD, List.getElem?_eq_getElem h]
    simp
    omega
  · exact ⟨0, by rw [List.getD, List.getElem?_eq_none (by omega)]; rfl, by omega⟩

/-- In a block: the row that grows, the words so far, all that lay. -/
structure Blk (w3 : World) (B0 : Nat) (Ah : Option Addr) (h : List Wd) (v : Value) (t : Nat) (l : List Wd) (w : World) : Prop where
  own : w.ownsRow B0 101 1 v t (wv l)
  row : WRow w B0 Ah 8 h
  bel : Below w3.heap.size w3 w
  sz : B0 ≤ w.heap.size
  base : w3.heap.size ≤ B0

theorem wv_snoc (l : List Wd) (a : Wd) : wv (l ++ [a]) = wv l ++ [.int .u32 (wi a)] := by simp [wv]
theorem Blk.push {w3 w w' : World} {B0 t : Nat} {Ah : Option Addr} {h l : List Wd} {v v' : Value} {a : Wd} (hb : Blk w3 B0 Ah h v t l w) (ho : w'.ownsRow B0 101 1 v' (t + 1) ((l.map wi ++ [wi a]).map (Value.int .u32))) (hw : Below B0 w w') : Blk w3 B0 Ah h v' (t + 1) (l ++ [a]) w' :=
  ⟨by rw [wv_snoc]; simpa [wv] using ho, hb.row.below hw, hb.bel.trans (hw.mono hb.base), Nat.le_trans hb.sz hw.size, hb.base⟩
theorem Blk.drew {w3 w : World} {B0 t q : Nat} {Ah : Option Addr} {h l : List Wd} {v : Value} (hb : Blk w3 B0 Ah h v t l w) : Blk w3 B0 Ah h v t l (w.drewN q) :=
  ⟨hb.own, hb.row, ⟨hb.bel.os, hb.bel.tape, hb.bel.output, hb.bel.size, hb.bel.block⟩, hb.sz, hb.base⟩

theorem Blk.read {w3 w : World} {B0 t : Nat} {Ah : Option Addr} {h l : List Wd} {v : Value} (hb : Blk w3 B0 Ah h v t l w) (ht : 0 < t) : ∃ g c, v = .slice (some ⟨g, 0, none⟩) t c ∧ g < w.heap.size ∧ ∀ j, j < t → w.cell? ⟨g, j, none⟩ = some (.int .u32 (wi (wat l j))) := by
  obtain ⟨A, c, rfl, -, -⟩ := own_slice hb.own
  obtain ⟨g, rfl, -⟩ := own_at hb.own ht
  have hr : WRow w w.heap.size (some ⟨g, 0, none⟩) t l := Row.of_own hb.own
  obtain ⟨b, o, e, hbl, -⟩ := hr.at ht
  injection e with e
  injection e with e1 e2
  subst e1 e2
  refine ⟨g, c, rfl, hbl, fun j hj => ?_⟩
  obtain ⟨b', o', e, -, hc⟩ := hr.at hj
  injection e with e
  injection e with e1 e2
  subst e1 e2
  rwa [Nat.zero_add] at hc
theorem wv_at {l : List Wd} {j : Nat} (hj : j < l.length) : (wv l)[j]? = some (.int .u32 (wi (wat l j))) := by
  unfold wv wat
  simp [List.getD, List.getElem?_eq_getElem hj]

theorem Blk.below {w3 w w' : World} {B0 t : Nat} {Ah : Option Addr} {h l : List Wd} {v : Value} (hb : Blk w3 B0 Ah h v t l w) (hw : Below w.heap.size w w') : Blk w3 B0 Ah h v t l w' :=
  ⟨own_below hb.own hw, hb.row.below (hw.mono hb.sz), hb.bel.trans (hw.mono hb.bel.size), Nat.le_trans hb.sz hw.size, hb.base⟩
/-- Eight words lie there. -/
structure V8 (w : World) (b o : Nat) (l : List Wd) : Prop where
  c0 : w.cell? ⟨b, o, none⟩ = some (.int .u32 (wi (wat l 0)))
  c1 : w.cell? ⟨b, o + 1, none⟩ = some (.int .u32 (wi (wat l 1)))
  c2 : w.cell? ⟨b, o + 2, none⟩ = some (.int .u32 (wi (wat l 2)))
  c3 : w.cell? ⟨b, o + 3, none⟩ = some (.int .u32 (wi (wat l 3)))
  c4 : w.cell? ⟨b, o + 4, none⟩ = some (.int .u32 (wi (wat l 4)))
  c5 : w.cell? ⟨b, o + 5, none⟩ = some (.int .u32 (wi (wat l 5)))
  c6 : w.cell? ⟨b, o + 6, none⟩ = some (.int .u32 (wi (wat l 6)))
  c7 : w.cell? ⟨b, o + 7, none⟩ = some (.int .u32 (wi (wat l 7)))
theorem V8.drew {w : World} {b o q : Nat} {l : List Wd} (h : V8 w b o l) : V8 (w.drewN q) b o l := ⟨h.c0, h.c1, h.c2, h.c3, h.c4, h.c5, h.c6, h.c7⟩
theorem V8.of {w : World} {B b o : Nat} {l : List Wd} (h : WRow w B (some ⟨b, o, none⟩) 8 l) : V8 w b o l := by
  have k : ∀ j, j < 8 → w.cell? ⟨b, o + j, none⟩ = some (.int .u32 (wi (wat l j))) := by
    intro j hj
    obtain ⟨b', o', e, -, hc⟩ := h.at hj
    injection e with e
    injection e with e1 e2
    subst e1 e2
    exact hc
  exact ⟨k 0 (by omega), k 1 (by omega), k 2 (by omega), k 3 (by omega), k 4 (by omega), k 5 (by omega), k 6 (by omega), k 7 (by omega)⟩

theorem lit8 (w : World) (e : TypeId) (a0 a1 a2 a3 a4 a5 a6 a7 : Wd) : WRow (w.alloc (.cells #[.int .u32 (wi a0), .int .u32 (wi a1), .int .u32 (wi a2), .int .u32 (wi a3), .int .u32 (wi a4), .int .u32 (wi a5), .int .u32 (wi a6), .int .u32 (wi a7)] e)) (w.alloc (.cells #[.int .u32 (wi a0), .int .u32 (wi a1), .int .u32 (wi a2), .int .u32 (wi a3), .int .u32 (wi a4), .int .u32 (wi a5), .int .u32 (wi a6), .int .u32 (wi a7)] e)).heap.size (some ⟨w.heap.size, 0, none⟩) 8 [a0, a1, a2, a3, a4, a5, a6, a7] := by
  have q := heap_alloc_new w (.cells #[.int .u32 (wi a0), .int .u32 (wi a1), .int .u32 (wi a2), .int .u32 (wi a3), .int .u32 (wi a4), .int .u32 (wi a5), .int .u32 (wi a6), .int .u32 (wi a7)] e)
  refine ⟨rfl, fun _ => ⟨w.heap.size, 0, rfl, (Array.getElem?_eq_some_iff.1 q).1, fun j hj => ?_⟩⟩
  rw [Nat.zero_add]
  match j, hj with
  | 0, _ => exact cell_of_blk q rfl
  | 1, _ => exact cell_of_blk q rfl
  | 2, _ => exact cell_of_blk q rfl
  | 3, _ => exact cell_of_blk q rfl
  | 4, _ => exact cell_of_blk q rfl
  | 5, _ => exact cell_of_blk q rfl
  | 6, _ => exact cell_of_blk q rfl
  | 7, _ => exact cell_of_blk q rfl

/-- While the words are added: the row that grows, both summands, all that lay. -/
structure Sm (w3 : World) (B1 : Nat) (bh oh : Nat) (h : List Wd) (bv ov : Nat) (r : List Wd) (v : Value) (t : Nat) (w : World) : Prop where
  own : w.ownsRow B1 101 1 v t (wv (adds h r t))
  rh : WRow w B1 (some ⟨bh, oh, none⟩) 8 h
  rv : WRow w B1 (some ⟨bv, ov, none⟩) 8 r
  bel : Below w3.heap.size w3 w
  sz : B1 ≤ w.heap.size
  base : w3.heap.size ≤ B1
theorem Sm.push {w3 w w' : World} {B1 bh oh bv ov t : Nat} {h r : List Wd} {v v' : Value} (hb : Sm w3 B1 bh oh h bv ov r v t w) (ho : w'.ownsRow B1 101 1 v' (t + 1) (((adds h r t).map wi ++ [wi (wat h t + wat r t)]).map (Value.int .u32))) (hw : Below B1 w w') : Sm w3 B1 bh oh h bv ov r v' (t + 1) w' :=
  ⟨by have e : wv (adds h r (t + 1)) = (((adds h r t).map wi ++ [wi (wat h t + wat r t)]).map (Value.int .u32)) := by simp [wv, adds]
      rw [e]; exact ho, hb.rh.below hw, hb.rv.below hw, hb.bel.trans (hw.mono hb.base), Nat.le_trans hb.sz hw.size, hb.base⟩
theorem Sm.drew {w3 w : World} {B1 bh oh bv ov t q : Nat} {h r : List Wd} {v : Value} (hb : Sm w3 B1 bh oh h bv ov r v t w) : Sm w3 B1 bh oh h bv ov r v t (w.drewN q) :=
  ⟨hb.own, hb.rh, hb.rv, ⟨hb.bel.os, hb.bel.tape, hb.bel.output, hb.bel.size, hb.bel.block⟩, hb.sz, hb.base⟩

theorem own_low {w : World} {base base' n : Nat} {e : TypeId} {v : Value} {xs : List Value} (h : w.ownsRow base e 1 v n xs) (hb : base' ≤ base) : w.ownsRow base' e 1 v n xs := by
  refine ⟨h.1, ?_⟩
  rcases h.2 with h0 | ⟨g, cap, cur, h1, h2, rest⟩
  · exact .inl h0
  · exact .inr ⟨g, cap, cur, h1, Nat.le_trans hb h2, rest⟩
/-- While the bytes are written. -/
structure Ou (w3 : World) (B1 bh oh : Nat) (h : List Wd) (v : Value) (t : Nat) (w : World) : Prop where
  own : w.ownsRow B1 5 1 v (4 * t) ((outs h t).map (Value.int .u8))
  rh : WRow w B1 (some ⟨bh, oh, none⟩) 8 h
  bel : Below w3.heap.size w3 w
  sz : B1 ≤ w.heap.size
  base : w3.heap.size ≤ B1
theorem Ou.push {w3 w w' : World} {B1 bh oh t : Nat} {h : List Wd} {v v' : Value} (hb : Ou w3 B1 bh oh h v t w) (ho : w'.ownsRow B1 5 1 v' (4 * t + 4) ((outs h t ++ out4 (wat h t)).map (Value.int .u8))) (hw : Below B1 w w') : Ou w3 B1 bh oh h v' (t + 1) w' :=
  ⟨ho, hb.rh.below hw, hb.bel.trans (hw.mono hb.base), Nat.le_trans hb.sz hw.size, hb.base⟩
theorem Ou.drew {w3 w : World} {B1 bh oh t q : Nat} {h : List Wd} {v : Value} (hb : Ou w3 B1 bh oh h v t w) : Ou w3 B1 bh oh h v t (w.drewN q) :=
  ⟨hb.own, hb.rh, ⟨hb.bel.os, hb.bel.tape, hb.bel.output, hb.bel.size, hb.bel.block⟩, hb.sz, hb.base⟩
end Go.Proofs.YtppbpmmfcoblmaaDoor.Sha

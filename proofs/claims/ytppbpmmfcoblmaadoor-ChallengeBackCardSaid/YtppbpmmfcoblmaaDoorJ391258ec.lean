/- Lemmas that the proof stands on, in build order: OpenP OpenA ChW. -/
import Derived.Test.YtppbpmmfcoblmaaDoorJ14e35fe5
import Derived.Test.YtppbpmmfcoblmaaDoorJ3807d47d
/- A slice of slices of bytes that came in, over any program. -/
namespace Go.Proofs.YtppbpmmfcoblmaaDoor
open Go.ChangeShapes Go.WideShapes Go.ChangeAt Go.RowKit Go.Deep Slc

section
variable {H : Type} {enc : TypeId × Value → H} {P : Program} {W : World} {base : Nat}

/-- A cell that reads as a slice of integers, with its capacity. -/
theorem cell_row2 {t e : TypeId} {k : IntKind} {v : Value} {fuel : Nat} {y : DataW H × List MemPlace} (ht : P.underlying t = some (.slice e)) (he : P.underlying e = some (.int k)) (hc : P.cellsOf e = 1) (h : DataW.trod enc P W 0 (fun _ => true) true fuel t [v] = some y) :
    ∃ A n c xs, v = .slice A n c ∧ Row k W W.heap.size A n xs ∧ (A = none → c = 0) ∧ n ≤ c ∧ ∀ x ∈ xs, (Lit.int k x).wf = true := by
  rcases open_ints ht he hc h with ⟨hcs, hx⟩ | ⟨a, len', cap', zs, hcs, _, hl, hm, hz, hx, hcell, hwz⟩
  · simp at hcs
    exact ⟨none, 0, 0, [], hcs, Row.none_, fun _ => rfl, Nat.le_refl _, by simp⟩
  · simp at hcs
    exact ⟨some a, len', cap', zs.take len', hcs, row_of_open (by simp at hz; omega) hcell, (fun h => by cases h), hl, fun x hx => hwz x (List.mem_of_mem_take hx)⟩

/-- The same, with the bound of its capacity. -/
theorem cell_row3 {t e : TypeId} {k : IntKind} {v : Value} {fuel : Nat} {y : DataW H × List MemPlace} (ht : P.underlying t = some (.slice e)) (he : P.underlying e = some (.int k)) (hc : P.cellsOf e = 1) (h : DataW.trod enc P W 0 (fun _ => true) true fuel t [v] = some y) :
    ∃ A n c xs, v = .slice A n c ∧ Row k W W.heap.size A n xs ∧ (A = none → c = 0) ∧ n ≤ c ∧ c ≤ maxLen ∧ ∀ x ∈ xs, (Lit.int k x).wf = true := by
  rcases open_ints ht he hc h with ⟨hcs, hx⟩ | ⟨a, len', cap', zs, hcs, _, hl, hm, hz, hx, hcell, hwz⟩
  · simp at hcs
    exact ⟨none, 0, 0, [], hcs, Row.none_, fun _ => rfl, Nat.le_refl _, Nat.zero_le _, by simp⟩
  · simp at hcs
    exact ⟨some a, len', cap', zs.take len', hcs, row_of_open (by simp at hz; omega) hcell, (fun h => by cases h), hl, hm, fun x hx => hwz x (List.mem_of_mem_take hx)⟩

instance : Inhabited Part := ⟨⟨none, 0, 0, []⟩⟩

theorem open_parts {t e f : TypeId} {v : Value} {d : DataW H} {ps : List MemPlace} (ht : P.underlying t = some (.slice e)) (he : P.underlying e = some (.slice f)) (hff : P.underlying f = some (.int .u8)) (hC : P.cellsOf e = 1) (hc1 : P.cellsOf f = 1)
    (hv : Value.okWide P W .any base t v) (h : DataW.Trod enc P W 0 (fun _ => true) true t v d ps) :
    ∃ A n c L, v = .slice A n c ∧ Prs W W.heap.size A n L ∧ (A = none → c = 0) ∧ n ≤ c ∧ c ≤ maxLen ∧ ∀ p ∈ L, p.n ≤ maxLen := by
  obtain ⟨a0, len, cap, rfl⟩ := okWide_slice ht hv
  obtain ⟨fuel, hf⟩ := h
  rcases open_slice ht hf with ⟨hcs, _⟩ | ⟨a, len', cap', m, n, D, Pl, hcs, hb, hl, hm, hmm, _, hx⟩
  · simp [Value.cells] at hcs
    obtain ⟨rfl, rfl, rfl⟩ := hcs
    exact ⟨none, 0, 0, [], rfl, ⟨rfl, fun h => absurd h (Nat.lt_irrefl 0), by simp, by simp⟩, fun _ => rfl, Nat.le_refl _, Nat.zero_le _, by simp⟩
  · simp [Value.cells] at hcs
    obtain ⟨rfl, rfl, rfl⟩ := hcs
    simp only [if_true] at hmm
    subst hmm
    have each : ∀ j, j < len → ∃ p : Part, W.cell? (a.add j) = some p.v ∧ p.Right W W.heap.size ∧ (p.n ≤ p.c ∧ ∀ x ∈ p.xs, 0 ≤ x ∧ x ≤ 255) ∧ p.n ≤ maxLen := by
      intro j hj
      obtain ⟨cs', h1, h2⟩ := hx j (by omega)
      rw [hC, Nat.mul_one] at h1
      obtain ⟨hlen, hc⟩ := (World.cells?_some h1).2
      match cs', hlen with
      | [u], _ =>
        have hcu := hc 0 (by omega)
        simp only [List.getElem?_cons_zero] at hcu
        obtain ⟨A, n1, c1, xs, rfl, hr, hnil, hnc, hcm, hw⟩ := cell_row3 he hff hc1 h2
        refine ⟨⟨A, n1, c1, xs⟩, ?_, ⟨hr, hnil⟩, ⟨hnc, fun x hx => ?_⟩, Nat.le_trans hnc hcm⟩
        · have e : (a.add j).add 0 = a.add j := by rw [add_add]; simp
          rwa [e] at hcu
        · have := bounds_u8 (hw x hx)
          omega
    obtain ⟨L, hL, hP⟩ := list_of each
    refine ⟨some a, len, m, L, rfl, ⟨hL, fun hn => ?_, fun p hp => ?_, fun p hp => ?_⟩, (fun h => by cases h), hl, hm, fun p hp => ?_⟩
    · obtain ⟨b, o, spot⟩ := a
      have h0 := (hP 0 (L[0]'(by omega)) (List.getElem?_eq_getElem (by omega))).1
      have hspot : spot = none := by simpa [Addr.add] using World.cell?_spot h0
      subst hspot
      have hlt := World.block_lt_of_cell? W _ h0
      refine ⟨b, o, rfl, by simpa [Addr.add] using hlt, fun j hj => ?_⟩
      have := (hP j L[j] (List.getElem?_eq_getElem hj)).1
      rwa [add_plain] at this
    · obtain ⟨j, hj, rfl⟩ := List.getElem_of_mem hp
      exact (hP j _ (List.getElem?_eq_getElem hj)).2.1
    · obtain ⟨j, hj, rfl⟩ := List.getElem_of_mem hp
      exact (hP j _ (List.getElem?_eq_getElem hj)).2.2.1
    · obtain ⟨j, hj, rfl⟩ := List.getElem_of_mem hp
      exact (hP j _ (List.getElem?_eq_getElem hj)).2.2.2
end
end Go.Proofs.YtppbpmmfcoblmaaDoor

/- An array of slices of bytes that came in by value, over any program. -/
namespace Go.Proofs.YtppbpmmfcoblmaaDoor
open Go.ChangeShapes Go.WideShapes Go.ChangeAt Go.RowKit Go.Deep Slc

section
variable {H : Type} {enc : TypeId × Value → H} {P : Program} {W : World} {base : Nat}

/-- A slice of bytes that came in. -/
structure Came (W : World) (p : Part) : Prop where
  row : Row .u8 W W.heap.size p.A p.n p.xs
  nil : p.A = none → p.c = 0
  fit : p.n ≤ p.c
  max : p.c ≤ maxLen
  byt : ∀ x ∈ p.xs, 0 ≤ x ∧ x ≤ 255

theorem Came.at {W1 : World} {p : Part} (h : Came W p) (hb : Below W.heap.size W W1) : Row .u8 W1 W1.heap.size p.A p.n p.xs := (h.row.below hb).more hb.size

theorem open_arr_rows {t e u : TypeId} {m : Nat} {v : Value} {d : DataW H} {ps : List MemPlace} (ht : P.underlying t = some (.array m e)) (he : P.underlying e = some (.slice u)) (hu : P.underlying u = some (.int .u8)) (hce : P.cellsOf e = 1) (hcu : P.cellsOf u = 1) (hct : P.cellsOf t = m)
    (hv : Value.okWide P W .any base t v) (h : DataW.Trod enc P W 0 (fun _ => true) true t v d ps) :
    ∃ L : List Part, v = .agg (L.map Part.v).toArray ∧ L.length = m ∧ ∀ p ∈ L, Came W p := by
  simp only [Value.okWide, ht] at hv
  obtain ⟨cs, rfl, hsz, _⟩ := hv
  rw [hct] at hsz
  obtain ⟨fuel, hf⟩ := h
  cases fuel with
  | zero => simp [DataW.trod] at hf
  | succ q =>
    rw [DataW.trod_step] at hf
    unfold DataW.trodStep at hf
    simp only [ht, Value.cells] at hf
    rw [if_pos (by rw [hct]; simpa using hsz)] at hf
    simp only [Option.map_eq_some_iff] at hf
    obtain ⟨ys, hy, _⟩ := hf
    have hall : ∀ i, i < m → ∃ p : Part, cs.toList[i]? = some p.v ∧ Came W p := fun i hi => by
      obtain ⟨y, h1⟩ := mapM_mem hy i (by simpa using hi)
      rw [hce, Nat.mul_one, take1_drop cs.toList i undef (by simpa [hsz] using hi)] at h1
      obtain ⟨A, n, c, xs, e1, hr, hnil, hnc, hcm, hw⟩ := cell_row3 he hu hcu h1
      refine ⟨⟨A, n, c, xs⟩, ?_, ⟨hr, hnil, hnc, hcm, fun x hx => by have := bounds_u8 (hw x hx); omega⟩⟩
      have h4 : i < cs.toList.length := by simpa [hsz] using hi
      rw [List.getD, List.getElem?_eq_getElem h4, Option.getD_some] at e1
      rw [List.getElem?_eq_getElem h4, e1]
      rfl
    have hl : cs.toList.length = m := by simpa using hsz
    have hxs : ∀ (L : List Value) (m : Nat), L.length = m → (∀ i, i < m → ∃ p : Part, L[i]? = some p.v ∧ Came W p) → ∃ xs : List Part, L = xs.map Part.v ∧ ∀ x ∈ xs, Came W x := by
      intro L
      induction L with
      | nil => intro _ _ _; exact ⟨[], rfl, by simp⟩
      | cons u L ih =>
        intro m hm hA
        obtain ⟨a, h1, h2⟩ := hA 0 (by simp at hm; omega)
        obtain ⟨xs, h3, h4⟩ := ih (m - 1) (by simp at hm; omega) (fun i hi => by simpa using hA (i + 1) (by omega))
        simp at h1
        refine ⟨a :: xs, by simp [h1, h3], fun x hx => ?_⟩
        rcases List.mem_cons.1 hx with rfl | hx
        · exact h2
        · exact h4 x hx
    obtain ⟨xs, h1, h2⟩ := hxs _ _ hl hall
    refine ⟨xs, ?_, by rw [h1] at hl; simpa using hl, h2⟩
    rw [← h1]
theorem parts_two {L : List Part} (h : L.length = 2) : ∃ p q, L = [p, q] := by
  match L, h with
  | [p, q], _ => exact ⟨p, q, rfl⟩
theorem parts_three {L : List Part} (h : L.length = 3) : ∃ p q r, L = [p, q, r] := by
  match L, h with
  | [p, q, r], _ => exact ⟨p, q, r, rfl⟩
theorem three_of {xs : List Int} (h : xs.length = 3) : ∃ x y z, xs = [x, y, z] := by
  match xs, h with
  | [x, y, z], _ => exact ⟨x, y, z, rfl⟩
end
end Go.Proofs.YtppbpmmfcoblmaaDoor

/- Layer 11 (challenge): the walks of the laws on answers and on checks. -/
namespace Go.Proofs.YtppbpmmfcoblmaaDoor.Chl
open Go.RowKit Slc Var Fld Frm Sha Hmc Rg Tok

/-- Behind the law's boxes: the ring's block, the slices'. -/
structure Ax (w0 : World) (cr cl : Array Value) (w' : World) : Prop where
  ring : w'.heap[w0.heap.size]? = some (.cells cr 24 (0, 0))
  lst : w'.heap[w0.heap.size + 1]? = some (.cells cl 26 (0, 0))
  bel : Below w0.heap.size w0 w'
section
variable {w0 w1 w2 : World} {cr cl : Array Value}
theorem Ax.lt (h : Ax w0 cr cl w1) : w0.heap.size + 1 < w1.heap.size := (Array.getElem?_eq_some_iff.1 h.lst).1
theorem Ax.below (h : Ax w0 cr cl w1) (hb : Below w1.heap.size w1 w2) : Ax w0 cr cl w2 :=
  have hl := h.lt
  ⟨(hb.block _ (by omega)).trans h.ring, (hb.block _ hl).trans h.lst, h.bel.trans (hb.mono h.bel.size)⟩
theorem Ax.new : Ax w0 cr cl ((w0.alloc (.cells cr 24)).alloc (.cells cl 26)) :=
  ⟨heap_alloc2_old w0 _ _, heap_alloc2_new w0 _ _, ((Below.refl _ _).alloc (Nat.le_refl _) _).alloc (by simp) _⟩
theorem below_new {w : World} {o : Obj} : Below w.heap.size w (w.alloc o) := (Below.refl _ _).alloc (Nat.le_refl _) _
theorem prs_three {p q r : Part} (hp : Came w0 p) (hq : Came w0 q) (hr : Came w0 r) (hb : Below w0.heap.size w0 w1) :
    Prs (w1.alloc (.cells #[.slice p.A p.n p.c, .slice q.A q.n q.c, .slice r.A r.n r.c] 25)) (w1.alloc (.cells #[.slice p.A p.n p.c, .slice q.A q.n q.c, .slice r.A r.n r.c] 25)).heap.size (some ⟨w1.heap.size, 0, none⟩) 3 [p, q, r] := by
  have hbb := hb.trans ((below_new (w := w1) (o := .cells #[.slice p.A p.n p.c, .slice q.A q.n q.c, .slice r.A r.n r.c] 25)).mono hb.size)
  refine Prs.of_blk (L := [p, q, r]) (heap_alloc_new w1 _) (by simp) rfl (fun x hx => ?_) (fun x hx => ?_)
  · simp only [List.mem_cons, List.not_mem_nil, or_false] at hx
    rcases hx with rfl | rfl | rfl
    · exact ⟨hp.at hbb, hp.nil⟩
    · exact ⟨hq.at hbb, hq.nil⟩
    · exact ⟨hr.at hbb, hr.nil⟩
  · simp only [List.mem_cons, List.not_mem_nil, or_false] at hx
    rcases hx with rfl | rfl | rfl
    · exact ⟨hp.fit, hp.byt⟩
    · exact ⟨hq.fit, hq.byt⟩
    · exact ⟨hr.fit, hr.byt⟩
end
theorem answer_no {k q : List Int} {t : Int} (h : ¬ may q t) : answer k q t = ([], 2) := by unfold answer; rw [if_neg h]
theorem answer_yes {k q : List Int} {t : Int} (h : may q t) : answer k q t = (frame 6 (cont k q t), 0) := by unfold answer; rw [if_pos h]

set_option maxHeartbeats 3200000 in
set_option maxRecDepth 100000 in
theorem answers_walk (keep nw : Int) (A : Option Addr) (n c : Nat) (K : List Kp) (p q r : Part) (w : World) (h : KRow w w.heap.size A n K) (hm : n ≤ maxLen) (hp : Came w p) (hq : Came w q) (hr : Came w r) (hT : Lay w) :
    Calls Tryd.prog 3 #[.agg #[.int .i64 keep, .slice A n c], .agg #[p.v, q.v, r.v], .int .i64 nw] w fun x w' => x = .returned (.bool true) ∧ Below w.heap.size w w' := by
  have H := Lib.hid h
  have HM := Lib.hid hm
  have HT := Lib.hid hT
  have HP := Lib.hid hp
  have HQ := Lib.hid hq
  have HR := Lib.hid hr
  unfold Part.v
  have hx : Ax w #[.int .i64 keep, .slice A n c] #[.slice p.A p.n p.c, .slice q.A q.n q.c, .slice r.A r.n r.c] ((w.alloc (.cells #[.int .i64 keep, .slice A n c] 24)).alloc (.cells #[.slice p.A p.n p.c, .slice q.A q.n q.c, .slice r.A r.n r.c] 26)) := Ax.new
  have HX := Lib.hid hx
  clear h hm hT hp hq hr hx
  go_enter Tryd.func3, Tryd.ntmps3
  go_wp2_with fail
  refine (awake_any _ (HT.out.below HX.out.bel HT.out.tab.1)).mono ?_
  rintro e1 w1 ⟨rfl, hb1⟩
  have HX1 := Lib.hid (HX.out.below hb1)
  have HPRS := Lib.hid (prs_three HP.out HQ.out HR.out HX1.out.bel)
  have HX2 : Hid (Ax w #[.int .i64 keep, .slice A n c] #[.slice p.A p.n p.c, .slice q.A q.n q.c, .slice r.A r.n r.c] (w1.alloc (.cells #[.slice p.A p.n p.c, .slice q.A q.n q.c, .slice r.A r.n r.c] 25))) := HX1.out.below below_new
  have g0 : w1.cell? ⟨w.heap.size, 0, none⟩ = some (.int .i64 keep) := cell_of_blk HX1.out.ring rfl
  have g1 : w1.cell? ⟨w.heap.size, 1, none⟩ = some (.slice A n c) := cell_of_blk HX1.out.ring rfl
  have l0 : w1.cell? ⟨w.heap.size + 1, 0, none⟩ = some (.slice p.A p.n p.c) := cell_of_blk HX1.out.lst rfl
  have l1 : w1.cell? ⟨w.heap.size + 1, 1, none⟩ = some (.slice q.A q.n q.c) := cell_of_blk HX1.out.lst rfl
  have l2 : w1.cell? ⟨w.heap.size + 1, 2, none⟩ = some (.slice r.A r.n r.c) := cell_of_blk HX1.out.lst rfl
  clear hb1 HX
  go_wp2_with fail
  refine (few_any keep A (some ⟨w1.heap.size, 0, none⟩) n c 3 3 w.heap.size K [p, q, r] (w1.alloc (.cells #[.slice p.A p.n p.c, .slice q.A q.n q.c, .slice r.A r.n r.c] 25)) (H.out.below HX2.out.bel) HX2.out.bel.size HM.out HPRS.out (by omega)).mono ?_
  rintro e3 w3 ⟨⟨bb, rfl, hfew⟩, hb3⟩
  have HX3 := Lib.hid (HX2.out.below hb3)
  clear hb3 HX2 HX1 HPRS g0 g1 l0 l1 l2
  cases bb with
  | false =>
    go_wp2
    go_ret
    exact ⟨rfl, HX3.out.bel⟩
  | true =>
    obtain ⟨hn30, hk100, hl500⟩ := hfew rfl
    have HSM : Hid (Small n K) := ⟨by omega, fun k hk => by have := hk100 k hk; omega⟩
    have HK100 := Lib.hid hk100
    have hpn : p.n ≤ 500 := hl500 p (by simp)
    have hqn : q.n ≤ 500 := hl500 q (by simp)
    have hrn : r.n ≤ 500 := hl500 r (by simp)
    have HDEV := fun wx (hx : Ax w #[.int .i64 keep, .slice A n c] #[.slice p.A p.n p.c, .slice q.A q.n q.c, .slice r.A r.n r.c] wx) => Lib.hid (device_any keep A p.A n c p.n p.c K p.xs wx ((H.out.below hx.bel).more hx.bel.size) HSM.out (HP.out.at hx.bel) HP.out.nil HP.out.byt (by omega) HP.out.fit HP.out.max (HT.out.below hx.bel HT.out.tab.1))
    have HREF := fun wx (hx : Ax w #[.int .i64 keep, .slice A n c] #[.slice p.A p.n p.c, .slice q.A q.n q.c, .slice r.A r.n r.c] wx) => Lib.hid (refdevice_any keep A p.A n c p.n p.c K p.xs wx ((H.out.below hx.bel).more hx.bel.size) (by omega) HK100.out (HP.out.at hx.bel) HP.out.nil HP.out.byt (by omega) HP.out.fit HP.out.max)
    have HANS := fun wx (hx : Ax w #[.int .i64 keep, .slice A n c] #[.slice p.A p.n p.c, .slice q.A q.n q.c, .slice r.A r.n r.c] wx) => Lib.hid (answer_any q.A r.A q.n q.c r.n r.c q.xs r.xs nw wx (HQ.out.at hx.bel) HQ.out.fit (by omega) HQ.out.byt (HR.out.at hx.bel) HR.out.nil HR.out.fit (by omega) HR.out.byt (HT.out.below hx.bel HT.out.tab.1))
    have HMAY := fun wx => Lib.hid (refmay_any r.A r.n r.c r.xs nw wx HR.out.row.1)
    have HRAN := fun (hok : may r.xs nw) wx (hx : Ax w #[.int .i64 keep, .slice A n c] #[.slice p.A p.n p.c, .slice q.A q.n q.c, .slice r.A r.n r.c] wx) => Lib.hid (refanswer_any q.A r.A q.n q.c r.n r.c q.xs r.xs nw wx (HQ.out.at hx.bel) (HR.out.at hx.bel) HQ.out.nil HR.out.nil (by omega) (by have := hok.2.2; omega) HQ.out.byt HR.out.byt (by omega))
    have HANO := fun (h : ¬ may r.xs nw) => Lib.hid (answer_no (k := q.xs) h)
    have HAYE := fun (h : may r.xs nw) => Lib.hid (answer_yes (k := q.xs) h)
    have HDL := Lib.hid (device_fst (ls K) p.xs)
    obtain ⟨dv, hdv⟩ : ∃ dv, dv = device (ls K) p.xs := ⟨_, rfl⟩
    obtain ⟨an, han⟩ : ∃ an, an = answer q.xs r.xs nw := ⟨_, rfl⟩
    rw [← hdv] at HDEV HREF HDL
    rw [← han] at HANS HANO HAYE
    obtain ⟨dk, de⟩ := dv
    obtain ⟨ak, ae⟩ := an
    simp only at HDL
    have he : ((de : Int) != (de : Int)) = false := bne_self_eq_false _
    clear hfew hk100 hl500 hdv han
    have g0 : w3.cell? ⟨w.heap.size, 0, none⟩ = some (.int .i64 keep) := cell_of_blk HX3.out.ring rfl
    have g1 : w3.cell? ⟨w.heap.size, 1, none⟩ = some (.slice A n c) := cell_of_blk HX3.out.ring rfl
    have l0 : w3.cell? ⟨w.heap.size + 1, 0, none⟩ = some (.slice p.A p.n p.c) := cell_of_blk HX3.out.lst rfl
    have HD3 := HDEV w3 HX3.out
    go_wp2_with fail
    refine HD3.out.mono ?_
    rintro e4 w4 ⟨A4, n4, c4, rfl, hr4, hnil4, hnc4, hcm4, hb4⟩
    simp only at hr4
    have HX4 := Lib.hid (HX3.out.below hb4)
    have HR4 := Lib.hid hr4
    clear hr4 hnil4 hnc4 hcm4 hb4 g0 g1 l0 HD3 HX3 HDEV
    have g0 : w4.cell? ⟨w.heap.size, 0, none⟩ = some (.int .i64 keep) := cell_of_blk HX4.out.ring rfl
    have g1 : w4.cell? ⟨w.heap.size, 1, none⟩ = some (.slice A n c) := cell_of_blk HX4.out.ring rfl
    have l0 : w4.cell? ⟨w.heap.size + 1, 0, none⟩ = some (.slice p.A p.n p.c) := cell_of_blk HX4.out.lst rfl
    have HD4 := HREF w4 HX4.out
    go_wp2_with fail
    refine HD4.out.mono ?_
    rintro e5 w5 ⟨A5, n5, c5, rfl, hr5, hnil5, hnc5, hcm5, hb5⟩
    simp only at hr5
    have HX5 := Lib.hid (HX4.out.below hb5)
    have HR45 := Lib.hid ((HR4.out.below hb5).more hb5.size)
    have HR5 := Lib.hid hr5
    clear hr5 hnil5 hnc5 hcm5 hb5 g0 g1 l0 HD4 HX4 HREF HR4
    have HS5 := Lib.hid (same_any A4 A5 n4 c4 n5 c5 _ _ dk dk w5 (by have h1 := HR45.out.len; have h2 := HDL.out.1; omega) (by have h1 := HR5.out.len; have h2 := HDL.out.1; omega) HR45.out HR5.out)
    go_wp2_with fail
    refine HS5.out.mono ?_
    rintro e6 w6 ⟨he6, q6, hq6⟩
    obtain rfl : e6 = .returned (.bool true) := he6.trans (by simp)
    have HX6 := Lib.hid (HX5.out.below (w2 := w6) (by rw [hq6]; exact Rg.below_drewN (Below.refl _ _)))
    clear hq6 HX5 HR45 HR5 HS5
    have l1 : w6.cell? ⟨w.heap.size + 1, 1, none⟩ = some (.slice q.A q.n q.c) := cell_of_blk HX6.out.lst rfl
    have l2 : w6.cell? ⟨w.heap.size + 1, 2, none⟩ = some (.slice r.A r.n r.c) := cell_of_blk HX6.out.lst rfl
    have HA6 := HANS w6 HX6.out
    go_wp2_with fail
    refine HA6.out.mono ?_
    rintro e7 w7 ⟨A7, n7, c7, rfl, hr7, hnil7, hnc7, hcm7, hb7⟩
    simp only at hr7
    have HX7 := Lib.hid (HX6.out.below hb7)
    have HR7 := Lib.hid hr7
    clear hr7 hnil7 hnc7 hcm7 hb7 l1 l2 HA6 HX6 HANS
    have l1 : w7.cell? ⟨w.heap.size + 1, 1, none⟩ = some (.slice q.A q.n q.c) := cell_of_blk HX7.out.lst rfl
    have l2 : w7.cell? ⟨w.heap.size + 1, 2, none⟩ = some (.slice r.A r.n r.c) := cell_of_blk HX7.out.lst rfl
    have HM7 := HMAY w7
    go_wp2_with fail
    refine HM7.out.mono ?_
    rintro e8 w8 ⟨rfl, hw8⟩
    rw [hw8]
    clear hw8 HM7 HMAY
    by_cases hok : may r.xs nw
    · rw [decide_eq_true hok]
      have hae := (HAYE hok).out
      have HRA := HRAN hok w7 HX7.out
      obtain ⟨Z, hZ⟩ : ∃ Z, Z = frame 6 (cont q.xs r.xs nw) := ⟨_, rfl⟩
      have HZL : Hid (Z.length ≤ 4398046511104) := by
        unfold Hid
        have h1 := cont_len (k := q.xs) (q := r.xs) (t := nw) (by have := hok.2.2; omega)
        have h2 : (put (cont q.xs r.xs nw).length).length ≤ 10 := put_len10 (by omega)
        rw [hZ, frame_len]
        omega
      rw [← hZ] at hae HRA
      injection hae with ha1 ha2
      subst ha1 ha2
      have HRAX := HRA
      clear hok HRA HRAN HANO HAYE hZ
      go_wp2_with fail
      refine HRAX.out.mono ?_
      rintro e9 w9 ⟨v9, rfl, hown9, hb9⟩
      obtain ⟨A9, c9, rfl, -, -⟩ := own_slice hown9
      have HR9 : Hid (Row .u8 w9 w9.heap.size A9 ak.length ak) := Row.of_own hown9
      have HR79 := Lib.hid ((HR7.out.below hb9).more hb9.size)
      have HX9 := Lib.hid (HX7.out.below hb9)
      clear hown9 hb9 HRAX HR7 HX7 l1 l2
      have HS9 := Lib.hid (same_any A7 A9 n7 c7 ak.length c9 _ _ ak ak w9 (by have h1 := HR79.out.len; have h2 := HZL.out; omega) HZL.out HR79.out HR9.out)
      go_wp2_with fail
      refine HS9.out.mono ?_
      rintro e10 w10 ⟨he10, q10, hq10⟩
      obtain rfl : e10 = .returned (.bool true) := he10.trans (by simp)
      have HX10 := Lib.hid (HX9.out.below (w2 := w10) (by rw [hq10]; exact Rg.below_drewN (Below.refl _ _)))
      clear hq10
      go_wp2
      go_ret
      exact ⟨rfl, HX10.out.bel⟩
    · rw [decide_eq_false hok]
      have hae := (HANO hok).out
      injection hae with ha1 ha2
      subst ha1 ha2
      have hn7 : n7 = 0 := by have := HR7.out.len; simpa using this.symm
      subst hn7
      clear hok HRAN HANO HAYE
      go_wp2
      go_ret
      exact ⟨rfl, HX7.out.bel⟩
end Go.Proofs.YtppbpmmfcoblmaaDoor.Chl

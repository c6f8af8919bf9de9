/- Lemmas that the proof stands on, in build order: PdH Rpt. -/
import Derived.BigRegion
import Derived.BigQuiet
import Derived.Deep.DeepCutAuto
import Derived.Deep.QuietTactic
import Derived.WalkMore
import Derived.Laws.BitsAllLaws
import Derived.Test.YtdhlbcbgbmgcjaaJ20d5a7c
import Derived.Test.YtdhlbcbgbmgcjaaJ26b1b13a
import Derived.Test.YtdhlbcbgbmgcjaaJ2789494b
import Derived.Test.YtdhlbcbgbmgcjaaJ282ea104
import Derived.Test.YtdhlbcbgbmgcjaaJ3399885d
/- Layer 17 (path), the landed program: the heap of what is reached; reach, as a contract. -/
namespace Go.Proofs.Ytdhlbcbgbmgcjaa.Pt
open Go.RowKit Rec Ints Ge Gf Pa

/-- The least number of which something holds. -/
theorem least_of {p : Nat → Prop} (h : ∃ n, p n) : ∃ k, p k ∧ ∀ j, p j → k ≤ j := by
  obtain ⟨n, hn⟩ := h
  exact least n hn
open Classical in
noncomputable def lst (p : Nat → Prop) : Nat := if h : ∃ n, p n then Classical.choose (least_of h) else 0
theorem lst_at {p : Nat → Prop} {n : Nat} (h : p n) : ∃ k, p k ∧ lst p = k := by
  have hx : ∃ n, p n := ⟨n, h⟩
  unfold lst
  rw [dif_pos hx]
  exact ⟨_, (Classical.choose_spec (least_of hx)).1, rfl⟩
theorem lst_le {p : Nat → Prop} {n : Nat} (h : p n) : lst p ≤ n := by
  have hx : ∃ n, p n := ⟨n, h⟩
  unfold lst
  rw [dif_pos hx]
  exact (Classical.choose_spec (least_of hx)).2 n h
/-- The lighter one comes first. -/
def ltR (x y : C) : Bool := decide (x.2 < y.2)
theorem ltR_swo : Hq.Swo ltR where
  irrefl x := decide_eq_false (by omega)
  trans x y z h1 h2 := by unfold ltR at *; simp only [decide_eq_true_eq] at *; omega
  ntrans x y z h1 h2 := by unfold ltR at *; simp only [decide_eq_false_iff_not] at *; omega
theorem tells_any (x y : C) (w : World) : Calls Try.prog 26 #[.agg #[.int .i64 x.1, .int .i64 x.2], .agg #[.int .i64 y.1, .int .i64 y.2]] w fun e w' => e = .returned (.bool (decide (x.2 < y.2))) ∧ Below w.heap.size w w' := by
  obtain ⟨x1, x2⟩ := x
  obtain ⟨y1, y2⟩ := y
  simp only
  have hb1 := (Below.refl w.heap.size w).alloc (Nat.le_refl _) (.cells #[.int .i64 x1, .int .i64 x2] 62)
  have hx1 := heap_alloc_new w (.cells #[.int .i64 x1, .int .i64 x2] 62)
  have hb2 := (Below.refl (w.alloc (.cells #[.int .i64 x1, .int .i64 x2] 62)).heap.size (w.alloc (.cells #[.int .i64 x1, .int .i64 x2] 62))).alloc (Nat.le_refl _) (.cells #[.int .i64 y1, .int .i64 y2] 62)
  have hy2 := heap_alloc_new (w.alloc (.cells #[.int .i64 x1, .int .i64 x2] 62)) (.cells #[.int .i64 y1, .int .i64 y2] 62)
  have hx2 := (hb2.block _ (Array.getElem?_eq_some_iff.1 hx1).1).trans hx1
  have c0 := cell_of_blk (j := 1) hx2 rfl
  have c1 := cell_of_blk (j := 1) hy2 rfl
  have HB := Lib.hid (hb1.trans (hb2.mono hb1.size))
  have hs : (w.alloc (.cells #[.int .i64 x1, .int .i64 x2] 62)).heap.size = w.heap.size + 1 := by simp
  rw [hs] at c1
  clear hb1 hx1 hb2 hy2 hx2 hs
  go_enter Try.func26, Try.ntmps26
  go_upto_region 1 with fail
  generalize (w.alloc (.cells #[.int .i64 x1, .int .i64 x2] 62)).alloc (.cells #[.int .i64 y1, .int .i64 y2] 62) = w2 at *
  go_wp2
  go_ret
  exact ⟨rfl, HB.out⟩
theorem less_ok (B : Nat) : Hq.D.Less ltR B (fun _ => True) 26 #[] where
  swo := ltR_swo
  keep _ _ _ _ _ := trivial
  ent _ _ := rfl
  tells x y w _ _ := tells_any x y w
abbrev HinR (B : Nat) (w : World) (M : Nat → Prop) (a : Addr) (L : List C) : Prop := Hq.D.Hin ltR B 26 #[] w M a L
theorem heapR (B : Nat) : Hq.HeapOk Hq.D.reachF pl (0, 0) ltR B (fun _ => True) (.func (.func 26) #[] #[]) (HinR B) := Hq.D.heap_ok ltR B (fun _ => True) _ #[] (less_ok B)

/-- The distances so far, the heap, and the variables that hold them. -/
structure Ds (w0 : World) (n g p5 p6 : Nat) (a : Addr) (xs : List Int) (H : List C) (M : Nat → Prop) (wr : World) : Prop where
  far : wr.heap[p5]? = some (.cells #[.slice (some ⟨g, 0, none⟩) n n] 27 (0, 0))
  end_ : wr.heap[p6]? = some (.cells #[.pointer (some a)] 59 (0, 0))
  hold : Hold intS wr w0.heap.size 3 g n xs
  heap : HinR w0.heap.size wr M a H
  sep : ¬ M p5 ∧ ¬ M p6 ∧ ¬ M g
  low : w0.heap.size ≤ p5 ∧ w0.heap.size ≤ p6 ∧ p5 ≠ g ∧ p6 ≠ g
  bel : Below w0.heap.size w0 wr
section
variable {w0 wr w1 : World} {n g p5 p6 : Nat} {a : Addr} {xs : List Int} {H H' : List C} {M M' : Nat → Prop}
theorem Ds.lt (h : Ds w0 n g p5 p6 a xs H M wr) : p5 < wr.heap.size ∧ p6 < wr.heap.size ∧ g < wr.heap.size := ⟨(Array.getElem?_eq_some_iff.1 h.far).1, (Array.getElem?_eq_some_iff.1 h.end_).1, h.hold.lt⟩
theorem Ds.below (h : Ds w0 n g p5 p6 a xs H M wr) (hb : Below wr.heap.size wr w1) : Ds w0 n g p5 p6 a xs H M w1 :=
  ⟨(hb.block _ h.lt.1).trans h.far, (hb.block _ h.lt.2.1).trans h.end_, h.hold.below hb, h.heap.keep fun k hk => hb.block k (h.heap.lies k hk).2, h.sep, h.low, h.bel.trans (hb.mono h.bel.size)⟩
/-- The heap was turned. -/
theorem Ds.turn (h : Ds w0 n g p5 p6 a xs H M wr) (hh : HinR w0.heap.size w1 M' a H') (ho : Only M wr w1) (hM : ∀ k, M' k → M k ∨ wr.heap.size ≤ k) : Ds w0 n g p5 p6 a xs H' M' w1 := by
  have hl := h.lt
  have hn : ∀ k, k < wr.heap.size → ¬ M k → ¬ M' k := fun k h1 h2 h3 => (hM k h3).elim h2 (fun h4 => by omega)
  exact ⟨ho.at h.far h.sep.1, ho.at h.end_ h.sep.2.1, h.hold.keep (ho.block g hl.2.2 h.sep.2.2), hh, ⟨hn _ hl.1 h.sep.1, hn _ hl.2.1 h.sep.2.1, hn _ hl.2.2 h.sep.2.2⟩, h.low, h.bel.trans (ho.below h.bel.size fun k hk => (h.heap.lies k hk).1)⟩
/-- A distance was stored. -/
theorem Ds.set (h : Ds w0 n g p5 p6 a xs H M wr) {v : Nat} (hv : v < xs.length) (y : Int) : Ds w0 n g p5 p6 a (xs.set v y) H M (wr.setCell ⟨g, v, none⟩ (.int .i64 y)) := by
  have ho := Only.setCell wr ⟨g, v, none⟩ (.int .i64 y)
  refine ⟨ho.at h.far h.low.2.2.1, ho.at h.end_ h.low.2.2.2, hold_y h.hold y hv, h.heap.keep fun k hk => ho.block k (h.heap.lies k hk).2 (fun e => h.sep.2.2 (by rw [← show k = g from e]; exact hk)), h.sep, h.low, h.bel.trans (ho.below h.bel.size fun k hk => ?_)⟩
  have : k = g := hk
  rw [this]
  exact h.hold.le
end
/-- What was reached lighter. -/
def RchTo (w0 : World) (n g p5 p6 : Nat) (a : Addr) (xs : List Int) (H : List C) (M : Nat → Prop) (wr : World) (e : Ending) (w' : World) : Prop :=
  e = .returned (.tuple #[]) ∧ ∃ M', Ds w0 n g p5 p6 a xs H M' w' ∧ Only (fun k => k = g ∨ M k) wr w' ∧ ∀ k, M' k → M k ∨ wr.heap.size ≤ k
set_option maxRecDepth 100000 in
theorem reach_no (w0 wr : World) (n g p5 p6 : Nat) (a : Addr) (xs : List Int) (H : List C) (M : Nat → Prop) (v : Nat) (y : Int) (h : Ds w0 n g p5 p6 a xs H M wr) (hv : v < n) (hl : xs.length = n) (hno : ¬ (gx xs v = -1 ∨ y < gx xs v)) :
    Calls Try.prog 27 #[.int .i64 (v : Int), .int .i64 y, .pointer (some ⟨p5, 0, none⟩), .pointer (some ⟨p6, 0, none⟩)] wr (RchTo w0 n g p5 p6 a xs H M wr) := by
  have HD := Lib.hid h
  have c0 := cell_of_blk (j := 0) h.far rfl
  have c1 := hold_x h.hold (gx_at (v := v) (by omega))
  obtain ⟨x, hx⟩ : ∃ x, gx xs v = x := ⟨_, rfl⟩
  rw [hx] at c1 hno
  have e1 : (x == (-1)) = false := beq_eq_false_iff_ne.2 (fun e => hno (.inl e))
  have e2 : decide (y < x) = false := decide_eq_false (fun e => hno (.inr e))
  have a1 : (0 : Int) ≤ (v : Int) := by omega
  have a2 : (v : Int) < (n : Int) := by omega
  clear h hno hx
  go_enter Try.func27, Try.ntmps27
  go_wp2
  go_end0
  exact ⟨rfl, M, HD.out, Only.refl _ _, fun k hk => .inl hk⟩
set_option maxRecDepth 100000 in
theorem reach_yes (w0 wr : World) (n g p5 p6 : Nat) (a : Addr) (xs : List Int) (H : List C) (M : Nat → Prop) (v : Nat) (y : Int) (h : Ds w0 n g p5 p6 a xs H M wr) (hv : v < n) (hl : xs.length = n) (hH : H.length ≤ 50000) (hyes : gx xs v = -1 ∨ y < gx xs v) :
    Calls Try.prog 27 #[.int .i64 (v : Int), .int .i64 y, .pointer (some ⟨p5, 0, none⟩), .pointer (some ⟨p6, 0, none⟩)] wr (RchTo w0 n g p5 p6 a (xs.set v y) (((v : Int), y) :: H) M wr) := by
  have HK := Lib.hid (heapR w0.heap.size)
  have HD := Lib.hid h
  have c0 := cell_of_blk (j := 0) h.far rfl
  have c1 := hold_x h.hold (gx_at (v := v) (by omega))
  have f1 : wr.frozen? ⟨g, v, none⟩ = false := h.hold.free _
  have HS := Lib.hid (h.set (v := v) (by omega) y)
  obtain ⟨x, hx⟩ : ∃ x, gx xs v = x := ⟨_, rfl⟩
  rw [hx] at c1 hyes
  have a1 : (0 : Int) ≤ (v : Int) := by omega
  have a2 : (v : Int) < (n : Int) := by omega
  have HO := Lib.hid (Only.setCell wr ⟨g, v, none⟩ (.int .i64 y))
  clear h hx
  go_enter Try.func27, Try.ntmps27
  cases e1 : (x == (-1)) with
  | true =>
    clear hyes
    go_upto_region 2 with fail
    generalize wr.setCell ⟨g, v, none⟩ (.int .i64 y) = w1 at *
    have c2 := cell_of_blk (j := 0) HS.out.end_ rfl
    go_wp2_with fail
    refine (HK.out.push w1 M a H ((v : Int), y) trivial HS.out.heap hH).mono ?_
    rintro e2 w2 ⟨rfl, M2, hh2, ho2, hm2⟩
    have HF : Hid (RchTo w0 n g p5 p6 a (xs.set v y) (((v : Int), y) :: H) M wr (.returned (.tuple #[])) w2) :=
      ⟨rfl, M2, HS.out.turn hh2 ho2 hm2, (HO.out.mono (fun k hk => .inl hk)).trans ho2 (fun k _ hk => .inr hk), fun k hk => (hm2 k hk).imp id (fun h => Nat.le_trans HO.out.size h)⟩
    clear hh2 ho2 hm2
    go_wp2
    go_end0
    exact HF.out
  | false =>
    have e2 : decide (y < x) = true := decide_eq_true (hyes.elim (fun h => absurd h (beq_eq_false_iff_ne.1 e1)) id)
    clear hyes
    go_upto_region 2 with fail
    generalize wr.setCell ⟨g, v, none⟩ (.int .i64 y) = w1 at *
    have c2 := cell_of_blk (j := 0) HS.out.end_ rfl
    go_wp2_with fail
    refine (HK.out.push w1 M a H ((v : Int), y) trivial HS.out.heap hH).mono ?_
    rintro e2 w2 ⟨rfl, M2, hh2, ho2, hm2⟩
    have HF : Hid (RchTo w0 n g p5 p6 a (xs.set v y) (((v : Int), y) :: H) M wr (.returned (.tuple #[])) w2) :=
      ⟨rfl, M2, HS.out.turn hh2 ho2 hm2, (HO.out.mono (fun k hk => .inl hk)).trans ho2 (fun k _ hk => .inr hk), fun k hk => (hm2 k hk).imp id (fun h => Nat.le_trans HO.out.size h)⟩
    clear hh2 ho2 hm2
    go_wp2
    go_end0
    exact HF.out
end Go.Proofs.Ytdhlbcbgbmgcjaa.Pt

/- slices.Repeat of one int, as a contract (bits.Mul64, bits.Mul beneath it). -/
namespace Go.Proofs.Ytdhlbcbgbmgcjaa.Rpt
open Go.RowKit Rec Ints

theorem and_small (n : Nat) (hn : n ≤ 4096) : bits .and .u64 (n : Int) 4294967295 = (n : Int) := by
  have h1 := u64_and_nat n 4294967295 (by omega) (by omega)
  rw [show (4294967295 : Nat) = 2 ^ 32 - 1 from rfl, Nat.and_two_pow_sub_one_eq_mod, Nat.mod_eq_of_lt (by omega)] at h1
  exact h1
set_option maxRecDepth 100000 in
theorem mul64_any (n : Nat) (hn : n ≤ 4096) (w : World) : Calls Try.prog 47 #[.int .u64 1, .int .u64 (n : Int)] w fun e w' => e = .returned (.tuple #[.int .u64 0, .int .u64 (n : Int)]) ∧ w' = w := by
  have b1 : bits .and .u64 1 4294967295 = 1 := by decide +kernel
  have b2 := and_small n hn
  have b3 : bits .and .u64 0 4294967295 = 0 := by decide +kernel
  have d1 : (n : Int) / 4294967296 = 0 := by omega
  have w1 : IntKind.u64.wrap (n : Int) = (n : Int) := IntWalk.u64_in _ ⟨by omega, by omega⟩
  have w0 : IntKind.u64.wrap 0 = 0 := by decide +kernel
  go_enter Try.func47, Try.ntmps47
  go_wp2
  go_ret2
  exact ⟨rfl, rfl⟩
set_option maxRecDepth 100000 in
theorem mul_any (n : Nat) (hn : n ≤ 4096) (w : World) : Calls Try.prog 35 #[.int .u64 1, .int .u64 (n : Int)] w fun e w' => e = .returned (.tuple #[.int .u64 0, .int .u64 (n : Int)]) ∧ w' = w := by
  have H := Lib.hid (mul64_any n hn)
  go_enter Try.func35, Try.ntmps35
  go_wp2_with fail
  refine (H.out _).mono ?_
  rintro e w1 ⟨rfl, rfl⟩
  go_wp2
  go_ret2
  exact ⟨rfl, rfl⟩
theorem exec_copy {P : Program} {w w' : World} {o : Oper} {a : Act} {d s : Operand} {dT sT : TypeId} {D V v : Value} (hop : o.op = .call { callee := .builtin .copy, args := #[d, s], argTypes := #[dT, sT] }) (hd : a.eval d = D) (hs : a.eval s = V) (hrun : (Builtin.copy_ #[dT, sT] o.type #[D, V]).run P w = .ok v w') :
    (execOp a.eval o).run P w = .ok (.value v) w' := by
  simp only [execOp, hop, resolve, invoke, builtin, Sem.run_bind, Sem.run_pure, Result.andThen_ok, List.map_toArray, List.map_cons, List.map_nil, hd, hs, hrun]
theorem made_ints (n : Nat) : (madeCells (Value.int .i64 0).cells (n * 1)).toList = intS.flat (List.replicate n 0) := by
  rw [Sto.flat_all (S := intS) (a := (0 : Int)) (u := .int .i64 0) rfl n]
  refine Sto.made_all (by show 0 < 1; omega) (fun j hj => ?_) _
  have hj' : j < 1 := hj
  match j, hj' with
  | 0, _ => rfl
theorem size_int : (Try.prog.info? 3).map (·.size) = some intS.c := by kernel_rfl
theorem rep_cell {w : World} {b k : Nat} {x : Int} (h : ∀ j, j < k → w.cell? ⟨b, j, none⟩ = some (.int .i64 x)) : ∀ j v, (intS.flat (List.replicate k x))[j]? = some v → w.cell? ((⟨b, 0, none⟩ : Addr).add j) = some v := fun j v hv => by
  rw [Sto.flat_all (S := intS) (a := x) (u := .int .i64 x) rfl k] at hv
  have hv2 := List.mem_replicate.1 (List.mem_of_getElem? hv)
  have hj : j < k := by have := (List.getElem?_eq_some_iff.1 hv).1; rw [List.length_replicate] at this; show j < k; have h1 : k * intS.c = k := Nat.mul_one k; omega
  rw [hv2.2, Addr.add_mid, Nat.zero_add]
  exact h j hj
set_option maxHeartbeats 1600000 in
set_option maxRecDepth 100000 in
theorem repeat_any (x : Int) (b n : Nat) (hn : n ≤ 4096) (w : World) (hb : w.heap[b]? = some (.cells #[.int .i64 x] 3 (0, 0))) :
    Calls Try.prog 24 #[.slice (some ⟨b, 0, none⟩) 1 1, .int .i64 (n : Int)] w fun e w' => ∃ g, e = .returned (.slice (some ⟨g, 0, none⟩) n n) ∧ Hold intS w' w.heap.size 3 g n (List.replicate n x) ∧ Below w.heap.size w w' := by
  obtain ⟨i0, hi, hz0, hz1, hz2⟩ := info_of info_int
  have HM := Lib.hid (mul_any n hn)
  have HB := Lib.hid hb
  have d0 : decide ((n : Int) < 0) = false := decide_eq_false (by omega)
  have d1 : decide ((9223372036854775807 : Int) < (n : Int)) = false := decide_eq_false (by omega)
  have d2 : decide (9223372036854775807 < n) = false := decide_eq_false (by omega)
  have w1 : IntKind.u64.wrap (n : Int) = (n : Int) := IntWalk.u64_in _ ⟨by omega, by omega⟩
  have w2 : IntKind.i64.wrap (n : Int) = (n : Int) := IntWalk.i64_in _ ⟨by omega, by omega⟩
  have w3 : IntKind.u64.wrap 1 = 1 := by decide +kernel
  clear hb
  go_enter Try.func24, Try.ntmps24
  go_wp2_with fail
  refine (HM.out _).mono ?_
  rintro e w5 ⟨rfl, rfl⟩
  go_wp2_with (at_make; go_loud (refine wpList_make_full _ rfl _ _ 27 rfl w5.heap.size 3 i0 (.int .i64 0) 1 Try.underlying27 hi hz0 hz1 _ _ _ _ n rfl rfl rfl rfl (by rw [hz2]; omega) (by unfold maxLen; omega) (Nat.le_refl _) ?_); intro w6 hown6 hg6; rw [made_ints] at hown6; have HO6 := Lib.hid (Hold.of_own (S := intS) hown6).1; have HB6 := Lib.hid ((Below.refl w5.heap.size w5).grown hg6 (Nat.le_refl _) (fun j hj => by cases hj)); clear hown6 hg6)
  have hbl := (Array.getElem?_eq_some_iff.1 HB.out).1
  obtain ⟨g, hg⟩ : ∃ g, w5.heap.size = g := ⟨_, rfl⟩
  have HCB : Hid (w6.cell? ⟨b, 0, none⟩ = some (.int .i64 x)) := cell_of_blk ((HB6.out.block b hbl).trans HB.out) rfl
  have hMl : (List.replicate (min 1 n) x).length = Nat.min 1 n := List.length_replicate
  have hgi : goInt (List.replicate (min 1 n) x).length = .int .i64 ((min 1 n : Nat) : Int) := by rw [List.length_replicate]; rfl
  have hcp := run_copy_rec (P := Try.prog) w6 27 27 3 3 intS w5.heap.size 0 n n (some ⟨b, 0, none⟩) 1 1 (List.replicate (min 1 n) x) Try.underlying27 size_int hMl
    (fun _ => ⟨_, rfl, rep_cell (fun j hj => by have h0 : j = 0 := (by omega); subst h0; exact HCB.out)⟩)
    (fun j hj => HO6.out.some_ (by rw [List.length_replicate] at hj; have h1 : min 1 n * intS.c = min 1 n := Nat.mul_one _; have h2 : n * intS.c = n := Nat.mul_one n; omega)) (fun j _ => HO6.out.free _)
  rw [hgi] at hcp
  have hH7 := HO6.out.put (i := 0) (List.replicate (min 1 n) x) (Nat.zero_le _) (by rw [List.length_replicate]; omega)
  have hz : 0 * intS.c = 0 := Nat.zero_mul _
  rw [hz] at hH7
  have ho7 := only_setCells w6 w5.heap.size 0 (intS.flat (List.replicate (min 1 n) x))
  have HH7 := Lib.hid hH7
  have HO7 := Lib.hid ho7
  clear hH7 ho7 hz hgi
  obtain ⟨w7, hw7⟩ : ∃ w7, w6.setCells w5.heap.size 0 (intS.flat (List.replicate (min 1 n) x)) = w7 := ⟨_, rfl⟩
  rw [hw7] at hcp HH7 HO7
  clear hw7
  have HS0 : Hid (Hold intS w7 w5.heap.size 3 w5.heap.size n (List.replicate (min 1 n) x ++ List.replicate (n - min 1 n) 0)) := by
    have h1 := HH7.out
    rw [hMl, List.take_zero, List.nil_append, Nat.zero_add, List.drop_replicate] at h1
    exact h1
  have HB7 : Hid (Below w5.heap.size w5 w7) := HB6.out.trans (HO7.out.below HB6.out.size (fun k hk => Nat.le_of_eq hk.symm))
  have hm1 : min 1 n ≤ n := Nat.min_le_right 1 n
  have hm2 : 0 < n → 0 < min 1 n := fun h => by omega
  clear HO6 HB6 HCB HH7 HO7 HB HM hMl
  rw [hg] at HS0 HB7 hcp
  try rw [hg]
  rw [hcp]
  simp only [Result.andThen_ok, Oper.upon_value]
  go_wp2
  go_loopw [8] (fun v wr => ∃ k : Nat, k ≤ n ∧ (0 < n → 0 < k) ∧ v = .int .i64 (k : Int) ∧ Hid (Hold intS wr g 3 g n (List.replicate k x ++ List.replicate (n - k) 0)) ∧ Hid (Below g w5 wr)) (fun v _ => n - (intOf v).toNat)
  case atStart => exact ⟨min 1 n, hm1, hm2, rfl, HS0, HB7⟩
  case round =>
    clear HS0 HB7
    obtain ⟨k, hk, hk0, rfl, HS, HB7⟩ := hrel
    by_cases hlt : k < n
    · have hkp := hk0 (by omega)
      obtain ⟨d, hd⟩ : ∃ d, Nat.min k (n - k) = d := ⟨_, rfl⟩
      have hd' : min k (n - k) = d := hd
      have hdp : 0 < d := by omega
      have hdn : k + d ≤ n := by omega
      have a1 : (0 : Int) ≤ (k : Int) := by omega
      have a2 : (k : Int) ≤ (n : Int) := by omega
      have a3 : ¬ (n = k) := by omega
      have a4 : (k : Int) < (n : Int) := by omega
      have w4 : IntKind.i64.wrap ((k : Int) + (d : Int)) = (k : Int) + (d : Int) := IntWalk.i64_in _ ⟨by omega, by omega⟩
      go_upto_region 9 with fail
      obtain ⟨ι, hne, W, i0', h0, hW, hC⟩ := Ent.fam_sub (fun _ => True) wr trivial
      have HS1 : Hid (Hold intS (W i0') g 3 g n (List.replicate k x ++ List.replicate (n - k) 0)) := by rw [← h0]; exact HS.out.below (Below.refl _ _).drew
      have HB1 : Hid (Below g w5 (W i0')) := by rw [← h0]; exact HB7.out.drew
      clear HS HB7 hW
      refine Mix.wp_region_lex (fun w' => ∃ i, w' = W i) (by kernel_rfl) (by kernel_rfl) ⟨i0', h0⟩ ?_
      rw [h0]
      clear h0
      repeat (first | (refine Mix.lex_step rfl ?_; intro K hK; go_big_quiet_step (fail); refine Mix.lex_on hK ?_; clear hK K) | (refine Mix.lex_skip rfl ?_; simp only [Act.put, List.setIfInBounds_toArray, List.set_cons_zero, List.set_cons_succ]))
      have hLk : (List.replicate k x ++ List.replicate (n - k) 0).length = n := by simp; omega
      have hrun := run_copy_rec (P := Try.prog) (W i0') 27 27 3 3 intS g k (n - k) (n - k) (some ⟨g, 0, none⟩) k n (List.replicate d x) Try.underlying27 size_int (by rw [List.length_replicate]; exact hd.symm)
        (fun _ => ⟨_, rfl, rep_cell (fun j hj => by
          have h1 := HS1.out.cells (j := j) (a := x) (by rw [List.getElem?_append_left (by rw [List.length_replicate]; omega), List.getElem?_replicate, if_pos (by omega)]) 0 (by show 0 < 1; omega)
          have h2 : j * intS.c + 0 = j := Nat.mul_one j
          rw [h2] at h1
          exact h1)⟩)
        (fun j hj => HS1.out.some_ (by rw [List.length_replicate] at hj; have h1 : d * intS.c = d := Nat.mul_one d; have h2 : n * intS.c = n := Nat.mul_one n; omega)) (fun j _ => HS1.out.free _)
      have hput := HS1.out.put (i := k) (List.replicate d x) (by omega) (by rw [List.length_replicate]; omega)
      have hoP := only_setCells (W i0') g (k * intS.c) (intS.flat (List.replicate d x))
      have hkc : k * intS.c = k := Nat.mul_one k
      rw [hkc] at hput hoP
      have e1 : (List.replicate k x ++ List.replicate (n - k) 0).take k ++ List.replicate d x ++ (List.replicate k x ++ List.replicate (n - k) 0).drop (k + (List.replicate d x).length) = List.replicate (k + d) x ++ List.replicate (n - (k + d)) 0 := by
        rw [List.take_append_of_le_length (by simp), List.take_of_length_le (by simp), List.length_replicate, List.drop_append, List.length_replicate, List.drop_eq_nil_of_le (by simp), List.nil_append, List.drop_replicate, List.replicate_append_replicate, show k + d - k = d by omega, show n - k - d = n - (k + d) by omega]
      rw [e1] at hput
      obtain ⟨j3, hj3⟩ := hC ((W i0').setCells g k (intS.flat (List.replicate d x))) trivial
      refine Mix.lex_act rfl rfl (exec_copy rfl (by simp [Act.eval]; first | rfl | done) (by simp [Act.eval]; first | rfl | done) hrun) ⟨j3, hj3⟩ ?_
      have hgi : goInt (List.replicate d x).length = .int .i64 (d : Int) := by rw [List.length_replicate]; rfl
      rw [hgi, hj3]
      have HS2 : Hid (Hold intS (W j3) g 3 g n (List.replicate (k + d) x ++ List.replicate (n - (k + d)) 0)) := by rw [← hj3]; exact hput
      have HB2 : Hid (Below g w5 (W j3)) := by rw [← hj3]; exact HB1.out.trans (hoP.below (by have := HB1.out.size; omega) (fun i hi => Nat.le_of_eq hi.symm))
      clear hrun hput hoP e1 hj3 HS1 HB1 hgi hLk hkc
      simp only [Act.put, List.setIfInBounds_toArray, List.set_cons_zero, List.set_cons_succ]
      repeat (first | (refine Mix.lex_step rfl ?_; intro K hK; go_big_quiet_step (fail); refine Mix.lex_on hK ?_; clear hK K) | (refine Mix.lex_skip rfl ?_; simp only [Act.put, List.setIfInBounds_toArray, List.set_cons_zero, List.set_cons_succ]))
      refine Mix.lex_nil ?_
      generalize W j3 = w9 at HS2 HB2 ⊢
      clear hC
      go_wp2
      go_roundw
      case rel => exact ⟨k + d, hdn, fun _ => by omega, by go_num, HS2, HB2⟩
      case measure => simp [intOf]; omega
    · have hkn : k = n := by omega
      subst hkn
      go_wp2
      go_ret
      have h1 := HS.out
      rw [Nat.sub_self, List.replicate_zero, List.append_nil] at h1
      exact ⟨g, rfl, by rw [hg]; exact h1, by rw [hg]; exact HB7.out⟩
end Go.Proofs.Ytdhlbcbgbmgcjaa.Rpt

/- Lemmas that the proof stands on, in build order: ShaY OpenK OpenI ChQ. -/
import Derived.Test.YtppbpmmfcoblmaaDoorRows
import Derived.LaidMore
import Derived.Stop.Joined
import Derived.Test.YtppbpmmfcoblmaaDoorJ16496690
import Derived.Test.YtppbpmmfcoblmaaDoorJ294d73c3
import Derived.Test.YtppbpmmfcoblmaaDoorJ3807d47d
import Derived.Test.YtppbpmmfcoblmaaDoorJ391258ec
import Derived.Test.YtppbpmmfcoblmaaDoorJ43ba10a0
/- Layer 7 (sha): the package's two tables, out of a row's condition on what they hold. -/
namespace Go.Proofs.YtppbpmmfcoblmaaDoor.Sha
open Go.ChangeShapes Go.WideShapes Go.ChangeAt Go.RowKit

def laid2 : List (String × DataW Unit) := [("viaticum/sha.initial", Rows.laid_viaticum_sha_initial), ("viaticum/sha.constants", Rows.laid_viaticum_sha_constants)]
theorem gIni : Tryd.prog.globalNamed "viaticum/sha.initial" = some 0 := by kernel_rfl
theorem gCon : Tryd.prog.globalNamed "viaticum/sha.constants" = some 1 := by kernel_rfl
theorem tIni : (Tryd.prog.globals[0]?).map (·.type) = some 143 := by kernel_rfl
theorem tCon : (Tryd.prog.globals[1]?).map (·.type) = some 150 := by kernel_rfl

/-- The door's own heap meets the condition. -/
theorem door_met (os : Os) (args : Array Value) : laidMetH Tryd.prog laid2 ((World.doorLaid Tryd.prog 400 os).forCall (fun _ _ => 0) ⟨#[], args, []⟩).memory :=
  laidMetH_of_parts3 (fuel := 8) (laidMet_of_run' 8 (by kernel_rfl) (by kernel_rfl)) (by kernel_rfl) (by kernel_rfl)

/-- An array of integers, read as a datum that is known: its cells. -/
theorem arr_of_trod {H : Type} {enc : TypeId × Value → H} {P : Program} {W : World} {base : Nat} {sp : Nat → Bool} {held : Bool} {fuel : Nat} {t e : TypeId} {k : IntKind} {m : Nat} {cs : List Value} {p : List MemPlace} {zs : List Int}
    (ht : P.underlying t = some (.array m e)) (he : P.underlying e = some (.int k)) (hc : P.cellsOf e = 1) (h : DataW.trod enc P W base sp held fuel t cs = some (.agg (zs.map fun z => .lit (.int k z)), p)) :
    ∀ j, j < zs.length → cs[j]? = some (.int k (zs.getD j 0)) := by
  obtain ⟨xs, f, rfl, hx, hl, hn, hel⟩ := DataW.trod_array ht h
  intro j hj
  simp only [Prod.mk.injEq, DataW.agg.injEq] at hx
  have hlen : xs.length = zs.length := by
    have := congrArg List.length hx.1
    simpa using this.symm
  have h1 := hel j (by omega)
  rw [List.getElem?_eq_getElem (by omega), hc, Nat.mul_one] at h1
  obtain ⟨z, h2, h3, -⟩ := DataW.trod_int he h1
  have h4 : (zs.map fun z => (DataW.lit (.int k z) : DataW H))[j]? = (xs.map (·.1))[j]? := by rw [hx.1]
  rw [List.getElem?_map, List.getElem?_map, List.getElem?_eq_getElem hj, List.getElem?_eq_getElem (by omega), h3] at h4
  simp only [Option.map_some, Option.some.injEq, DataW.lit.injEq, Lit.int.injEq, true_and] at h4
  have h5 : j < cs.length := by
    by_cases h6 : j < cs.length
    · exact h6
    · rw [List.drop_of_length_le (by omega)] at h2
      simp at h2
  rw [List.drop_eq_getElem_cons h5] at h2
  simp only [List.take_succ_cons, List.take_zero, List.cons.injEq, and_true] at h2
  rw [List.getElem?_eq_getElem h5, h2, ← h4]
  simp [List.getD, hj]

theorem ini_eq : (Rows.laid_viaticum_sha_initial : DataW Unit) = .agg ((hs.map wi).map fun z => .lit (.int .u32 z)) := by rfl
set_option maxRecDepth 100000 in
theorem con_eq : (Rows.laid_viaticum_sha_constants : DataW Unit) = .agg ((ks.map wi).map fun z => .lit (.int .u32 z)) := by rfl

/-- What the condition gives the walks. -/
theorem lay_of {W : World} (h : laidMetH Tryd.prog laid2 W) : Lay W := by
  rw [MakeChecks.laidMetH_plain _ _ _ (by kernel_rfl)] at h
  obtain ⟨ps, ⟨g0, t0, cs0, f0, p0, q0, hg0, ht0, hv0, hd0, ⟨g1, t1, cs1, f1, p1, q1, hg1, ht1, hv1, hd1, _, _⟩, _⟩, _, _⟩ := h
  obtain rfl := Option.some.inj (gIni.symm.trans hg0)
  obtain rfl := Option.some.inj (gCon.symm.trans hg1)
  obtain rfl := Option.some.inj (tIni.symm.trans ht0)
  obtain rfl := Option.some.inj (tCon.symm.trans ht1)
  rw [ini_eq] at hd0
  rw [con_eq] at hd1
  have h0 := arr_of_trod Tryd.underlying143 Tryd.underlying101 (by kernel_rfl) hd0
  have h1 := arr_of_trod Tryd.underlying150 Tryd.underlying101 (by kernel_rfl) hd1
  have c0 : ∀ j, W.cell? ⟨0, j, none⟩ = cs0[j]? := fun j => World.var?_cell hg0 hv0 j
  have c1 : ∀ j, W.cell? ⟨1, j, none⟩ = cs1[j]? := fun j => World.var?_cell hg1 hv1 j
  have hk : ∀ j, j < 64 → W.cell? ⟨1, j, none⟩ = some (.int .u32 (wi (wat ks j))) := fun j hj => by
    rw [c1, ← Array.getElem?_toList, h1 j (by simpa [ks] using hj)]
    have hl : j < ks.length := hj
    simp [wat, List.getD, List.getElem?_map, List.getElem?_eq_getElem hl]
  have hini : ∀ j v, (wv hs)[j]? = some v → W.cell? ⟨0, 0 + j, none⟩ = some v := by
    intro j v hv
    have hj : j < hs.length := by simpa [wv] using (List.getElem?_eq_some_iff.1 hv).1
    rw [Nat.zero_add, c0, ← Array.getElem?_toList, h0 j (by simpa using hj), ← hv]
    simp [wv, List.getD, List.getElem?_map, List.getElem?_eq_getElem hj]
  refine ⟨⟨?_, hk⟩, hini⟩
  have l1 := block_lt_of_cell (hk 0 (by omega))
  have l0 := block_lt_of_cell (hini 0 _ rfl)
  exact Nat.max_lt.2 ⟨l0, l1⟩
end Go.Proofs.YtppbpmmfcoblmaaDoor.Sha

/- Structs that came in, over any program: a slice of structs out of a cell; keys of epochs; a struct of a number and a slice of such keys. -/
namespace Go.Proofs.YtppbpmmfcoblmaaDoor
open Go.ChangeShapes Go.WideShapes Go.ChangeAt Go.RowKit Go.Deep Slc Rg

section
variable {H : Type} {enc : TypeId × Value → H} {P : Program} {W : World} {base : Nat}

/-- A cell that reads as a slice of structs: what each cell of each element holds, and that it reads. -/
theorem cell_structs {t e : TypeId} {fs : Array Field} {v : Value} {fuel : Nat} {y : DataW H × List MemPlace} (ht : P.underlying t = some (.slice e)) (he : P.underlying e = some (.struct fs))
    (hone : ∀ (i : Nat) (f : Field), fs[i]? = some f → f.offset = i ∧ P.cellsOf f.type = 1) (hC : P.cellsOf e = fs.size) (hpos : 0 < fs.size)
    (h : DataW.trod enc P W 0 (fun _ => true) true fuel t [v] = some y) :
    ∃ (A : Option Addr) (n c : Nat) (V : Nat → Nat → Value), v = .slice A n c ∧ (A = none → c = 0) ∧ n ≤ c ∧ c ≤ maxLen ∧ (0 < n → ∃ b o, A = some ⟨b, o, none⟩ ∧ b < W.heap.size ∧
      ∀ j, j < n → ∀ i f, fs[i]? = some f → W.cell? ⟨b, o + j * fs.size + i, none⟩ = some (V j i) ∧ ∃ fuel y, DataW.trod enc P W 0 (fun _ => true) true fuel f.type [V j i] = some y) := by
  rcases open_slice ht h with ⟨hcs, _⟩ | ⟨a, len', cap', m, n, D, Pl, hcs, hb, hl, hm, hmm, _, hx⟩
  · simp at hcs
    exact ⟨none, 0, 0, fun _ _ => undef, hcs, fun _ => rfl, Nat.le_refl _, Nat.zero_le _, fun h => absurd h (by omega)⟩
  · simp at hcs
    subst hcs
    simp only [if_true] at hmm
    subst hmm
    have each : ∀ j, j < m → ∃ cs' : List Value, W.cells? 0 (a.add (j * fs.size)) fs.size = some cs' ∧ DataW.trod enc P W 0 (fun _ => true) true n e cs' = some (D j, Pl j) := by
      intro j hj
      obtain ⟨cs', h1, h2⟩ := hx j hj
      rw [hC] at h1
      exact ⟨cs', h1, h2⟩
    obtain ⟨q, hq⟩ := choose_lt each
    refine ⟨some a, len', m, fun j i => (q j).getD i undef, rfl, (fun h => by cases h), hl, hm, fun hn => ?_⟩
    obtain ⟨b, o, spot⟩ := a
    have hcell := fun j (hj : j < m) => (World.cells?_some (hq j hj).1).2
    have h0 := (hcell 0 (by omega)).2 0 hpos
    rw [List.getElem?_eq_getElem (by rw [(hcell 0 (by omega)).1]; exact hpos)] at h0
    have hspot : spot = none := by simpa [Addr.add] using World.cell?_spot h0
    subst hspot
    have h0' := World.block_lt_of_cell? W _ h0
    refine ⟨b, o, rfl, by simpa [Addr.add] using h0', fun j hj i f hi => ?_⟩
    have hjm : j < m := by omega
    obtain ⟨hlen, hc⟩ := hcell j hjm
    have hlt : i < fs.size := (Array.getElem?_eq_some_iff.1 hi).1
    obtain ⟨xs, k, _, _, _, hxl, hf'⟩ := DataW.trod_struct he (hq j hjm).2
    obtain ⟨ho, hc1⟩ := hone i f hi
    have g := hf' i f hi
    rw [ho, hc1, take1_drop (q j) i undef (by omega)] at g
    refine ⟨?_, k, ?_⟩
    · have := hc i hlt
      rw [add_add, add_plain, List.getElem?_eq_getElem (by omega)] at this
      rw [Nat.add_assoc, this]
      simp [List.getD, List.getElem?_eq_getElem (show i < (q j).length by omega)]
    · rw [List.getElem?_eq_getElem (show i < xs.length by omega)] at g
      exact ⟨_, g⟩

instance : Inhabited Kp := ⟨⟨0, ⟨none, 0, 0, []⟩⟩⟩

/-- A cell that reads as a slice of keys of epochs: structs of an int and a slice of bytes. -/
theorem cell_keys {t e t0 t1 u : TypeId} {fs : Array Field} {v : Value} {fuel : Nat} {y : DataW H × List MemPlace} (ht : P.underlying t = some (.slice e)) (he : P.underlying e = some (.struct fs))
    (hone : ∀ (i : Nat) (f : Field), fs[i]? = some f → f.offset = i ∧ P.cellsOf f.type = 1) (hC : P.cellsOf e = fs.size) (hfs : fs.size = 2) (h0 : (fs[0]?).map (·.type) = some t0) (h1 : (fs[1]?).map (·.type) = some t1)
    (ht0 : P.underlying t0 = some (.int .i64)) (ht1 : P.underlying t1 = some (.slice u)) (hu : P.underlying u = some (.int .u8)) (hcu : P.cellsOf u = 1)
    (h : DataW.trod enc P W 0 (fun _ => true) true fuel t [v] = some y) :
    ∃ A n c K, v = .slice A n c ∧ KRow W W.heap.size A n K ∧ (A = none → c = 0) ∧ n ≤ c ∧ c ≤ maxLen := by
  obtain ⟨A, n, c, V, rfl, hnil, hnc, hmax, hx⟩ := cell_structs ht he hone hC (by omega) h
  obtain ⟨f0, g0, rfl⟩ : ∃ f, fs[0]? = some f ∧ f.type = t0 := by simpa [Option.map_eq_some_iff] using h0
  obtain ⟨f1, g1, rfl⟩ : ∃ f, fs[1]? = some f ∧ f.type = t1 := by simpa [Option.map_eq_some_iff] using h1
  have each : ∀ j, j < n → ∃ k : Kp, k.Ok W W.heap.size ∧ ∀ i, i < 2 → some (V j i) = k.cells[i]? := by
    intro j hj
    obtain ⟨b, o, _, _, hc⟩ := hx (by omega)
    obtain ⟨_, _, _, y0⟩ := hc j hj 0 _ g0
    obtain ⟨_, _, _, y1⟩ := hc j hj 1 _ g1
    obtain ⟨x0, e0, w0⟩ := cell_int ht0 y0
    obtain ⟨A1, n1, c1, xs, e1, hr, hnil1, hnc1, hw⟩ := cell_row2 ht1 hu hcu y1
    have b0 := bounds_i64 w0
    refine ⟨⟨x0, ⟨A1, n1, c1, xs⟩⟩, ⟨⟨hr, hnil1⟩, hnc1, fun x hx => by have := bounds_u8 (hw x hx); omega, b0.1, by have := b0.2; omega⟩, fun i hi => ?_⟩
    match i, hi with
    | 0, _ => rw [e0]; rfl
    | 1, _ => rw [e1]; rfl
  obtain ⟨K, hl, hp⟩ := list_of each
  refine ⟨A, n, c, K, rfl, ⟨hl, fun s hs => ?_, fun hn => ?_⟩, hnil, hnc, hmax⟩
  · obtain ⟨j, hj⟩ := List.getElem?_of_mem hs
    exact (hp j s hj).1
  · obtain ⟨b, o, e, hb, hc⟩ := hx hn
    refine ⟨b, o, e, hb, fun j s hj i hi => ?_⟩
    have hjn : j < n := by
      have := (List.getElem?_eq_some_iff.1 hj).1
      omega
    rw [← (hp j s hj).2 i hi]
    rw [hfs] at hc
    match i, hi with
    | 0, _ => exact (hc j hjn 0 _ g0).1
    | 1, _ => exact (hc j hjn 1 _ g1).1

/-- A struct of two fields of one cell each that came in. -/
theorem open_two {t t0 t1 : TypeId} {fs : Array Field} {v : Value} {d : DataW H} {ps : List MemPlace} (ht : P.underlying t = some (.struct fs)) (hone : ∀ (i : Nat) (f : Field), fs[i]? = some f → f.offset = i ∧ P.cellsOf f.type = 1) (hC : P.cellsOf t = 2) (hfs : fs.size = 2) (h0 : (fs[0]?).map (·.type) = some t0) (h1 : (fs[1]?).map (·.type) = some t1)
    (hv : Value.okWide P W .any base t v) (h : DataW.Trod enc P W 0 (fun _ => true) true t v d ps) :
    ∃ v0 v1, v = .agg #[v0, v1] ∧ (∃ fuel y, DataW.trod enc P W 0 (fun _ => true) true fuel t0 [v0] = some y) ∧ ∃ fuel y, DataW.trod enc P W 0 (fun _ => true) true fuel t1 [v1] = some y := by
  obtain ⟨cs, rfl, hs⟩ := okWide_struct ht hv
  rw [hC] at hs
  obtain ⟨fuel, hf⟩ := h
  obtain ⟨f0, g0, rfl⟩ : ∃ f, fs[0]? = some f ∧ f.type = t0 := by simpa [Option.map_eq_some_iff] using h0
  obtain ⟨f1, g1, rfl⟩ : ∃ f, fs[1]? = some f ∧ f.type = t1 := by simpa [Option.map_eq_some_iff] using h1
  obtain ⟨v0, v1, rfl⟩ : ∃ v0 v1, cs = #[v0, v1] := by
    rcases cs with ⟨l⟩
    match l, hs with
    | [a, b], _ => exact ⟨a, b, rfl⟩
  obtain ⟨xs, k, _, _, _, hxl, hf'⟩ := DataW.trod_struct ht hf
  have e0 := hf' 0 f0 g0
  have e1 := hf' 1 f1 g1
  rw [(hone 0 f0 g0).1, (hone 0 f0 g0).2] at e0
  rw [(hone 1 f1 g1).1, (hone 1 f1 g1).2] at e1
  rw [List.getElem?_eq_getElem (by omega)] at e0 e1
  exact ⟨v0, v1, rfl, ⟨k, _, by simpa [Value.cells] using e0⟩, ⟨k, _, by simpa [Value.cells] using e1⟩⟩
end
end Go.Proofs.YtppbpmmfcoblmaaDoor

/- A struct of numbers that came in, over any program. -/
namespace Go.Proofs.YtppbpmmfcoblmaaDoor
open Go.ChangeShapes Go.WideShapes Go.ChangeAt Go.RowKit Go.Deep

section
variable {H : Type} {enc : TypeId × Value → H} {P : Program} {W : World} {base : Nat}

theorem ints_of {k : IntKind} : ∀ (L : List Value) (m : Nat), L.length = m → (∀ i, i < m → ∃ a, L[i]? = some (.int k a) ∧ (Lit.int k a).wf = true) → ∃ xs : List Int, L = xs.map (Value.int k) ∧ ∀ x ∈ xs, (Lit.int k x).wf = true
  | [], _, _, _ => ⟨[], rfl, by simp⟩
  | u :: L, m, hm, hA => by
    obtain ⟨a, h1, h2⟩ := hA 0 (by simp at hm; omega)
    obtain ⟨xs, h3, h4⟩ := ints_of L (m - 1) (by simp at hm; omega) (fun i hi => by simpa using hA (i + 1) (by omega))
    simp at h1
    refine ⟨a :: xs, by simp [h1, h3], fun x hx => ?_⟩
    rcases List.mem_cons.1 hx with rfl | hx
    · exact h2
    · exact h4 x hx

/-- Are all fields ints? -/
def intFields (P : Program) (fs : Array Field) : Bool := fs.toList.all fun f => match P.underlying f.type with | some (.int .i64) => true | _ => false
theorem int_of {P : Program} {fs : Array Field} (h : intFields P fs = true) (i : Nat) (f : Field) (hf : fs[i]? = some f) : P.underlying f.type = some (.int .i64) := by
  have hm : f ∈ fs.toList := by
    obtain ⟨hl, he⟩ := Array.getElem?_eq_some_iff.1 hf
    rw [← he]
    simp
  have h1 := List.all_eq_true.1 h f hm
  split at h1
  · assumption
  · cases h1
/-- A struct all of whose fields are ints. -/
theorem open_nums {t : TypeId} {m : Nat} {fs : Array Field} {v : Value} {d : DataW H} {ps : List MemPlace} (ht : P.underlying t = some (.struct fs)) (hone : ∀ (i : Nat) (f : Field), fs[i]? = some f → f.offset = i ∧ P.cellsOf f.type = 1) (hC : P.cellsOf t = m) (hfs : fs.size = m) (hk : ∀ (i : Nat) (f : Field), fs[i]? = some f → P.underlying f.type = some (.int .i64))
    (hv : Value.okWide P W .any base t v) (h : DataW.Trod enc P W 0 (fun _ => true) true t v d ps) :
    ∃ xs : List Int, v = .agg (xs.map (Value.int .i64)).toArray ∧ xs.length = m ∧ ∀ x ∈ xs, (Lit.int .i64 x).wf = true := by
  obtain ⟨cs, rfl, hs⟩ := okWide_struct ht hv
  rw [hC] at hs
  obtain ⟨fuel, hf⟩ := h
  obtain ⟨xs, k, _, _, _, hxl, hf'⟩ := DataW.trod_struct ht hf
  have hl : cs.toList.length = m := by simpa using hs
  have each : ∀ i, i < m → ∃ a, cs.toList[i]? = some (.int .i64 a) ∧ (Lit.int .i64 a).wf = true := by
    intro i hi
    have hfi : fs[i]? = some (fs[i]'(by omega)) := Array.getElem?_eq_getElem _
    have g := hf' i _ hfi
    rw [(hone i _ hfi).1, (hone i _ hfi).2, List.getElem?_eq_getElem (by omega)] at g
    rw [show (Value.agg cs).cells = cs from rfl, take1_drop cs.toList i undef (by omega)] at g
    obtain ⟨a, e, w⟩ := cell_int (hk i _ hfi) g
    refine ⟨a, ?_, w⟩
    rw [← e]
    simp [List.getD, List.getElem?_eq_getElem (show i < cs.toList.length by omega)]
  obtain ⟨zs, h1, h2⟩ := ints_of _ _ hl each
  refine ⟨zs, ?_, by rw [h1] at hl; simpa using hl, h2⟩
  rw [← h1]
end
end Go.Proofs.YtppbpmmfcoblmaaDoor

/- Layer 11 (challenge): the laws' rows. -/
namespace Go.Proofs.YtppbpmmfcoblmaaDoor.ChQ
open Go.ChangeShapes Go.WideShapes Go.ChangeAt Go.RowKit Go.Deep Slc Rg Tok Chl

theorem own : ownKnob Tryd.prog.godebug = none := by kernel_rfl
theorem laidOut : laidOutB Tryd.prog = true := by kernel_rfl
theorem six_of : ∀ {zs : List Int}, zs.length = 6 → ∃ a b c d e f, zs = [a, b, c, d, e, f]
  | [a, b, c, d, e, f], _ => ⟨a, b, c, d, e, f, rfl⟩

set_option maxHeartbeats 800000 in
set_option maxRecDepth 100000 in
theorem answers_lifted (os : Os) (started : os.Started) (H : Type) (enc : TypeId × Value → H) :
    ReturnsInHanded {} Tryd.checked os 3 .any (fun w args => (Rows.challengeAnswersSpec.pre enc Tryd.prog Tryd.f3 [] false w args ∧ laidMetH Tryd.prog Sha.laid2 w) ∧ sizedMet enc Tryd.prog Tryd.f3 (OpenSpec.ofChange Rows.challengeAnswersSpec) false w args)
      (Rows.challengeAnswersSpec.post enc Tryd.prog Tryd.f3 false true false false) := by
  refine returnsInHanded_of_change_and (C := Tryd.checked) (X := fun w _ => laidMetH Tryd.prog Sha.laid2 w) (fun _ _ _ hh h => h.of_heap hh) own started (by kernel_rfl) Tryd.func3
    (ChangeSpec.witness_shaped (enc := enc) (C := Tryd.checked) (os := os) (X := fun w _ => laidMetH Tryd.prog Sha.laid2 w) false (World.doorLaid Tryd.prog 400 os) #[.agg #[.int .i64 0, .slice none 0 0], .agg #[.slice none 0 0, .slice none 0 0, .slice none 0 0], .int .i64 0] 8 rfl (World.shaped_of_RefB (by kernel_rfl) (by kernel_rfl)) (by kernel_rfl) (by kernel_rfl) (by kernel_rfl) (Sha.door_met os _)) ?_
  intro W base args ds gs before hval0 hW _ _ hL _
  have hval : ∀ (j : Nat) t v, Tryd.f3.params[j]? = some t → args[j]? = some v → Value.okWide Tryd.prog W .any base t v := hval0
  have hW' := hW
  obtain ⟨p, q, hA0, hV, rfl, _, _⟩ := hW
  have hA : DataW.TrodAll enc Tryd.prog W 0 (fun _ => true) true Tryd.f3.params.toList args.toList ds p := hA0
  rw [Tryd.params3] at hA hval
  obtain ⟨v0, v1, v2, d0, d1, d2, p0, p1, p2, rfl, rfl, rfl, h0, h1, h2⟩ := trodAll_three hA
  obtain ⟨rfl, rfl⟩ := trodVars_none hV
  obtain ⟨x0, x1, rfl, ⟨f0, y0, t0⟩, ⟨f1, y1, t1⟩⟩ := open_two (t0 := 3) (t1 := 22) Tryd.underlying24 (hone_of (by kernel_rfl)) (by kernel_rfl) rfl rfl rfl (hval 0 24 v0 rfl rfl) h0
  obtain ⟨keep, rfl, wk⟩ := cell_int Tryd.underlying3 t0
  obtain ⟨A, n, c, K, rfl, hk, hnil, hnc, hcm⟩ := cell_keys (t0 := 3) (t1 := 25) Tryd.underlying22 Tryd.underlying57 (hone_of (by kernel_rfl)) (by kernel_rfl) rfl rfl rfl Tryd.underlying3 Tryd.underlying25 Tryd.underlying5 (by kernel_rfl) t1
  obtain ⟨L, rfl, hL3, hcame⟩ := open_arr_rows Tryd.underlying26 Tryd.underlying25 Tryd.underlying5 (by kernel_rfl) (by kernel_rfl) (by kernel_rfl) (hval 1 26 v1 rfl rfl) h1
  obtain ⟨P0, P1, P2, rfl⟩ := parts_three hL3
  have hc0 := hcame P0 (by simp)
  have hc1 := hcame P1 (by simp)
  have hc2 := hcame P2 (by simp)
  obtain ⟨nw, rfl, rfl, rfl, wn⟩ := open_int Tryd.underlying3 (hval 2 3 v2 rfl rfl) h2
  refine (answers_walk keep nw A n c K P0 P1 P2 W hk (Nat.le_trans hnc hcm) hc0 hc1 hc2 (Sha.lay_of hL)).mono fun e W' ⟨he, hb⟩ => ?_
  subst he
  exact ⟨_, rfl, law_post laidOut (by kernel_rfl) rfl Tryd.underlying4 rfl hW' rfl hb⟩

theorem answers_row : Rows.ChallengeAnswersSaid :=
  OpenClaim.holds_of_wide 3 Tryd.f3 rfl rfl rfl rfl rfl rfl rfl ⟨rfl, rfl, rfl, rfl, rfl⟩ rfl rfl rfl rfl rfl (by kernel_rfl) Tryd.func3 (by kernel_rfl)
    (of_decide_eq_true (by kernel_rfl)) (by unfold Func.isWrapper; first | (rw [if_pos (by decide +kernel)]; kernel_rfl) | (rw [if_neg (by decide +kernel)]; exact ⟨rfl, rfl⟩))
    (fun os started H enc _ => answers_lifted os started H enc)

set_option maxHeartbeats 800000 in
set_option maxRecDepth 100000 in
theorem checks_lifted (os : Os) (started : os.Started) (H : Type) (enc : TypeId × Value → H) :
    ReturnsInHanded {} Tryd.checked os 4 .any (fun w args => (Rows.challengeChecksSpec.pre enc Tryd.prog Tryd.f4 [] false w args ∧ laidMetH Tryd.prog Sha.laid2 w) ∧ sizedMet enc Tryd.prog Tryd.f4 (OpenSpec.ofChange Rows.challengeChecksSpec) false w args)
      (Rows.challengeChecksSpec.post enc Tryd.prog Tryd.f4 false true false false) := by
  refine returnsInHanded_of_change_and (C := Tryd.checked) (X := fun w _ => laidMetH Tryd.prog Sha.laid2 w) (fun _ _ _ hh h => h.of_heap hh) own started (by kernel_rfl) Tryd.func4
    (ChangeSpec.witness_shaped (enc := enc) (C := Tryd.checked) (os := os) (X := fun w _ => laidMetH Tryd.prog Sha.laid2 w) false (World.doorLaid Tryd.prog 400 os) #[.agg #[.int .i64 0, .slice none 0 0], .agg #[.slice none 0 0, .slice none 0 0, .slice none 0 0], .agg #[.int .i64 0, .int .i64 0]] 8 rfl (World.shaped_of_RefB (by kernel_rfl) (by kernel_rfl)) (by kernel_rfl) (by kernel_rfl) (by kernel_rfl) (Sha.door_met os _)) ?_
  intro W base args ds gs before hval0 hW _ _ hL _
  have hval : ∀ (j : Nat) t v, Tryd.f4.params[j]? = some t → args[j]? = some v → Value.okWide Tryd.prog W .any base t v := hval0
  have hW' := hW
  obtain ⟨p, q, hA0, hV, rfl, _, _⟩ := hW
  have hA : DataW.TrodAll enc Tryd.prog W 0 (fun _ => true) true Tryd.f4.params.toList args.toList ds p := hA0
  rw [Tryd.params4] at hA hval
  obtain ⟨v0, v1, v2, d0, d1, d2, p0, p1, p2, rfl, rfl, rfl, h0, h1, h2⟩ := trodAll_three hA
  obtain ⟨rfl, rfl⟩ := trodVars_none hV
  obtain ⟨x0, x1, rfl, ⟨f0, y0, t0⟩, ⟨f1, y1, t1⟩⟩ := open_two (t0 := 3) (t1 := 22) Tryd.underlying24 (hone_of (by kernel_rfl)) (by kernel_rfl) rfl rfl rfl (hval 0 24 v0 rfl rfl) h0
  obtain ⟨keep, rfl, wk⟩ := cell_int Tryd.underlying3 t0
  obtain ⟨A, n, c, K, rfl, hk, hnil, hnc, hcm⟩ := cell_keys (t0 := 3) (t1 := 25) Tryd.underlying22 Tryd.underlying57 (hone_of (by kernel_rfl)) (by kernel_rfl) rfl rfl rfl Tryd.underlying3 Tryd.underlying25 Tryd.underlying5 (by kernel_rfl) t1
  obtain ⟨L, rfl, hL3, hcame⟩ := open_arr_rows Tryd.underlying26 Tryd.underlying25 Tryd.underlying5 (by kernel_rfl) (by kernel_rfl) (by kernel_rfl) (hval 1 26 v1 rfl rfl) h1
  obtain ⟨P0, P1, P2, rfl⟩ := parts_three hL3
  have hc0 := hcame P0 (by simp)
  have hc1 := hcame P1 (by simp)
  have hc2 := hcame P2 (by simp)
  obtain ⟨zs, rfl, hz, wz⟩ := open_arr Tryd.underlying39 Tryd.underlying3 (by kernel_rfl) (by kernel_rfl) (hval 2 39 v2 rfl rfl) h2
  obtain ⟨nw, sl, rfl⟩ := two_of hz
  refine (checks_walk keep nw sl A n c K P0 P1 P2 W hk (Nat.le_trans hnc hcm) hc0 hc1 hc2 (Sha.lay_of hL)).mono fun e W' ⟨he, hb⟩ => ?_
  subst he
  exact ⟨_, rfl, law_post laidOut (by kernel_rfl) rfl Tryd.underlying4 rfl hW' rfl hb⟩

theorem checks_row : Rows.ChallengeChecksSaid :=
  OpenClaim.holds_of_wide 4 Tryd.f4 rfl rfl rfl rfl rfl rfl rfl ⟨rfl, rfl, rfl, rfl, rfl⟩ rfl rfl rfl rfl rfl (by kernel_rfl) Tryd.func4 (by kernel_rfl)
    (of_decide_eq_true (by kernel_rfl)) (by unfold Func.isWrapper; first | (rw [if_pos (by decide +kernel)]; kernel_rfl) | (rw [if_neg (by decide +kernel)]; exact ⟨rfl, rfl⟩))
    (fun os started H enc _ => checks_lifted os started H enc)

set_option maxHeartbeats 800000 in
set_option maxRecDepth 100000 in
theorem back_lifted (os : Os) (started : os.Started) (H : Type) (enc : TypeId × Value → H) :
    ReturnsInHanded {} Tryd.checked os 5 .any (fun w args => (Rows.challengeBackSpec.pre enc Tryd.prog Tryd.f5 [] false w args ∧ laidMetH Tryd.prog Sha.laid2 w) ∧ sizedMet enc Tryd.prog Tryd.f5 (OpenSpec.ofChange Rows.challengeBackSpec) false w args)
      (Rows.challengeBackSpec.post enc Tryd.prog Tryd.f5 false true false false) := by
  refine returnsInHanded_of_change_and (C := Tryd.checked) (X := fun w _ => laidMetH Tryd.prog Sha.laid2 w) (fun _ _ _ hh h => h.of_heap hh) own started (by kernel_rfl) Tryd.func5
    (ChangeSpec.witness_shaped (enc := enc) (C := Tryd.checked) (os := os) (X := fun w _ => laidMetH Tryd.prog Sha.laid2 w) false (World.doorLaid Tryd.prog 400 os) #[.agg #[.int .i64 0, .int .i64 0, .int .i64 0, .int .i64 0, .int .i64 0, .int .i64 0], .agg #[.slice none 0 0, .slice none 0 0], .agg #[.int .u16 0, .int .u16 0, .int .u16 0]] 8 rfl (World.shaped_of_RefB (by kernel_rfl) (by kernel_rfl)) (by kernel_rfl) (by kernel_rfl) (by kernel_rfl) (Sha.door_met os _)) ?_
  intro W base args ds gs before hval0 hW _ _ hL _
  have hval : ∀ (j : Nat) t v, Tryd.f5.params[j]? = some t → args[j]? = some v → Value.okWide Tryd.prog W .any base t v := hval0
  have hW' := hW
  obtain ⟨p, q, hA0, hV, rfl, _, _⟩ := hW
  have hA : DataW.TrodAll enc Tryd.prog W 0 (fun _ => true) true Tryd.f5.params.toList args.toList ds p := hA0
  rw [Tryd.params5] at hA hval
  obtain ⟨v0, v1, v2, d0, d1, d2, p0, p1, p2, rfl, rfl, rfl, h0, h1, h2⟩ := trodAll_three hA
  obtain ⟨rfl, rfl⟩ := trodVars_none hV
  obtain ⟨zs, rfl, hz, wz⟩ := open_nums Tryd.underlying41 (hone_of (by kernel_rfl)) (by kernel_rfl) rfl (int_of (by kernel_rfl)) (hval 0 41 v0 rfl rfl) h0
  obtain ⟨utr, uac, ust, uis, uun, uep, rfl⟩ := six_of hz
  have ht : T.ok ⟨utr, uac, ust, uis, uun, uep⟩ := by
    have q0 := bounds_i64 (wz utr (by simp))
    have q1 := bounds_i64 (wz uac (by simp))
    have q2 := bounds_i64 (wz ust (by simp))
    have q3 := bounds_i64 (wz uis (by simp))
    have q4 := bounds_i64 (wz uun (by simp))
    have q5 := bounds_i64 (wz uep (by simp))
    exact ⟨⟨q0.1, by have := q0.2; omega⟩, ⟨q1.1, by have := q1.2; omega⟩, ⟨q2.1, by have := q2.2; omega⟩, ⟨q3.1, by have := q3.2; omega⟩, ⟨q4.1, by have := q4.2; omega⟩, ⟨q5.1, by have := q5.2; omega⟩⟩
  obtain ⟨L, rfl, hL2, hcame⟩ := open_arr_rows Tryd.underlying47 Tryd.underlying25 Tryd.underlying5 (by kernel_rfl) (by kernel_rfl) (by kernel_rfl) (hval 1 47 v1 rfl rfl) h1
  obtain ⟨P0, P1, rfl⟩ := parts_two hL2
  obtain ⟨ys, rfl, hy, wy⟩ := open_arr Tryd.underlying49 Tryd.underlying48 (by kernel_rfl) (by kernel_rfl) (hval 2 49 v2 rfl rfl) h2
  obtain ⟨n0, n1, n2, rfl⟩ := three_of hy
  refine (back_walk utr uac ust uis uun uep n0 n1 n2 P0 P1 W ht (bounds_u16 (wy n0 (by simp))) (bounds_u16 (wy n1 (by simp))) (bounds_u16 (wy n2 (by simp))) (hcame P0 (by simp)) (hcame P1 (by simp)) (Sha.lay_of hL)).mono fun e W' ⟨he, hb⟩ => ?_
  subst he
  exact ⟨_, rfl, law_post laidOut (by kernel_rfl) rfl Tryd.underlying4 rfl hW' rfl hb⟩

theorem back_row : Rows.ChallengeBackSaid :=
  OpenClaim.holds_of_wide 5 Tryd.f5 rfl rfl rfl rfl rfl rfl rfl ⟨rfl, rfl, rfl, rfl, rfl⟩ rfl rfl rfl rfl rfl (by kernel_rfl) Tryd.func5 (by kernel_rfl)
    (of_decide_eq_true (by kernel_rfl)) (by unfold Func.isWrapper; first | (rw [if_pos (by decide +kernel)]; kernel_rfl) | (rw [if_neg (by decide +kernel)]; exact ⟨rfl, rfl⟩))
    (fun os started H enc _ => back_lifted os started H enc)
end Go.Proofs.YtppbpmmfcoblmaaDoor.ChQ

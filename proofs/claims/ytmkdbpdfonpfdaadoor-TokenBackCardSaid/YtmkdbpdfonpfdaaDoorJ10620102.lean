/- Lemmas that the proof stands on, in build order: OpenK OpenI TokQ HmcK Vct Cnc HmcT ShaQ TokD RgK. -/
import Derived.Test.YtmkdbpdfonpfdaaDoorRows
import Derived.Laws.CopyOwn
import Derived.Laws.Rows
import Derived.Test.YtmkdbpdfonpfdaaDoorProg
import Derived.WalkKit
import Derived.KernelRfl
import Derived.WalkMore
import Derived.Lib.Walk
import Derived.Lib.SliceRun
import Derived.Lib.AppendZerosOnto
import Derived.Lib.MinMax
import Derived.Test.YtmkdbpdfonpfdaaDoorJ127b64a
import Derived.Test.YtmkdbpdfonpfdaaDoorJ2d18a1d
import Derived.Test.YtmkdbpdfonpfdaaDoorJ30798c8
import Derived.Test.YtmkdbpdfonpfdaaDoorJ6ebf1f3
import Derived.Test.YtmkdbpdfonpfdaaDoorJ96cdb38
/- Structs that came in, over any program: a slice of structs out of a cell; keys of epochs; a struct of a number and a slice of such keys. -/
namespace Go.Proofs.YtmkdbpdfonpfdaaDoor
open Go.ChangeShapes Go.WideShapes Go.ChangeAt Go.RowKit Go.Deep Slc Rg

section
variable {H : Type} {enc : TypeId × Value → H} {P : Program} {W : World} {base : Nat}

/-- A cell that reads as a slice of structs: what each cell of each element holds, and that it reads. -/
theorem cell_structs {t e : TypeId} {fs : Array Field} {v : Value} {fuel : Nat} {y : DataW H × List MemPlace} (ht : P.underlying t = some (.slice e)) (he : P.underlying e = some (.struct fs))
    (hone : ∀ (i : Nat) (f : Field), fs[i]? = some f → f.offset = i ∧ P.cellsOf f.type = 1) (hC : P.cellsOf e = fs.size) (hpos : 0 < fs.size)
    (h : DataW.trod enc P W 0 (fun _ => true) true fuel t [v] = some y) :
    ∃ (A : Option Addr) (n c : Nat) (V : Nat → Nat → Value), v = .slice A n c ∧ (A = none → c = 0) ∧ n ≤ c ∧ c ≤ maxLen ∧ (0 < n → ∃ b o, A = some ⟨b, o, none⟩ ∧ b < W.heap.size ∧
      ∀ j, j < n → ∀ i f, fs[i]? = some f → W.cell? ⟨b, o + j * fs.size + i, none⟩ = some (V j i) ∧ ∃ fuel y, DataW.trod enc P W 0 (fun _ => true) true fuel f.type [V j i] = some y) := by
  rcases open_slice ht h with ⟨hcs, _⟩ | ⟨a, len', cap', m, n, D, Pl, hcs, hb, hl, hm, hmm, _, hx⟩
  · simp at hcs
    exact ⟨none, 0, 0, fun _ _ => undef, hcs, fun _ => rfl, Nat.le_refl _, Nat.zero_le _, fun h => absurd h (by omega)⟩
  · simp at hcs
    subst hcs
    simp only [if_true] at hmm
    subst hmm
    have each : ∀ j, j < m → ∃ cs' : List Value, W.cells? 0 (a.add (j * fs.size)) fs.size = some cs' ∧ DataW.trod enc P W 0 (fun _ => true) true n e cs' = some (D j, Pl j) := by
      intro j hj
      obtain ⟨cs', h1, h2⟩ := hx j hj
      rw [hC] at h1
      exact ⟨cs', h1, h2⟩
    obtain ⟨q, hq⟩ := choose_lt each
    refine ⟨some a, len', m, fun j i => (q j).getD i undef, rfl, (fun h => by cases h), hl, hm, fun hn => ?_⟩
    obtain ⟨b, o, spot⟩ := a
    have hcell := fun j (hj : j < m) => (World.cells?_some (hq j hj).1).2
    have h0 := (hcell 0 (by omega)).2 0 hpos
    rw [List.getElem?_eq_getElem (by rw [(hcell 0 (by omega)).1]; exact hpos)] at h0
    have hspot : spot = none := by simpa [Addr.add] using World.cell?_spot h0
    subst hspot
    have h0' := World.block_lt_of_cell? W _ h0
    refine ⟨b, o, rfl, by simpa [Addr.add] using h0', fun j hj i f hi => ?_⟩
    have hjm : j < m := by omega
    obtain ⟨hlen, hc⟩ := hcell j hjm
    have hlt : i < fs.size := (Array.getElem?_eq_some_iff.1 hi).1
    obtain ⟨xs, k, _, _, _, hxl, hf'⟩ := DataW.trod_struct he (hq j hjm).2
    obtain ⟨ho, hc1⟩ := hone i f hi
    have g := hf' i f hi
    rw [ho, hc1, take1_drop (q j) i undef (by omega)] at g
    refine ⟨?_, k, ?_⟩
    · have := hc i hlt
      rw [add_add, add_plain, List.getElem?_eq_getElem (by omega)] at this
      rw [Nat.add_assoc, this]
      simp [List.getD, List.getElem?_eq_getElem (show i < (q j).length by omega)]
    · rw [List.getElem?_eq_getElem (show i < xs.length by omega)] at g
      exact ⟨_, g⟩

instance : Inhabited Kp := ⟨⟨0, ⟨none, 0, 0, []⟩⟩⟩

/-- A cell that reads as a slice of keys of epochs: structs of an int and a slice of bytes. -/
theorem cell_keys {t e t0 t1 u : TypeId} {fs : Array Field} {v : Value} {fuel : Nat} {y : DataW H × List MemPlace} (ht : P.underlying t = some (.slice e)) (he : P.underlying e = some (.struct fs))
    (hone : ∀ (i : Nat) (f : Field), fs[i]? = some f → f.offset = i ∧ P.cellsOf f.type = 1) (hC : P.cellsOf e = fs.size) (hfs : fs.size = 2) (h0 : (fs[0]?).map (·.type) = some t0) (h1 : (fs[1]?).map (·.type) = some t1)
    (ht0 : P.underlying t0 = some (.int .i64)) (ht1 : P.underlying t1 = some (.slice u)) (hu : P.underlying u = some (.int .u8)) (hcu : P.cellsOf u = 1)
    (h : DataW.trod enc P W 0 (fun _ => true) true fuel t [v] = some y) :
    ∃ A n c K, v = .slice A n c ∧ KRow W W.heap.size A n K ∧ (A = none → c = 0) ∧ n ≤ c ∧ c ≤ maxLen := by
  obtain ⟨A, n, c, V, rfl, hnil, hnc, hmax, hx⟩ := cell_structs ht he hone hC (by omega) h
  obtain ⟨f0, g0, rfl⟩ : ∃ f, fs[0]? = some f ∧ f.type = t0 := by simpa [Option.map_eq_some_iff] using h0
  obtain ⟨f1, g1, rfl⟩ : ∃ f, fs[1]? = some f ∧ f.type = t1 := by simpa [Option.map_eq_some_iff] using h1
  have each : ∀ j, j < n → ∃ k : Kp, k.Ok W W.heap.size ∧ ∀ i, i < 2 → some (V j i) = k.cells[i]? := by
    intro j hj
    obtain ⟨b, o, _, _, hc⟩ := hx (by omega)
    obtain ⟨_, _, _, y0⟩ := hc j hj 0 _ g0
    obtain ⟨_, _, _, y1⟩ := hc j hj 1 _ g1
    obtain ⟨x0, e0, w0⟩ := cell_int ht0 y0
    obtain ⟨A1, n1, c1, xs, e1, hr, hnil1, hnc1, hw⟩ := cell_row2 ht1 hu hcu y1
    have b0 := bounds_i64 w0
    refine ⟨⟨x0, ⟨A1, n1, c1, xs⟩⟩, ⟨⟨hr, hnil1⟩, hnc1, fun x hx => by have := bounds_u8 (hw x hx); omega, b0.1, by have := b0.2; omega⟩, fun i hi => ?_⟩
    match i, hi with
    | 0, _ => rw [e0]; rfl
    | 1, _ => rw [e1]; rfl
  obtain ⟨K, hl, hp⟩ := list_of each
  refine ⟨A, n, c, K, rfl, ⟨hl, fun s hs => ?_, fun hn => ?_⟩, hnil, hnc, hmax⟩
  · obtain ⟨j, hj⟩ := List.getElem?_of_mem hs
    exact (hp j s hj).1
  · obtain ⟨b, o, e, hb, hc⟩ := hx hn
    refine ⟨b, o, e, hb, fun j s hj i hi => ?_⟩
    have hjn : j < n := by
      have := (List.getElem?_eq_some_iff.1 hj).1
      omega
    rw [← (hp j s hj).2 i hi]
    rw [hfs] at hc
    match i, hi with
    | 0, _ => exact (hc j hjn 0 _ g0).1
    | 1, _ => exact (hc j hjn 1 _ g1).1

/-- A struct of two fields of one cell each that came in. -/
theorem open_two {t t0 t1 : TypeId} {fs : Array Field} {v : Value} {d : DataW H} {ps : List MemPlace} (ht : P.underlying t = some (.struct fs)) (hone : ∀ (i : Nat) (f : Field), fs[i]? = some f → f.offset = i ∧ P.cellsOf f.type = 1) (hC : P.cellsOf t = 2) (hfs : fs.size = 2) (h0 : (fs[0]?).map (·.type) = some t0) (h1 : (fs[1]?).map (·.type) = some t1)
    (hv : Value.okWide P W .any base t v) (h : DataW.Trod enc P W 0 (fun _ => true) true t v d ps) :
    ∃ v0 v1, v = .agg #[v0, v1] ∧ (∃ fuel y, DataW.trod enc P W 0 (fun _ => true) true fuel t0 [v0] = some y) ∧ ∃ fuel y, DataW.trod enc P W 0 (fun _ => true) true fuel t1 [v1] = some y := by
  obtain ⟨cs, rfl, hs⟩ := okWide_struct ht hv
  rw [hC] at hs
  obtain ⟨fuel, hf⟩ := h
  obtain ⟨f0, g0, rfl⟩ : ∃ f, fs[0]? = some f ∧ f.type = t0 := by simpa [Option.map_eq_some_iff] using h0
  obtain ⟨f1, g1, rfl⟩ : ∃ f, fs[1]? = some f ∧ f.type = t1 := by simpa [Option.map_eq_some_iff] using h1
  obtain ⟨v0, v1, rfl⟩ : ∃ v0 v1, cs = #[v0, v1] := by
    rcases cs with ⟨l⟩
    match l, hs with
    | [a, b], _ => exact ⟨a, b, rfl⟩
  obtain ⟨xs, k, _, _, _, hxl, hf'⟩ := DataW.trod_struct ht hf
  have e0 := hf' 0 f0 g0
  have e1 := hf' 1 f1 g1
  rw [(hone 0 f0 g0).1, (hone 0 f0 g0).2] at e0
  rw [(hone 1 f1 g1).1, (hone 1 f1 g1).2] at e1
  rw [List.getElem?_eq_getElem (by omega)] at e0 e1
  exact ⟨v0, v1, rfl, ⟨k, _, by simpa [Value.cells] using e0⟩, ⟨k, _, by simpa [Value.cells] using e1⟩⟩
end
end Go.Proofs.YtmkdbpdfonpfdaaDoor

/- A struct of numbers that came in, over any program. -/
namespace Go.Proofs.YtmkdbpdfonpfdaaDoor
open Go.ChangeShapes Go.WideShapes Go.ChangeAt Go.RowKit Go.Deep

section
variable {H : Type} {enc : TypeId × Value → H} {P : Program} {W : World} {base : Nat}

theorem ints_of {k : IntKind} : ∀ (L : List Value) (m : Nat), L.length = m → (∀ i, i < m → ∃ a, L[i]? = some (.int k a) ∧ (Lit.int k a).wf = true) → ∃ xs : List Int, L = xs.map (Value.int k) ∧ ∀ x ∈ xs, (Lit.int k x).wf = true
  | [], _, _, _ => ⟨[], rfl, by simp⟩
  | u :: L, m, hm, hA => by
    obtain ⟨a, h1, h2⟩ := hA 0 (by simp at hm; omega)
    obtain ⟨xs, h3, h4⟩ := ints_of L (m - 1) (by simp at hm; omega) (fun i hi => by simpa using hA (i + 1) (by omega))
    simp at h1
    refine ⟨a :: xs, by simp [h1, h3], fun x hx => ?_⟩
    rcases List.mem_cons.1 hx with rfl | hx
    · exact h2
    · exact h4 x hx

/-- Are all fields ints? -/
def intFields (P : Program) (fs : Array Field) : Bool := fs.toList.all fun f => match P.underlying f.type with | some (.int .i64) => true | _ => false
theorem int_of {P : Program} {fs : Array Field} (h : intFields P fs = true) (i : Nat) (f : Field) (hf : fs[i]? = some f) : P.underlying f.type = some (.int .i64) := by
  have hm : f ∈ fs.toList := by
    obtain ⟨hl, he⟩ := Array.getElem?_eq_some_iff.1 hf
    rw [← he]
    simp
  have h1 := List.all_eq_true.1 h f hm
  split at h1
  · assumption
  · cases h1
/-- A struct all of whose fields are ints. -/
theorem open_nums {t : TypeId} {m : Nat} {fs : Array Field} {v : Value} {d : DataW H} {ps : List MemPlace} (ht : P.underlying t = some (.struct fs)) (hone : ∀ (i : Nat) (f : Field), fs[i]? = some f → f.offset = i ∧ P.cellsOf f.type = 1) (hC : P.cellsOf t = m) (hfs : fs.size = m) (hk : ∀ (i : Nat) (f : Field), fs[i]? = some f → P.underlying f.type = some (.int .i64))
    (hv : Value.okWide P W .any base t v) (h : DataW.Trod enc P W 0 (fun _ => true) true t v d ps) :
    ∃ xs : List Int, v = .agg (xs.map (Value.int .i64)).toArray ∧ xs.length = m ∧ ∀ x ∈ xs, (Lit.int .i64 x).wf = true := by
  obtain ⟨cs, rfl, hs⟩ := okWide_struct ht hv
  rw [hC] at hs
  obtain ⟨fuel, hf⟩ := h
  obtain ⟨xs, k, _, _, _, hxl, hf'⟩ := DataW.trod_struct ht hf
  have hl : cs.toList.length = m := by simpa using hs
  have each : ∀ i, i < m → ∃ a, cs.toList[i]? = some (.int .i64 a) ∧ (Lit.int .i64 a).wf = true := by
    intro i hi
    have hfi : fs[i]? = some (fs[i]'(by omega)) := Array.getElem?_eq_getElem _
    have g := hf' i _ hfi
    rw [(hone i _ hfi).1, (hone i _ hfi).2, List.getElem?_eq_getElem (by omega)] at g
    rw [show (Value.agg cs).cells = cs from rfl, take1_drop cs.toList i undef (by omega)] at g
    obtain ⟨a, e, w⟩ := cell_int (hk i _ hfi) g
    refine ⟨a, ?_, w⟩
    rw [← e]
    simp [List.getD, List.getElem?_eq_getElem (show i < cs.toList.length by omega)]
  obtain ⟨zs, h1, h2⟩ := ints_of _ _ hl each
  refine ⟨zs, ?_, by rw [h1] at hl; simpa using hl, h2⟩
  rw [← h1]
end
end Go.Proofs.YtmkdbpdfonpfdaaDoor

/- Layer 10 (token): the laws' rows, out of what a program's functions must do. -/
namespace Go.Proofs.YtmkdbpdfonpfdaaDoor.TokQ
open Go.ChangeShapes Go.WideShapes Go.ChangeAt Go.RowKit Go.Deep Rg Tok

theorem own : ownKnob Tryd.prog.godebug = none := by kernel_rfl
theorem laidOut : laidOutB Tryd.prog = true := by kernel_rfl

theorem six_of : ∀ {zs : List Int}, zs.length = 6 → ∃ a b c d e f, zs = [a, b, c, d, e, f]
  | [a, b, c, d, e, f], _ => ⟨a, b, c, d, e, f, rfl⟩

set_option maxHeartbeats 800000 in
set_option maxRecDepth 100000 in
theorem issues_lifted (hmay : MayOk) (hfields : FieldsOk) (hiss : IssueOk) (hver : VerifyOk) (hnew : NewOk) (os : Os) (started : os.Started) (H : Type) (enc : TypeId × Value → H) :
    ReturnsInHanded {} Tryd.checked os 3 .any (fun w args => (Rows.tokenIssuesSpec.pre enc Tryd.prog Tryd.f3 [] false w args ∧ laidMetH Tryd.prog Sha.laid2 w) ∧ sizedMet enc Tryd.prog Tryd.f3 (OpenSpec.ofChange Rows.tokenIssuesSpec) false w args)
      (Rows.tokenIssuesSpec.post enc Tryd.prog Tryd.f3 false true false false) := by
  refine returnsInHanded_of_change_and (C := Tryd.checked) (X := fun w _ => laidMetH Tryd.prog Sha.laid2 w) (fun _ _ _ hh h => h.of_heap hh) own started (by kernel_rfl) Tryd.func3
    (ChangeSpec.witness_shaped (enc := enc) (C := Tryd.checked) (os := os) (X := fun w _ => laidMetH Tryd.prog Sha.laid2 w) false (World.doorLaid Tryd.prog 400 os) #[.agg #[.int .i64 0, .slice none 0 0], .agg #[.int .i64 0, .int .i64 0, .int .i64 0, .int .i64 0, .int .i64 0, .int .i64 0]] 8 rfl (World.shaped_of_RefB (by kernel_rfl) (by kernel_rfl)) (by kernel_rfl) (by kernel_rfl) (by kernel_rfl) (Sha.door_met os _)) ?_
  intro W base args ds gs before hval0 hW _ _ hL _
  have hval : ∀ (j : Nat) t v, Tryd.f3.params[j]? = some t → args[j]? = some v → Value.okWide Tryd.prog W .any base t v := hval0
  have hW' := hW
  obtain ⟨p, q, hA0, hV, rfl, _, _⟩ := hW
  have hA : DataW.TrodAll enc Tryd.prog W 0 (fun _ => true) true Tryd.f3.params.toList args.toList ds p := hA0
  rw [Tryd.params3] at hA hval
  obtain ⟨v0, v1, d0, d1, p0, p1, rfl, rfl, rfl, h0, h1⟩ := trodAll_two hA
  obtain ⟨rfl, rfl⟩ := trodVars_none hV
  obtain ⟨x0, x1, rfl, ⟨f0, y0, t0⟩, ⟨f1, y1, t1⟩⟩ := open_two (t0 := 3) (t1 := 22) Tryd.underlying24 (hone_of (by kernel_rfl)) (by kernel_rfl) rfl rfl rfl (hval 0 24 v0 rfl rfl) h0
  obtain ⟨keep, rfl, wk⟩ := cell_int Tryd.underlying3 t0
  obtain ⟨A, n, c, K, rfl, hk, hnil, hnc, hcm⟩ := cell_keys (t0 := 3) (t1 := 29) Tryd.underlying22 Tryd.underlying58 (hone_of (by kernel_rfl)) (by kernel_rfl) rfl rfl rfl Tryd.underlying3 Tryd.underlying29 Tryd.underlying5 (by kernel_rfl) t1
  have bk := bounds_i64 wk
  obtain ⟨zs, rfl, hz, wz⟩ := open_nums Tryd.underlying26 (hone_of (by kernel_rfl)) (by kernel_rfl) rfl (int_of (by kernel_rfl)) (hval 1 26 v1 rfl rfl) h1
  obtain ⟨utr, uac, ust, uis, uun, uep, rfl⟩ := six_of hz
  have ht : T.ok ⟨utr, uac, ust, uis, uun, uep⟩ := by
    have q0 := bounds_i64 (wz utr (by simp))
    have q1 := bounds_i64 (wz uac (by simp))
    have q2 := bounds_i64 (wz ust (by simp))
    have q3 := bounds_i64 (wz uis (by simp))
    have q4 := bounds_i64 (wz uun (by simp))
    have q5 := bounds_i64 (wz uep (by simp))
    exact ⟨⟨q0.1, by have := q0.2; omega⟩, ⟨q1.1, by have := q1.2; omega⟩, ⟨q2.1, by have := q2.2; omega⟩, ⟨q3.1, by have := q3.2; omega⟩, ⟨q4.1, by have := q4.2; omega⟩, ⟨q5.1, by have := q5.2; omega⟩⟩
  refine (issues_walk hmay hfields hiss hver hnew keep A n c K ⟨utr, uac, ust, uis, uun, uep⟩ W ht hk hnil hnc hcm ⟨bk.1, by have := bk.2; omega⟩ (Sha.lay_of hL)).mono fun e W' ⟨he, hb⟩ => ?_
  subst he
  exact ⟨_, rfl, law_post laidOut (by kernel_rfl) rfl Tryd.underlying4 rfl hW' rfl hb⟩

theorem issues_row (hmay : MayOk) (hfields : FieldsOk) (hiss : IssueOk) (hver : VerifyOk) (hnew : NewOk) : Rows.TokenIssuesSaid :=
  OpenClaim.holds_of_wide 3 Tryd.f3 rfl rfl rfl rfl rfl rfl rfl ⟨rfl, rfl, rfl, rfl, rfl⟩ rfl rfl rfl rfl rfl (by kernel_rfl) Tryd.func3 (by kernel_rfl)
    (of_decide_eq_true (by kernel_rfl)) (by unfold Func.isWrapper; first | (rw [if_pos (by decide +kernel)]; kernel_rfl) | (rw [if_neg (by decide +kernel)]; exact ⟨rfl, rfl⟩))
    (fun os started H enc _ => issues_lifted hmay hfields hiss hver hnew os started H enc)

set_option maxHeartbeats 800000 in
set_option maxRecDepth 100000 in
theorem verifies_lifted (hopen : OpenOk) (hiss : IssueOk) (hver : VerifyOk) (hnew : NewOk) (os : Os) (started : os.Started) (H : Type) (enc : TypeId × Value → H) :
    ReturnsInHanded {} Tryd.checked os 4 .any (fun w args => (Rows.tokenVerifiesSpec.pre enc Tryd.prog Tryd.f4 [] false w args ∧ laidMetH Tryd.prog Sha.laid2 w) ∧ sizedMet enc Tryd.prog Tryd.f4 (OpenSpec.ofChange Rows.tokenVerifiesSpec) false w args)
      (Rows.tokenVerifiesSpec.post enc Tryd.prog Tryd.f4 false true false false) := by
  refine returnsInHanded_of_change_and (C := Tryd.checked) (X := fun w _ => laidMetH Tryd.prog Sha.laid2 w) (fun _ _ _ hh h => h.of_heap hh) own started (by kernel_rfl) Tryd.func4
    (ChangeSpec.witness_shaped (enc := enc) (C := Tryd.checked) (os := os) (X := fun w _ => laidMetH Tryd.prog Sha.laid2 w) false (World.doorLaid Tryd.prog 400 os) #[.agg #[.int .i64 0, .slice none 0 0], .slice none 0 0, .int .i64 0] 8 rfl (World.shaped_of_RefB (by kernel_rfl) (by kernel_rfl)) (by kernel_rfl) (by kernel_rfl) (by kernel_rfl) (Sha.door_met os _)) ?_
  intro W base args ds gs before hval0 hW _ _ hL _
  have hval : ∀ (j : Nat) t v, Tryd.f4.params[j]? = some t → args[j]? = some v → Value.okWide Tryd.prog W .any base t v := hval0
  have hW' := hW
  obtain ⟨p, q, hA0, hV, rfl, _, _⟩ := hW
  have hA : DataW.TrodAll enc Tryd.prog W 0 (fun _ => true) true Tryd.f4.params.toList args.toList ds p := hA0
  rw [Tryd.params4] at hA hval
  obtain ⟨v0, v1, v2, d0, d1, d2, p0, p1, p2, rfl, rfl, rfl, h0, h1, h2⟩ := trodAll_three hA
  obtain ⟨rfl, rfl⟩ := trodVars_none hV
  obtain ⟨x0, x1, rfl, ⟨f0, y0, t0⟩, ⟨f1, y1, t1⟩⟩ := open_two (t0 := 3) (t1 := 22) Tryd.underlying24 (hone_of (by kernel_rfl)) (by kernel_rfl) rfl rfl rfl (hval 0 24 v0 rfl rfl) h0
  obtain ⟨keep, rfl, wk⟩ := cell_int Tryd.underlying3 t0
  obtain ⟨A, n, c, K, rfl, hk, hnil, hnc, hcm⟩ := cell_keys (t0 := 3) (t1 := 29) Tryd.underlying22 Tryd.underlying58 (hone_of (by kernel_rfl)) (by kernel_rfl) rfl rfl rfl Tryd.underlying3 Tryd.underlying29 Tryd.underlying5 (by kernel_rfl) t1
  have bk := bounds_i64 wk
  obtain ⟨A', n', c', xs, rfl, hr, hnil', hnc', hcm', -, hx⟩ := open_row3 Tryd.underlying29 Tryd.underlying5 (by kernel_rfl) (hval 1 29 v1 rfl rfl) h1
  obtain ⟨nw, rfl, rfl, rfl, wn⟩ := open_int Tryd.underlying3 (hval 2 3 v2 rfl rfl) h2
  have bn := bounds_i64 wn
  refine (verifies_walk hopen hiss hver hnew keep nw A A' n c n' c' K xs W hk hnil hnc hcm ⟨bk.1, by have := bk.2; omega⟩ ⟨bn.1, by have := bn.2; omega⟩ hr hnil' hnc' hcm' (fun x h => by have := bounds_u8 (hx x h); omega) (Sha.lay_of hL)).mono fun e W' ⟨he, hb⟩ => ?_
  subst he
  exact ⟨_, rfl, law_post laidOut (by kernel_rfl) rfl Tryd.underlying4 rfl hW' rfl hb⟩

theorem verifies_row (hopen : OpenOk) (hiss : IssueOk) (hver : VerifyOk) (hnew : NewOk) : Rows.TokenVerifiesSaid :=
  OpenClaim.holds_of_wide 4 Tryd.f4 rfl rfl rfl rfl rfl rfl rfl ⟨rfl, rfl, rfl, rfl, rfl⟩ rfl rfl rfl rfl rfl (by kernel_rfl) Tryd.func4 (by kernel_rfl)
    (of_decide_eq_true (by kernel_rfl)) (by unfold Func.isWrapper; first | (rw [if_pos (by decide +kernel)]; kernel_rfl) | (rw [if_neg (by decide +kernel)]; exact ⟨rfl, rfl⟩))
    (fun os started H enc _ => verifies_lifted hopen hiss hver hnew os started H enc)

set_option maxHeartbeats 800000 in
set_option maxRecDepth 100000 in
theorem tagged_lifted (hmay : MayOk) (hfields : FieldsOk) (hfind : FindOk) (hder : DerOk) (hsam : SamOk) (hopen : OpenOk) (hiss : IssueOk) (hver : VerifyOk) (hnew : NewOk) (os : Os) (started : os.Started) (H : Type) (enc : TypeId × Value → H) :
    ReturnsInHanded {} Tryd.checked os 6 .any (fun w args => (Rows.tokenTaggedSpec.pre enc Tryd.prog Tryd.f6 [] false w args ∧ laidMetH Tryd.prog Sha.laid2 w) ∧ sizedMet enc Tryd.prog Tryd.f6 (OpenSpec.ofChange Rows.tokenTaggedSpec) false w args)
      (Rows.tokenTaggedSpec.post enc Tryd.prog Tryd.f6 false true false false) := by
  refine returnsInHanded_of_change_and (C := Tryd.checked) (X := fun w _ => laidMetH Tryd.prog Sha.laid2 w) (fun _ _ _ hh h => h.of_heap hh) own started (by kernel_rfl) Tryd.func6
    (ChangeSpec.witness_shaped (enc := enc) (C := Tryd.checked) (os := os) (X := fun w _ => laidMetH Tryd.prog Sha.laid2 w) false (World.doorLaid Tryd.prog 400 os) #[.agg #[.int .i64 0, .slice none 0 0], .slice none 0 0, .int .i64 0] 8 rfl (World.shaped_of_RefB (by kernel_rfl) (by kernel_rfl)) (by kernel_rfl) (by kernel_rfl) (by kernel_rfl) (Sha.door_met os _)) ?_
  intro W base args ds gs before hval0 hW _ _ hL _
  have hval : ∀ (j : Nat) t v, Tryd.f6.params[j]? = some t → args[j]? = some v → Value.okWide Tryd.prog W .any base t v := hval0
  have hW' := hW
  obtain ⟨p, q, hA0, hV, rfl, _, _⟩ := hW
  have hA : DataW.TrodAll enc Tryd.prog W 0 (fun _ => true) true Tryd.f6.params.toList args.toList ds p := hA0
  rw [Tryd.params6] at hA hval
  obtain ⟨v0, v1, v2, d0, d1, d2, p0, p1, p2, rfl, rfl, rfl, h0, h1, h2⟩ := trodAll_three hA
  obtain ⟨rfl, rfl⟩ := trodVars_none hV
  obtain ⟨x0, x1, rfl, ⟨f0, y0, t0⟩, ⟨f1, y1, t1⟩⟩ := open_two (t0 := 3) (t1 := 22) Tryd.underlying24 (hone_of (by kernel_rfl)) (by kernel_rfl) rfl rfl rfl (hval 0 24 v0 rfl rfl) h0
  obtain ⟨keep, rfl, wk⟩ := cell_int Tryd.underlying3 t0
  obtain ⟨A, n, c, K, rfl, hk, hnil, hnc, hcm⟩ := cell_keys (t0 := 3) (t1 := 29) Tryd.underlying22 Tryd.underlying58 (hone_of (by kernel_rfl)) (by kernel_rfl) rfl rfl rfl Tryd.underlying3 Tryd.underlying29 Tryd.underlying5 (by kernel_rfl) t1
  have bk := bounds_i64 wk
  obtain ⟨A', n', c', xs, rfl, hr, hnil', hnc', hcm', -, hx⟩ := open_row3 Tryd.underlying29 Tryd.underlying5 (by kernel_rfl) (hval 1 29 v1 rfl rfl) h1
  obtain ⟨nw, rfl, rfl, rfl, wn⟩ := open_int Tryd.underlying3 (hval 2 3 v2 rfl rfl) h2
  have bn := bounds_i64 wn
  refine (tagged_walk hmay hfields hfind hder hsam hopen hiss hver hnew keep nw A A' n c n' c' K xs W hk hnil hnc hcm ⟨bk.1, by have := bk.2; omega⟩ ⟨bn.1, by have := bn.2; omega⟩ hr hnil' hnc' hcm' (fun x h => by have := bounds_u8 (hx x h); omega) (Sha.lay_of hL)).mono fun e W' ⟨he, hb⟩ => ?_
  subst he
  exact ⟨_, rfl, law_post laidOut (by kernel_rfl) rfl Tryd.underlying4 rfl hW' rfl hb⟩

theorem tagged_row (hmay : MayOk) (hfields : FieldsOk) (hfind : FindOk) (hder : DerOk) (hsam : SamOk) (hopen : OpenOk) (hiss : IssueOk) (hver : VerifyOk) (hnew : NewOk) : Rows.TokenTaggedSaid :=
  OpenClaim.holds_of_wide 6 Tryd.f6 rfl rfl rfl rfl rfl rfl rfl ⟨rfl, rfl, rfl, rfl, rfl⟩ rfl rfl rfl rfl rfl (by kernel_rfl) Tryd.func6 (by kernel_rfl)
    (of_decide_eq_true (by kernel_rfl)) (by unfold Func.isWrapper; first | (rw [if_pos (by decide +kernel)]; kernel_rfl) | (rw [if_neg (by decide +kernel)]; exact ⟨rfl, rfl⟩))
    (fun os started H enc _ => tagged_lifted hmay hfields hfind hder hsam hopen hiss hver hnew os started H enc)

set_option maxHeartbeats 800000 in
set_option maxRecDepth 100000 in
theorem back_lifted (hiss : IssueOk) (hver : VerifyOk) (hnew : NewOk) (hnow : NowOk) (hfind : FindOk) (hrot : RotateOk) (os : Os) (started : os.Started) (H : Type) (enc : TypeId × Value → H) :
    ReturnsInHanded {} Tryd.checked os 5 .any (fun w args => (Rows.tokenBackSpec.pre enc Tryd.prog Tryd.f5 [] false w args ∧ laidMetH Tryd.prog Sha.laid2 w) ∧ sizedMet enc Tryd.prog Tryd.f5 (OpenSpec.ofChange Rows.tokenBackSpec) false w args)
      (Rows.tokenBackSpec.post enc Tryd.prog Tryd.f5 false true false false) := by
  refine returnsInHanded_of_change_and (C := Tryd.checked) (X := fun w _ => laidMetH Tryd.prog Sha.laid2 w) (fun _ _ _ hh h => h.of_heap hh) own started (by kernel_rfl) Tryd.func5
    (ChangeSpec.witness_shaped (enc := enc) (C := Tryd.checked) (os := os) (X := fun w _ => laidMetH Tryd.prog Sha.laid2 w) false (World.doorLaid Tryd.prog 400 os) #[.agg #[.int .i64 0, .slice none 0 0], .agg #[.int .i64 0, .int .i64 0, .int .i64 0, .int .i64 0, .int .i64 0, .int .i64 0], .slice none 0 0] 8 rfl (World.shaped_of_RefB (by kernel_rfl) (by kernel_rfl)) (by kernel_rfl) (by kernel_rfl) (by kernel_rfl) (Sha.door_met os _)) ?_
  intro W base args ds gs before hval0 hW _ _ hL _
  have hval : ∀ (j : Nat) t v, Tryd.f5.params[j]? = some t → args[j]? = some v → Value.okWide Tryd.prog W .any base t v := hval0
  have hW' := hW
  obtain ⟨p, q, hA0, hV, rfl, _, _⟩ := hW
  have hA : DataW.TrodAll enc Tryd.prog W 0 (fun _ => true) true Tryd.f5.params.toList args.toList ds p := hA0
  rw [Tryd.params5] at hA hval
  obtain ⟨v0, v1, v2, d0, d1, d2, p0, p1, p2, rfl, rfl, rfl, h0, h1, h2⟩ := trodAll_three hA
  obtain ⟨rfl, rfl⟩ := trodVars_none hV
  obtain ⟨x0, x1, rfl, ⟨f0, y0, t0⟩, ⟨f1, y1, t1⟩⟩ := open_two (t0 := 3) (t1 := 22) Tryd.underlying24 (hone_of (by kernel_rfl)) (by kernel_rfl) rfl rfl rfl (hval 0 24 v0 rfl rfl) h0
  obtain ⟨keep, rfl, wk⟩ := cell_int Tryd.underlying3 t0
  obtain ⟨A, n, c, K, rfl, hk, hnil, hnc, hcm⟩ := cell_keys (t0 := 3) (t1 := 29) Tryd.underlying22 Tryd.underlying58 (hone_of (by kernel_rfl)) (by kernel_rfl) rfl rfl rfl Tryd.underlying3 Tryd.underlying29 Tryd.underlying5 (by kernel_rfl) t1
  have bk := bounds_i64 wk
  obtain ⟨zs, rfl, hz, wz⟩ := open_nums Tryd.underlying26 (hone_of (by kernel_rfl)) (by kernel_rfl) rfl (int_of (by kernel_rfl)) (hval 1 26 v1 rfl rfl) h1
  obtain ⟨utr, uac, ust, uis, uun, uep, rfl⟩ := six_of hz
  have ht : T.ok ⟨utr, uac, ust, uis, uun, uep⟩ := by
    have q0 := bounds_i64 (wz utr (by simp))
    have q1 := bounds_i64 (wz uac (by simp))
    have q2 := bounds_i64 (wz ust (by simp))
    have q3 := bounds_i64 (wz uis (by simp))
    have q4 := bounds_i64 (wz uun (by simp))
    have q5 := bounds_i64 (wz uep (by simp))
    exact ⟨⟨q0.1, by have := q0.2; omega⟩, ⟨q1.1, by have := q1.2; omega⟩, ⟨q2.1, by have := q2.2; omega⟩, ⟨q3.1, by have := q3.2; omega⟩, ⟨q4.1, by have := q4.2; omega⟩, ⟨q5.1, by have := q5.2; omega⟩⟩
  obtain ⟨A', n', c', L, rfl, hp, -, -, -, hml⟩ := open_parts Tryd.underlying48 Tryd.underlying29 Tryd.underlying5 (by kernel_rfl) (by kernel_rfl) (hval 2 48 v2 rfl rfl) h2
  refine (back_walk hiss hver hnew hnow hfind hrot keep A A' n c n' c' K ⟨utr, uac, ust, uis, uun, uep⟩ L W ht hk hnil hnc hcm ⟨bk.1, by have := bk.2; omega⟩ hp hml (Sha.lay_of hL)).mono fun e W' ⟨he, hb⟩ => ?_
  subst he
  exact ⟨_, rfl, law_post laidOut (by kernel_rfl) rfl Tryd.underlying4 rfl hW' rfl hb⟩

theorem back_row (hiss : IssueOk) (hver : VerifyOk) (hnew : NewOk) (hnow : NowOk) (hfind : FindOk) (hrot : RotateOk) : Rows.TokenBackSaid :=
  OpenClaim.holds_of_wide 5 Tryd.f5 rfl rfl rfl rfl rfl rfl rfl ⟨rfl, rfl, rfl, rfl, rfl⟩ rfl rfl rfl rfl rfl (by kernel_rfl) Tryd.func5 (by kernel_rfl)
    (of_decide_eq_true (by kernel_rfl)) (by unfold Func.isWrapper; first | (rw [if_pos (by decide +kernel)]; kernel_rfl) | (rw [if_neg (by decide +kernel)]; exact ⟨rfl, rfl⟩))
    (fun os started H enc _ => back_lifted hiss hver hnew hnow hfind hrot os started H enc)
end Go.Proofs.YtmkdbpdfonpfdaaDoor.TokQ

/- Layer 8 (hmac): the program's padded and combined, as contracts. -/
namespace Go.Proofs.YtmkdbpdfonpfdaaDoor.Hmc
open Go.RowKit Sha

/-- A key, filled up to 64 bytes. -/
def fil (k : List Int) : List Int := k ++ List.replicate (64 - k.length) 0
theorem fil_len {k : List Int} (h : k.length ≤ 64) : (fil k).length = 64 := by simp [fil]; omega
theorem pre_take (k : List Int) (m : Int) : ∀ n, n ≤ k.length → pre k m n = (k.take n).map (fun x => xr x m)
  | 0, _ => rfl
  | n + 1, h => by
    rw [pre, pre_take k m n (by omega), List.take_succ_eq_append_getElem (by omega), List.map_append]
    congr 1
    simp [List.getD, show n < k.length by omega]
theorem blk_fil (k : List Int) (m : Int) : blk k m = (fil (ky k)).map (fun x => xr x m) := by
  have h1 := ky_len k
  have h2 := fil_len h1
  unfold blk
  rw [← pre_noughts (ky k) m (64 - (ky k).length) 64]
  show pre (fil (ky k)) m 64 = _
  rw [pre_take _ _ _ (by omega), List.take_of_length_le (by omega)]
theorem fil_byt {k : List Int} (hk : ∀ x ∈ k, 0 ≤ x ∧ x ≤ 255) : ∀ x ∈ fil k, 0 ≤ x ∧ x ≤ 255 := by
  intro x hx
  rw [fil, List.mem_append] at hx
  rcases hx with hx | hx
  · exact hk x hx
  · rw [(List.mem_replicate.1 hx).2]
    omega

theorem zero64 (w : World) : (zeroValue 103).run Tryd.prog w = .ok (.agg (bv (List.replicate 64 0)).toArray) w := by kernel_rfl
theorem info64b : (Tryd.prog.info? 103).map (·.size) = some 64 := by kernel_rfl
theorem info8s : (Tryd.prog.info? 5).map (·.size) = some 1 := by kernel_rfl
theorem fil_splice {k : List Int} (_ : k.length ≤ 64) : splice (bv (List.replicate 64 0)) 0 (bv k) = bv (fil k) := by
  unfold splice fil bv
  rw [List.take_zero, List.nil_append, List.map_append, ← List.map_drop, List.drop_replicate]
  simp
theorem bv_len (l : List Int) : (bv l).length = l.length := by simp [bv]
theorem bv_one (l : List Int) : ∀ v ∈ bv l, v.oneCell' = true := fun v hv => by
  unfold bv at hv
  obtain ⟨x, _, rfl⟩ := List.mem_map.1 hv
  rfl

/-- What a copy of a row needs to know of it. -/
theorem row_cells {w : World} {B n : Nat} {A : Option Addr} {k : List Int} (h : Row .u8 w B A n k) (hn : 0 < k.length) : ∃ ad, A = some ad ∧ ∀ (j : Nat) v, (bv k)[j]? = some v → w.cell? (ad.add j) = some v := by
  have hl := h.len
  obtain ⟨b, o, he, _, hc⟩ := h.2 (by omega)
  refine ⟨_, he, fun j v hj => ?_⟩
  have hjl : j < k.length := by
    have := (List.getElem?_eq_some_iff.1 hj).1
    simpa [bv] using this
  have hadd : (⟨b, o, none⟩ : Addr).add j = ⟨b, o + j, none⟩ := by unfold Addr.add; split <;> simp_all
  rw [hadd, hc j (by omega), ← hj]
  simp [bv, List.getD, hjl]

set_option maxHeartbeats 800000 in
set_option maxRecDepth 100000 in
theorem padded_any (A : Option Addr) (n c B : Nat) (k : List Int) (w : World) (h : Row .u8 w B A n k) (hB : B ≤ w.heap.size) (hc : n ≤ c) (hk : ∀ x ∈ k, 0 ≤ x ∧ x ≤ 255) (hn : n ≤ 1000000) (hT : Lay w) :
    Calls Tryd.prog 69 #[.slice A n c] w fun e w' => e = .returned (.agg (bv (fil (ky k))).toArray) ∧ Below w.heap.size w w' := by
  have H := Lib.hid h
  have HK := Lib.hid hk
  have HB := Lib.hid hB
  have HNC := Lib.hid hc
  have HT := Lib.hid hT
  have hz := zero64
  obtain ⟨Z, hZ⟩ : ∃ Z, bv (List.replicate 64 0) = Z := ⟨_, rfl⟩
  rw [hZ] at hz
  have HZ := Lib.hid hZ
  have HZL : Hid (Z.length = 64) := by unfold Hid; rw [← hZ]; rfl
  obtain ⟨K, hK⟩ : ∃ K, K = ky k := ⟨_, rfl⟩
  have HKL : Hid (K.length ≤ 64) := by unfold Hid; rw [hK]; exact ky_len k
  obtain ⟨C, hC⟩ : ∃ C, C = bv K := ⟨_, rfl⟩
  obtain ⟨F, hF⟩ : ∃ F, F = bv (fil K) := ⟨_, rfl⟩
  have HFL : Hid (F.length = 64) := by unfold Hid; rw [hF, bv_len]; exact fil_len HKL.out
  have HSP : Hid (splice Z 0 C = F) := by unfold Hid; rw [← hZ, hC, hF]; exact fil_splice HKL.out
  have HF1 : Hid (F.toArray.all (·.oneCell') = true) := by unfold Hid; rw [hF]; exact all_oneCell_toArray (bv_one _)
  have HSZ : Hid (Z.toArray.size = F.toArray.size) := by unfold Hid; rw [List.size_toArray, List.size_toArray, HFL.out, HZL.out]
  have HC1 : Hid (∀ v ∈ C, v.oneCell' = true) := by unfold Hid; rw [hC]; exact bv_one _
  have HCL : Hid (C.length = K.length) := by unfold Hid; rw [hC]; exact bv_len _
  have HI : Hid ((Tryd.prog.info? 103).map (·.size) = some F.toArray.size) := by unfold Hid; rw [List.size_toArray, HFL.out]; exact info64b
  have HI2 : Hid ((Tryd.prog.info? 103).map (·.size) = some F.length) := by unfold Hid; rw [HFL.out]; exact info64b
  rw [show (Value.agg (bv (fil (ky k))).toArray) = .agg F.toArray by rw [hF, hK]]
  have HKK := Lib.hid hK
  have HBV := Lib.hid hC
  have hb0 : Below w.heap.size w (w.alloc (.cells Z.toArray 103)) := (Below.refl _ _).alloc (Nat.le_refl _) _
  have HB0 := Lib.hid hb0
  have H1 := Lib.hid (H.out.below (hb0.mono HB.out))
  have HT1 := Lib.hid (HT.out.below hb0 HT.out.tab.1)
  have hs1 : w.heap.size ≤ (w.alloc (.cells Z.toArray 103)).heap.size := hb0.size
  have HS1 := Lib.hid hs1
  have hblk : (w.alloc (.cells Z.toArray 103)).heap[w.heap.size]? = some (.cells Z.toArray 103 (0, 0)) := heap_alloc_new _ _
  have HBLK := Lib.hid hblk
  clear h hB hc hk hT hZ hK hC hF hb0 hs1 hblk
  by_cases hb : 64 < n
  · have hd : decide ((64 : Int) < (n : Int)) = true := by simp; omega
    have hky : Hid (K = sum256 k) := by
      unfold Hid
      rw [HKK.out]
      unfold ky
      rw [if_pos (by have := H.out.len; omega)]
    go_enter Tryd.func69, Tryd.ntmps69
    go_wp2_with fail
    refine (sum_any A n c B k _ H1.out (Nat.le_trans HB.out HS1.out) HNC.out HK.out (by omega) HT1.out).mono ?_
    rintro e2 w2 ⟨v2, rfl, hown2, hb2⟩
    rw [show outs (blocks ks hs (pad k) ((pad k).length / 64)) 8 = sum256 k from rfl, ← hky.out] at hown2
    obtain ⟨A2, c2, rfl, -, -⟩ := own_slice hown2
    have HR2 : Hid (Row .u8 w2 w2.heap.size A2 32 K) := Row.of_own hown2
    have HG2 : Hid (w2.heap[w.heap.size]? = some (.cells Z.toArray 103 (0, 0))) := (hb2.block w.heap.size (by simp)).trans HBLK.out
    have HBE2 : Hid (Below w.heap.size w w2) := HB0.out.trans (hb2.mono HS1.out)
    have HL2 : Hid (w.heap.size < w2.heap.size) := by have := hb2.size; unfold Hid; simp at this; omega
    have HCN : Hid (C.length = Nat.min 32 64) := by unfold Hid; rw [HCL.out, HR2.out.len]; decide
    clear hown2 hb2
    go_wp2_with (first
      | ((with_reducible show wpList _ _ _ _ _ _); refine wpList_copy_splice rfl (.tmp 9) (.tmp 10) 29 29 rfl 5 Tryd.underlying29 info8s _ _ 64 64 32 c2 rfl rfl w2.heap.size 0 Z 103 (heap_alloc_new w2 _) C HCN.out (fun h0 => ⟨rfl, by rw [HCL.out] at h0; rw [HBV.out]; exact row_cells (HR2.out.below ((Below.refl _ _).alloc (Nat.le_refl _) _)) h0⟩) (by rw [HCL.out, HZL.out]; have := HKL.out; omega) HC1.out w2.heap.size w2 ((Below.refl _ _).alloc (Nat.le_refl _) _) (Nat.le_refl _) ?_; intro w3 hG3 hb3; rw [HSP.out] at hG3; have HG3 := Lib.hid hG3.out; have HR3 : Hid (w3.heap[w.heap.size]? = some (.cells Z.toArray 103 (0, 0))) := (hb3.block w.heap.size HL2.out).trans HG2.out; have HB3 := Lib.hid (HBE2.out.trans (hb3.mono HBE2.out.size)); clear hG3 hb3)
      | (with_reducible refine wpList_load_row rfl 103 (.tmp 3) rfl w2.heap.size rfl 103 F.toArray (0, 0) _ HG3.out Tryd.underlying103 rfl HI.out ?_)
      | (with_reducible refine wpList_store_row rfl 103 (.tmp 2) (.tmp 12) rfl w.heap.size F.toArray rfl rfl 103 _ HR3.out HI.out HSZ.out HF1.out ?_))

    refine bodyPost_ret (results_cell_row (g := w.heap.size) rfl _ _ _ _ _ _ rfl (setRow_heap _ _ _ _ _ _ HR3.out) Tryd.underlying103 rfl HI.out) rfl ⟨rfl, ?_⟩
    exact Sha.below_setRow HB3.out (Nat.le_refl _) _
  · have hd : decide ((64 : Int) < (n : Int)) = false := by simp; omega
    have hky : Hid (K = k) := by
      unfold Hid
      rw [HKK.out]
      unfold ky
      rw [if_neg (by have := H.out.len; omega)]
    have hb2 : Below w.heap.size w ((w.alloc (.cells Z.toArray 103)).alloc (.cells Z.toArray 103)) := HB0.out.alloc HS1.out _
    have HBE2 := Lib.hid hb2
    have HG2 : Hid (((w.alloc (.cells Z.toArray 103)).alloc (.cells Z.toArray 103)).heap[w.heap.size]? = some (.cells Z.toArray 103 (0, 0))) := heap_alloc2_old w _ _
    have HN2 : Hid (((w.alloc (.cells Z.toArray 103)).alloc (.cells Z.toArray 103)).heap[w.heap.size + 1]? = some (.cells Z.toArray 103 (0, 0))) := heap_alloc2_new w _ _
    have HR2 : Hid (Row .u8 ((w.alloc (.cells Z.toArray 103)).alloc (.cells Z.toArray 103)) B A n K) := by unfold Hid; rw [hky.out]; exact H.out.below (hb2.mono HB.out)
    have HCN : Hid (C.length = Nat.min n 64) := by unfold Hid; rw [HCL.out, HR2.out.len]; exact (Nat.min_eq_left (by omega)).symm
    clear hb2
    go_enter Tryd.func69, Tryd.ntmps69
    go_wp2_with (first
      | ((with_reducible show wpList _ _ _ _ _ _); refine wpList_copy_splice rfl (.tmp 9) (.tmp 10) 29 29 rfl 5 Tryd.underlying29 info8s _ _ 64 64 n c rfl rfl (w.heap.size + 1) 0 Z 103 HN2.out C HCN.out (fun h0 => ⟨rfl, by rw [HCL.out] at h0; rw [HBV.out]; exact row_cells HR2.out h0⟩) (by rw [HCL.out, HZL.out]; have := HKL.out; omega) HC1.out (w.heap.size + 1) _ (Below.refl _ _) (Nat.le_refl _) ?_; intro w3 hG3 hb3; rw [HSP.out] at hG3; have HG3 := Lib.hid hG3.out; have HR3 : Hid (w3.heap[w.heap.size]? = some (.cells Z.toArray 103 (0, 0))) := (hb3.block w.heap.size (by omega)).trans HG2.out; have HB3 := Lib.hid (HBE2.out.trans (hb3.mono (by omega))); clear hG3 hb3)
      | (with_reducible refine wpList_load_row rfl 103 (.tmp 3) rfl (w.heap.size + 1) rfl 103 F.toArray (0, 0) _ HG3.out Tryd.underlying103 rfl HI.out ?_)
      | (with_reducible refine wpList_store_row rfl 103 (.tmp 2) (.tmp 12) rfl w.heap.size F.toArray rfl rfl 103 _ HR3.out HI.out HSZ.out HF1.out ?_))
    refine bodyPost_ret (results_cell_row (g := w.heap.size) rfl _ _ _ _ _ _ rfl (setRow_heap _ _ _ _ _ _ HR3.out) Tryd.underlying103 rfl HI.out) rfl ⟨rfl, ?_⟩
    exact Sha.below_setRow HB3.out (Nat.le_refl _) _

/-- A key of which the first t bytes are combined with m. -/
def mix (k : List Int) (m : Int) (t : Nat) : List Int := (k.take t).map (fun x => xr x m) ++ k.drop t
theorem mix_len (k : List Int) (m : Int) (t : Nat) : (mix k m t).length = k.length := by simp [mix]; omega
theorem mix_at {k : List Int} {m : Int} {t : Nat} (h : t < k.length) : (bv (mix k m t))[t]? = some (.int .u8 (k.getD t 0)) := by
  unfold mix bv
  rw [List.map_append, List.getElem?_append_right (by simp; omega)]
  simp [List.getD, h, show min t k.length = t by omega]
theorem mix_next {k : List Int} {m : Int} {t : Nat} (h : t < k.length) : ((bv (mix k m t)).toArray).setIfInBounds t (.int .u8 (xr (k.getD t 0) m)) = (bv (mix k m (t + 1))).toArray := by
  have h1 : (bv ((k.take t).map (fun x => xr x m))).length = t := by simp [bv]; omega
  have e1 : bv (mix k m t) = bv ((k.take t).map (fun x => xr x m)) ++ .int .u8 k[t] :: bv (k.drop (t + 1)) := by
    unfold mix bv
    rw [List.drop_eq_getElem_cons h, List.map_append, List.map_cons]
  have e2 : bv (mix k m (t + 1)) = bv ((k.take t).map (fun x => xr x m)) ++ .int .u8 (xr k[t] m) :: bv (k.drop (t + 1)) := by
    unfold mix bv
    rw [List.take_succ_eq_append_getElem h]
    simp only [List.map_append, List.map_cons, List.map_nil, List.append_assoc, List.cons_append, List.nil_append]
  rw [List.setIfInBounds_toArray, e1, e2, List.set_append_right _ _ (by omega), h1, Nat.sub_self, List.set_cons_zero]
  simp only [List.getD, List.getElem?_eq_getElem h, Option.getD_some]
theorem mix_all {k : List Int} {m : Int} (h : k.length = 64) : mix k m 64 = k.map (fun x => xr x m) := by
  unfold mix
  rw [List.take_of_length_le (by omega), List.drop_of_length_le (by omega), List.append_nil]
/-- While a key is combined. -/
structure Cm (w : World) (k : List Int) (m : Int) (t : Nat) (w' : World) : Prop where
  blk : w'.heap[w.heap.size]? = some (.cells (bv (mix k m t)).toArray 103 (0, 0))
  bel : Below w.heap.size w w'

set_option maxHeartbeats 800000 in
set_option maxRecDepth 100000 in
theorem combined_any (k : List Int) (m : Int) (w : World) (hl : k.length = 64) (hk : ∀ x ∈ k, 0 ≤ x ∧ x ≤ 255) (hm : 0 ≤ m ∧ m ≤ 255) :
    Calls Tryd.prog 70 #[.agg (bv k).toArray, .int .u8 m] w fun e w' => e = .returned (.slice (some ⟨w.heap.size, 0, none⟩) 64 64) ∧ Row .u8 w' w'.heap.size (some ⟨w.heap.size, 0, none⟩) 64 (k.map (fun x => xr x m)) ∧ Below w.heap.size w w' := by
  have HL := Lib.hid hl
  have HK := Lib.hid hk
  have HM := Lib.hid hm
  have H0 : Hid (Cm w k m 0 (w.alloc (.cells (bv k).toArray 103))) := ⟨by rw [show mix k m 0 = k by simp [mix]]; exact heap_alloc_new _ _, (Below.refl _ _).alloc (Nat.le_refl _) _⟩
  clear hl hk hm
  go_enter Tryd.func70, Tryd.ntmps70
  go_wp2_with fail
  go_loopw [5, 6] (fun _ i wr => ∃ t : Nat, t ≤ 64 ∧ i = .int .i64 (t : Int) ∧ Hid (Cm w k m t wr)) (fun _ i _ => 64 - (intOf i).toNat)
  case atStart => exact ⟨0, Nat.zero_le _, rfl, H0⟩
  case round =>
    obtain ⟨t, ht, rfl, HC⟩ := hrel
    by_cases hlt : t < 64
    · have hkl : t < k.length := by have := HL.out; omega
      have k0 : wr.cell? ⟨w.heap.size, t, none⟩ = some (.int .u8 (k.getD t 0)) := cell_of_blk HC.out.blk (by rw [List.getElem?_toArray]; exact mix_at hkl)
      have k1 : wr.frozen? ⟨w.heap.size, t, none⟩ = false := free_of_blk HC.out.blk
      have hb := getD_byt HK.out t
      have HX : Hid (bits .xor .u8 (k.getD t 0) m = xr (k.getD t 0) m) := xr_bits _ _ hb HM.out
      have HS : Hid (Cm w k m (t + 1) (wr.setCell ⟨w.heap.size, t, none⟩ (.int .u8 (xr (k.getD t 0) m)))) := ⟨by rw [set_blk HC.out.blk, mix_next hkl], HC.out.bel.setCell (Nat.le_refl _) _⟩
      have ht64 : (t : Int) < 64 := by omega
      generalize k.getD t 0 = x at *
      clear hkl
      go_wp2
      refine ⟨⟨t + 1, by omega, by go_num, by rw [HX.out]; exact HS⟩, by simp [intOf]; omega⟩
    · obtain rfl : t = 64 := by omega
      have HB : Hid (Below w.heap.size w wr) := HC.out.bel
      have HR : Hid (Row .u8 wr wr.heap.size (some ⟨w.heap.size, 0, none⟩) 64 (k.map (fun x => xr x m))) := by
        have hb := HC.out.blk
        rw [mix_all HL.out] at hb
        have h64 := HL.out
        refine ⟨by simp [h64], fun _ => ⟨w.heap.size, 0, rfl, (Array.getElem?_eq_some_iff.1 hb).1, fun j hj => ?_⟩⟩
        rw [Nat.zero_add]
        refine cell_of_blk hb ?_
        rw [List.getElem?_toArray]
        simp [bv, List.getD, show j < k.length by omega]
      clear HC H0
      go_wp2
      go_ret
      exact ⟨rfl, HR.out, HB.out⟩
end Go.Proofs.YtmkdbpdfonpfdaaDoor.Hmc

/- Slices of values of one cell each (slices of slices among them), over any program: what such a slice reads as, and the append of one onto a row of one's own. -/
namespace Go.Proofs.YtmkdbpdfonpfdaaDoor.Vct
open Go.RowKit

/-- The slice '.slice A n c' reads as the values vs; it lies below block B; nil is let in. -/
structure VRow (w : World) (B : Nat) (A : Option Addr) (n : Nat) (vs : List Value) : Prop where
  len : vs.length = n
  at_ : 0 < n → ∃ b o, A = some ⟨b, o, none⟩ ∧ b < B ∧ ∀ j v, vs[j]? = some v → w.cell? ⟨b, o + j, none⟩ = some v
  one : ∀ v ∈ vs, v.oneCell' = true
section
variable {w w' : World} {B B' n : Nat} {A : Option Addr} {vs : List Value}
theorem VRow.below (h : VRow w B A n vs) (hb : Below B w w') : VRow w' B A n vs :=
  ⟨h.len, fun hn => by
    obtain ⟨b, o, e, h1, h2⟩ := h.at_ hn
    exact ⟨b, o, e, h1, fun j v hj => (hb.cell (p := ⟨b, o + j, none⟩) h1).trans (h2 j v hj)⟩, h.one⟩
theorem VRow.more (h : VRow w B A n vs) (hB : B ≤ B') : VRow w B' A n vs :=
  ⟨h.len, fun hn => by
    obtain ⟨b, o, e, h1, h2⟩ := h.at_ hn
    exact ⟨b, o, e, by omega, h2⟩, h.one⟩
/-- A block made of values. -/
theorem VRow.of_blk {g : Nat} {cs : Array Value} {t : TypeId} {fr : Nat × Nat} (hg : w.heap[g]? = some (.cells cs t fr)) (hB : g < B) (hcs : cs.toList = vs) (h1 : ∀ v ∈ vs, v.oneCell' = true) : VRow w B (some ⟨g, 0, none⟩) vs.length vs :=
  ⟨rfl, fun _ => ⟨g, 0, rfl, hB, fun j v hj => by
    rw [Nat.zero_add, cell_of_row w g j cs t fr hg, ← hj, ← hcs]
    simp⟩, h1⟩
/-- A row of one's own. -/
theorem VRow.of_own {base c : Nat} {e : TypeId} (h : w.ownsRow base e 1 (.slice A n c) n vs) (h1 : ∀ v ∈ vs, v.oneCell' = true) : VRow w w.heap.size A n vs := by
  refine ⟨by simpa using h.1, fun hn => ?_, h1⟩
  rcases h.2 with ⟨h0, _⟩ | ⟨g, cap, cur, h2, h3, h4, h5, h6, h7, h8⟩
  · injection h0 with h0 h0'
    omega
  · injection h2 with h2 h2'
    subst h2
    refine ⟨g, 0, rfl, (Array.getElem?_eq_some_iff.1 h4).1, fun j v hj => ?_⟩
    rw [Nat.zero_add, cell_of_row w g j cur e (0, 0) h4]
    have hjl : j < n := by
      have := (List.getElem?_eq_some_iff.1 hj).1
      have h9 := h.1
      omega
    rw [← h8, List.getElem?_take_of_lt (by omega)] at hj
    simpa using hj
end

/-- 'append(out, ys...)' onto a row of one's own; ys reads as a row of values, nil let in. -/
theorem cat_vals {P : Program} {ops : Array Oper} {rest : List Oper} {o : Oper} {a : Act} {Q : Exit → Act → World → Prop} {w : World} (hgd : o.guard = none) (s x : Operand) (t : TypeId)
    (ho : o.op = .call { callee := .builtin .append, args := #[s, x], argTypes := #[t, t] })
    (base : Nat) (e : TypeId) (i : TypeInfo) (z : Value) (bytes : Nat) (ht : P.underlying t = some (.slice e)) (hi : P.info? e = some i) (hz : i.zero = some z) (hz1 : z.cells.size = 1) (hsize : i.size = 1) (hby : i.bytes = bytes)
    (v : Value) (n : Nat) (xs : List Value) (hs : a.eval s = v) (hown : w.ownsRow base e 1 v n xs) (B : Nat) (A : Option Addr) (m c : Nat) (ys : List Value) (hx : a.eval x = .slice A m c) (hnil : A = none → c = 0) (hr : VRow w B A m ys)
    (hn : n + m ≤ 1099511627776) (hb8 : bytes ≤ 100) (hbase : base ≤ w.heap.size)
    (h : ∀ v' w', w'.ownsRow base e 1 v' (n + m) (xs ++ ys) → Below base w w' → wpList P ops Q rest (a.put o.dst v') w') :
    wpList P ops Q (o :: rest) a w := by
  rcases A with _ | ad
  · have hm : m = 0 := by
      rcases Nat.eq_zero_or_pos m with h0 | h0
      · exact h0
      · obtain ⟨_, _, h1, _⟩ := hr.at_ h0
        cases h1
    subst hm
    have hy : ys = [] := List.eq_nil_of_length_eq_zero hr.len
    subst hy
    rw [hnil rfl] at hx
    exact wpList_append_own_none hgd s x t ho base e i 1 ht hi v n _ hs hown hx (h v w (by simpa using hown) (Below.refl _ _))
  · refine wpList_append_own _ hgd s x t ho base e i z 1 bytes ht hi hz hsize hby hz1 (by omega) v n xs hs hown ad m c ys hx (by simp [hr.len]) ?_ hr.one ?_ ?_ hbase ?_
    · intro j u hj
      have hjl := (List.getElem?_eq_some_iff.1 hj).1
      have hl := hr.len
      obtain ⟨b, o, he, _, hc⟩ := hr.at_ (by omega)
      injection he with he
      subst he
      have hadd : (⟨b, o, none⟩ : Addr).add j = ⟨b, o + j, none⟩ := by unfold Addr.add; split <;> simp_all
      rw [hadd]
      exact hc j u hj
    · unfold maxLen; omega
    · have := Nat.mul_le_mul hn hb8
      omega
    · intro v' w' hown' hgrow _
      exact h v' w' (by simpa using hown') ((Below.refl _ _).grown hgrow hbase (fun j hj => (hown.lt j hj).1))

/-- A slice among others: where it lies, its length, its capacity, what it reads as. -/
structure VPart where
  A : Option Addr
  n : Nat
  c : Nat
  vs : List Value
def VPart.v (p : VPart) : Value := .slice p.A p.n p.c
def VPart.Right (w : World) (B : Nat) (p : VPart) : Prop := VRow w B p.A p.n p.vs ∧ (p.A = none → p.c = 0)
def vtotal (L : List VPart) : Nat := (L.map (·.n)).sum
def vwhole (L : List VPart) : List Value := L.flatMap (·.vs)
theorem vtotal_next {L : List VPart} {i : Nat} (h : i < L.length) : vtotal (L.take (i + 1)) = vtotal (L.take i) + (L[i]).n := by
  unfold vtotal; rw [List.take_succ_eq_append_getElem h, List.map_append, List.sum_append]; simp only [List.map_cons, List.map_nil, List.sum_cons, List.sum_nil, Nat.add_zero]
theorem vwhole_next {L : List VPart} {i : Nat} (h : i < L.length) : vwhole (L.take (i + 1)) = vwhole (L.take i) ++ (L[i]).vs := by
  unfold vwhole; rw [List.take_succ_eq_append_getElem h, List.flatMap_append]; simp only [List.flatMap_cons, List.flatMap_nil, List.append_nil]
theorem vtotal_le (L : List VPart) (i : Nat) : vtotal (L.take i) ≤ vtotal L := by
  have : vtotal L = vtotal (L.take i) + vtotal (L.drop i) := by
    unfold vtotal; rw [← List.sum_append, ← List.map_append, List.take_append_drop]
  omega
end Go.Proofs.YtmkdbpdfonpfdaaDoor.Vct

/- Go's library on slices of slices of bytes, as contracts over the program: slices.Grow of nil, slices.Concat. -/
namespace Go.Proofs.YtmkdbpdfonpfdaaDoor.Vct
open Go.RowKit

theorem info_sl : (Tryd.prog.info? 29).map (fun i => (i.zero, i.size, i.bytes)) = some (some (.slice none 0 0), 1, 24) := by kernel_rfl

set_option maxHeartbeats 800000 in
set_option maxRecDepth 100000 in
/-- slices.Grow of nil: no elements, room for n. -/
theorem vgrow_nil (n : Nat) (hn : n ≤ 1099511627776) (w : World) :
    Calls Tryd.prog 72 #[.slice none 0 0, .int .i64 (n : Int)] w fun e w' =>
      ∃ v, e = .returned v ∧ w'.ownsRow w.heap.size 29 1 v 0 ([] : List Value) ∧ Below w.heap.size w w' := by
  obtain ⟨i0, hi, hz0, hz1, hz2⟩ := Sha.parts_of info_sl
  by_cases h0 : n = 0
  · subst h0
    go_enter Tryd.func72, Tryd.ntmps72
    go_wp2
    go_ret
    exact ⟨_, rfl, World.ownsRow_nil _ _ _ _, Below.refl _ _⟩
  · have hold : (Builtin.firstCells i0.size 0 (.slice none 0 0)).run Tryd.prog w.drew = .ok ([] : List Value).toArray w.drew := run_firstCells_none w.drew i0.size 0 0 0
    have hrz : ∀ ty, (Builtin.append_ #[48, 3] ty #[.slice none 0 0, .int .i64 (n : Int)]).run Tryd.prog w = _ := fun ty =>
      Lib.run_append_grow_zeros w 48 3 ty 29 i0 (.slice none 0 0) .i64 .i64 Tryd.underlying48 Tryd.underlying3 hi hz0 none 0 0 [] hold n (by omega) (by omega) (by omega) (by omega) (by rw [hz2]; omega) (growslice_fits (by omega) (by rw [hz2]; omega))
    have hge := grownCap_ge w (0 + n) 0 29
    have hle := grownCap_le_maxLen w (0 + n) 0 29 (by unfold maxLen; omega)
    generalize grownCap w (0 + n) 0 29 = G at *
    have hle' : G ≤ 9223372036854775807 := by unfold maxLen at hle; omega
    go_enter Tryd.func72, Tryd.ntmps72
    go_wp2_with (at_builtin; refine Lib.wpList_append_run _ rfl _ _ _ _ rfl _ _ rfl rfl _ _ (hrz _) ?_)
    go_ret
    refine ⟨_, rfl, ⟨rfl, .inr ⟨w.heap.size, G, _, rfl, Nat.le_refl _, Array.getElem?_push_size, Nat.zero_le _, hle, ?_, by simp⟩⟩, (Below.refl w.heap.size w).drew.alloc (Nat.le_refl _) _⟩
    simp [size_zeroCells]
    have : (Value.slice none 0 0).cells.size = 1 := rfl
    omega

set_option maxHeartbeats 1600000 in
set_option maxRecDepth 100000 in
/-- slices.Concat: all parts, one behind the other, in a row of its own. -/
theorem vconcat_any (L : List VPart) (g c B : Nat) (w : World) (hc : ∀ j (h : j < L.length), w.cell? ⟨g, j, none⟩ = some (L[j]).v) (hL : ∀ p ∈ L, p.Right w B) (hB : B ≤ w.heap.size) (hg : g < w.heap.size) (ht : vtotal L ≤ 1099511627776) (hl : L.length ≤ 1000000) :
    Calls Tryd.prog 52 #[.slice (some ⟨g, 0, none⟩) L.length c] w fun e w' =>
      ∃ v, e = .returned v ∧ w'.ownsRow w.heap.size 29 1 v (vtotal L) (vwhole L) ∧ Below w.heap.size w w' := by
  obtain ⟨i0, hi, hz0, hz1, hz2⟩ := Sha.parts_of info_sl
  have HC := Lib.hid hc
  have HL := Lib.hid hL
  clear hc hL
  go_enter Tryd.func52, Tryd.ntmps52
  go_wp2
  go_loop [11, 3] (fun a s => ∃ i : Nat, i ≤ L.length ∧ a = .int .i64 (i : Int) ∧ s = .int .i64 (vtotal (L.take i) : Int)) (fun a _ => L.length - (intOf a).toNat)
  case atStart => exact ⟨0, Nat.zero_le _, rfl, by simp [vtotal]⟩
  case round =>
    obtain ⟨i, hle, rfl, rfl⟩ := hrel
    by_cases hlt : i < L.length
    · have h1 := HC.out i hlt
      have h2 := vtotal_next hlt
      have h3 := vtotal_le L (i + 1)
      unfold VPart.v at h1
      generalize L[i] = p at *
      obtain ⟨A, n, c1, xs⟩ := p
      generalize vtotal (L.take i) = t at *
      have h4 : vtotal (L.take (i + 1)) ≤ 1099511627776 := by omega
      obtain ⟨t1, H1⟩ : ∃ t1, Hid (t1 = vtotal (L.take (i + 1))) := ⟨_, Lib.hid rfl⟩
      rw [← H1.out] at h2 h4
      have h5 : t1 = t + n := h2
      have hw : IntKind.i64.wrap ((t : Int) + (n : Int)) = (t1 : Int) := by rw [IntWalk.i64_in _ ⟨by omega, by omega⟩]; omega
      clear h2 h3 h4 h5
      go_wp2
      go_round
      case rel => exact ⟨i + 1, by omega, by go_num, by rw [H1.out]⟩
      case measure => simp [intOf]; omega
    · obtain rfl : i = L.length := by omega
      rw [List.take_length]
      go_wp2_with fail
      refine (vgrow_nil (vtotal L) ht w).mono ?_
      rintro e1 w1 ⟨v1, rfl, hown1, hb1⟩
      have HB1 := Lib.hid hb1
      have HO1 := Lib.hid hown1
      clear hb1 hown1
      go_wp2_with fail
      go_loopw [27, 6] (fun a v wr => ∃ i : Nat, i ≤ L.length ∧ a = .int .i64 (i : Int) ∧ Hid (wr.ownsRow w.heap.size 29 1 v (vtotal (L.take i)) (vwhole (L.take i))) ∧ Hid (Below w.heap.size w wr)) (fun a _ _ => L.length - (intOf a).toNat)
      case atStart => exact ⟨0, Nat.zero_le _, rfl, by simpa [vtotal, vwhole] using HO1, HB1⟩
      case round =>
        obtain ⟨i, hle, rfl, HO, HB⟩ := hrel
        by_cases hlt : i < L.length
        · have h1 := (HB.out.cell (p := ⟨g, i, none⟩) hg).trans (HC.out i hlt)
          have h2 := Lib.hid (vtotal_next hlt)
          have h2' := Lib.hid (vwhole_next hlt)
          have h3 := vtotal_le L (i + 1)
          obtain ⟨hr, hnil⟩ := HL.out _ (List.getElem_mem hlt)
          have hsum := vtotal_next hlt
          unfold VPart.v at h1
          generalize L[i] = p at *
          obtain ⟨A, n, c1, xs⟩ := p
          have hrow : Hid (VRow wr B A n xs) := hr.below (HB.out.mono hB)
          have hsz := HB.out.size
          have hsm : vtotal (L.take i) + n ≤ 1099511627776 := by simp only at hsum; omega
          have HN := Lib.hid hnil
          clear hr hnil hsum h3
          go_wp2_with (at_builtin; refine cat_vals rfl (.tmp 31) (.tmp 32) 48 rfl w.heap.size 29 i0 (.slice none 0 0) 24 Tryd.underlying48 hi hz0 rfl hz1 hz2 _ (vtotal (L.take i)) (vwhole (L.take i)) rfl HO.out B A n c1 xs rfl HN.out hrow.out hsm (by omega) hsz ?_; intro v2 w2 hown2 hb2; have HO2 := Lib.hid hown2; have HB2 := Lib.hid (HB.out.trans hb2); clear hown2 hb2)
          go_roundw
          case rel => exact ⟨i + 1, by omega, by go_num, by unfold Hid; rw [h2.out, h2'.out]; exact HO2.out, HB2⟩
          case measure => simp [intOf]; omega
        · obtain rfl : i = L.length := by omega
          rw [List.take_length] at HO
          go_wp2
          go_ret
          exact ⟨_, rfl, HO.out, HB.out⟩
end Go.Proofs.YtmkdbpdfonpfdaaDoor.Vct

/- Layer 8 (hmac): the program's Tag and Derive, as contracts. -/
namespace Go.Proofs.YtmkdbpdfonpfdaaDoor.Hmc
open Go.RowKit Sha Slc Vct

/-- Parts, as layer 7 has them. -/
def prt (p : Part) : Prt := ⟨p.A, p.n, p.c, p.xs⟩
theorem cats_prt : ∀ L : List Part, cats (L.map prt) = whole L
  | [] => rfl
  | p :: L => by
    have := cats_prt L
    unfold cats whole at *
    simp only [List.map_cons, List.flatten_cons, List.flatMap_cons, this]
    rfl
theorem Prs.ok {w : World} {B n : Nat} {A : Option Addr} {L : List Part} (h : Prs w B A n L) : ∀ p ∈ L.map prt, p.ok w B := fun p hp => by
  obtain ⟨q, hq, rfl⟩ := List.mem_map.1 hp
  exact ⟨(h.right q hq).1, (h.byt q hq).1, (h.byt q hq).2⟩
def pv (p : Prt) : Value := .slice p.A p.n p.c
theorem pv_one (ps : List Prt) : ∀ v ∈ ps.map pv, v.oneCell' = true := fun v hv => by
  obtain ⟨p, _, rfl⟩ := List.mem_map.1 hv
  rfl
/-- A slice that came in, as a row of values. -/
theorem vrow_prs {w : World} {B n : Nat} {A : Option Addr} {L : List Part} (h : Prs w B A n L) : VRow w B A n ((L.map prt).map pv) := by
  refine ⟨by simp [h.len], fun hn => ?_, pv_one _⟩
  obtain ⟨b, o, e, h1, h2⟩ := h.at_ hn
  refine ⟨b, o, e, h1, fun j v hj => ?_⟩
  have hjl : j < L.length := by
    have := (List.getElem?_eq_some_iff.1 hj).1
    simpa using this
  rw [h2 j hjl, ← hj]
  simp [hjl, pv, prt, Part.v]
/-- A row of slices, as layer 7 has it. -/
theorem prow_vrow {w : World} {B n : Nat} {A : Option Addr} {ps : List Prt} (h : VRow w B A n (ps.map pv)) (hok : ∀ p ∈ ps, p.ok w B) : PRow w B A ps := by
  refine ⟨fun j p hp => ?_, hok⟩
  have hjl := (List.getElem?_eq_some_iff.1 hp).1
  have hl := h.len
  rw [List.length_map] at hl
  obtain ⟨b, o, e, h1, h2⟩ := h.at_ (by omega)
  exact ⟨b, o, e, h1, h2 j _ (by rw [List.getElem?_map, hp]; rfl)⟩

theorem pown_below {w w' : World} {B : Nat} {A : Option Addr} {ps : List Prt} {n : Nat} (h : VRow w w.heap.size A n (ps.map pv)) (hok : ∀ p ∈ ps, p.ok w B) (hB : B ≤ w.heap.size) (hb : Below w.heap.size w w') : PRow w' w'.heap.size A ps :=
  prow_vrow ((h.below hb).more hb.size) (fun p hp => (((hok p hp).more hB).below hb).more hb.size)

set_option maxHeartbeats 1600000 in
set_option maxRecDepth 100000 in
theorem tag_any (A A' : Option Addr) (n c n' c' : Nat) (k : List Int) (L : List Part) (w : World) (h : Row .u8 w w.heap.size A n k) (hc : n ≤ c) (hk : ∀ x ∈ k, 0 ≤ x ∧ x ≤ 255) (hp : Prs w w.heap.size A' n' L) (hnil' : A' = none → c' = 0) (hn : n ≤ 1000000) (hn' : n' ≤ 1000000) (ht : total L ≤ 1000000) (hT : Lay w) :
    Calls Tryd.prog 51 #[.slice A n c, .slice A' n' c'] w fun e w' => ∃ v, e = .returned v ∧ w'.ownsRow w.heap.size 5 1 v 32 ((mac k (whole L)).map (Value.int .u8)) ∧ Below w.heap.size w w' := by
  have H := Lib.hid h
  have HK := Lib.hid hk
  have HNC := Lib.hid hc
  have HP := Lib.hid hp
  have HNIL := Lib.hid hnil'
  have HTO := Lib.hid ht
  have HT := Lib.hid hT
  have hz := zero64
  obtain ⟨Z, hZ⟩ : ∃ Z, bv (List.replicate 64 0) = Z := ⟨_, rfl⟩
  rw [hZ] at hz
  have HZL : Hid (Z.length = 64) := by unfold Hid; rw [← hZ]; rfl
  have hpad := padded_any A n c w.heap.size k w h (Nat.le_refl _) hc hk hn hT
  obtain ⟨F, hF⟩ : ∃ F, F = fil (ky k) := ⟨_, rfl⟩
  rw [← hF] at hpad
  have HPAD := Lib.hid hpad
  have HFL : Hid (F.length = 64) := by unfold Hid; rw [hF]; exact fil_len (ky_len k)
  have HFB : Hid (∀ x ∈ F, 0 ≤ x ∧ x ≤ 255) := by unfold Hid; rw [hF]; exact fil_byt (ky_byt hk)
  have HF1 : Hid ((bv F).toArray.all (·.oneCell') = true) := all_oneCell_toArray (bv_one _)
  have HFS : Hid ((bv F).toArray.size = 64) := by unfold Hid; rw [List.size_toArray, bv_len]; exact HFL.out
  have HSZ : Hid (Z.toArray.size = (bv F).toArray.size) := by unfold Hid; rw [HFS.out, List.size_toArray, HZL.out]
  have HI : Hid ((Tryd.prog.info? 103).map (·.size) = some (bv F).toArray.size) := by unfold Hid; rw [HFS.out]; exact info64b
  have HB54 : Hid (F.map (fun x => xr x 54) = blk k 54) := by unfold Hid; rw [hF]; exact (blk_fil k 54).symm
  have HB92 : Hid (F.map (fun x => xr x 92) = blk k 92) := by unfold Hid; rw [hF]; exact (blk_fil k 92).symm
  clear h hc hk hp hnil' ht hT hZ hpad hF
  go_enter Tryd.func51, Tryd.ntmps51
  go_wp2_with fail
  refine HPAD.out.mono ?_
  rintro e1 w1 ⟨rfl, hb1⟩
  have HB1 : Hid (Below w.heap.size w ((w1.alloc (.cells Z.toArray 103)).setRow w1.heap.size (bv F).toArray)) := Sha.below_setRow (hb1.alloc hb1.size _) hb1.size _
  have HK1 : Hid (((w1.alloc (.cells Z.toArray 103)).setRow w1.heap.size (bv F).toArray).heap[w1.heap.size]? = some (.cells (bv F).toArray 103 (0, 0))) := setRow_heap _ _ _ _ _ _ (heap_alloc_new w1 _)
  go_wp2_with (first
    | (with_reducible refine wpList_store_row rfl 103 (.tmp 5) (.tmp 8) rfl w1.heap.size (bv F).toArray rfl rfl 103 _ (heap_alloc_new w1 _) HI.out HSZ.out HF1.out ?_)
    | (with_reducible refine wpList_load_row rfl 103 (.tmp 5) rfl w1.heap.size rfl 103 (bv F).toArray (0, 0) _ HK1.out Tryd.underlying103 rfl HI.out ?_))
  generalize (w1.alloc (.cells Z.toArray 103)).setRow w1.heap.size (bv F).toArray = w2 at *
  have HG1 : Hid (w1.heap.size < w2.heap.size) := (Array.getElem?_eq_some_iff.1 HK1.out).1
  generalize w1.heap.size = G1 at *
  clear hb1
  refine (combined_any F 54 w2 HFL.out HFB.out (by omega)).mono ?_
  rintro e3 w3 ⟨rfl, hr3, hb3⟩
  rw [HB54.out] at hr3
  have HR3 := Lib.hid hr3
  have HB3 := Lib.hid hb3
  have HB03 := Lib.hid (HB1.out.trans (hb3.mono HB1.out.size))
  have HG23 : Hid (w2.heap.size ≤ w3.heap.size) := hb3.size
  generalize w2.heap.size = G2 at *
  clear hr3 hb3
  obtain ⟨w4, hw4⟩ : ∃ w4, (w3.alloc (.cells #[.slice (some ⟨G2, 0, none⟩) 64 64] 29)).alloc (.cells #[.slice (some ⟨w3.heap.size, 0, none⟩) 1 1, .slice A' n' c'] 48) = w4 := ⟨_, rfl⟩
  have HB34 : Hid (Below w3.heap.size w3 w4) := by unfold Hid; rw [← hw4]; exact ((Below.refl _ _).alloc (Nat.le_refl _) _).alloc (by simp) _
  have HS4 : Hid (w4.heap.size = w3.heap.size + 1 + 1) := by unfold Hid; rw [← hw4]; simp
  have HC4 : Hid (w4.heap[w3.heap.size]? = some (.cells #[.slice (some ⟨G2, 0, none⟩) 64 64] 29 (0, 0))) := by unfold Hid; rw [← hw4]; exact heap_alloc2_old w3 _ _
  have HD4 : Hid (w4.heap[w3.heap.size + 1]? = some (.cells #[.slice (some ⟨w3.heap.size, 0, none⟩) 1 1, .slice A' n' c'] 48 (0, 0))) := by unfold Hid; rw [← hw4]; exact heap_alloc2_new w3 _ _
  have HW4 := Lib.hid hw4
  clear hw4
  obtain ⟨ps, hps⟩ : ∃ ps, ps = (⟨some ⟨G2, 0, none⟩, 64, 64, blk k 54⟩ : Prt) :: L.map prt := ⟨_, rfl⟩
  obtain ⟨VL, hVL⟩ : ∃ VL, VL = [(⟨some ⟨w3.heap.size, 0, none⟩, 1, 1, [.slice (some ⟨G2, 0, none⟩) 64 64]⟩ : VPart), ⟨A', n', c', (L.map prt).map pv⟩] := ⟨_, rfl⟩
  have HVT : Hid (vtotal VL = 1 + n') := by unfold Hid; rw [hVL]; simp [vtotal]
  have HVW : Hid (vwhole VL = ps.map pv) := by unfold Hid; rw [hVL, hps]; simp [vwhole, pv]
  have HOK : Hid (∀ p ∈ ps, p.ok w3 w3.heap.size) := by
    unfold Hid
    rw [hps]
    intro p hp
    rcases List.mem_cons.1 hp with rfl | hp
    · exact ⟨HR3.out, Nat.le_refl _, blk_byt HK.out (by omega)⟩
    · exact ((Prs.ok HP.out p hp).below HB03.out).more HB03.out.size
  have HCAT : Hid (cats ps = blk k 54 ++ whole L) := by unfold Hid; rw [hps, ← cats_prt]; simp [cats]
  have HCL : Hid ((cats ps).length ≤ 1099511627776) := by
    unfold Hid
    rw [HCAT.out, List.length_append, blk_len, whole_len HP.out.right]
    have := HTO.out
    omega
  have HPN : Hid (ps.length = 1 + n') := by unfold Hid; rw [hps]; have := HP.out.len; simp; omega
  have HCON := Lib.hid (vconcat_any VL (w3.heap.size + 1) 2 w4.heap.size w4 (by
      rw [hVL]
      intro j hj
      refine cell_of_blk HD4.out ?_
      match j, hj with
      | 0, _ => rfl
      | 1, _ => rfl) (by
      rw [hVL]
      intro p hp
      rcases List.mem_cons.1 hp with rfl | hp
      · exact ⟨(VRow.of_blk (vs := [.slice (some ⟨G2, 0, none⟩) 64 64]) (B := w4.heap.size) HC4.out (by have := HS4.out; omega) rfl (by simp [Value.oneCell'])), fun h => by cases h⟩
      · obtain rfl := List.mem_singleton.1 hp
        exact ⟨(((vrow_prs HP.out).below HB03.out).below (HB34.out.mono HB03.out.size)).more (by have h1 := HB03.out.size; have h2 := HB34.out.size; omega), HNIL.out⟩) (Nat.le_refl _) (by have := HS4.out; omega) (by rw [HVT.out]; omega) (by rw [hVL]; simp))
  rw [HVT.out, HVW.out, show VL.length = 2 by rw [hVL]; rfl] at HCON
  clear hps hVL
  go_wp2_with fail
  rw [HW4.out]
  refine HCON.out.mono ?_
  rintro e5 w5 ⟨v5, rfl, hown5, hb5⟩
  obtain ⟨A5, c5, rfl, -, -⟩ := own_slice hown5
  have HV5 := Lib.hid (VRow.of_own hown5 (pv_one ps))
  have HB35 := Lib.hid (HB34.out.trans (hb5.mono HB34.out.size))
  have HB05 := Lib.hid (HB03.out.trans (HB35.out.mono HB03.out.size))
  have HK5 : Hid (w5.heap[G1]? = some (.cells (bv F).toArray 103 (0, 0))) := (HB35.out.block G1 (by have h1 := HG1.out; have h2 := HG23.out; omega)).trans ((HB3.out.block G1 HG1.out).trans HK1.out)
  have HOK5 : Hid (∀ p ∈ ps, p.ok w5 w3.heap.size) := fun p hp => (HOK.out p hp).below HB35.out
  have HL35 := Lib.hid HB35.out.size
  clear hown5 hb5
  go_wp2_with (with_reducible refine wpList_load_row rfl 103 (.tmp 5) rfl G1 rfl 103 (bv F).toArray (0, 0) _ HK5.out Tryd.underlying103 rfl HI.out ?_)
  refine (combined_any F 92 w5 HFL.out HFB.out (by omega)).mono ?_
  rintro e6 w6 ⟨rfl, hr6, hb6⟩
  rw [HB92.out] at hr6
  have HR6 := Lib.hid hr6
  have HB6 := Lib.hid hb6
  have HB06 := Lib.hid (HB05.out.trans (hb6.mono HB05.out.size))
  have HP6 := Lib.hid (pown_below HV5.out HOK5.out HL35.out hb6)
  have HT6 := Lib.hid (HT.out.below HB06.out HT.out.tab.1)
  clear hr6 hb6
  go_wp2_with fail
  refine (parts_any A5 (1 + n') c5 w6.heap.size ps w6 HP6.out HPN.out (by omega) (Nat.le_refl _) HCL.out HT6.out).mono ?_
  rintro e7 w7 ⟨v7, rfl, hown7, hb7⟩
  rw [show outs (blocks ks hs (pad (cats ps)) ((pad (cats ps)).length / 64)) 8 = sum256 (cats ps) from rfl, HCAT.out] at hown7
  obtain ⟨A7, c7, rfl, hc7, -⟩ := own_slice hown7
  have HR7 : Hid (Row .u8 w7 w7.heap.size A7 32 (sum256 (blk k 54 ++ whole L))) := Row.of_own hown7
  have HB07 := Lib.hid (HB06.out.trans (hb7.mono HB06.out.size))
  have HP8 := Lib.hid (prow_lit (t := 29) (w := w7) (B := w7.heap.size) [⟨some ⟨w5.heap.size, 0, none⟩, 64, 64, blk k 92⟩, ⟨A7, 32, c7, sum256 (blk k 54 ++ whole L)⟩] (by
    intro p hp
    rcases List.mem_cons.1 hp with rfl | hp
    · exact ⟨(HR6.out.below hb7).more hb7.size, Nat.le_refl _, blk_byt HK.out (by omega)⟩
    · obtain rfl := List.mem_singleton.1 hp
      exact ⟨HR7.out, hc7, sum256_byt _⟩) (Nat.le_refl _))
  have HB78 : Hid (Below w.heap.size w (w7.alloc (.cells #[.slice (some ⟨w5.heap.size, 0, none⟩) 64 64, .slice A7 32 c7] 29))) := HB07.out.alloc HB07.out.size _
  have HT8 := Lib.hid (HT.out.below HB78.out HT.out.tab.1)
  have HCAT8 : Hid (cats [⟨some ⟨w5.heap.size, 0, none⟩, 64, 64, blk k 92⟩, ⟨A7, 32, c7, sum256 (blk k 54 ++ whole L)⟩] = blk k 92 ++ sum256 (blk k 54 ++ whole L)) := by unfold Hid; simp [cats]
  have HCL8 : Hid ((cats [⟨some ⟨w5.heap.size, 0, none⟩, 64, 64, blk k 92⟩, ⟨A7, 32, c7, sum256 (blk k 54 ++ whole L)⟩]).length ≤ 1099511627776) := by
    unfold Hid
    rw [HCAT8.out, List.length_append, blk_len, sum256_len]
    omega
  have HMAC : Hid (sum256 (blk k 92 ++ sum256 (blk k 54 ++ whole L)) = mac k (whole L)) := rfl
  clear hown7 hb7 hc7
  go_wp2_with fail
  refine (parts_any (some ⟨w7.heap.size, 0, none⟩) 2 2 (w7.heap.size + 1) [⟨some ⟨w5.heap.size, 0, none⟩, 64, 64, blk k 92⟩, ⟨A7, 32, c7, sum256 (blk k 54 ++ whole L)⟩] _ HP8.out rfl (by omega) (by simp) HCL8.out HT8.out).mono ?_
  rintro e9 w9 ⟨v9, rfl, hown9, hb9⟩
  rw [HCAT8.out] at hown9
  rw [show outs (blocks ks hs (pad (blk k 92 ++ sum256 (blk k 54 ++ whole L))) ((pad (blk k 92 ++ sum256 (blk k 54 ++ whole L))).length / 64)) 8 = mac k (whole L) from rfl] at hown9
  have HO9 := Lib.hid (own_low hown9 HB78.out.size)
  have HB9 := Lib.hid (HB78.out.trans (hb9.mono HB78.out.size))
  clear hown9 hb9
  go_wp2
  go_ret
  exact ⟨_, rfl, HO9.out, HB9.out⟩

/-- A row of slices as parts. -/
theorem prs_vrow {w : World} {B n : Nat} {A : Option Addr} {L : List Part} (h : VRow w B A n ((L.map prt).map pv)) (hr : ∀ p ∈ L, p.Right w B) (hb : ∀ p ∈ L, p.n ≤ p.c ∧ ∀ x ∈ p.xs, 0 ≤ x ∧ x ≤ 255) : Prs w B A n L := by
  have hl := h.len
  rw [List.length_map, List.length_map] at hl
  refine ⟨hl, fun hn => ?_, hr, hb⟩
  obtain ⟨b, o, e, h1, h2⟩ := h.at_ hn
  refine ⟨b, o, e, h1, fun j hj => h2 j _ ?_⟩
  simp [hj, pv, prt, Part.v]

set_option maxHeartbeats 1600000 in
set_option maxRecDepth 100000 in
theorem derive_any (A A' : Option Addr) (n c n' c' : Nat) (k : List Int) (s : ByteArray) (L : List Part) (w : World) (h : Row .u8 w w.heap.size A n k) (hc : n ≤ c) (hk : ∀ x ∈ k, 0 ≤ x ∧ x ≤ 255) (hp : Prs w w.heap.size A' n' L) (hnil' : A' = none → c' = 0) (hn : n ≤ 100000) (hs : s.size ≤ 100000) (hn' : n' ≤ 100000) (ht : total L ≤ 100000) (hT : Lay w) :
    Calls Tryd.prog 25 #[.slice A n c, .string s, .slice A' n' c'] w fun e w' => ∃ v, e = .returned v ∧ w'.ownsRow w.heap.size 5 1 v 32 ((mac k (sby s ++ 0 :: whole L)).map (Value.int .u8)) ∧ Below w.heap.size w w' := by
  have H := Lib.hid h
  have HK := Lib.hid hk
  have HNC := Lib.hid hc
  have HP := Lib.hid hp
  have HNIL := Lib.hid hnil'
  have HTO := Lib.hid ht
  have HT := Lib.hid hT
  have kc := fun (w : World) => run_bytes_of_string (P := Tryd.prog) w 9 29 5 s Tryd.underlying9 Tryd.underlying29 Tryd.underlying5
  have hm0 := mine_bytes w 5 s (by omega)
  have hb0 := (Below.refl w.heap.size w).drew.alloc (Nat.le_refl _) (.cells (bytesRow s (grownCap w s.size 0 5)) 5 ((bytesRow s (grownCap w s.size 0 5)).size, (bytesRow s (grownCap w s.size 0 5)).size + 1))
  obtain ⟨cap, hcap⟩ : ∃ cap, grownCap w s.size 0 5 = cap := ⟨_, rfl⟩
  have kc0 := kc w
  rw [hcap] at hm0 hb0 kc0
  obtain ⟨O, hO⟩ : ∃ O, Obj.cells (bytesRow s cap) 5 ((bytesRow s cap).size, (bytesRow s cap).size + 1) = O := ⟨_, rfl⟩
  rw [hO] at hm0 hb0 kc0
  obtain ⟨w4, hw4⟩ : ∃ w4, ((((w.alloc O).alloc (.cells #[.int .u8 0] 5)).alloc (.cells #[.slice (some ⟨w.heap.size, 0, none⟩) s.size cap, .slice (some ⟨w.heap.size + 1, 0, none⟩) 1 1] 29)).alloc (.cells #[.slice (some ⟨w.heap.size + 1 + 1, 0, none⟩) 2 2, .slice A' n' c'] 48)).drew = w4 := ⟨_, rfl⟩
  have HS4 : Hid (w4.heap.size = w.heap.size + 1 + 1 + 1 + 1) := by unfold Hid; rw [← hw4]; simp
  have HB4 : Hid (Below w.heap.size w w4) := by unfold Hid; rw [← hw4]; exact (((hb0.alloc (by simp) _).alloc (by simp; omega) _).alloc (by simp; omega) _)
  have HN4 : Hid (Row .u8 w4 w4.heap.size (some ⟨w.heap.size, 0, none⟩) s.size (sby s)) := by
    unfold Hid
    rw [← hw4]
    have hb1 : Below (w.drew.alloc O).heap.size (w.drew.alloc O) ((((w.drew.alloc O).alloc (.cells #[.int .u8 0] 5)).alloc (.cells #[.slice (some ⟨w.heap.size, 0, none⟩) s.size cap, .slice (some ⟨w.heap.size + 1, 0, none⟩) 1 1] 29)).alloc (.cells #[.slice (some ⟨w.heap.size + 1 + 1, 0, none⟩) 2 2, .slice A' n' c'] 48)) := (((Below.refl _ _).alloc (Nat.le_refl _) _).alloc (by simp) _).alloc (by simp <;> omega) _
    exact (hm0.row.below hb1).more hb1.size
  have HZ4 : Hid (w4.heap[w.heap.size + 1]? = some (.cells #[.int .u8 0] 5 (0, 0))) := by
    unfold Hid
    rw [← hw4]
    show ((((w.alloc O).alloc (.cells #[.int .u8 0] 5)).alloc _).alloc _).heap[w.heap.size + 1]? = _
    rw [heap_alloc_old _ _ (by simp <;> omega), heap_alloc_old _ _ (by simp <;> omega)]
    exact heap_alloc2_new w O _
  have HC4 : Hid (w4.heap[w.heap.size + 1 + 1]? = some (.cells #[.slice (some ⟨w.heap.size, 0, none⟩) s.size cap, .slice (some ⟨w.heap.size + 1, 0, none⟩) 1 1] 29 (0, 0))) := by
    unfold Hid
    rw [← hw4]
    show ((((w.alloc O).alloc (.cells #[.int .u8 0] 5)).alloc _).alloc _).heap[w.heap.size + 1 + 1]? = _
    rw [heap_alloc_old _ _ (by simp)]
    exact Sha.heap3 w _ _ _
  have HD4 : Hid (w4.heap[w.heap.size + 1 + 1 + 1]? = some (.cells #[.slice (some ⟨w.heap.size + 1 + 1, 0, none⟩) 2 2, .slice A' n' c'] 48 (0, 0))) := by
    unfold Hid
    rw [← hw4]
    have e : (((w.alloc O).alloc (.cells #[.int .u8 0] 5)).alloc (.cells #[.slice (some ⟨w.heap.size, 0, none⟩) s.size cap, .slice (some ⟨w.heap.size + 1, 0, none⟩) 1 1] 29)).heap.size = w.heap.size + 1 + 1 + 1 := by simp
    rw [← e]
    exact heap_alloc_new _ _
  have HCAP : Hid (s.size ≤ cap) := by unfold Hid; rw [← hcap]; exact grownCap_ge w s.size 0 5
  obtain ⟨LL, hLL⟩ : ∃ LL, LL = (⟨some ⟨w.heap.size, 0, none⟩, s.size, cap, sby s⟩ : Part) :: ⟨some ⟨w.heap.size + 1, 0, none⟩, 1, 1, [0]⟩ :: L := ⟨_, rfl⟩
  obtain ⟨VL, hVL⟩ : ∃ VL, VL = [(⟨some ⟨w.heap.size + 1 + 1, 0, none⟩, 2, 2, [.slice (some ⟨w.heap.size, 0, none⟩) s.size cap, .slice (some ⟨w.heap.size + 1, 0, none⟩) 1 1]⟩ : VPart), ⟨A', n', c', (L.map prt).map pv⟩] := ⟨_, rfl⟩
  have HVT : Hid (vtotal VL = 2 + n') := by unfold Hid; rw [hVL]; simp [vtotal]
  have HVW : Hid (vwhole VL = (LL.map prt).map pv) := by unfold Hid; rw [hVL, hLL]; simp [vwhole, pv, prt]
  have HRI : Hid (∀ p ∈ LL, p.Right w4 w4.heap.size) := by
    unfold Hid
    rw [hLL]
    intro p hp
    rcases List.mem_cons.1 hp with rfl | hp
    · exact ⟨HN4.out, fun h => by cases h⟩
    · rcases List.mem_cons.1 hp with rfl | hp
      · refine ⟨⟨rfl, fun _ => ⟨w.heap.size + 1, 0, rfl, by have := HS4.out; omega, fun j hj => ?_⟩⟩, fun h => by cases h⟩
        obtain rfl : j = 0 := by simp at hj; omega
        exact cell_of_blk HZ4.out rfl
      · exact ⟨((HP.out.right p hp).1.below HB4.out).more HB4.out.size, (HP.out.right p hp).2⟩
  have HBY : Hid (∀ p ∈ LL, p.n ≤ p.c ∧ ∀ x ∈ p.xs, 0 ≤ x ∧ x ≤ 255) := by
    unfold Hid
    rw [hLL]
    intro p hp
    rcases List.mem_cons.1 hp with rfl | hp
    · exact ⟨HCAP.out, sby_byt s⟩
    · rcases List.mem_cons.1 hp with rfl | hp
      · exact ⟨Nat.le_refl _, by simp⟩
      · exact HP.out.byt p hp
  have HWH : Hid (whole LL = sby s ++ 0 :: whole L) := by unfold Hid; rw [hLL]; simp [whole]
  have HTL : Hid (total LL ≤ 1000000) := by
    unfold Hid
    rw [hLL]
    have h1 := HTO.out
    unfold total at *
    simp only [List.map_cons, List.sum_cons]
    omega
  have HCON := Lib.hid (vconcat_any VL (w.heap.size + 1 + 1 + 1) 2 w4.heap.size w4 (by
      rw [hVL]
      intro j hj
      refine cell_of_blk HD4.out ?_
      match j, hj with
      | 0, _ => rfl
      | 1, _ => rfl) (by
      rw [hVL]
      intro p hp
      rcases List.mem_cons.1 hp with rfl | hp
      · exact ⟨(VRow.of_blk (vs := [.slice (some ⟨w.heap.size, 0, none⟩) s.size cap, .slice (some ⟨w.heap.size + 1, 0, none⟩) 1 1]) (B := w4.heap.size) HC4.out (by have := HS4.out; omega) rfl (by simp [Value.oneCell'])), fun h => by cases h⟩
      · obtain rfl := List.mem_singleton.1 hp
        exact ⟨((vrow_prs HP.out).below HB4.out).more HB4.out.size, HNIL.out⟩) (Nat.le_refl _) (by have := HS4.out; omega) (by rw [HVT.out]; omega) (by rw [hVL]; simp))
  rw [HVT.out, HVW.out, show VL.length = 2 by rw [hVL]; rfl] at HCON
  have HW4 := Lib.hid hw4
  clear kc hcap hO h hc hk hp hnil' ht hT hm0 hb0 hw4 hLL hVL
  go_enter Tryd.func25, Tryd.ntmps25
  go_wp2_with fail
  rw [HW4.out]
  refine HCON.out.mono ?_
  rintro e5 w5 ⟨v5, rfl, hown5, hb5⟩
  obtain ⟨A5, c5, rfl, -, hnil5⟩ := own_slice hown5
  have HP5 : Hid (Prs w5 w5.heap.size A5 (2 + n') LL) := prs_vrow (VRow.of_own hown5 (pv_one _)) (fun p hp => ⟨((HRI.out p hp).1.below hb5).more hb5.size, (HRI.out p hp).2⟩) HBY.out
  have HB5 := Lib.hid (HB4.out.trans (hb5.mono HB4.out.size))
  have HNIL5 := Lib.hid hnil5
  have H5 := Lib.hid ((H.out.below HB5.out).more HB5.out.size)
  have HT5 := Lib.hid (HT.out.below HB5.out HT.out.tab.1)
  clear hown5 hb5 hnil5
  go_wp2_with fail
  refine (tag_any A A5 n c (2 + n') c5 k LL w5 H5.out HNC.out HK.out HP5.out HNIL5.out (by omega) (by omega) HTL.out HT5.out).mono ?_
  rintro e6 w6 ⟨v6, rfl, hown6, hb6⟩
  rw [HWH.out] at hown6
  have HO6 := Lib.hid (own_low hown6 HB5.out.size)
  have HB6 := Lib.hid (HB5.out.trans (hb6.mono HB5.out.size))
  clear hown6 hb6
  go_wp2
  go_ret
  exact ⟨_, rfl, HO6.out, HB6.out⟩
end Go.Proofs.YtmkdbpdfonpfdaaDoor.Hmc

/- Layer 7 (sha): the program's at and Same, as contracts. -/
namespace Go.Proofs.YtmkdbpdfonpfdaaDoor.Sha
open Go.RowKit

set_option maxHeartbeats 800000 in
set_option maxRecDepth 100000 in
theorem at_any (A : Option Addr) (n c B k : Nat) (xs : List Int) (w : World) (h : Row .u8 w B A n xs) : Calls Tryd.prog 50 #[.slice A n c, .int .i64 (k : Int)] w fun e w' => e = .returned (.int .u8 (xs.getD k 0)) ∧ w = w' := by
  by_cases hk : k < n
  · obtain ⟨b, o, rfl, _, hc⟩ := h.cell_at hk
    have H := Lib.hid h
    clear h
    go_enter Tryd.func50, Tryd.ntmps50
    go_wp2
    go_ret
    exact ⟨rfl, rfl⟩
  · have e : xs.getD k 0 = 0 := by
      have := h.len
      rw [List.getD, List.getElem?_eq_none (by omega)]
      rfl
    rw [e]
    clear e h
    go_enter Tryd.func50, Tryd.ntmps50
    go_wp2
    go_ret
    exact ⟨rfl, rfl⟩

theorem xor_zero_iff (a b : Nat) : a ^^^ b = 0 ↔ a = b := by
  constructor
  · intro h
    have : (a ^^^ b) ^^^ b = 0 ^^^ b := by rw [h]
    rwa [Nat.xor_assoc, Nat.xor_self, Nat.xor_zero, Nat.zero_xor] at this
  · rintro rfl; exact Nat.xor_self a
theorem i64_xor_nat (a b : Nat) (ha : a < 4611686018427387904) (hb : b < 4611686018427387904) : bits .xor .i64 (a : Int) (b : Int) = ((a ^^^ b : Nat) : Int) := by
  have hx : a ^^^ b < 2 ^ 62 := Nat.xor_lt_two_pow (by omega) (by omega)
  show IntKind.i64.wrap ((BitVec.ofInt 64 (a : Int) ^^^ BitVec.ofInt 64 (b : Int)).toNat : Int) = _
  rw [BitVec.toNat_xor, ofInt_u64 a (by omega), ofInt_u64 b (by omega), IntKind.wrap_i64]
  omega
theorem i64_or_nat (a b : Nat) (ha : a < 4611686018427387904) (hb : b < 4611686018427387904) : bits .or .i64 (a : Int) (b : Int) = ((a ||| b : Nat) : Int) := by
  have hx : a ||| b < 2 ^ 62 := Nat.or_lt_two_pow (by omega) (by omega)
  show IntKind.i64.wrap ((BitVec.ofInt 64 (a : Int) ||| BitVec.ofInt 64 (b : Int)).toNat : Int) = _
  rw [BitVec.toNat_or, ofInt_u64 a (by omega), ofInt_u64 b (by omega), IntKind.wrap_i64]
  omega

/-- What has been found to differ: lists of bytes, up to place k. -/
structure Dif (n n' : Nat) (xs ys : List Int) (k D : Nat) : Prop where
  lt : D < 4398046511104
  iff : D = 0 ↔ (n = n' ∧ ∀ j, j < k → xs.getD j 0 = ys.getD j 0)
theorem Dif.start {n n' : Nat} (xs ys : List Int) (hn : n ≤ 1099511627776) (hn' : n' ≤ 1099511627776) : Dif n n' xs ys 0 (n ^^^ n') :=
  ⟨Nat.xor_lt_two_pow (n := 42) (by omega) (by omega), by
    constructor
    · intro h; exact ⟨(xor_zero_iff _ _).1 h, by intro j hj; omega⟩
    · rintro ⟨rfl, -⟩; exact Nat.xor_self n⟩
theorem Dif.step {n n' k D : Nat} {xs ys : List Int} (h : Dif n n' xs ys k D) (x y : Nat) (hx : xs.getD k 0 = (x : Int)) (hy : ys.getD k 0 = (y : Int)) (bx : x < 256) (bY : y < 256) : Dif n n' xs ys (k + 1) (D ||| (x ^^^ y)) :=
  ⟨Nat.or_lt_two_pow (n := 42) h.lt (Nat.lt_trans (Nat.xor_lt_two_pow (n := 8) bx bY) (by omega)), by
    rw [Nat.or_eq_zero_iff, xor_zero_iff, h.iff]
    constructor
    · rintro ⟨⟨e, h1⟩, h2⟩
      refine ⟨e, fun j hj => ?_⟩
      by_cases hjk : j = k
      · subst hjk; rw [hx, hy, h2]
      · exact h1 j (by omega)
    · rintro ⟨e, h1⟩
      refine ⟨⟨e, fun j hj => h1 j (by omega)⟩, ?_⟩
      have := h1 k (by omega)
      omega⟩
theorem Dif.ends {n n' k D : Nat} {xs ys : List Int} (h : Dif n n' xs ys k D) (hx : xs.length = n) (hy : ys.length = n') (hk : k = max n n') : D = 0 ↔ xs = ys := by
  rw [h.iff]
  constructor
  · rintro ⟨e, h1⟩
    apply List.ext_getElem (by omega)
    intro i h2 h3
    have := h1 i (by omega)
    simpa [List.getD, h2, h3] using this
  · rintro rfl
    exact ⟨by omega, fun _ _ => rfl⟩
theorem byte_nat {b : List Int} (hb : ∀ x ∈ b, 0 ≤ x ∧ x ≤ 255) (i : Nat) : ∃ y : Nat, b.getD i 0 = (y : Int) ∧ y < 256 := by
  by_cases h : i < b.length
  · have := hb b[i] (List.getElem_mem h)
    refine ⟨(b[i]).toNat, ?_, by omega⟩
    rw [List.getD, List.getElem?_eq_getElem h]
    simp
    omega
  · exact ⟨0, by rw [List.getD, List.getElem?_eq_none (by omega)]; rfl, by omega⟩

set_option maxHeartbeats 1600000 in
set_option maxRecDepth 100000 in
theorem psame_any (A A' : Option Addr) (n c n' c' B B' : Nat) (xs ys : List Int) (w : World) (h : Row .u8 w B A n xs) (h' : Row .u8 w B' A' n' ys) (hn : n ≤ 1099511627776) (hn' : n' ≤ 1099511627776)
    (hb : ∀ x ∈ xs, 0 ≤ x ∧ x ≤ 255) (hb' : ∀ x ∈ ys, 0 ≤ x ∧ x ≤ 255) :
    Calls Tryd.prog 24 #[.slice A n c, .slice A' n' c'] w fun e w' => e = .returned (.bool (decide (xs = ys))) ∧ ∃ q, w' = w.drewN q := by
  have hd := Dif.start xs ys hn hn'
  have H := Lib.hid h
  have H' := Lib.hid h'
  have HD := Lib.hid hd
  have HB := Lib.hid hb
  have HB' := Lib.hid hb'
  clear h h' hd hb hb'
  have hx : bits .xor .i64 (n : Int) (n' : Int) = ((n ^^^ n' : Nat) : Int) := i64_xor_nat n n' (by omega) (by omega)
  have hmx : max (n : Int) (n' : Int) = ((max n n' : Nat) : Int) := by omega
  obtain ⟨M, hM⟩ : ∃ M, max n n' = M := ⟨_, rfl⟩
  rw [hM] at hmx
  have hMb : M ≤ 1099511627776 := by omega
  have HM := Lib.hid hM
  clear hM
  go_enter Tryd.func24, Tryd.ntmps24
  go_wp2_with fail
  go_loopw [5, 17] (fun d i wr => ∃ k D q : Nat, k ≤ M ∧ i = .int .i64 (k : Int) ∧ d = .int .i64 (D : Int) ∧ Hid (Dif n n' xs ys k D) ∧ Hid (wr = w.drewN q)) (fun _ i _ => M - (intOf i).toNat)
  case atStart => exact ⟨0, _, 0, Nat.zero_le _, rfl, rfl, HD, rfl⟩
  case round =>
    obtain ⟨k, D, q, hk, rfl, rfl, HDk, hw⟩ := hrel
    by_cases hlt : k < M
    · obtain ⟨x, hx1, hx2⟩ := byte_nat HB.out k
      obtain ⟨y, hy1, hy2⟩ := byte_nat HB'.out k
      have HX := Lib.hid hx1
      have HY := Lib.hid hy1
      have HS := Lib.hid (HDk.out.step x y hx1 hy1 hx2 hy2)
      have HR : Hid (Row .u8 wr B A n xs) := by rw [hw.out]; exact H.out
      have HR' : Hid (Row .u8 wr B' A' n' ys) := by rw [hw.out]; exact H'.out
      have hDl := HDk.out.lt
      have hxy : bits .xor .u8 (x : Int) (y : Int) = ((x ^^^ y : Nat) : Int) := u8_xor_nat x y hx2 hy2
      have hxb : x ^^^ y < 256 := Nat.xor_lt_two_pow (n := 8) hx2 hy2
      obtain ⟨z, hz⟩ : ∃ z, x ^^^ y = z := ⟨_, rfl⟩
      rw [hz] at hxy hxb HS
      have hor : bits .or .i64 (D : Int) (z : Int) = ((D ||| z : Nat) : Int) := i64_or_nat D z (by omega) (by omega)
      clear hx1 hy1 hx2 hy2 hz HDk
      go_wp2_with fail
      refine (at_any A n c B k xs _ HR.out).mono ?_
      rintro e1 w1 ⟨rfl, rfl⟩
      rw [HX.out]
      go_wp2_with fail
      refine (at_any A' n' c' B' k ys _ HR'.out).mono ?_
      rintro e1 w1 ⟨rfl, rfl⟩
      rw [HY.out]
      go_wp2
      go_roundw
      case rel => exact ⟨k + 1, _, q, by omega, by go_num, rfl, HS, hw⟩
      case measure => simp [intOf]; omega
    · have hkM : k = max n n' := by rw [HM.out]; omega
      have hiff := HDk.out.ends H.out.len H'.out.len hkM
      by_cases hD : D = 0
      · have hb1 : ((D : Int) == 0) = true := beq_iff_eq.2 (by omega)
        have HE : Hid (xs = ys) := hiff.1 hD
        clear hiff hkM hb1 HDk
        subst hD
        go_wp2
        go_ret
        exact ⟨by rw [decide_eq_true HE.out]; rfl, q, hw.out⟩
      · have hb1 : ((D : Int) == 0) = false := beq_eq_false_iff_ne.2 (by omega)
        have HE : Hid (¬ xs = ys) := fun h => hD (hiff.2 h)
        clear hiff hkM HDk
        go_wp2
        go_ret
        exact ⟨by rw [decide_eq_false HE.out]; rfl, q, hw.out⟩
end Go.Proofs.YtmkdbpdfonpfdaaDoor.Sha

/- Layer 10 (token): the program's Derive and Same do what the laws' walks ask of them. -/
namespace Go.Proofs.YtmkdbpdfonpfdaaDoor.Tok
open Go.RowKit Slc Sha Hmc Rg

theorem der_ok : DerOk := fun A A' n c n' c' k s L w h _ hc hk hp hnil' _ hn hs hn' ht hT => derive_any A A' n c n' c' k s L w h hc hk hp hnil' hn hs hn' ht hT
theorem sam_ok : SamOk := fun A A' n c n' c' xs ys w h h' hn hn' hx hy => (psame_any A A' n c n' c' _ _ xs ys w h h' (by omega) (by omega) hx hy).mono fun x w' ⟨h1, q, h2⟩ => ⟨h1, by subst h2; exact Rg.below_drewN (Below.refl _ _)⟩
end Go.Proofs.YtmkdbpdfonpfdaaDoor.Tok

/- Layer 9 (ring): the name of the keys, and a key that was made. -/
namespace Go.Proofs.YtmkdbpdfonpfdaaDoor.Rg
open Go.RowKit Sha Hmc Slc

/-- The name of the keys. -/
def epoB : ByteArray := ⟨#[101, 112, 111, 99, 104]⟩
theorem epoB_sby : sby epoB = epo := by decide +kernel
theorem info_key : (Tryd.prog.info? 58).map (fun i => (i.zero, i.size, i.bytes)) = some (some (.agg #[.int .i64 0, .slice none 0 0]), 2, 32) := by kernel_rfl
theorem own_addr {w : World} {base n c : Nat} {e : TypeId} {A : Option Addr} {xs : List Value} (h : w.ownsRow base e 1 (.slice A n c) n xs) : ∀ b o, A = some ⟨b, o, none⟩ → base ≤ b := by
  intro b o ha
  subst ha
  exact (h.lt b rfl).1
/-- A key that was made, laid as a slice of one key. -/
theorem laid_key {w1 w5 : World} {base m : Nat} {v : Value} {K0 : List Kp} {A5 : Option Addr} {c5 : Nat} {e : Int} {xs : List Int} {tk : TypeId} (hown : w1.ownsRow base 58 2 v m (kflat K0)) (hb : Below w1.heap.size w1 w5) (hk : w5.ownsRow w1.heap.size 5 1 (.slice A5 32 c5) 32 (xs.map (Value.int .u8))) (hc : 32 ≤ c5) (hn : A5 = none → c5 = 0) (hx : ∀ x ∈ xs, 0 ≤ x ∧ x ≤ 255) (he : 0 ≤ e ∧ e ≤ 16777216) :
    (w5.alloc (.cells #[.int .i64 e, .slice A5 32 c5] tk)).ownsRow base 58 2 v m (kflat K0) ∧ KRow (w5.alloc (.cells #[.int .i64 e, .slice A5 32 c5] tk)) (w5.heap.size + 1) (some ⟨w5.heap.size, 0, none⟩) 1 [⟨e, ⟨A5, 32, c5, xs⟩⟩] := by
  have hba : Below w5.heap.size w5 (w5.alloc (.cells #[.int .i64 e, .slice A5 32 c5] tk)) := (Below.refl _ _).alloc (Nat.le_refl _) _
  refine ⟨own_below_n (own_below_n hown hb) hba, KRow.of_blk (K := [⟨e, ⟨A5, 32, c5, xs⟩⟩]) (heap_alloc_new w5 _) (by omega) rfl (fun k hk' => ?_)⟩
  obtain rfl := List.mem_singleton.1 hk'
  exact ⟨⟨((Row.of_own hk).below hba).more (by omega), hn⟩, hc, hx, by simp only; omega, by simp only; omega⟩
end Go.Proofs.YtmkdbpdfonpfdaaDoor.Rg

/- Lemmas that the proof stands on, in build order: OpenN GfZ GfQ GeMa. -/
import Derived.Test.YtdgaaghkhkklpaaRows
import Derived.Deep.QuietTactic
import Derived.BigQuiet
import Derived.WalkMore
import Derived.Test.YtdgaaghkhkklpaaJ21751cc4
import Derived.Test.YtdgaaghkhkklpaaJ2201c120
import Derived.Test.YtdgaaghkhkklpaaJ23e52f49
import Derived.Test.YtdgaaghkhkklpaaJ241338c8
import Derived.Test.YtdgaaghkhkklpaaJ54d248b
/- A struct of numbers that came in, over any program. -/
namespace Go.Proofs.Ytdgaaghkhkklpaa
open Go.ChangeShapes Go.WideShapes Go.ChangeAt Go.RowKit Go.Deep

section
variable {H : Type} {enc : TypeId × Value → H} {P : Program} {W : World} {base : Nat}

theorem ints_of {k : IntKind} : ∀ (L : List Value) (m : Nat), L.length = m → (∀ i, i < m → ∃ a, L[i]? = some (.int k a) ∧ (Lit.int k a).wf = true) → ∃ xs : List Int, L = xs.map (Value.int k) ∧ ∀ x ∈ xs, (Lit.int k x).wf = true
  | [], _, _, _ => ⟨[], rfl, by simp⟩
  | u :: L, m, hm, hA => by
    obtain ⟨a, h1, h2⟩ := hA 0 (by simp at hm; omega)
    obtain ⟨xs, h3, h4⟩ := ints_of L (m - 1) (by simp at hm; omega) (fun i hi => by simpa using hA (i + 1) (by omega))
    simp at h1
    refine ⟨a :: xs, by simp [h1, h3], fun x hx => ?_⟩
    rcases List.mem_cons.1 hx with rfl | hx
    · exact h2
    · exact h4 x hx

/-- Are all fields ints? -/
def intFields (P : Program) (fs : Array Field) : Bool := fs.toList.all fun f => match P.underlying f.type with | some (.int .i64) => true | _ => false
theorem int_of {P : Program} {fs : Array Field} (h : intFields P fs = true) (i : Nat) (f : Field) (hf : fs[i]? = some f) : P.underlying f.type = some (.int .i64) := by
  have hm : f ∈ fs.toList := by
    obtain ⟨hl, he⟩ := Array.getElem?_eq_some_iff.1 hf
    rw [← he]
    simp
  have h1 := List.all_eq_true.1 h f hm
  split at h1
  · assumption
  · cases h1
/-- A struct all of whose fields are ints. -/
theorem open_nums {t : TypeId} {m : Nat} {fs : Array Field} {v : Value} {d : DataW H} {ps : List MemPlace} (ht : P.underlying t = some (.struct fs)) (hone : ∀ (i : Nat) (f : Field), fs[i]? = some f → f.offset = i ∧ P.cellsOf f.type = 1) (hC : P.cellsOf t = m) (hfs : fs.size = m) (hk : ∀ (i : Nat) (f : Field), fs[i]? = some f → P.underlying f.type = some (.int .i64))
    (hv : Value.okWide P W .any base t v) (h : DataW.Trod enc P W 0 (fun _ => true) true t v d ps) :
    ∃ xs : List Int, v = .agg (xs.map (Value.int .i64)).toArray ∧ xs.length = m ∧ ∀ x ∈ xs, (Lit.int .i64 x).wf = true := by
  obtain ⟨cs, rfl, hs⟩ := okWide_struct ht hv
  rw [hC] at hs
  obtain ⟨fuel, hf⟩ := h
  obtain ⟨xs, k, _, _, _, hxl, hf'⟩ := DataW.trod_struct ht hf
  have hl : cs.toList.length = m := by simpa using hs
  have each : ∀ i, i < m → ∃ a, cs.toList[i]? = some (.int .i64 a) ∧ (Lit.int .i64 a).wf = true := by
    intro i hi
    have hfi : fs[i]? = some (fs[i]'(by omega)) := Array.getElem?_eq_getElem _
    have g := hf' i _ hfi
    rw [(hone i _ hfi).1, (hone i _ hfi).2, List.getElem?_eq_getElem (by omega)] at g
    rw [show (Value.agg cs).cells = cs from rfl, take1_drop cs.toList i undef (by omega)] at g
    obtain ⟨a, e, w⟩ := cell_int (hk i _ hfi) g
    refine ⟨a, ?_, w⟩
    rw [← e]
    simp [List.getD, List.getElem?_eq_getElem (show i < cs.toList.length by omega)]
  obtain ⟨zs, h1, h2⟩ := ints_of _ _ hl each
  refine ⟨zs, ?_, by rw [h1] at hl; simpa using hl, h2⟩
  rw [← h1]
/-- An array of structs all of whose fields are ints. -/
theorem open_arr_nums {t e : TypeId} {m s : Nat} {fs : Array Field} {v : Value} {d : DataW H} {ps : List MemPlace} (ht : P.underlying t = some (.array m e)) (he : P.underlying e = some (.struct fs)) (hone : ∀ (i : Nat) (f : Field), fs[i]? = some f → f.offset = i ∧ P.cellsOf f.type = 1) (hC : P.cellsOf e = s) (hfs : fs.size = s)
    (hk : ∀ (i : Nat) (f : Field), fs[i]? = some f → P.underlying f.type = some (.int .i64)) (hct : P.cellsOf t = m * s)
    (hv : Value.okWide P W .any base t v) (h : DataW.Trod enc P W 0 (fun _ => true) true t v d ps) :
    ∃ xs : List Int, v = .agg (xs.map (Value.int .i64)).toArray ∧ xs.length = m * s ∧ ∀ x ∈ xs, (Lit.int .i64 x).wf = true := by
  simp only [Value.okWide, ht] at hv
  obtain ⟨cs, rfl, hsz, _⟩ := hv
  rw [hct] at hsz
  obtain ⟨fuel, hf⟩ := h
  cases fuel with
  | zero => simp [DataW.trod] at hf
  | succ q =>
    rw [DataW.trod_step] at hf
    unfold DataW.trodStep at hf
    simp only [ht, Value.cells] at hf
    rw [if_pos (by rw [hct]; simpa using hsz)] at hf
    simp only [Option.map_eq_some_iff] at hf
    obtain ⟨ys, hy, _⟩ := hf
    have hl : cs.toList.length = m * s := by simpa using hsz
    have hall : ∀ j, j < m * s → ∃ a, cs.toList[j]? = some (.int .i64 a) ∧ (Lit.int .i64 a).wf = true := fun j hj => by
      have hs : 0 < s := by
        rcases Nat.eq_zero_or_pos s with h0 | h0
        · rw [h0] at hj; omega
        · exact h0
      have hi : j / s < m := Nat.div_lt_of_lt_mul (by rw [Nat.mul_comm]; exact hj)
      have hfl : j % s < s := Nat.mod_lt _ hs
      have ej : j / s * s + j % s = j := by rw [Nat.mul_comm]; exact Nat.div_add_mod j s
      obtain ⟨y, h1⟩ := mapM_mem hy (j / s) (by simpa using hi)
      obtain ⟨xs, k, _, _, _, hxl, hf'⟩ := DataW.trod_struct he h1
      have hfi : fs[j % s]? = some (fs[j % s]'(by omega)) := Array.getElem?_eq_getElem _
      have g := hf' (j % s) _ hfi
      have hlen : ((cs.toList.drop (j / s * P.cellsOf e)).take (P.cellsOf e)).length = s := by
        rw [List.length_take, List.length_drop, hl, hC]
        have h2 : (j / s + 1) * s ≤ m * s := Nat.mul_le_mul_right _ hi
        rw [Nat.add_mul] at h2
        omega
      rw [(hone _ _ hfi).1, (hone _ _ hfi).2, List.getElem?_eq_getElem (by omega), take1_drop _ (j % s) undef (by omega)] at g
      obtain ⟨a, e1, w1⟩ := cell_int (hk _ _ hfi) g
      refine ⟨a, ?_, w1⟩
      rw [← e1, List.getD_eq_getElem?_getD, hC, List.getElem?_take_of_lt hfl, List.getElem?_drop, ej, List.getElem?_eq_getElem (by omega)]
      rfl
    obtain ⟨zs, h1, h2⟩ := ints_of _ _ hl hall
    refine ⟨zs, ?_, by rw [h1] at hl; simpa using hl, h2⟩
    rw [← h1]
end
end Go.Proofs.Ytdgaaghkhkklpaa

/- Layer 15 (graph): opening a network that came in. -/
namespace Go.Proofs.Ytdgaaghkhkklpaa.Gf
open Go.ChangeShapes Go.WideShapes Go.ChangeAt Go.RowKit Go.Deep Ge Rec

set_option maxRecDepth 100000 in
theorem open_net {H : Type} {enc : TypeId × Value → H} {W : World} {base : Nat} {v : Value} {d : DataW H} {ps : List MemPlace} (hv : Value.okWide Try.prog W .any base 25 v) (h : DataW.Trod enc Try.prog W 0 (fun _ => true) true 25 v d ps) :
    ∃ (A : Option Addr) (n c : Nat) (A' : Option Addr) (m c' : Nat) (N : Nt), v = .agg #[.int .i64 N.ver, .slice A n c, .slice A' m c'] ∧ NAt W W.heap.size N A n c A' m c' ∧ Bnd N := by
  obtain ⟨v0, v1, v2, rfl, ⟨f0, y0, h0⟩, ⟨f1, y1, h1⟩, ⟨f2, y2, h2⟩⟩ := open_3 (t0 := 3) (t1 := 22) (t2 := 23) Try.underlying25 (hone_of (by kernel_rfl)) (by kernel_rfl) rfl rfl rfl rfl hv h
  obtain ⟨x, rfl, wx⟩ := cell_int Try.underlying3 h0
  have bx := bounds_i64 wx
  obtain ⟨A, n, c, st, rfl, hr, h1, h2', h3, h4⟩ := cell_recs twoS (fun x => (x 0, x 1)) (fun x i hi => by
    have hi' : i < 2 := hi
    match i, hi' with
    | 0, _ => rfl
    | 1, _ => rfl) Try.underlying22 Try.underlying56 rfl (int_of (by kernel_rfl)) (hone_of (by kernel_rfl)) (by kernel_rfl) h1
  obtain ⟨A', m, c', lk, rfl, hr', k1, k2, k3, k4⟩ := cell_recs lkS (fun x => (x 0, x 1, x 2)) (fun x i hi => by
    have hi' : i < 3 := hi
    match i, hi' with
    | 0, _ => rfl
    | 1, _ => rfl
    | 2, _ => rfl) Try.underlying23 Try.underlying50 rfl (int_of (by kernel_rfl)) (hone_of (by kernel_rfl)) (by kernel_rfl) h2
  refine ⟨A, n, c, A', m, c', ⟨x, st, lk⟩, rfl, ⟨hr, hr', h1, h2', h3, k1, k2, k3⟩, ⟨bx.1, by have := bx.2; omega⟩, fun p hp => ?_, fun l hl => ?_⟩
  · obtain ⟨x, rfl, hx⟩ := h4 p hp
    exact ⟨hx 0 (by show 0 < 2; omega), hx 1 (by show 1 < 2; omega)⟩
  · obtain ⟨x, rfl, hx⟩ := k4 l hl
    exact ⟨hx 0 (by show 0 < 3; omega), hx 1 (by show 1 < 3; omega), hx 2 (by show 2 < 3; omega)⟩

end Go.Proofs.Ytdgaaghkhkklpaa.Gf

/- Layer 15 (graph): the laws' rows, out of what a program's functions must do. -/
namespace Go.Proofs.Ytdgaaghkhkklpaa.GfQ
open Go.ChangeShapes Go.WideShapes Go.ChangeAt Go.RowKit Go.Deep Gf Ge Rec Fld Frm

theorem own : ownKnob Try.prog.godebug = none := by kernel_rfl
theorem laidOut : laidOutB Try.prog = true := by kernel_rfl
set_option maxRecDepth 100000 in
theorem open_bytes {H : Type} {enc : TypeId × Value → H} {W : World} {base : Nat} {v : Value} {d : DataW H} {ps : List MemPlace} (hv : Value.okWide Try.prog W .any base 26 v) (h : DataW.Trod enc Try.prog W 0 (fun _ => true) true 26 v d ps) :
    ∃ B0 nb cb bs, v = .slice B0 nb cb ∧ Row .u8 W W.heap.size B0 nb bs ∧ (B0 = none → cb = 0) ∧ nb ≤ cb ∧ cb ≤ maxLen ∧ Byt bs := by
  obtain ⟨B0, nb, cb, bs, rfl, hr, hnil, hcap, hcm, hw⟩ := open_row2 Try.underlying26 Try.underlying5 (by kernel_rfl) hv h
  exact ⟨B0, nb, cb, bs, rfl, hr, hnil, hcap, hcm, fun x hx => by have := bounds_u8 (hw x hx); omega⟩

set_option maxRecDepth 100000 in
theorem bytes_lifted (k : Oks) (os : Os) (started : os.Started) (H : Type) (enc : TypeId × Value → H) :
    ReturnsInHanded {} Try.checked os 3 .any (Rows.graphBytesSpec.pre6 enc Try.prog Try.f3 Rows.graphBytesRow.domain false) (Rows.graphBytesSpec.post enc Try.prog Try.f3 false true false false) := by
  refine returnsInHanded_of_change (C := Try.checked) own started (by kernel_rfl) Try.func3
    (ChangeSpec.witness6 (enc := enc) (C := Try.checked) false ⟨#[], #[.agg #[.int .i64 0, .slice none 0 0, .slice none 0 0], .slice none 0 0], []⟩ 8 (by kernel_rfl) (by kernel_rfl) (by kernel_rfl) (by kernel_rfl)) ?_
  intro W base args ds gs before hval0 hW _ _
  have hval : ∀ (j : Nat) t v, Try.f3.params[j]? = some t → args[j]? = some v → Value.okWide Try.prog W .any base t v := hval0
  have hW' := hW
  obtain ⟨p, q, hA0, hV, rfl, _, _⟩ := hW
  have hAA : DataW.TrodAll enc Try.prog W 0 (fun _ => true) true Try.f3.params.toList args.toList ds p := hA0
  rw [Try.params3] at hAA hval
  obtain ⟨v0, v1, d0, d1, p0, p1, rfl, rfl, rfl, h0, h1⟩ := trodAll_two hAA
  obtain ⟨rfl, rfl⟩ := trodVars_none hV
  obtain ⟨A, n, c, A', m, c', N, rfl, hat, hbd⟩ := open_net (hval 0 25 v0 rfl rfl) h0
  obtain ⟨B0, nb, cb, bs, rfl, hrb, hnilb, hcapb, hcmb, hbyb⟩ := open_bytes (hval 1 26 v1 rfl rfl) h1
  refine (bytes_walk k N A A' B0 n c m c' nb cb bs W hat hbd hrb hbyb hnilb hcapb hcmb).mono fun e W' ⟨he, hb⟩ => ?_
  subst he
  exact ⟨_, rfl, law_post laidOut (by kernel_rfl) rfl Try.underlying4 rfl hW' rfl hb⟩

theorem bytes_row (k : Oks) : Rows.GraphBytesSaid :=
  OpenClaim.holds_of_wide 3 Try.f3 rfl rfl rfl rfl rfl rfl rfl ⟨rfl, rfl, rfl, rfl, rfl⟩ rfl rfl rfl rfl rfl (by kernel_rfl) Try.func3 (by kernel_rfl)
    (of_decide_eq_true (by kernel_rfl)) (by unfold Func.isWrapper; first | (rw [if_pos (by decide +kernel)]; kernel_rfl) | (rw [if_neg (by decide +kernel)]; exact ⟨rfl, rfl⟩))
    (fun os started H enc _ => bytes_lifted k os started H enc)

set_option maxRecDepth 100000 in
theorem near_lifted (k : Oks) (os : Os) (started : os.Started) (H : Type) (enc : TypeId × Value → H) :
    ReturnsInHanded {} Try.checked os 4 .any (Rows.graphNearSpec.pre6 enc Try.prog Try.f4 Rows.graphNearRow.domain false) (Rows.graphNearSpec.post enc Try.prog Try.f4 false true false false) := by
  refine returnsInHanded_of_change (C := Try.checked) own started (by kernel_rfl) Try.func4
    (ChangeSpec.witness6 (enc := enc) (C := Try.checked) false ⟨#[], #[.agg #[.int .i64 0, .slice none 0 0, .slice none 0 0], .int .i64 0], []⟩ 8 (by kernel_rfl) (by kernel_rfl) (by kernel_rfl) (by kernel_rfl)) ?_
  intro W base args ds gs before hval0 hW _ _
  have hval : ∀ (j : Nat) t v, Try.f4.params[j]? = some t → args[j]? = some v → Value.okWide Try.prog W .any base t v := hval0
  have hW' := hW
  obtain ⟨p, q, hA0, hV, rfl, _, _⟩ := hW
  have hAA : DataW.TrodAll enc Try.prog W 0 (fun _ => true) true Try.f4.params.toList args.toList ds p := hA0
  rw [Try.params4] at hAA hval
  obtain ⟨v0, v1, d0, d1, p0, p1, rfl, rfl, rfl, h0, h1⟩ := trodAll_two hAA
  obtain ⟨rfl, rfl⟩ := trodVars_none hV
  obtain ⟨A, n, c, A', m, c', N, rfl, hat, hbd⟩ := open_net (hval 0 25 v0 rfl rfl) h0
  obtain ⟨s, rfl, rfl, rfl, ws⟩ := open_int Try.underlying3 (hval 1 3 v1 rfl rfl) h1
  have bs := bounds_i64 ws
  refine (near_walk k N A A' n c m c' s W hat hbd ⟨bs.1, by have := bs.2; omega⟩).mono fun e W' ⟨he, hb⟩ => ?_
  subst he
  exact ⟨_, rfl, law_post laidOut (by kernel_rfl) rfl Try.underlying4 rfl hW' rfl hb⟩

theorem near_row (k : Oks) : Rows.GraphNearSaid :=
  OpenClaim.holds_of_wide 4 Try.f4 rfl rfl rfl rfl rfl rfl rfl ⟨rfl, rfl, rfl, rfl, rfl⟩ rfl rfl rfl rfl rfl (by kernel_rfl) Try.func4 (by kernel_rfl)
    (of_decide_eq_true (by kernel_rfl)) (by unfold Func.isWrapper; first | (rw [if_pos (by decide +kernel)]; kernel_rfl) | (rw [if_neg (by decide +kernel)]; exact ⟨rfl, rfl⟩))
    (fun os started H enc _ => near_lifted k os started H enc)

set_option maxRecDepth 100000 in
theorem back_lifted (k : Oks) (os : Os) (started : os.Started) (H : Type) (enc : TypeId × Value → H) :
    ReturnsInHanded {} Try.checked os 5 .any (Rows.graphBackSpec.pre6 enc Try.prog Try.f5 Rows.graphBackRow.domain false) (Rows.graphBackSpec.post enc Try.prog Try.f5 false true false false) := by
  refine returnsInHanded_of_change (C := Try.checked) own started (by kernel_rfl) Try.func5
    (ChangeSpec.witness6 (enc := enc) (C := Try.checked) false ⟨#[], #[.agg #[.int .i64 0, .slice none 0 0, .slice none 0 0]], []⟩ 8 (by kernel_rfl) (by kernel_rfl) (by kernel_rfl) (by kernel_rfl)) ?_
  intro W base args ds gs before hval0 hW _ _
  have hval : ∀ (j : Nat) t v, Try.f5.params[j]? = some t → args[j]? = some v → Value.okWide Try.prog W .any base t v := hval0
  have hW' := hW
  obtain ⟨p, q, hA0, hV, rfl, _, _⟩ := hW
  have hAA : DataW.TrodAll enc Try.prog W 0 (fun _ => true) true Try.f5.params.toList args.toList ds p := hA0
  rw [Try.params5] at hAA hval
  obtain ⟨v0, d0, rfl, rfl, h0⟩ := trodAll_one hAA
  obtain ⟨rfl, rfl⟩ := trodVars_none hV
  obtain ⟨A, n, c, A', m, c', N, rfl, hat, hbd⟩ := open_net (hval 0 25 v0 rfl rfl) h0
  refine (back_walk k N A A' n c m c' W hat hbd).mono fun e W' ⟨he, hb⟩ => ?_
  subst he
  exact ⟨_, rfl, law_post laidOut (by kernel_rfl) rfl Try.underlying4 rfl hW' rfl hb⟩

theorem back_row (k : Oks) : Rows.GraphBackSaid :=
  OpenClaim.holds_of_wide 5 Try.f5 rfl rfl rfl rfl rfl rfl rfl ⟨rfl, rfl, rfl, rfl, rfl⟩ rfl rfl rfl rfl rfl (by kernel_rfl) Try.func5 (by kernel_rfl)
    (of_decide_eq_true (by kernel_rfl)) (by unfold Func.isWrapper; first | (rw [if_pos (by decide +kernel)]; kernel_rfl) | (rw [if_neg (by decide +kernel)]; exact ⟨rfl, rfl⟩))
    (fun os started H enc _ => back_lifted k os started H enc)
end Go.Proofs.Ytdgaaghkhkklpaa.GfQ

/- Layer 13 (geo): the landed program's May, as a contract (it fills in a seat without Square). -/
namespace Go.Proofs.Ytdgaaghkhkklpaa.Ge
open Go.RowKit Rec

set_option maxRecDepth 100000 in
theorem may_any (x y : Int) (w : World) : Calls Try.prog 45 #[.int .i64 x, .int .i64 y] w fun e w' => e = .returned (.bool (decide (may x y))) ∧ w' = w := by
  by_cases h0 : 0 ≤ x
  · have d0 : decide (0 ≤ x) = true := decide_eq_true h0
    by_cases h1 : x < 67108864
    · have d1 : decide (x < 67108864) = true := decide_eq_true h1
      by_cases h2 : 0 ≤ y
      · have d2 : decide (0 ≤ y) = true := decide_eq_true h2
        have hm : decide (may x y) = decide (y < 67108864) := decide_eq_decide.2 ⟨fun h => h.2.2, fun h => ⟨⟨h0, h1⟩, h2, h⟩⟩
        rw [hm]
        clear hm
        go_enter Try.func45, Try.ntmps45
        go_wp2
        go_ret
        exact ⟨rfl, rfl⟩
      · have d2 : decide (0 ≤ y) = false := decide_eq_false h2
        have hm : decide (may x y) = false := decide_eq_false fun h => h2 h.2.1
        rw [hm]
        go_enter Try.func45, Try.ntmps45
        go_wp2
        go_ret
        exact ⟨rfl, rfl⟩
    · have d1 : decide (x < 67108864) = false := decide_eq_false h1
      have hm : decide (may x y) = false := decide_eq_false fun h => h1 h.1.2
      rw [hm]
      go_enter Try.func45, Try.ntmps45
      go_wp2
      go_ret
      exact ⟨rfl, rfl⟩
  · have d0 : decide (0 ≤ x) = false := decide_eq_false h0
    have hm : decide (may x y) = false := decide_eq_false fun h => h0 h.1.1
    rw [hm]
    go_enter Try.func45, Try.ntmps45
    go_wp2
    go_ret
    exact ⟨rfl, rfl⟩


end Go.Proofs.Ytdgaaghkhkklpaa.Ge

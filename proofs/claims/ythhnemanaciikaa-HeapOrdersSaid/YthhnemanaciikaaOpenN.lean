/- A struct of numbers that came in, over any program. -/
import Derived.Test.YthhnemanaciikaaOpenS
namespace Go.Proofs.Ythhnemanaciikaa
open Go.ChangeShapes Go.WideShapes Go.ChangeAt Go.RowKit Go.Deep

section
variable {H : Type} {enc : TypeId × Value → H} {P : Program} {W : World} {base : Nat}

theorem ints_of {k : IntKind} : ∀ (L : List Value) (m : Nat), L.length = m → (∀ i, i < m → ∃ a, L[i]? = some (.int k a) ∧ (Lit.int k a).wf = true) → ∃ xs : List Int, L = xs.map (Value.int k) ∧ ∀ x ∈ xs, (Lit.int k x).wf = true
  | [], _, _, _ => ⟨[], rfl, by simp⟩
  | u :: L, m, hm, hA => by
    obtain ⟨a, h1, h2⟩ := hA 0 (by simp at hm; omega)
    obtain ⟨xs, h3, h4⟩ := ints_of L (m - 1) (by simp at hm; omega) (fun i hi => by simpa using hA (i + 1) (by omega))
    simp at h1
    refine ⟨a :: xs, by simp [h1, h3], fun x hx => ?_⟩
    rcases List.mem_cons.1 hx with rfl | hx
    · exact h2
    · exact h4 x hx

/-- Are all fields ints? -/
def intFields (P : Program) (fs : Array Field) : Bool := fs.toList.all fun f => match P.underlying f.type with | some (.int .i64) => true | _ => false
theorem int_of {P : Program} {fs : Array Field} (h : intFields P fs = true) (i : Nat) (f : Field) (hf : fs[i]? = some f) : P.underlying f.type = some (.int .i64) := by
  have hm : f ∈ fs.toList := by
    obtain ⟨hl, he⟩ := Array.getElem?_eq_some_iff.1 hf
    rw [← he]
    simp
  have h1 := List.all_eq_true.1 h f hm
  split at h1
  · assumption
  · cases h1
/-- A struct all of whose fields are ints. -/
theorem open_nums {t : TypeId} {m : Nat} {fs : Array Field} {v : Value} {d : DataW H} {ps : List MemPlace} (ht : P.underlying t = some (.struct fs)) (hone : ∀ (i : Nat) (f : Field), fs[i]? = some f → f.offset = i ∧ P.cellsOf f.type = 1) (hC : P.cellsOf t = m) (hfs : fs.size = m) (hk : ∀ (i : Nat) (f : Field), fs[i]? = some f → P.underlying f.type = some (.int .i64))
    (hv : Value.okWide P W .any base t v) (h : DataW.Trod enc P W 0 (fun _ => true) true t v d ps) :
    ∃ xs : List Int, v = .agg (xs.map (Value.int .i64)).toArray ∧ xs.length = m ∧ ∀ x ∈ xs, (Lit.int .i64 x).wf = true := by
  obtain ⟨cs, rfl, hs⟩ := okWide_struct ht hv
  rw [hC] at hs
  obtain ⟨fuel, hf⟩ := h
  obtain ⟨xs, k, _, _, _, hxl, hf'⟩ := DataW.trod_struct ht hf
  have hl : cs.toList.length = m := by simpa using hs
  have each : ∀ i, i < m → ∃ a, cs.toList[i]? = some (.int .i64 a) ∧ (Lit.int .i64 a).wf = true := by
    intro i hi
    have hfi : fs[i]? = some (fs[i]'(by omega)) := Array.getElem?_eq_getElem _
    have g := hf' i _ hfi
    rw [(hone i _ hfi).1, (hone i _ hfi).2, List.getElem?_eq_getElem (by omega)] at g
    rw [show (Value.agg cs).cells = cs from rfl, take1_drop cs.toList i undef (by omega)] at g
    obtain ⟨a, e, w⟩ := cell_int (hk i _ hfi) g
    refine ⟨a, ?_, w⟩
    rw [← e]
    simp [List.getD, List.getElem?_eq_getElem (show i < cs.toList.length by omega)]
  obtain ⟨zs, h1, h2⟩ := ints_of _ _ hl each
  refine ⟨zs, ?_, by rw [h1] at hl; simpa using hl, h2⟩
  rw [← h1]
/-- An array of structs all of whose fields are ints. -/
theorem open_arr_nums {t e : TypeId} {m s : Nat} {fs : Array Field} {v : Value} {d : DataW H} {ps : List MemPlace} (ht : P.underlying t = some (.array m e)) (he : P.underlying e = some (.struct fs)) (hone : ∀ (i : Nat) (f : Field), fs[i]? = some f → f.offset = i ∧ P.cellsOf f.type = 1) (hC : P.cellsOf e = s) (hfs : fs.size = s)
    (hk : ∀ (i : Nat) (f : Field), fs[i]? = some f → P.underlying f.type = some (.int .i64)) (hct : P.cellsOf t = m * s)
    (hv : Value.okWide P W .any base t v) (h : DataW.Trod enc P W 0 (fun _ => true) true t v d ps) :
    ∃ xs : List Int, v = .agg (xs.map (Value.int .i64)).toArray ∧ xs.length = m * s ∧ ∀ x ∈ xs, (Lit.int .i64 x).wf = true := by
  simp only [Value.okWide, ht] at hv
  obtain ⟨cs, rfl, hsz, _⟩ := hv
  rw [hct] at hsz
  obtain ⟨fuel, hf⟩ := h
  cases fuel with
  | zero => simp [DataW.trod] at hf
  | succ q =>
    rw [DataW.trod_step] at hf
    unfold DataW.trodStep at hf
    simp only [ht, Value.cells] at hf
    rw [if_pos (by rw [hct]; simpa using hsz)] at hf
    simp only [Option.map_eq_some_iff] at hf
    obtain ⟨ys, hy, _⟩ := hf
    have hl : cs.toList.length = m * s := by simpa using hsz
    have hall : ∀ j, j < m * s → ∃ a, cs.toList[j]? = some (.int .i64 a) ∧ (Lit.int .i64 a).wf = true := fun j hj => by
      have hs : 0 < s := by
        rcases Nat.eq_zero_or_pos s with h0 | h0
        · rw [h0] at hj; omega
        · exact h0
      have hi : j / s < m := Nat.div_lt_of_lt_mul (by rw [Nat.mul_comm]; exact hj)
      have hfl : j % s < s := Nat.mod_lt _ hs
      have ej : j / s * s + j % s = j := by rw [Nat.mul_comm]; exact Nat.div_add_mod j s
      obtain ⟨y, h1⟩ := mapM_mem hy (j / s) (by simpa using hi)
      obtain ⟨xs, k, _, _, _, hxl, hf'⟩ := DataW.trod_struct he h1
      have hfi : fs[j % s]? = some (fs[j % s]'(by omega)) := Array.getElem?_eq_getElem _
      have g := hf' (j % s) _ hfi
      have hlen : ((cs.toList.drop (j / s * P.cellsOf e)).take (P.cellsOf e)).length = s := by
        rw [List.length_take, List.length_drop, hl, hC]
        have h2 : (j / s + 1) * s ≤ m * s := Nat.mul_le_mul_right _ hi
        rw [Nat.add_mul] at h2
        omega
      rw [(hone _ _ hfi).1, (hone _ _ hfi).2, List.getElem?_eq_getElem (by omega), take1_drop _ (j % s) undef (by omega)] at g
      obtain ⟨a, e1, w1⟩ := cell_int (hk _ _ hfi) g
      refine ⟨a, ?_, w1⟩
      rw [← e1, List.getD_eq_getElem?_getD, hC, List.getElem?_take_of_lt hfl, List.getElem?_drop, ej, List.getElem?_eq_getElem (by omega)]
      rfl
    obtain ⟨zs, h1, h2⟩ := ints_of _ _ hl hall
    refine ⟨zs, ?_, by rw [h1] at hl; simpa using hl, h2⟩
    rw [← h1]
end
end Go.Proofs.Ythhnemanaciikaa

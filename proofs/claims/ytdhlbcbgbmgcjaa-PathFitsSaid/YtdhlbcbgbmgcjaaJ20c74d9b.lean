/- Lemmas that the proof stands on, in build order: OpenG OpenN GfZ. -/
import Derived.Test.YtdhlbcbgbmgcjaaJ196484b3
import Derived.Test.YtdhlbcbgbmgcjaaJ20d5a7c
import Derived.Test.YtdhlbcbgbmgcjaaJ6ea7323
/- Structs that came in, over any program: a slice of structs of ints out of a cell; a struct of three fields of one cell each. -/
namespace Go.Proofs.Ytdhlbcbgbmgcjaa.Rec
open Go.ChangeShapes Go.WideShapes Go.ChangeAt Go.RowKit Go.Deep

section
variable {H : Type} {enc : TypeId × Value → H} {P : Program} {W : World} {base : Nat}

/-- A cell that reads as a slice of structs: what each cell of each element holds, and that it reads. -/
theorem cell_structs2 {t e : TypeId} {fs : Array Field} {v : Value} {fuel : Nat} {y : DataW H × List MemPlace} (ht : P.underlying t = some (.slice e)) (he : P.underlying e = some (.struct fs))
    (hone : ∀ (i : Nat) (f : Field), fs[i]? = some f → f.offset = i ∧ P.cellsOf f.type = 1) (hC : P.cellsOf e = fs.size) (hpos : 0 < fs.size)
    (h : DataW.trod enc P W 0 (fun _ => true) true fuel t [v] = some y) :
    ∃ (A : Option Addr) (n c : Nat) (V : Nat → Nat → Value), v = .slice A n c ∧ (A = none → c = 0) ∧ n ≤ c ∧ c ≤ maxLen ∧ (0 < n → ∃ b o, A = some ⟨b, o, none⟩ ∧ b < W.heap.size ∧
      ∀ j, j < n → ∀ i f, fs[i]? = some f → W.cell? ⟨b, o + j * fs.size + i, none⟩ = some (V j i) ∧ ∃ fuel y, DataW.trod enc P W 0 (fun _ => true) true fuel f.type [V j i] = some y) := by
  rcases open_slice ht h with ⟨hcs, _⟩ | ⟨a, len', cap', m, n, D, Pl, hcs, hb, hl, hm, hmm, _, hx⟩
  · simp at hcs
    exact ⟨none, 0, 0, fun _ _ => undef, hcs, fun _ => rfl, Nat.le_refl _, Nat.zero_le _, fun h => absurd h (by omega)⟩
  · simp at hcs
    subst hcs
    simp only [if_true] at hmm
    subst hmm
    have each : ∀ j, j < m → ∃ cs' : List Value, W.cells? 0 (a.add (j * fs.size)) fs.size = some cs' ∧ DataW.trod enc P W 0 (fun _ => true) true n e cs' = some (D j, Pl j) := by
      intro j hj
      obtain ⟨cs', h1, h2⟩ := hx j hj
      rw [hC] at h1
      exact ⟨cs', h1, h2⟩
    obtain ⟨q, hq⟩ := choose_lt each
    refine ⟨some a, len', m, fun j i => (q j).getD i undef, rfl, (fun h => by cases h), hl, hm, fun hn => ?_⟩
    obtain ⟨b, o, spot⟩ := a
    have hcell := fun j (hj : j < m) => (World.cells?_some (hq j hj).1).2
    have h0 := (hcell 0 (by omega)).2 0 hpos
    rw [List.getElem?_eq_getElem (by rw [(hcell 0 (by omega)).1]; exact hpos)] at h0
    have hspot : spot = none := by simpa [Addr.add] using World.cell?_spot h0
    subst hspot
    have h0' := World.block_lt_of_cell? W _ h0
    refine ⟨b, o, rfl, by simpa [Addr.add] using h0', fun j hj i f hi => ?_⟩
    have hjm : j < m := by omega
    obtain ⟨hlen, hc⟩ := hcell j hjm
    have hlt : i < fs.size := (Array.getElem?_eq_some_iff.1 hi).1
    obtain ⟨xs, k, _, _, _, hxl, hf'⟩ := DataW.trod_struct he (hq j hjm).2
    obtain ⟨ho, hc1⟩ := hone i f hi
    have g := hf' i f hi
    rw [ho, hc1, take1_drop (q j) i undef (by omega)] at g
    refine ⟨?_, k, ?_⟩
    · have := hc i hlt
      rw [add_add, add_plain, List.getElem?_eq_getElem (by omega)] at this
      rw [Nat.add_assoc, this]
      simp [List.getD, List.getElem?_eq_getElem (show i < (q j).length by omega)]
    · rw [List.getElem?_eq_getElem (show i < xs.length by omega)] at g
      exact ⟨_, g⟩

/-- A cell that reads as a slice of structs of ints. -/
theorem cell_recs {α : Type} (S : Shape α) (mk : (Nat → Int) → α) (hmk : ∀ x i, i < S.c → (S.f (mk x))[i]? = some (.int .i64 (x i)))
    {t e : TypeId} {fs : Array Field} {v : Value} {fuel : Nat} {y : DataW H × List MemPlace} (ht : P.underlying t = some (.slice e)) (he : P.underlying e = some (.struct fs)) (hfs : fs.size = S.c)
    (hint : ∀ (i : Nat) (f : Field), fs[i]? = some f → P.underlying f.type = some (.int .i64))
    (hone : ∀ (i : Nat) (f : Field), fs[i]? = some f → f.offset = i ∧ P.cellsOf f.type = 1) (hC : P.cellsOf e = fs.size)
    (h : DataW.trod enc P W 0 (fun _ => true) true fuel t [v] = some y) :
    ∃ A n c l, v = .slice A n c ∧ RRow S W W.heap.size A n l ∧ (A = none → c = 0) ∧ n ≤ c ∧ c ≤ maxLen ∧ ∀ a ∈ l, ∃ x, a = mk x ∧ ∀ i, i < S.c → -9223372036854775808 ≤ x i ∧ x i ≤ 9223372036854775807 := by
  have hpos : 0 < fs.size := by rw [hfs]; exact S.pos
  obtain ⟨A, n, c, V, rfl, hnil, hnc, hmax, hx⟩ := cell_structs2 ht he hone hC hpos h
  have each : ∀ j, j < n → ∃ x : Nat → Int, (∀ i, i < S.c → V j i = .int .i64 (x i)) ∧ ∀ i, i < S.c → -9223372036854775808 ≤ x i ∧ x i ≤ 9223372036854775807 := by
    intro j hj
    obtain ⟨b, o, _, _, hc⟩ := hx (by omega)
    have one : ∀ i, i < S.c → ∃ y : Int, V j i = .int .i64 y ∧ -9223372036854775808 ≤ y ∧ y ≤ 9223372036854775807 := by
      intro i hi
      have hf : fs[i]? = some (fs[i]'(by omega)) := Array.getElem?_eq_getElem (by omega)
      obtain ⟨_, _, _, tr⟩ := hc j hj i _ hf
      obtain ⟨y, e0, w0⟩ := cell_int (hint i _ hf) tr
      have b0 := bounds_i64 w0
      exact ⟨y, e0, b0.1, by have := b0.2; omega⟩
    obtain ⟨x, hx'⟩ := choose_lt one
    exact ⟨x, fun i hi => (hx' i hi).1, fun i hi => (hx' i hi).2⟩
  obtain ⟨xs, hl, hp⟩ := list_of each
  refine ⟨A, n, c, xs.map mk, rfl, ⟨by simp [hl], fun hn => ?_⟩, hnil, hnc, hmax, fun a ha => ?_⟩
  · obtain ⟨b, o, e, hb, hc⟩ := hx hn
    refine ⟨b, o, e, hb, fun j a hj i hi => ?_⟩
    rw [List.getElem?_map] at hj
    cases hxj : xs[j]? with
    | none => rw [hxj] at hj; cases hj
    | some x =>
      rw [hxj] at hj
      simp only [Option.map_some, Option.some.injEq] at hj
      subst hj
      have hjn : j < n := by
        have := (List.getElem?_eq_some_iff.1 hxj).1
        omega
      have hf : fs[i]? = some (fs[i]'(by omega)) := Array.getElem?_eq_getElem (by omega)
      have h1 := (hc j hjn i _ hf).1
      rw [hfs, (hp j x hxj).1 i hi] at h1
      rw [h1, hmk x i hi]
  · obtain ⟨x, hx', rfl⟩ := List.mem_map.1 ha
    obtain ⟨j, hj⟩ := List.getElem?_of_mem hx'
    exact ⟨x, rfl, (hp j x hj).2⟩

/-- A struct of three fields of one cell each that came in. -/
theorem open_3 {t t0 t1 t2 : TypeId} {fs : Array Field} {v : Value} {d : DataW H} {ps : List MemPlace} (ht : P.underlying t = some (.struct fs)) (hone : ∀ (i : Nat) (f : Field), fs[i]? = some f → f.offset = i ∧ P.cellsOf f.type = 1) (hC : P.cellsOf t = 3) (hfs : fs.size = 3) (h0 : (fs[0]?).map (·.type) = some t0) (h1 : (fs[1]?).map (·.type) = some t1) (h2 : (fs[2]?).map (·.type) = some t2)
    (hv : Value.okWide P W .any base t v) (h : DataW.Trod enc P W 0 (fun _ => true) true t v d ps) :
    ∃ v0 v1 v2, v = .agg #[v0, v1, v2] ∧ (∃ fuel y, DataW.trod enc P W 0 (fun _ => true) true fuel t0 [v0] = some y) ∧ (∃ fuel y, DataW.trod enc P W 0 (fun _ => true) true fuel t1 [v1] = some y) ∧ ∃ fuel y, DataW.trod enc P W 0 (fun _ => true) true fuel t2 [v2] = some y := by
  obtain ⟨cs, rfl, hs⟩ := okWide_struct ht hv
  rw [hC] at hs
  obtain ⟨fuel, hf⟩ := h
  obtain ⟨f0, g0, rfl⟩ : ∃ f, fs[0]? = some f ∧ f.type = t0 := by simpa [Option.map_eq_some_iff] using h0
  obtain ⟨f1, g1, rfl⟩ : ∃ f, fs[1]? = some f ∧ f.type = t1 := by simpa [Option.map_eq_some_iff] using h1
  obtain ⟨f2, g2, rfl⟩ : ∃ f, fs[2]? = some f ∧ f.type = t2 := by simpa [Option.map_eq_some_iff] using h2
  obtain ⟨v0, v1, v2, rfl⟩ : ∃ v0 v1 v2, cs = #[v0, v1, v2] := by
    rcases cs with ⟨l⟩
    match l, hs with
    | [a, b, c], _ => exact ⟨a, b, c, rfl⟩
  obtain ⟨xs, k, _, _, _, hxl, hf'⟩ := DataW.trod_struct ht hf
  have e0 := hf' 0 f0 g0
  have e1 := hf' 1 f1 g1
  have e2 := hf' 2 f2 g2
  rw [(hone 0 f0 g0).1, (hone 0 f0 g0).2] at e0
  rw [(hone 1 f1 g1).1, (hone 1 f1 g1).2] at e1
  rw [(hone 2 f2 g2).1, (hone 2 f2 g2).2] at e2
  rw [List.getElem?_eq_getElem (by omega)] at e0 e1 e2
  exact ⟨v0, v1, v2, rfl, ⟨k, _, by simpa [Value.cells] using e0⟩, ⟨k, _, by simpa [Value.cells] using e1⟩, ⟨k, _, by simpa [Value.cells] using e2⟩⟩
end
end Go.Proofs.Ytdhlbcbgbmgcjaa.Rec

/- A struct of numbers that came in, over any program. -/
namespace Go.Proofs.Ytdhlbcbgbmgcjaa
open Go.ChangeShapes Go.WideShapes Go.ChangeAt Go.RowKit Go.Deep

section
variable {H : Type} {enc : TypeId × Value → H} {P : Program} {W : World} {base : Nat}

theorem ints_of {k : IntKind} : ∀ (L : List Value) (m : Nat), L.length = m → (∀ i, i < m → ∃ a, L[i]? = some (.int k a) ∧ (Lit.int k a).wf = true) → ∃ xs : List Int, L = xs.map (Value.int k) ∧ ∀ x ∈ xs, (Lit.int k x).wf = true
  | [], _, _, _ => ⟨[], rfl, by simp⟩
  | u :: L, m, hm, hA => by
    obtain ⟨a, h1, h2⟩ := hA 0 (by simp at hm; omega)
    obtain ⟨xs, h3, h4⟩ := ints_of L (m - 1) (by simp at hm; omega) (fun i hi => by simpa using hA (i + 1) (by omega))
    simp at h1
    refine ⟨a :: xs, by simp [h1, h3], fun x hx => ?_⟩
    rcases List.mem_cons.1 hx with rfl | hx
    · exact h2
    · exact h4 x hx

/-- Are all fields ints? -/
def intFields (P : Program) (fs : Array Field) : Bool := fs.toList.all fun f => match P.underlying f.type with | some (.int .i64) => true | _ => false
theorem int_of {P : Program} {fs : Array Field} (h : intFields P fs = true) (i : Nat) (f : Field) (hf : fs[i]? = some f) : P.underlying f.type = some (.int .i64) := by
  have hm : f ∈ fs.toList := by
    obtain ⟨hl, he⟩ := Array.getElem?_eq_some_iff.1 hf
    rw [← he]
    simp
  have h1 := List.all_eq_true.1 h f hm
  split at h1
  · assumption
  · cases h1
/-- A struct all of whose fields are ints. -/
theorem open_nums {t : TypeId} {m : Nat} {fs : Array Field} {v : Value} {d : DataW H} {ps : List MemPlace} (ht : P.underlying t = some (.struct fs)) (hone : ∀ (i : Nat) (f : Field), fs[i]? = some f → f.offset = i ∧ P.cellsOf f.type = 1) (hC : P.cellsOf t = m) (hfs : fs.size = m) (hk : ∀ (i : Nat) (f : Field), fs[i]? = some f → P.underlying f.type = some (.int .i64))
    (hv : Value.okWide P W .any base t v) (h : DataW.Trod enc P W 0 (fun _ => true) true t v d ps) :
    ∃ xs : List Int, v = .agg (xs.map (Value.int .i64)).toArray ∧ xs.length = m ∧ ∀ x ∈ xs, (Lit.int .i64 x).wf = true := by
  obtain ⟨cs, rfl, hs⟩ := okWide_struct ht hv
  rw [hC] at hs
  obtain ⟨fuel, hf⟩ := h
  obtain ⟨xs, k, _, _, _, hxl, hf'⟩ := DataW.trod_struct ht hf
  have hl : cs.toList.length = m := by simpa using hs
  have each : ∀ i, i < m → ∃ a, cs.toList[i]? = some (.int .i64 a) ∧ (Lit.int .i64 a).wf = true := by
    intro i hi
    have hfi : fs[i]? = some (fs[i]'(by omega)) := Array.getElem?_eq_getElem _
    have g := hf' i _ hfi
    rw [(hone i _ hfi).1, (hone i _ hfi).2, List.getElem?_eq_getElem (by omega)] at g
    rw [show (Value.agg cs).cells = cs from rfl, take1_drop cs.toList i undef (by omega)] at g
    obtain ⟨a, e, w⟩ := cell_int (hk i _ hfi) g
    refine ⟨a, ?_, w⟩
    rw [← e]
    simp [List.getD, List.getElem?_eq_getElem (show i < cs.toList.length by omega)]
  obtain ⟨zs, h1, h2⟩ := ints_of _ _ hl each
  refine ⟨zs, ?_, by rw [h1] at hl; simpa using hl, h2⟩
  rw [← h1]
/-- An array of structs all of whose fields are ints. -/
theorem open_arr_nums {t e : TypeId} {m s : Nat} {fs : Array Field} {v : Value} {d : DataW H} {ps : List MemPlace} (ht : P.underlying t = some (.array m e)) (he : P.underlying e = some (.struct fs)) (hone : ∀ (i : Nat) (f : Field), fs[i]? = some f → f.offset = i ∧ P.cellsOf f.type = 1) (hC : P.cellsOf e = s) (hfs : fs.size = s)
    (hk : ∀ (i : Nat) (f : Field), fs[i]? = some f → P.underlying f.type = some (.int .i64)) (hct : P.cellsOf t = m * s)
    (hv : Value.okWide P W .any base t v) (h : DataW.Trod enc P W 0 (fun _ => true) true t v d ps) :
    ∃ xs : List Int, v = .agg (xs.map (Value.int .i64)).toArray ∧ xs.length = m * s ∧ ∀ x ∈ xs, (Lit.int .i64 x).wf = true := by
  simp only [Value.okWide, ht] at hv
  obtain ⟨cs, rfl, hsz, _⟩ := hv
  rw [hct] at hsz
  obtain ⟨fuel, hf⟩ := h
  cases fuel with
  | zero => simp [DataW.trod] at hf
  | succ q =>
    rw [DataW.trod_step] at hf
    unfold DataW.trodStep at hf
    simp only [ht, Value.cells] at hf
    rw [if_pos (by rw [hct]; simpa using hsz)] at hf
    simp only [Option.map_eq_some_iff] at hf
    obtain ⟨ys, hy, _⟩ := hf
    have hl : cs.toList.length = m * s := by simpa using hsz
    have hall : ∀ j, j < m * s → ∃ a, cs.toList[j]? = some (.int .i64 a) ∧ (Lit.int .i64 a).wf = true := fun j hj => by
      have hs : 0 < s := by
        rcases Nat.eq_zero_or_pos s with h0 | h0
        · rw [h0] at hj; omega
        · exact h0
      have hi : j / s < m := Nat.div_lt_of_lt_mul (by rw [Nat.mul_comm]; exact hj)
      have hfl : j % s < s := Nat.mod_lt _ hs
      have ej : j / s * s + j % s = j := by rw [Nat.mul_comm]; exact Nat.div_add_mod j s
      obtain ⟨y, h1⟩ := mapM_mem hy (j / s) (by simpa using hi)
      obtain ⟨xs, k, _, _, _, hxl, hf'⟩ := DataW.trod_struct he h1
      have hfi : fs[j % s]? = some (fs[j % s]'(by omega)) := Array.getElem?_eq_getElem _
      have g := hf' (j % s) _ hfi
      have hlen : ((cs.toList.drop (j / s * P.cellsOf e)).take (P.cellsOf e)).length = s := by
        rw [List.length_take, List.length_drop, hl, hC]
        have h2 : (j / s + 1) * s ≤ m * s := Nat.mul_le_mul_right _ hi
        rw [Nat.add_mul] at h2
        omega
      rw [(hone _ _ hfi).1, (hone _ _ hfi).2, List.getElem?_eq_getElem (by omega), take1_drop _ (j % s) undef (by omega)] at g
      obtain ⟨a, e1, w1⟩ := cell_int (hk _ _ hfi) g
      refine ⟨a, ?_, w1⟩
      rw [← e1, List.getD_eq_getElem?_getD, hC, List.getElem?_take_of_lt hfl, List.getElem?_drop, ej, List.getElem?_eq_getElem (by omega)]
      rfl
    obtain ⟨zs, h1, h2⟩ := ints_of _ _ hl hall
    refine ⟨zs, ?_, by rw [h1] at hl; simpa using hl, h2⟩
    rw [← h1]
end
end Go.Proofs.Ytdhlbcbgbmgcjaa

/- Layer 15 (graph): opening a network that came in. -/
namespace Go.Proofs.Ytdhlbcbgbmgcjaa.Gf
open Go.ChangeShapes Go.WideShapes Go.ChangeAt Go.RowKit Go.Deep Ge Rec

set_option maxRecDepth 100000 in
theorem open_net {H : Type} {enc : TypeId × Value → H} {W : World} {base : Nat} {v : Value} {d : DataW H} {ps : List MemPlace} (hv : Value.okWide Try.prog W .any base 25 v) (h : DataW.Trod enc Try.prog W 0 (fun _ => true) true 25 v d ps) :
    ∃ (A : Option Addr) (n c : Nat) (A' : Option Addr) (m c' : Nat) (N : Nt), v = .agg #[.int .i64 N.ver, .slice A n c, .slice A' m c'] ∧ NAt W W.heap.size N A n c A' m c' ∧ Bnd N := by
  obtain ⟨v0, v1, v2, rfl, ⟨f0, y0, h0⟩, ⟨f1, y1, h1⟩, ⟨f2, y2, h2⟩⟩ := open_3 (t0 := 3) (t1 := 22) (t2 := 23) Try.underlying25 (hone_of (by kernel_rfl)) (by kernel_rfl) rfl rfl rfl rfl hv h
  obtain ⟨x, rfl, wx⟩ := cell_int Try.underlying3 h0
  have bx := bounds_i64 wx
  obtain ⟨A, n, c, st, rfl, hr, h1, h2', h3, h4⟩ := cell_recs twoS (fun x => (x 0, x 1)) (fun x i hi => by
    have hi' : i < 2 := hi
    match i, hi' with
    | 0, _ => rfl
    | 1, _ => rfl) Try.underlying22 Try.underlying54 rfl (int_of (by kernel_rfl)) (hone_of (by kernel_rfl)) (by kernel_rfl) h1
  obtain ⟨A', m, c', lk, rfl, hr', k1, k2, k3, k4⟩ := cell_recs lkS (fun x => (x 0, x 1, x 2)) (fun x i hi => by
    have hi' : i < 3 := hi
    match i, hi' with
    | 0, _ => rfl
    | 1, _ => rfl
    | 2, _ => rfl) Try.underlying23 Try.underlying45 rfl (int_of (by kernel_rfl)) (hone_of (by kernel_rfl)) (by kernel_rfl) h2
  refine ⟨A, n, c, A', m, c', ⟨x, st, lk⟩, rfl, ⟨hr, hr', h1, h2', h3, k1, k2, k3⟩, ⟨bx.1, by have := bx.2; omega⟩, fun p hp => ?_, fun l hl => ?_⟩
  · obtain ⟨x, rfl, hx⟩ := h4 p hp
    exact ⟨hx 0 (by show 0 < 2; omega), hx 1 (by show 1 < 2; omega)⟩
  · obtain ⟨x, rfl, hx⟩ := k4 l hl
    exact ⟨hx 0 (by show 0 < 3; omega), hx 1 (by show 1 < 3; omega), hx 2 (by show 2 < 3; omega)⟩

end Go.Proofs.Ytdhlbcbgbmgcjaa.Gf

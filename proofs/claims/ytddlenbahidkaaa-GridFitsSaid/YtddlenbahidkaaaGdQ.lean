/- Layer 14 (grid): the laws' rows, out of what a program's functions must do. -/
import Derived.Test.YtddlenbahidkaaaRows
import Derived.Test.YtddlenbahidkaaaGdW
import Derived.Test.YtddlenbahidkaaaGdX
import Derived.Test.YtddlenbahidkaaaRecO
import Derived.Test.YtddlenbahidkaaaOpenN
import Derived.Test.YtddlenbahidkaaaOpen
namespace Go.Proofs.Ytddlenbahidkaaa.GdQ
open Go.ChangeShapes Go.WideShapes Go.ChangeAt Go.RowKit Go.Deep Gd Ge Rec

theorem own : ownKnob Try.prog.godebug = none := by kernel_rfl
theorem laidOut : laidOutB Try.prog = true := by kernel_rfl
theorem two_of : ∀ {zs : List Int}, zs.length = 2 → ∃ a b, zs = [a, b]
  | [a, b], _ => ⟨a, b, rfl⟩
theorem three_of : ∀ {zs : List Int}, zs.length = 3 → ∃ a b c, zs = [a, b, c]
  | [a, b, c], _ => ⟨a, b, c, rfl⟩
theorem four_of : ∀ {zs : List Int}, zs.length = 4 → ∃ a b c d, zs = [a, b, c, d]
  | [a, b, c, d], _ => ⟨a, b, c, d, rfl⟩
set_option maxRecDepth 100000 in
theorem open_stops {H : Type} {enc : TypeId × Value → H} {W : World} {base : Nat} {v : Value} {d : DataW H} {ps : List MemPlace} (hv : Value.okWide Try.prog W .any base 22 v) (h : DataW.Trod enc Try.prog W 0 (fun _ => true) true 22 v d ps) :
    ∃ A n c l, v = .slice A n c ∧ RRow twoS W W.heap.size A n l ∧ (A = none → c = 0) ∧ n ≤ c ∧ c ≤ maxLen ∧ ∀ p ∈ l, B64p p := by
  obtain ⟨A, n, c, l, rfl, hr, h1, h2, h3, h4⟩ := open_recs twoS (fun x => (x 0, x 1)) (fun x i hi => by
    have hi' : i < 2 := hi
    match i, hi' with
    | 0, _ => rfl
    | 1, _ => rfl) Try.underlying22 Try.underlying46 rfl (int_of (by kernel_rfl)) (hone_of (by kernel_rfl)) (by kernel_rfl) hv h
  refine ⟨A, n, c, l, rfl, hr, h1, h2, h3, fun p hp => ?_⟩
  obtain ⟨x, rfl, hx⟩ := h4 p hp
  exact ⟨hx 0 (by show 0 < 2; omega), hx 1 (by show 1 < 2; omega)⟩

set_option maxRecDepth 100000 in
theorem finds_lifted {Gr : World → Addr → List C → Int → Prop} (k : Oks Gr) (os : Os) (started : os.Started) (H : Type) (enc : TypeId × Value → H) :
    ReturnsInHanded {} Try.checked os 3 .any (Rows.gridFindsSpec.pre6 enc Try.prog Try.f3 Rows.gridFindsRow.domain false) (Rows.gridFindsSpec.post enc Try.prog Try.f3 false true false false) := by
  refine returnsInHanded_of_change (C := Try.checked) own started (by kernel_rfl) Try.func3
    (ChangeSpec.witness6 (enc := enc) (C := Try.checked) false ⟨#[], #[.slice none 0 0, .int .i64 0, .agg #[.int .i64 0, .int .i64 0, .int .i64 0, .int .i64 0]], []⟩ 8 (by kernel_rfl) (by kernel_rfl) (by kernel_rfl) (by kernel_rfl)) ?_
  intro W base args ds gs before hval0 hW _ _
  have hval : ∀ (j : Nat) t v, Try.f3.params[j]? = some t → args[j]? = some v → Value.okWide Try.prog W .any base t v := hval0
  have hW' := hW
  obtain ⟨p, q, hA0, hV, rfl, _, _⟩ := hW
  have hAA : DataW.TrodAll enc Try.prog W 0 (fun _ => true) true Try.f3.params.toList args.toList ds p := hA0
  rw [Try.params3] at hAA hval
  obtain ⟨v0, v1, v2, d0, d1, d2, p0, p1, p2, rfl, rfl, rfl, h0, h1, h2⟩ := trodAll_three hAA
  obtain ⟨rfl, rfl⟩ := trodVars_none hV
  obtain ⟨A, n, c, l, rfl, hr, hnil, hnc, hcm, hl⟩ := open_stops (hval 0 22 v0 rfl rfl) h0
  obtain ⟨s, rfl, rfl, rfl, ws⟩ := open_int Try.underlying3 (hval 1 3 v1 rfl rfl) h1
  have bs := bounds_i64 ws
  obtain ⟨zs, rfl, hz, wz⟩ := open_arr Try.underlying23 Try.underlying3 (by kernel_rfl) (by kernel_rfl) (hval 2 23 v2 rfl rfl) h2
  obtain ⟨n0, n1, n2, n3, rfl⟩ := four_of hz
  have bn0 := bounds_i64 (wz n0 (by simp))
  have bn1 := bounds_i64 (wz n1 (by simp))
  have bn2 := bounds_i64 (wz n2 (by simp))
  have bn3 := bounds_i64 (wz n3 (by simp))
  refine (finds_walk k A n c l s n0 n1 n2 n3 W hnil hnc hcm hl ⟨bs.1, by have := bs.2; omega⟩ ⟨bn0.1, by have := bn0.2; omega⟩ ⟨bn1.1, by have := bn1.2; omega⟩ ⟨bn2.1, by have := bn2.2; omega⟩ ⟨bn3.1, by have := bn3.2; omega⟩ hr).mono fun e W' ⟨he, hb⟩ => ?_
  subst he
  exact ⟨_, rfl, law_post laidOut (by kernel_rfl) rfl Try.underlying4 rfl hW' rfl hb⟩

theorem finds_row {Gr : World → Addr → List C → Int → Prop} (k : Oks Gr) : Rows.GridFindsSaid :=
  OpenClaim.holds_of_wide 3 Try.f3 rfl rfl rfl rfl rfl rfl rfl ⟨rfl, rfl, rfl, rfl, rfl⟩ rfl rfl rfl rfl rfl (by kernel_rfl) Try.func3 (by kernel_rfl)
    (of_decide_eq_true (by kernel_rfl)) (by unfold Func.isWrapper; first | (rw [if_pos (by decide +kernel)]; kernel_rfl) | (rw [if_neg (by decide +kernel)]; exact ⟨rfl, rfl⟩))
    (fun os started H enc _ => finds_lifted k os started H enc)

set_option maxRecDepth 100000 in
theorem fits_lifted {Gr : World → Addr → List C → Int → Prop} (k : Oks Gr) (os : Os) (started : os.Started) (H : Type) (enc : TypeId × Value → H) :
    ReturnsInHanded {} Try.checked os 4 .any (Rows.gridFitsSpec.pre6 enc Try.prog Try.f4 Rows.gridFitsRow.domain false) (Rows.gridFitsSpec.post enc Try.prog Try.f4 false true false false) := by
  refine returnsInHanded_of_change (C := Try.checked) own started (by kernel_rfl) Try.func4
    (ChangeSpec.witness6 (enc := enc) (C := Try.checked) false ⟨#[], #[.slice none 0 0, .agg #[.int .i64 0, .int .i64 0], .agg #[.int .i64 0, .int .i64 0, .int .i64 0]], []⟩ 8 (by kernel_rfl) (by kernel_rfl) (by kernel_rfl) (by kernel_rfl)) ?_
  intro W base args ds gs before hval0 hW _ _
  have hval : ∀ (j : Nat) t v, Try.f4.params[j]? = some t → args[j]? = some v → Value.okWide Try.prog W .any base t v := hval0
  have hW' := hW
  obtain ⟨p, q, hA0, hV, rfl, _, _⟩ := hW
  have hAA : DataW.TrodAll enc Try.prog W 0 (fun _ => true) true Try.f4.params.toList args.toList ds p := hA0
  rw [Try.params4] at hAA hval
  obtain ⟨v0, v1, v2, d0, d1, d2, p0, p1, p2, rfl, rfl, rfl, h0, h1, h2⟩ := trodAll_three hAA
  obtain ⟨rfl, rfl⟩ := trodVars_none hV
  obtain ⟨A, n, c, l, rfl, hr, hnil, hnc, hcm, hl⟩ := open_stops (hval 0 22 v0 rfl rfl) h0
  obtain ⟨ys, rfl, hy, wy⟩ := open_arr Try.underlying44 Try.underlying3 (by kernel_rfl) (by kernel_rfl) (hval 1 44 v1 rfl rfl) h1
  obtain ⟨s0, s1, rfl⟩ := two_of hy
  have bs0 := bounds_i64 (wy s0 (by simp))
  have bs1 := bounds_i64 (wy s1 (by simp))
  obtain ⟨zs, rfl, hz, wz⟩ := open_arr Try.underlying45 Try.underlying3 (by kernel_rfl) (by kernel_rfl) (hval 2 45 v2 rfl rfl) h2
  obtain ⟨n0, n1, n2, rfl⟩ := three_of hz
  have bn0 := bounds_i64 (wz n0 (by simp))
  have bn1 := bounds_i64 (wz n1 (by simp))
  have bn2 := bounds_i64 (wz n2 (by simp))
  refine (fits_walk k A n c l s0 s1 n0 n1 n2 W hnil hnc hcm hl ⟨bs0.1, by have := bs0.2; omega⟩ ⟨bs1.1, by have := bs1.2; omega⟩ ⟨bn0.1, by have := bn0.2; omega⟩ ⟨bn1.1, by have := bn1.2; omega⟩ ⟨bn2.1, by have := bn2.2; omega⟩ hr).mono fun e W' ⟨he, hb⟩ => ?_
  subst he
  exact ⟨_, rfl, law_post laidOut (by kernel_rfl) rfl Try.underlying4 rfl hW' rfl hb⟩

theorem fits_row {Gr : World → Addr → List C → Int → Prop} (k : Oks Gr) : Rows.GridFitsSaid :=
  OpenClaim.holds_of_wide 4 Try.f4 rfl rfl rfl rfl rfl rfl rfl ⟨rfl, rfl, rfl, rfl, rfl⟩ rfl rfl rfl rfl rfl (by kernel_rfl) Try.func4 (by kernel_rfl)
    (of_decide_eq_true (by kernel_rfl)) (by unfold Func.isWrapper; first | (rw [if_pos (by decide +kernel)]; kernel_rfl) | (rw [if_neg (by decide +kernel)]; exact ⟨rfl, rfl⟩))
    (fun os started H enc _ => fits_lifted k os started H enc)
end Go.Proofs.Ytddlenbahidkaaa.GdQ

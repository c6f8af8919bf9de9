/- Lemmas that the proof stands on, in build order: PtQ. -/
import Derived.Test.YtdhlbcbgbmgcjaaRows
import Derived.Test.YtdhlbcbgbmgcjaaJ161468ca
import Derived.Test.YtdhlbcbgbmgcjaaJ17936be0
import Derived.Test.YtdhlbcbgbmgcjaaJ18dcf544
import Derived.Test.YtdhlbcbgbmgcjaaJ196484b3
import Derived.Test.YtdhlbcbgbmgcjaaJ20c74d9b
/- Layer 17 (path): the laws' rows, out of what a program's functions must do. -/
namespace Go.Proofs.Ytdhlbcbgbmgcjaa.PtQ
open Go.ChangeShapes Go.WideShapes Go.ChangeAt Go.RowKit Go.Deep Pt Gf Ge Rec Ints

theorem own : ownKnob Try.prog.godebug = none := by kernel_rfl
theorem laidOut : laidOutB Try.prog = true := by kernel_rfl
theorem three_of : ∀ {zs : List Int}, zs.length = 3 → ∃ a b c, zs = [a, b, c]
  | [a, b, c], _ => ⟨a, b, c, rfl⟩
theorem rrow_of {w : World} {B n : Nat} {A : Option Addr} {xs : List Int} (h : Row .i64 w B A n xs) : RRow intS w B A n xs :=
  ⟨h.1, fun h0 => by
    obtain ⟨b, o, e, hb, hc⟩ := h.2 h0
    refine ⟨b, o, e, hb, fun j a ha i hi => ?_⟩
    have hi' : i < 1 := hi
    have hj : j < n := by rw [← h.1]; exact (List.getElem?_eq_some_iff.1 ha).1
    have e1 : o + j * intS.c + i = o + j := by show o + j * 1 + i = _; omega
    have e2 : i = 0 := by omega
    subst e2
    rw [e1, hc j hj, List.getD_eq_getElem?_getD, ha]
    rfl⟩

set_option maxRecDepth 100000 in
theorem pathTells_lifted (K : Oks) (os : Os) (started : os.Started) (H : Type) (enc : TypeId × Value → H) :
    ReturnsInHanded {} Try.checked os 3 .any (Rows.pathTellsSpec.pre6 enc Try.prog Try.f3 Rows.pathTellsRow.domain false) (Rows.pathTellsSpec.post enc Try.prog Try.f3 false true false false) := by
  refine returnsInHanded_of_change (C := Try.checked) own started (by kernel_rfl) Try.func3
    (ChangeSpec.witness6 (enc := enc) (C := Try.checked) false ⟨#[], #[.agg #[.int .i64 0, .slice none 0 0, .slice none 0 0], .agg #[.int .i64 0, .int .i64 0], .slice none 0 0], []⟩ 8 (by kernel_rfl) (by kernel_rfl) (by kernel_rfl) (by kernel_rfl)) ?_
  intro W base args ds gs before hval0 hW _ _
  have hval : ∀ (j : Nat) t v, Try.f3.params[j]? = some t → args[j]? = some v → Value.okWide Try.prog W .any base t v := hval0
  have hW' := hW
  obtain ⟨p, q, hA0, hV, rfl, _, _⟩ := hW
  have hAA : DataW.TrodAll enc Try.prog W 0 (fun _ => true) true Try.f3.params.toList args.toList ds p := hA0
  rw [Try.params3] at hAA hval
  obtain ⟨v0, v1, v2, d0, d1, d2, p0, p1, p2, rfl, rfl, rfl, h0, h1, h2⟩ := trodAll_three hAA
  obtain ⟨rfl, rfl⟩ := trodVars_none hV
  obtain ⟨A, n, c, A', m, c', N, rfl, hat, hbd⟩ := open_net (hval 0 25 v0 rfl rfl) h0
  obtain ⟨zs, rfl, hz, wz⟩ := open_arr Try.underlying26 Try.underlying3 (by kernel_rfl) (by kernel_rfl) (hval 1 26 v1 rfl rfl) h1
  obtain ⟨a, b, rfl⟩ := two_of hz
  have ha := bounds_i64 (wz a (by simp))
  have hb' := bounds_i64 (wz b (by simp))
  obtain ⟨Wy, k, d, way, rfl, hr, hnil, hnc, hcm, hwf⟩ := open_row2 Try.underlying27 Try.underlying3 (by kernel_rfl) (hval 2 27 v2 rfl rfl) h2
  have hby : ∀ x ∈ way, B64 x := fun x hx => by
    have hb := bounds_i64 (hwf x hx)
    exact ⟨hb.1, by have := hb.2; omega⟩
  refine (tells_walk K N A A' n c m c' Wy k d way a b W hat hbd ⟨ha.1, by have := ha.2; omega⟩ ⟨hb'.1, by have := hb'.2; omega⟩ (rrow_of hr) ⟨hnil, hnc, hcm⟩ hby).mono fun e W' ⟨he, hb⟩ => ?_
  subst he
  exact ⟨_, rfl, law_post laidOut (by kernel_rfl) rfl Try.underlying4 rfl hW' rfl hb⟩

theorem pathTells_row (K : Oks) : Rows.PathTellsSaid :=
  OpenClaim.holds_of_wide 3 Try.f3 rfl rfl rfl rfl rfl rfl rfl ⟨rfl, rfl, rfl, rfl, rfl⟩ rfl rfl rfl rfl rfl (by kernel_rfl) Try.func3 (by kernel_rfl)
    (of_decide_eq_true (by kernel_rfl)) (by unfold Func.isWrapper; first | (rw [if_pos (by decide +kernel)]; kernel_rfl) | (rw [if_neg (by decide +kernel)]; exact ⟨rfl, rfl⟩))
    (fun os started H enc _ => pathTells_lifted K os started H enc)

set_option maxRecDepth 100000 in
theorem pathLeast_lifted (K : Oks) (os : Os) (started : os.Started) (H : Type) (enc : TypeId × Value → H) :
    ReturnsInHanded {} Try.checked os 4 .any (Rows.pathLeastSpec.pre6 enc Try.prog Try.f4 Rows.pathLeastRow.domain false) (Rows.pathLeastSpec.post enc Try.prog Try.f4 false true false false) := by
  refine returnsInHanded_of_change (C := Try.checked) own started (by kernel_rfl) Try.func4
    (ChangeSpec.witness6 (enc := enc) (C := Try.checked) false ⟨#[], #[.agg #[.int .i64 0, .slice none 0 0, .slice none 0 0], .slice none 0 0], []⟩ 8 (by kernel_rfl) (by kernel_rfl) (by kernel_rfl) (by kernel_rfl)) ?_
  intro W base args ds gs before hval0 hW _ _
  have hval : ∀ (j : Nat) t v, Try.f4.params[j]? = some t → args[j]? = some v → Value.okWide Try.prog W .any base t v := hval0
  have hW' := hW
  obtain ⟨p, q, hA0, hV, rfl, _, _⟩ := hW
  have hAA : DataW.TrodAll enc Try.prog W 0 (fun _ => true) true Try.f4.params.toList args.toList ds p := hA0
  rw [Try.params4] at hAA hval
  obtain ⟨v0, v1, d0, d1, p0, p1, rfl, rfl, rfl, h0, h1⟩ := trodAll_two hAA
  obtain ⟨rfl, rfl⟩ := trodVars_none hV
  obtain ⟨A, n, c, A', m, c', N, rfl, hat, hbd⟩ := open_net (hval 0 25 v0 rfl rfl) h0
  obtain ⟨Wy, k, d, way, rfl, hr, hnil, hnc, hcm, hwf⟩ := open_row2 Try.underlying27 Try.underlying3 (by kernel_rfl) (hval 1 27 v1 rfl rfl) h1
  have hby : ∀ x ∈ way, B64 x := fun x hx => by
    have hb := bounds_i64 (hwf x hx)
    exact ⟨hb.1, by have := hb.2; omega⟩
  refine (least_walk K N A A' n c m c' Wy k d way W hat hbd (rrow_of hr) ⟨hnil, hnc, hcm⟩ hby).mono fun e W' ⟨he, hb⟩ => ?_
  subst he
  exact ⟨_, rfl, law_post laidOut (by kernel_rfl) rfl Try.underlying4 rfl hW' rfl hb⟩

theorem pathLeast_row (K : Oks) : Rows.PathLeastSaid :=
  OpenClaim.holds_of_wide 4 Try.f4 rfl rfl rfl rfl rfl rfl rfl ⟨rfl, rfl, rfl, rfl, rfl⟩ rfl rfl rfl rfl rfl (by kernel_rfl) Try.func4 (by kernel_rfl)
    (of_decide_eq_true (by kernel_rfl)) (by unfold Func.isWrapper; first | (rw [if_pos (by decide +kernel)]; kernel_rfl) | (rw [if_neg (by decide +kernel)]; exact ⟨rfl, rfl⟩))
    (fun os started H enc _ => pathLeast_lifted K os started H enc)

set_option maxRecDepth 100000 in
theorem pathFits_lifted (K : Oks) (os : Os) (started : os.Started) (H : Type) (enc : TypeId × Value → H) :
    ReturnsInHanded {} Try.checked os 5 .any (Rows.pathFitsSpec.pre6 enc Try.prog Try.f5 Rows.pathFitsRow.domain false) (Rows.pathFitsSpec.post enc Try.prog Try.f5 false true false false) := by
  refine returnsInHanded_of_change (C := Try.checked) own started (by kernel_rfl) Try.func5
    (ChangeSpec.witness6 (enc := enc) (C := Try.checked) false ⟨#[], #[.agg #[.int .i64 0, .slice none 0 0, .slice none 0 0], .agg #[.int .u8 0, .int .u8 0, .int .u8 0]], []⟩ 8 (by kernel_rfl) (by kernel_rfl) (by kernel_rfl) (by kernel_rfl)) ?_
  intro W base args ds gs before hval0 hW _ _
  have hval : ∀ (j : Nat) t v, Try.f5.params[j]? = some t → args[j]? = some v → Value.okWide Try.prog W .any base t v := hval0
  have hW' := hW
  obtain ⟨p, q, hA0, hV, rfl, _, _⟩ := hW
  have hAA : DataW.TrodAll enc Try.prog W 0 (fun _ => true) true Try.f5.params.toList args.toList ds p := hA0
  rw [Try.params5] at hAA hval
  obtain ⟨v0, v1, d0, d1, p0, p1, rfl, rfl, rfl, h0, h1⟩ := trodAll_two hAA
  obtain ⟨rfl, rfl⟩ := trodVars_none hV
  obtain ⟨A, n, c, A', m, c', N, rfl, hat, hbd⟩ := open_net (hval 0 25 v0 rfl rfl) h0
  obtain ⟨zs, rfl, hz, wz⟩ := open_arr Try.underlying43 Try.underlying5 (by kernel_rfl) (by kernel_rfl) (hval 1 43 v1 rfl rfl) h1
  obtain ⟨a, b, e, rfl⟩ := three_of hz
  have ha := bounds_u8 (wz a (by simp))
  have hb' := bounds_u8 (wz b (by simp))
  have hc' := bounds_u8 (wz e (by simp))
  refine (fits_walk K N A A' n c m c' a b e W hat hbd ⟨⟨ha.1, by have := ha.2; omega⟩, ⟨hb'.1, by have := hb'.2; omega⟩, ⟨hc'.1, by have := hc'.2; omega⟩⟩).mono fun e W' ⟨he, hb⟩ => ?_
  subst he
  exact ⟨_, rfl, law_post laidOut (by kernel_rfl) rfl Try.underlying4 rfl hW' rfl hb⟩

theorem pathFits_row (K : Oks) : Rows.PathFitsSaid :=
  OpenClaim.holds_of_wide 5 Try.f5 rfl rfl rfl rfl rfl rfl rfl ⟨rfl, rfl, rfl, rfl, rfl⟩ rfl rfl rfl rfl rfl (by kernel_rfl) Try.func5 (by kernel_rfl)
    (of_decide_eq_true (by kernel_rfl)) (by unfold Func.isWrapper; first | (rw [if_pos (by decide +kernel)]; kernel_rfl) | (rw [if_neg (by decide +kernel)]; exact ⟨rfl, rfl⟩))
    (fun os started H enc _ => pathFits_lifted K os started H enc)
end Go.Proofs.Ytdhlbcbgbmgcjaa.PtQ

/- Layer 13 (geo): the laws' rows, out of what a program's functions must do. -/
import Derived.Test.YtngjgdikooaknaaRows
import Derived.Test.YtngjgdikooaknaaGeF
import Derived.Test.YtngjgdikooaknaaOpenN
import Derived.Test.YtngjgdikooaknaaOpen
namespace Go.Proofs.Ytngjgdikooaknaa.GeQ
open Go.ChangeShapes Go.WideShapes Go.ChangeAt Go.RowKit Go.Deep Ge Rec

theorem own : ownKnob Try.prog.godebug = none := by kernel_rfl
theorem laidOut : laidOutB Try.prog = true := by kernel_rfl
theorem two_of : ∀ {zs : List Int}, zs.length = 2 → ∃ a b, zs = [a, b]
  | [a, b], _ => ⟨a, b, rfl⟩

set_option maxRecDepth 100000 in
theorem tells_lifted (k : Oks) (os : Os) (started : os.Started) (H : Type) (enc : TypeId × Value → H) :
    ReturnsInHanded {} Try.checked os 3 .any (Rows.geoTellsSpec.pre6 enc Try.prog Try.f3 Rows.geoTellsRow.domain false) (Rows.geoTellsSpec.post enc Try.prog Try.f3 false true false false) := by
  refine returnsInHanded_of_change (C := Try.checked) own started (by kernel_rfl) Try.func3
    (ChangeSpec.witness6 (enc := enc) (C := Try.checked) false ⟨#[], #[.agg #[.int .i64 0, .int .i64 0], .agg #[.int .i64 0, .int .i64 0], .agg #[.int .i64 0, .int .i64 0]], []⟩ 8 (by kernel_rfl) (by kernel_rfl) (by kernel_rfl) (by kernel_rfl)) ?_
  intro W base args ds gs before hval0 hW _ _
  have hval : ∀ (j : Nat) t v, Try.f3.params[j]? = some t → args[j]? = some v → Value.okWide Try.prog W .any base t v := hval0
  have hW' := hW
  obtain ⟨p, q, hA0, hV, rfl, _, _⟩ := hW
  have hAA : DataW.TrodAll enc Try.prog W 0 (fun _ => true) true Try.f3.params.toList args.toList ds p := hA0
  rw [Try.params3] at hAA hval
  obtain ⟨v0, v1, v2, d0, d1, d2, p0, p1, p2, rfl, rfl, rfl, h0, h1, h2⟩ := trodAll_three hAA
  obtain ⟨rfl, rfl⟩ := trodVars_none hV
  obtain ⟨xs, rfl, hx, wx⟩ := open_nums Try.underlying23 (hone_of (by kernel_rfl)) (by kernel_rfl) rfl (int_of (by kernel_rfl)) (hval 0 23 v0 rfl rfl) h0
  obtain ⟨x0, x1, rfl⟩ := two_of hx
  have bx0 := bounds_i64 (wx x0 (by simp))
  have bx1 := bounds_i64 (wx x1 (by simp))
  obtain ⟨ys, rfl, hy, wy⟩ := open_nums Try.underlying23 (hone_of (by kernel_rfl)) (by kernel_rfl) rfl (int_of (by kernel_rfl)) (hval 1 23 v1 rfl rfl) h1
  obtain ⟨y0, y1, rfl⟩ := two_of hy
  have by0 := bounds_i64 (wy y0 (by simp))
  have by1 := bounds_i64 (wy y1 (by simp))
  obtain ⟨zs, rfl, hz, wz⟩ := open_nums Try.underlying23 (hone_of (by kernel_rfl)) (by kernel_rfl) rfl (int_of (by kernel_rfl)) (hval 2 23 v2 rfl rfl) h2
  obtain ⟨z0, z1, rfl⟩ := two_of hz
  have bz0 := bounds_i64 (wz z0 (by simp))
  have bz1 := bounds_i64 (wz z1 (by simp))
  refine (tells_walk k (x0, x1) (y0, y1) (z0, z1) W ⟨⟨bx0.1, by have := bx0.2; omega⟩, ⟨bx1.1, by have := bx1.2; omega⟩⟩ ⟨⟨by0.1, by have := by0.2; omega⟩, ⟨by1.1, by have := by1.2; omega⟩⟩ ⟨⟨bz0.1, by have := bz0.2; omega⟩, ⟨bz1.1, by have := bz1.2; omega⟩⟩).mono fun e W' ⟨he, hb⟩ => ?_
  subst he
  exact ⟨_, rfl, law_post laidOut (by kernel_rfl) rfl Try.underlying4 rfl hW' rfl hb⟩

theorem tells_row (k : Oks) : Rows.GeoTellsSaid :=
  OpenClaim.holds_of_wide 3 Try.f3 rfl rfl rfl rfl rfl rfl rfl ⟨rfl, rfl, rfl, rfl, rfl⟩ rfl rfl rfl rfl rfl (by kernel_rfl) Try.func3 (by kernel_rfl)
    (of_decide_eq_true (by kernel_rfl)) (by unfold Func.isWrapper; first | (rw [if_pos (by decide +kernel)]; kernel_rfl) | (rw [if_neg (by decide +kernel)]; exact ⟨rfl, rfl⟩))
    (fun os started H enc _ => tells_lifted k os started H enc)

set_option maxRecDepth 100000 in
theorem rings_lifted (k : Oks) (os : Os) (started : os.Started) (H : Type) (enc : TypeId × Value → H) :
    ReturnsInHanded {} Try.checked os 4 .any (Rows.geoRingsSpec.pre6 enc Try.prog Try.f4 Rows.geoRingsRow.domain false) (Rows.geoRingsSpec.post enc Try.prog Try.f4 false true false false) := by
  refine returnsInHanded_of_change (C := Try.checked) own started (by kernel_rfl) Try.func4
    (ChangeSpec.witness6 (enc := enc) (C := Try.checked) false ⟨#[], #[.int .i64 0], []⟩ 8 (by kernel_rfl) (by kernel_rfl) (by kernel_rfl) (by kernel_rfl)) ?_
  intro W base args ds gs before hval0 hW _ _
  have hval : ∀ (j : Nat) t v, Try.f4.params[j]? = some t → args[j]? = some v → Value.okWide Try.prog W .any base t v := hval0
  have hW' := hW
  obtain ⟨p, q, hA0, hV, rfl, _, _⟩ := hW
  have hAA : DataW.TrodAll enc Try.prog W 0 (fun _ => true) true Try.f4.params.toList args.toList ds p := hA0
  rw [Try.params4] at hAA hval
  obtain ⟨v0, d0, rfl, rfl, h0⟩ := trodAll_one hAA
  obtain ⟨rfl, rfl⟩ := trodVars_none hV
  obtain ⟨r, rfl, rfl, rfl, wr⟩ := open_int Try.underlying3 (hval 0 3 v0 rfl rfl) h0
  have br := bounds_i64 wr
  refine (rings_walk k r W ⟨br.1, by have := br.2; omega⟩).mono fun e W' ⟨he, hb⟩ => ?_
  subst he
  exact ⟨_, rfl, law_post laidOut (by kernel_rfl) rfl Try.underlying4 rfl hW' rfl hb⟩

theorem rings_row (k : Oks) : Rows.GeoRingsSaid :=
  OpenClaim.holds_of_wide 4 Try.f4 rfl rfl rfl rfl rfl rfl rfl ⟨rfl, rfl, rfl, rfl, rfl⟩ rfl rfl rfl rfl rfl (by kernel_rfl) Try.func4 (by kernel_rfl)
    (of_decide_eq_true (by kernel_rfl)) (by unfold Func.isWrapper; first | (rw [if_pos (by decide +kernel)]; kernel_rfl) | (rw [if_neg (by decide +kernel)]; exact ⟨rfl, rfl⟩))
    (fun os started H enc _ => rings_lifted k os started H enc)
theorem six_of : ∀ {zs : List Int}, zs.length = 6 → ∃ a b c d e f, zs = [a, b, c, d, e, f]
  | [a, b, c, d, e, f], _ => ⟨a, b, c, d, e, f, rfl⟩
set_option maxRecDepth 100000 in
theorem open_three {H : Type} {enc : TypeId × Value → H} {W : World} {base : Nat} {v : Value} {d : DataW H} {ps : List MemPlace} (hv : Value.okWide Try.prog W .any base 37 v) (h : DataW.Trod enc Try.prog W 0 (fun _ => true) true 37 v d ps) :
    ∃ a b c : Int × Int, v = .agg #[.int .i64 a.1, .int .i64 a.2, .int .i64 b.1, .int .i64 b.2, .int .i64 c.1, .int .i64 c.2] ∧ B64p a ∧ B64p b ∧ B64p c := by
  obtain ⟨zs, rfl, hz, wz⟩ := open_arr_nums (m := 3) (s := 2) Try.underlying37 Try.underlying23 (hone_of (by kernel_rfl)) (by kernel_rfl) rfl (int_of (by kernel_rfl)) (by kernel_rfl) hv h
  obtain ⟨a, b, c, d, e, f, rfl⟩ := six_of hz
  have ba := bounds_i64 (wz a (by simp))
  have bb := bounds_i64 (wz b (by simp))
  have bc := bounds_i64 (wz c (by simp))
  have bd := bounds_i64 (wz d (by simp))
  have be := bounds_i64 (wz e (by simp))
  have bf := bounds_i64 (wz f (by simp))
  refine ⟨(a, b), (c, d), (e, f), rfl, ⟨⟨ba.1, by have := ba.2; omega⟩, ⟨bb.1, by have := bb.2; omega⟩⟩, ⟨⟨bc.1, by have := bc.2; omega⟩, ⟨bd.1, by have := bd.2; omega⟩⟩, ⟨⟨be.1, by have := be.2; omega⟩, ⟨bf.1, by have := bf.2; omega⟩⟩⟩

set_option maxRecDepth 100000 in
theorem fits_lifted (k : Oks) (os : Os) (started : os.Started) (H : Type) (enc : TypeId × Value → H) :
    ReturnsInHanded {} Try.checked os 5 .any (Rows.geoFitsSpec.pre6 enc Try.prog Try.f5 Rows.geoFitsRow.domain false) (Rows.geoFitsSpec.post enc Try.prog Try.f5 false true false false) := by
  refine returnsInHanded_of_change (C := Try.checked) own started (by kernel_rfl) Try.func5
    (ChangeSpec.witness6 (enc := enc) (C := Try.checked) false ⟨#[], #[.int .u8 0, .agg #[.int .i64 0, .int .i64 0, .int .i64 0, .int .i64 0, .int .i64 0, .int .i64 0], .int .i64 0], []⟩ 8 (by kernel_rfl) (by kernel_rfl) (by kernel_rfl) (by kernel_rfl)) ?_
  intro W base args ds gs before hval0 hW _ _
  have hval : ∀ (j : Nat) t v, Try.f5.params[j]? = some t → args[j]? = some v → Value.okWide Try.prog W .any base t v := hval0
  have hW' := hW
  obtain ⟨p, q, hA0, hV, rfl, _, _⟩ := hW
  have hAA : DataW.TrodAll enc Try.prog W 0 (fun _ => true) true Try.f5.params.toList args.toList ds p := hA0
  rw [Try.params5] at hAA hval
  obtain ⟨v0, v1, v2, d0, d1, d2, p0, p1, p2, rfl, rfl, rfl, h0, h1, h2⟩ := trodAll_three hAA
  obtain ⟨rfl, rfl⟩ := trodVars_none hV
  obtain ⟨r, rfl, rfl, rfl, wr⟩ := open_int Try.underlying5 (hval 0 5 v0 rfl rfl) h0
  have br := bounds_u8 wr
  obtain ⟨rn, rfl⟩ : ∃ rn : Nat, r = (rn : Int) := ⟨r.toNat, by omega⟩
  obtain ⟨a, b, c, rfl, ha, hb, hc⟩ := open_three (hval 1 37 v1 rfl rfl) h1
  obtain ⟨n, rfl, rfl, rfl, wn⟩ := open_int Try.underlying3 (hval 2 3 v2 rfl rfl) h2
  have bn := bounds_i64 wn
  refine (fits_walk k rn a b c n W (by omega) ha hb hc ⟨bn.1, by have := bn.2; omega⟩).mono fun e W' ⟨he, hb⟩ => ?_
  subst he
  exact ⟨_, rfl, law_post laidOut (by kernel_rfl) rfl Try.underlying4 rfl hW' rfl hb⟩

theorem fits_row (k : Oks) : Rows.GeoFitsSaid :=
  OpenClaim.holds_of_wide 5 Try.f5 rfl rfl rfl rfl rfl rfl rfl ⟨rfl, rfl, rfl, rfl, rfl⟩ rfl rfl rfl rfl rfl (by kernel_rfl) Try.func5 (by kernel_rfl)
    (of_decide_eq_true (by kernel_rfl)) (by unfold Func.isWrapper; first | (rw [if_pos (by decide +kernel)]; kernel_rfl) | (rw [if_neg (by decide +kernel)]; exact ⟨rfl, rfl⟩))
    (fun os started H enc _ => fits_lifted k os started H enc)
end Go.Proofs.Ytngjgdikooaknaa.GeQ

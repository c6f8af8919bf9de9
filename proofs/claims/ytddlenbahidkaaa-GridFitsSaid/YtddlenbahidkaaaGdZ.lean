/- Layer 14 (grid), the landed program: slices.SortFunc on points by their order, as a contract. -/
import Derived.Test.YtddlenbahidkaaaGdP
import Derived.Test.YtddlenbahidkaaaGdY
import Derived.Test.YtddlenbahidkaaaRecK
namespace Go.Proofs.Ytddlenbahidkaaa.Gd
open Go.RowKit Rec Ints Ge Go.Sort Go.Shelf Go.Lib

theorem lt_cf (p q : C) : ltOf cf p q = decide (p.2 < q.2 ∨ (p.2 = q.2 ∧ p.1 < q.1)) := by
  unfold ltOf
  exact decide_eq_decide.2 (cf_lt p q)
theorem cf_swo : SWO (ltOf cf) where
  irrefl x := by rw [lt_cf]; simp
  trans x y z h1 h2 := by rw [lt_cf] at *; simp only [decide_eq_true_eq] at *; omega
  ntrans x y z h1 h2 := by rw [lt_cf] at *; simp only [decide_eq_false_iff_not] at *; omega
theorem cf_one (x y : C) (h1 : ltOf cf x y = false) (h2 : ltOf cf y x = false) : x = y := by
  rw [lt_cf] at *
  simp only [decide_eq_false_iff_not] at *
  obtain ⟨a, b⟩ := x
  obtain ⟨c, d⟩ := y
  simp only at *
  have e1 : a = c := by omega
  have e2 : b = d := by omega
  rw [e1, e2]
theorem cmp_lays (blk off size : Nat) (w : World) : CmpLays Try.prog 24 #[] twoS.f 2 cf blk off size w := fun _ _ _ _ x y => (order_any x y _).mono fun _ _ h => h
/-- The points in order. -/
def srtP (ps : List C) : List C := ps.mergeSort fun x y => !ltOf cf y x
theorem srt_len (ps : List C) : (srtP ps).length = ps.length := List.length_mergeSort ps

set_option maxHeartbeats 1600000 in
set_option maxRecDepth 100000 in
theorem sort_any (gs : Nat) (v : Value) (ps : List C) (w : World) (h : w.ownsRow gs 57 2 v ps.length (twoS.flat ps)) (hl : ps.length ≤ 4096) (hg : gs ≤ w.heap.size) :
    Calls Try.prog 23 #[v, .func (.func 24) #[] #[]] w fun e w' => e = .returned (.tuple #[]) ∧ w'.ownsRow gs 57 2 v ps.length (twoS.flat (srtP ps)) ∧ Below gs w w' := by
  rcases h.2 with ⟨rfl, h0⟩ | ⟨g, cap, cur, rfl, h1, hb, h3, h4, h5, h6⟩
  · have hp : ps = [] := List.eq_nil_of_length_eq_zero h0
    subst hp
    have hc := AnyF.slices_SortFunc_none Lay.sortPt none 0 (.func (.func 24) #[] #[]) w
    refine hc.mono ?_
    rintro e w' ⟨rfl, rfl⟩
    exact ⟨rfl, by have e : srtP [] = [] := by unfold srtP; simp
                   rw [e]; exact h, Below.refl _ _⟩
  · have eg : ∀ args w, (callFunc 24 args).run Try.prog w = .ok (.enter 24 args) w := enters_of Try.func24 (by kernel_rfl) rfl
    have hc := AnyQ.slices_SortFunc_total Lay.sortPt 2 Try.isAgg57 Try.sizeOf57 twoS.f (fun _ => rfl) twoS.one cf cf_swo 24 #[] g 0 cap ps.toArray w eg (cmp_lays g 0 _ w) (holds_of twoS hb h6) (Array.getElem?_eq_some_iff.1 hb).1 (by simp; omega) cf_one
    simp only [List.size_toArray] at hc
    refine hc.mono ?_
    rintro e w' ⟨rfl, n, os, rfl⟩
    refine ⟨rfl, own_sorted twoS (srt_len ps) h1 hb h3 h4 h5, ?_⟩
    have hgr := grown_sorted twoS (w := w) (g := g) (n := n) (os := os) (srtP ps).toArray
    exact (Only.of_grown hgr).below hg (fun k hk => by have := Option.some.inj hk; omega)
end Go.Proofs.Ytddlenbahidkaaa.Gd

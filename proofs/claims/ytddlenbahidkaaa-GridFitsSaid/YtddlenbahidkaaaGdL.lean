/- Layer 14 (grid): the laws' awake; what the laws keep of the grid while they go on. -/
import Derived.Test.YtddlenbahidkaaaGdS
namespace Go.Proofs.Ytddlenbahidkaaa.Gd
open Go.RowKit Rec Ints Ge

section
variable {Gr : World → Addr → List C → Int → Prop}
theorem grow_gr (k : Oks Gr) {w w' : World} {a : Addr} {l : List C} {s : Int} (h : Gr w a l s) (hb : Below w.heap.size w w') : Gr w' a l s := k.keep h hb

set_option maxHeartbeats 800000 in
set_option maxRecDepth 100000 in
theorem awake_any (k : Oks Gr) (w : World) : Calls Try.prog 5 #[] w fun e w' => e = .returned (.bool true) ∧ Below w.heap.size w w' := by
  have HR0 : Hid (right [(0, 0), (3, 4)] 2 = 0) := by unfold Hid; decide
  have HNT : Hid (nearT [(0, 0), (3, 4)] 0 0 5 9 = ([0, 1], 0)) := by unfold Hid; decide
  have HB6 : Hid (∀ p ∈ [((0 : Int), (0 : Int)), (3, 4)], B64p p) := by unfold Hid B64p B64; decide
  have HB0 : Hid (Below w.heap.size w (w.alloc (.cells #[.int .i64 0, .int .i64 0, .int .i64 3, .int .i64 4] 46))) := (Below.refl _ _).alloc (Nat.le_refl _) _
  have HRW : Hid (RRow twoS (w.alloc (.cells #[.int .i64 0, .int .i64 0, .int .i64 3, .int .i64 4] 46)) (w.alloc (.cells #[.int .i64 0, .int .i64 0, .int .i64 3, .int .i64 4] 46)).heap.size (some ⟨w.heap.size, 0, none⟩) 2 [(0, 0), (3, 4)]) := RRow.of_blk (S := twoS) (l := [(0, 0), (3, 4)]) (heap_alloc_new w _) (by simp) rfl
  go_enter Try.func5, Try.ntmps5
  go_wp2_with fail
  generalize w.alloc (.cells #[.int .i64 0, .int .i64 0, .int .i64 3, .int .i64 4] 46) = w1 at *
  refine (k.new _ 2 2 [(0, 0), (3, 4)] 2 w1 HRW.out (fun h => by cases h) (Nat.le_refl _) (by unfold maxLen; omega) (by omega) HB6.out ⟨by omega, by omega⟩).mono ?_
  rw [HR0.out]
  rintro e2 w2 ⟨v2, rfl, -, hg2, hb2⟩
  obtain ⟨a2, rfl, hgr⟩ := hg2 rfl
  have HG2 := Lib.hid hgr
  have HB2 := Lib.hid (HB0.out.trans (hb2.mono HB0.out.size))
  clear hg2 hgr hb2 HB0 HRW
  go_wp2_with fail
  refine (k.near a2 [(0, 0), (3, 4)] 2 0 0 5 9 w2 HG2.out (by decide) HB6.out HR0.out ⟨by omega, by omega⟩ ⟨by omega, by omega⟩ ⟨by omega, by omega⟩ ⟨by omega, by omega⟩).mono ?_
  rw [HNT.out]
  rintro e3 w3 ⟨v3, rfl, A3, n3, c3, rfl, hr3, -, -, -, hb3⟩
  have hl3 := hr3.len
  have HR3 := Lib.hid hr3
  have HG3 := Lib.hid (k.keep HG2.out hb3)
  have HB3 := Lib.hid (HB2.out.trans (hb3.mono HB2.out.size))
  have e2 : n3 = 2 := by rw [← hl3]; rfl
  clear hr3 hb3 hl3 HG2 HB2
  subst e2
  have HRX : Hid (RRow intS (w3.alloc (.cells #[.int .i64 0, .int .i64 1] 3)) (w3.alloc (.cells #[.int .i64 0, .int .i64 1] 3)).heap.size (some ⟨w3.heap.size, 0, none⟩) 2 [0, 1]) := RRow.of_blk (S := intS) (l := [0, 1]) (heap_alloc_new w3 _) (by simp) rfl
  have HR3a : Hid (RRow intS (w3.alloc (.cells #[.int .i64 0, .int .i64 1] 3)) w3.heap.size A3 2 [0, 1]) := HR3.out.below ((Below.refl _ _).alloc (Nat.le_refl _) _)
  have HG4 := Lib.hid (k.keep HG3.out ((Below.refl w3.heap.size w3).alloc (Nat.le_refl _) (.cells #[.int .i64 0, .int .i64 1] 3)))
  have HB4 := Lib.hid (HB3.out.alloc HB3.out.size (.cells #[.int .i64 0, .int .i64 1] 3))
  clear HG3 HB3
  go_wp2_with fail
  generalize w3.alloc (.cells #[.int .i64 0, .int .i64 1] 3) = w4 at *
  refine (isame_any A3 _ 2 2 c3 2 _ _ [0, 1] [0, 1] w4 (by omega) HR3a.out HRX.out).mono ?_
  rw [show decide (([0, 1] : List Int) = [0, 1]) = true from rfl]
  rintro e5 w5 ⟨rfl, q5, rfl⟩
  have HG5 := Lib.hid (k.keep HG4.out (below_drewN (Below.refl _ _) q5))
  have HB5 := Lib.hid (below_drewN HB4.out q5)
  generalize w4.drewN q5 = w5 at *
  clear HG4 HB4
  go_wp2_with fail
  refine (k.len a2 [(0, 0), (3, 4)] 2 w5 HG5.out (by decide)).mono ?_
  rintro e6 w6 ⟨rfl, hb6⟩
  have HB6' := Lib.hid (HB5.out.trans (hb6.mono HB5.out.size))
  clear hb6
  have e7 : (([(0, 0), (3, 4)] : List C).length : Int) = 2 := rfl
  rw [e7]
  go_wp2
  go_ret
  exact ⟨rfl, HB6'.out⟩

/-- What a law keeps of what it was handed and of its grid. -/
structure Gx (Gr : World → Addr → List C → Int → Prop) (w : World) (a : Addr) (l : List C) (s : Int) (A : Option Addr) (n : Nat) (ns : Array Value) (ty : TypeId) (wr : World) : Prop where
  arr : wr.heap[w.heap.size]? = some (.cells ns ty (0, 0))
  bel : Below w.heap.size w wr
  gr : Gr wr a l s
  row : RRow twoS wr wr.heap.size A n l
theorem Gx.below (k : Oks Gr) {w w1 w2 : World} {a : Addr} {l : List C} {s : Int} {A : Option Addr} {n : Nat} {ns : Array Value} {ty : TypeId} (h : Gx Gr w a l s A n ns ty w1) (hb : Below w1.heap.size w1 w2) : Gx Gr w a l s A n ns ty w2 :=
  ⟨(hb.block _ (Array.getElem?_eq_some_iff.1 h.arr).1).trans h.arr, h.bel.trans (hb.mono h.bel.size), k.keep h.gr hb, (h.row.below hb).more hb.size⟩
theorem near_first {p : C} {l : List C} (h : 0 < l.length) : ∃ i, near p l 134217728 1 = [i] := by
  have hne : 0 < (all (dq p l) l.length (134217728 * 134217728)).length := by
    have hm : 0 ∈ all (dq p l) l.length (134217728 * 134217728) := mem_all.2 ⟨h, by have := dq_small p l 0; omega⟩
    exact List.length_pos_of_mem hm
  unfold near
  cases hL : all (dq p l) l.length (134217728 * 134217728) with
  | nil => rw [hL] at hne; simp at hne
  | cons i t => exact ⟨i, rfl⟩
theorem near_none {p : C} {l : List C} (h : l.length = 0) (reach : Int) (m : Nat) : near p l reach m = [] := List.eq_nil_of_length_eq_zero (by have := near_len p l reach m; omega)
theorem nstT_no {l : List C} {x y : Int} (h : ¬ may x y) : nstT l x y = (0, false) := by unfold nstT; rw [if_neg h]
theorem nstT_nil {l : List C} {x y : Int} (h : l.length = 0) : nstT l x y = (0, false) := by unfold nstT; rw [near_none h]; split <;> rfl
theorem nstT_yes {l : List C} {x y : Int} {i : Nat} (h : may x y) (hi : near (x, y) l 134217728 1 = [i]) : nstT l x y = ((i : Int), true) := by unfold nstT; rw [if_pos h, hi]
theorem nearT_no {l : List C} {x y r m : Int} (h : ¬ may x y ∨ r < 0 ∨ 1048576 < r ∨ m < 0) : nearT l x y r m = ([], 2) := by unfold nearT; rw [if_pos h]
theorem nearT_yes {l : List C} {x y r m : Int} (h : ¬ (¬ may x y ∨ r < 0 ∨ 1048576 < r ∨ m < 0)) : nearT l x y r m = (nums (near (x, y) l r m.toNat), 0) := by unfold nearT; rw [if_neg h]
end
end Go.Proofs.Ytddlenbahidkaaa.Gd

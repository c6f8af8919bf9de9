/- Layer 16 (heap), the landed code at Int × Int: Top, whose result lies in a block. -/
import Derived.Test.YthhnemanaciikaaHqEU
import Derived.Test.YthhnemanaciikaaRes
import Derived.Test.YthhnemanaciikaaSto
import Derived.Lib.SmallJoins
namespace Go.Proofs.Ythhnemanaciikaa.Hq.E
open Go.RowKit Rec Ints Ge

theorem info_pl : (Try.prog.info? 39).map (·.size) = some (#[.int .i64 0, .int .i64 0] : Array Value).size := by kernel_rfl
/-- A result's block. -/
structure Box (w0 w : World) (G : Nat) (p : El) : Prop where
  blk : w.heap[G]? = some (.cells #[.int .i64 p.1, .int .i64 p.2] 39 (0, 0))
  old : w0.heap.size ≤ G
  bel : Below w0.heap.size w0 w
section
variable {w0 w w' : World} {G : Nat} {p q : El}
theorem Box.new (w : World) : Box w (w.alloc (.cells #[.int .i64 0, .int .i64 0] 39)) w.heap.size (0, 0) :=
  ⟨heap_alloc_new w _, Nat.le_refl _, (Below.refl _ _).alloc (Nat.le_refl _) _⟩
theorem Box.below (h : Box w0 w G p) (hb : Below w.heap.size w w') : Box w0 w' G p :=
  ⟨(hb.block G (Array.getElem?_eq_some_iff.1 h.blk).1).trans h.blk, h.old, h.bel.trans (hb.mono h.bel.size)⟩
theorem Box.facts (h : Box w0 w G p) : w.cell? ⟨G, 0, none⟩ = some (.int .i64 p.1) ∧ w.cell? ⟨G, 1, none⟩ = some (.int .i64 p.2) ∧ w.frozen? ⟨G, 0, none⟩ = false ∧ w.frozen? ⟨G, 1, none⟩ = false :=
  ⟨cell_of_blk h.blk rfl, cell_of_blk h.blk rfl, frozen_of_row w G 0 _ _ h.blk, frozen_of_row w G 1 _ _ h.blk⟩
theorem Box.put (h : Box w0 w G p) (q : El) : Box w0 ((w.setCell ⟨G, 0, none⟩ (.int .i64 q.1)).setCell ⟨G, 1, none⟩ (.int .i64 q.2)) G q := by
  have h1 : Only (fun k => k = G) w ((w.setCell ⟨G, 0, none⟩ (.int .i64 q.1)).setCell ⟨G, 1, none⟩ (.int .i64 q.2)) := (Only.setCell w ⟨G, 0, none⟩ (.int .i64 q.1)).trans (Only.setCell _ ⟨G, 1, none⟩ (.int .i64 q.2)) (fun _ _ h => h)
  exact ⟨Sto.whole_set (vs := #[.int .i64 q.1, .int .i64 q.2]) h.blk rfl, h.old, h.bel.trans (h1.below h.bel.size fun k hk => by rw [hk]; exact h.old)⟩
theorem Box.load (h : Box w0 w G p) : (loadVar 39 ⟨G, 0, none⟩).run Try.prog w = .ok (.agg #[.int .i64 p.1, .int .i64 p.2]) w := run_loadVar_row _ _ 39 39 _ (0, 0) _ h.blk Try.underlying39 rfl info_pl
end
theorem top_nil (w : World) :
    Calls Try.prog 29 #[.pointer none] w fun e w' => e = .returned (.tuple #[pl ((0 : Int), (0 : Int)), .bool false]) ∧ Below w.heap.size w w' := by
  have HN := Lib.hid (len_nil (w.alloc (.cells #[.int .i64 0, .int .i64 0] 39)))
  have HB0 := Lib.hid (Box.new w)
  go_enter Try.func29, Try.ntmps29
  go_wp2_with fail
  generalize w.alloc (.cells #[.int .i64 0, .int .i64 0] 39) = w0 at *
  refine HN.out.mono ?_
  rintro e1 w1 ⟨rfl, hb1⟩
  have hb2 := HB0.out.below (hb1.alloc (Nat.le_trans (Nat.le_refl _) hb1.size) (.cells #[.int .i64 0, .int .i64 0] 39))
  obtain ⟨d0, d1, d2, d3⟩ := hb2.facts
  have HB2 := Lib.hid (hb2.put (0, 0))
  clear HN hb1 hb2 HB0
  go_wp2
  (try simp only [Exit.inBlock, Exit.then]); refine bodyPost_ret (results_cell_one rfl _ _ w.heap.size #[.int .i64 0, .int .i64 0] rfl HB2.out.load) rfl ?_
  exact ⟨rfl, HB2.out.bel⟩
theorem top_none (B : Nat) (f : FuncId) (lb : Array Value) (w : World) (b : Nat) (v : Value) (h : Base w B f lb b v []) :
    Calls Try.prog 29 #[.pointer (some ⟨b, 0, none⟩)] w fun e w' => e = .returned (.tuple #[pl ((0 : Int), (0 : Int)), .bool false]) ∧ Below w.heap.size w w' := by
  obtain ⟨A, c, rfl, -⟩ := ownr_slice h.own
  have HB0 := Lib.hid (Box.new w)
  have HN := Lib.hid (len_any (w.alloc (.cells #[.int .i64 0, .int .i64 0] 39)) b f lb A 0 c ((HB0.out.bel.block b h.lt).trans h.blk))
  clear h
  go_enter Try.func29, Try.ntmps29
  go_wp2_with fail
  generalize w.alloc (.cells #[.int .i64 0, .int .i64 0] 39) = w0 at *
  refine HN.out.mono ?_
  rintro e1 w1 ⟨rfl, hb1⟩
  have hb2 := HB0.out.below (hb1.alloc (Nat.le_trans (Nat.le_refl _) hb1.size) (.cells #[.int .i64 0, .int .i64 0] 39))
  obtain ⟨d0, d1, d2, d3⟩ := hb2.facts
  have HB2 := Lib.hid (hb2.put (0, 0))
  clear HN hb1 hb2 HB0
  go_wp2
  (try simp only [Exit.inBlock, Exit.then]); refine bodyPost_ret (results_cell_one rfl _ _ w.heap.size #[.int .i64 0, .int .i64 0] rfl HB2.out.load) rfl ?_
  exact ⟨rfl, HB2.out.bel⟩
theorem top_some (B : Nat) (f : FuncId) (lb : Array Value) (w : World) (b g cap n : Nat) (l : List El) (x : El) (h : Lies w B f lb b g cap n l) (hx : l[0]? = some x) :
    Calls Try.prog 29 #[.pointer (some ⟨b, 0, none⟩)] w fun e w' => e = .returned (.tuple #[pl x, .bool true]) ∧ Below w.heap.size w w' := by
  have hn : 0 < n := by have := (List.getElem?_eq_some_iff.1 hx).1; have := h.len; omega
  have HB0 := Lib.hid (Box.new w)
  have HN := Lib.hid (len_any (w.alloc (.cells #[.int .i64 0, .int .i64 0] 39)) b f lb (some ⟨g, 0, none⟩) n cap (h.below HB0.out.bel).blk)
  have H := Lib.hid h
  have HX := Lib.hid hx
  clear h hx
  have a1 : ((n : Int) == 0) = false := beq_eq_false_iff_ne.2 (by omega)
  have a2 : (0 : Int) < (n : Int) := by omega
  go_enter Try.func29, Try.ntmps29
  go_wp2_with fail
  generalize w.alloc (.cells #[.int .i64 0, .int .i64 0] 39) = w0 at *
  refine HN.out.mono ?_
  rintro e1 w1 ⟨rfl, hb1⟩
  have H1 := Lib.hid (H.out.below (HB0.out.bel.trans (hb1.mono HB0.out.bel.size)))
  have hb2 := HB0.out.below hb1
  have c1 : w1.cell? ⟨b, 1, none⟩ = some (.slice (some ⟨g, 0, none⟩) n cap) := cell_of_blk H1.out.blk rfl
  have x0 : w1.cell? ⟨g, 0, none⟩ = some (.int .i64 x.1) := by have := (el_at H1.out.hold HX.out).1; rwa [Nat.zero_mul] at this
  have x1 : w1.cell? ⟨g, 1, none⟩ = some (.int .i64 x.2) := by have := (el_at H1.out.hold HX.out).2; rwa [Nat.zero_mul] at this
  obtain ⟨d0, d1, d2, d3⟩ := hb2.facts
  have HB2 := Lib.hid (hb2.put x)
  clear HN hb1 hb2 HB0
  go_wp2
  (try simp only [Exit.inBlock, Exit.then]); refine bodyPost_ret (results_cell_one rfl _ _ w.heap.size #[.int .i64 x.1, .int .i64 x.2] rfl HB2.out.load) rfl ?_
  exact ⟨rfl, HB2.out.bel⟩
end Go.Proofs.Ythhnemanaciikaa.Hq.E

/- Layer 16 (heap), the landed code at Int: how a heap lies in memory; made, Len, before, swap. -/
import Derived.Test.YthhnemanaciikaaHqO
import Derived.Test.YthhnemanaciikaaHpM
import Derived.Test.YthhnemanaciikaaRecM
import Derived.Test.YthhnemanaciikaaFam
import Derived.Test.YthhnemanaciikaaMixV
import Derived.BigRegion
namespace Go.Proofs.Ythhnemanaciikaa.Hq.I
open Go.RowKit Rec Ints Ge

abbrev El := Int
theorem made_any (w : World) (b : Nat) (g : FuncId) (lb : Array Value) (v : Value) (h : w.heap[b]? = some (.cells #[.func (.func g) #[] lb, v] 47 (0, 0))) :
    Calls Try.prog 23 #[.pointer (some ⟨b, 0, none⟩)] w fun e w' => e = .returned (.bool true) ∧ Below w.heap.size w w' := by
  have c0 : w.cell? ⟨b, 0, none⟩ = some (.func (.func g) #[] lb) := cell_of_blk h rfl
  have hq : ∀ w : World, (binOp BinOp.neq 29 (Value.func (Fn.func g) #[] lb) Value.nilFunc).run Try.prog w = .ok (.bool true) w := fun w => by rfl
  clear h
  go_enter Try.func23, Try.ntmps23
  go_wp2
  go_ret
  exact ⟨rfl, Below.refl _ _⟩
theorem made_nil (w : World) :
    Calls Try.prog 23 #[.pointer none] w fun e w' => e = .returned (.bool false) ∧ Below w.heap.size w w' := by
  go_enter Try.func23, Try.ntmps23
  go_wp2
  go_ret
  exact ⟨rfl, Below.refl _ _⟩
theorem len_any (w : World) (b : Nat) (g : FuncId) (lb : Array Value) (A : Option Addr) (n c : Nat) (h : w.heap[b]? = some (.cells #[.func (.func g) #[] lb, .slice A n c] 47 (0, 0))) :
    Calls Try.prog 16 #[.pointer (some ⟨b, 0, none⟩)] w fun e w' => e = .returned (.int .i64 (n : Int)) ∧ Below w.heap.size w w' := by
  have H := Lib.hid h
  have HM := Lib.hid (made_any w b g lb _ h)
  have hlt : b < w.heap.size := (Array.getElem?_eq_some_iff.1 h).1
  clear h
  go_enter Try.func16, Try.ntmps16
  go_wp2_with fail
  refine HM.out.mono ?_
  rintro e1 w1 ⟨rfl, hb1⟩
  have c1 : w1.cell? ⟨b, 1, none⟩ = some (.slice A n c) := cell_of_blk ((hb1.block b hlt).trans H.out) rfl
  have HB := Lib.hid hb1
  clear HM hb1
  go_wp2
  go_ret
  exact ⟨rfl, HB.out⟩
theorem len_nil (w : World) :
    Calls Try.prog 16 #[.pointer none] w fun e w' => e = .returned (.int .i64 0) ∧ Below w.heap.size w w' := by
  have HM := Lib.hid (made_nil w)
  go_enter Try.func16, Try.ntmps16
  go_wp2_with fail
  refine HM.out.mono ?_
  rintro e1 w1 ⟨rfl, hb1⟩
  have HB := Lib.hid hb1
  clear HM hb1
  go_wp2
  go_ret
  exact ⟨rfl, HB.out⟩
/-- An element in its place. -/
theorem el_at {w : World} {base g cap j : Nat} {e : TypeId} {L : List El} {x : El} (h : Hold intS w base e g cap L) (hj : L[j]? = some x) : w.cell? ⟨g, j, none⟩ = some (.int .i64 x) := by
  have h1 := h.cells hj
  have h2 := h1 0 (by show 0 < 1; omega)
  have h3 : j * intS.c + 0 = j := Nat.mul_one j
  rw [h3] at h2
  exact h2
/-- What the closure must do. -/
structure Less (lt : El → El → Bool) (B : Nat) (Inv : World → Prop) (g : FuncId) (lb : Array Value) : Prop where
  swo : Swo lt
  keep : ∀ w w' : World, Inv w → B ≤ w.heap.size → Below B w w' → Inv w'
  ent : ∀ args w, (callFunc g args).run Try.prog w = .ok (.enter g args) w
  tells : ∀ (x y : El) (w : World), Inv w → B ≤ w.heap.size → Calls Try.prog g (#[Value.int .i64 x, Value.int .i64 y] ++ lb) w fun e w' => e = .returned (.bool (lt x y)) ∧ Below w.heap.size w w'
/-- A heap's two blocks: its list is not empty, or has been. -/
structure Lies (w : World) (B : Nat) (f : FuncId) (lb : Array Value) (b g cap n : Nat) (l : List El) : Prop where
  blk : w.heap[b]? = some (.cells #[.func (.func f) #[] lb, .slice (some ⟨g, 0, none⟩) n cap] 47 (0, 0))
  hold : Hold intS w B 3 g cap l
  len : l.length = n
  ne : b ≠ g
  le : B ≤ b
theorem Lies.below {w w' : World} {B : Nat} {f : FuncId} {lb : Array Value} {b g cap n : Nat} {l : List El} (h : Lies w B f lb b g cap n l) (hb : Below w.heap.size w w') : Lies w' B f lb b g cap n l :=
  ⟨(hb.block b (Array.getElem?_eq_some_iff.1 h.blk).1).trans h.blk, h.hold.below hb, h.len, h.ne, h.le⟩
theorem before_any (lt : El → El → Bool) (B : Nat) (Inv : World → Prop) (f : FuncId) (lb : Array Value) (hL : Less lt B Inv f lb) (w : World) (b g cap n i j : Nat) (l : List El) (x y : El) (hi : Inv w) (hl : Lies w B f lb b g cap n l) (hx : l[i]? = some x) (hy : l[j]? = some y) :
    Calls Try.prog 32 #[.pointer (some ⟨b, 0, none⟩), .int .i64 (i : Int), .int .i64 (j : Int)] w fun e w' => e = .returned (.bool (lt x y)) ∧ Below w.heap.size w w' := by
  have hil : i < n := by have := (List.getElem?_eq_some_iff.1 hx).1; have := hl.len; omega
  have hjl : j < n := by have := (List.getElem?_eq_some_iff.1 hy).1; have := hl.len; omega
  have hBs : B ≤ w.heap.size := by have := (Array.getElem?_eq_some_iff.1 hl.blk).1; have := hl.le; omega
  have H := Lib.hid hl
  have HX := Lib.hid hx
  have HY := Lib.hid hy
  have HI := Lib.hid hi
  have HL := Lib.hid hL
  have HBS := Lib.hid hBs
  clear hl hx hy hi hL hBs
  go_enter Try.func32, Try.ntmps32
  go_wp2
  obtain ⟨ι, hne, W, i0, h0, hW, hC⟩ := fam_of w
  have HW : ∀ k, Hid (Below w.heap.size w (W k)) := fun k => hW k
  have HLW : ∀ k, Hid (Lies (W k) B f lb b g cap n l) := fun k => H.out.below (hW k)
  have c0 : ∀ k, (W k).cell? ⟨b, 0, none⟩ = some (.func (.func f) #[] lb) := fun k => cell_of_blk (HLW k).out.blk rfl
  have c1 : ∀ k, (W k).cell? ⟨b, 1, none⟩ = some (.slice (some ⟨g, 0, none⟩) n cap) := fun k => cell_of_blk (HLW k).out.blk rfl
  have x0 : ∀ k, (W k).cell? ⟨g, i, none⟩ = some (.int .i64 x) := fun k => el_at (HLW k).out.hold HX.out
  have y0 : ∀ k, (W k).cell? ⟨g, j, none⟩ = some (.int .i64 y) := fun k => el_at (HLW k).out.hold HY.out
  have a1 : (0 : Int) ≤ (i : Int) := by omega
  have a2 : (i : Int) < (n : Int) := by omega
  have a3 : (0 : Int) ≤ (j : Int) := by omega
  have a4 : (j : Int) < (n : Int) := by omega
  have HT := Lib.hid (HL.out.tells x y (W i0) (HL.out.keep w (W i0) HI.out HBS.out ((hW i0).mono HBS.out)) (Nat.le_trans HBS.out (hW i0).size))
  clear hW
  refine Mix.wp_region_lex (fun w' => ∃ i, w' = W i) (by kernel_rfl) (by kernel_rfl) ⟨i0, h0⟩ ?_
  rw [h0]
  clear h0
  repeat (first | (refine Mix.lex_step rfl ?_; intro K hK; go_big_quiet_step (fail); refine Mix.lex_on hK ?_; clear hK K) | (refine Mix.lex_skip rfl ?_; simp only [Act.put, List.setIfInBounds_toArray, List.set_cons_zero, List.set_cons_succ]))
  refine Mix.lex_callv (f := f) (lb := lb) (args := [Value.int .i64 x, Value.int .i64 y]) HT.out rfl rfl rfl rfl HL.out.ent ?_
  rintro e3 w3 ⟨rfl, hb3⟩
  obtain ⟨j3, rfl⟩ := hC _ w3 hb3
  refine ⟨_, rfl, ⟨j3, rfl⟩, ?_⟩
  simp only [Act.put, List.setIfInBounds_toArray, List.set_cons_zero, List.set_cons_succ]
  repeat (first | (refine Mix.lex_step rfl ?_; intro K hK; go_big_quiet_step (fail); refine Mix.lex_on hK ?_; clear hK K) | (refine Mix.lex_skip rfl ?_; simp only [Act.put, List.setIfInBounds_toArray, List.set_cons_zero, List.set_cons_succ]))
  refine Mix.lex_nil ?_
  have HB9 := HW j3
  generalize W j3 = w9 at HB9 ⊢
  clear HW hC c0 c1 x0 y0 HLW
  go_wp2
  go_ret
  exact ⟨rfl, HB9.out⟩
end Go.Proofs.Ythhnemanaciikaa.Hq.I

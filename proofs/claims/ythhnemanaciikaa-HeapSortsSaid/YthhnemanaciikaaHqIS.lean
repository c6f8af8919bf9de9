/- Layer 16 (heap), the landed code at Int: swap. -/
import Derived.Test.YthhnemanaciikaaHqI
namespace Go.Proofs.Ythhnemanaciikaa.Hq.I
open Go.RowKit Rec Ints Ge

theorem el_set {w : World} {base g cap k : Nat} {e : TypeId} {L : List El} (h : Hold intS w base e g cap L) (x : El) (hk : k < L.length) : Hold intS (w.setCell ⟨g, k, none⟩ (.int .i64 x)) base e g cap (L.set k x) := by
  have h1 := h.field (i := 0) (b := x) (u := .int .i64 x) (List.getElem?_eq_getElem hk) (by show 0 < 1; omega) rfl
  have h2 : k * intS.c + 0 = k := Nat.mul_one k
  rw [h2] at h1
  exact h1
theorem G_of {l : List El} {i : Nat} {x : El} (h : l[i]? = some x) : Hp.G l i = x := by
  unfold Hp.G
  rw [List.getD_eq_getElem?_getD, h]
  rfl
theorem set_only {w : World} {g k : Nat} {x : El} : Only (fun k => k = g) w (w.setCell ⟨g, k, none⟩ (.int .i64 x)) := by
  exact Only.setCell w ⟨g, k, none⟩ (.int .i64 x)
theorem swap_any (B : Nat) (f : FuncId) (lb : Array Value) (w : World) (b g cap n i j : Nat) (l : List El) (hl : Lies w B f lb b g cap n l) (hi : i < n) (hj : j < n) :
    Calls Try.prog 25 #[.pointer (some ⟨b, 0, none⟩), .int .i64 (i : Int), .int .i64 (j : Int)] w fun e w' => e = .returned (.tuple #[]) ∧ Lies w' B f lb b g cap n (Hp.sw l i j) ∧ Only (fun k => k = g) w w' := by
  obtain ⟨x, hx⟩ : ∃ x, l[i]? = some x := ⟨_, List.getElem?_eq_getElem (by rw [hl.len]; exact hi)⟩
  obtain ⟨y, hy⟩ : ∃ y, l[j]? = some y := ⟨_, List.getElem?_eq_getElem (by rw [hl.len]; exact hj)⟩
  have H := Lib.hid hl
  have HX := Lib.hid hx
  have HY := Lib.hid hy
  have c1 : w.cell? ⟨b, 1, none⟩ = some (.slice (some ⟨g, 0, none⟩) n cap) := cell_of_blk hl.blk rfl
  have x0 : w.cell? ⟨g, i, none⟩ = some (.int .i64 x) := el_at hl.hold hx
  have y0 : w.cell? ⟨g, j, none⟩ = some (.int .i64 y) := el_at hl.hold hy
  have f0 : w.frozen? ⟨g, i, none⟩ = false := hl.hold.free _
  have f1 : w.frozen? ⟨g, j, none⟩ = false := hl.hold.free _
  have hs1 := el_set (k := i) hl.hold y (by rw [hl.len]; exact hi)
  obtain ⟨z, hz⟩ : ∃ z, (l.set i y)[j]? = some z := ⟨_, List.getElem?_eq_getElem (by rw [List.length_set, hl.len]; exact hj)⟩
  have z0 := el_at hs1 hz
  have k0 := hs1.free j
  have HS1 := Lib.hid hs1
  have a1 : (0 : Int) ≤ (i : Int) := by omega
  have a2 : (i : Int) < (n : Int) := by omega
  have a3 : (0 : Int) ≤ (j : Int) := by omega
  have a4 : (j : Int) < (n : Int) := by omega
  clear hl hx hy hs1 hz
  go_enter Try.func25, Try.ntmps25
  go_wp2
  go_region
  all_goals go_wp2
  all_goals go_end0
  have HLS : Lies ((w.setCell ⟨g, i, none⟩ (.int .i64 y)).setCell ⟨g, j, none⟩ (.int .i64 x)) B f lb b g cap n (Hp.sw l i j) ∧ Only (fun k => k = g) w ((w.setCell ⟨g, i, none⟩ (.int .i64 y)).setCell ⟨g, j, none⟩ (.int .i64 x)) := by
    have ho : Only (fun k => k = g) w ((w.setCell ⟨g, i, none⟩ (.int .i64 y)).setCell ⟨g, j, none⟩ (.int .i64 x)) := set_only.trans set_only (fun _ _ h => h)
    have hb : b < w.heap.size := (Array.getElem?_eq_some_iff.1 H.out.blk).1
    refine ⟨⟨(ho.block b hb H.out.ne).trans H.out.blk, ?_, by rw [Hp.sw_len, H.out.len], H.out.ne, H.out.le⟩, ho⟩
    unfold Hp.sw
    rw [G_of HX.out, G_of HY.out]
    exact el_set HS1.out x (by rw [List.length_set, H.out.len]; exact hj)
  exact ⟨rfl, HLS.1.below ((Below.refl _ _).drew), HLS.2.trans (Only.of_below (Below.refl _ _).drew) (fun _ _ h => h)⟩
end Go.Proofs.Ythhnemanaciikaa.Hq.I

/- Layer 16 (heap), the landed code at Int × Int: swap. -/
import Derived.Test.YthhnemanaciikaaHqE
namespace Go.Proofs.Ythhnemanaciikaa.Hq.E
open Go.RowKit Rec Ints Ge

theorem el_set {w : World} {base g cap k : Nat} {e : TypeId} {L : List El} (h : Hold twoS w base e g cap L) (x : El) (hk : k < L.length) : Hold twoS (w.setCells g (k * 2) [.int .i64 x.1, .int .i64 x.2]) base e g cap (L.set k x) := by
  exact h.set x hk
theorem G_of {l : List El} {i : Nat} {x : El} (h : l[i]? = some x) : Hp.G l i = x := by
  unfold Hp.G
  rw [List.getD_eq_getElem?_getD, h]
  rfl
theorem set_only {w : World} {g k : Nat} {x : El} : Only (fun k => k = g) w (w.setCells g (k * 2) [.int .i64 x.1, .int .i64 x.2]) := by
  exact (Only.setCell w ⟨g, k * 2, none⟩ (.int .i64 x.1)).trans (Only.setCell _ ⟨g, k * 2 + 1, none⟩ (.int .i64 x.2)) (fun _ _ h => h)
theorem swap_any (B : Nat) (f : FuncId) (lb : Array Value) (w : World) (b g cap n i j : Nat) (l : List El) (hl : Lies w B f lb b g cap n l) (hi : i < n) (hj : j < n) :
    Calls Try.prog 30 #[.pointer (some ⟨b, 0, none⟩), .int .i64 (i : Int), .int .i64 (j : Int)] w fun e w' => e = .returned (.tuple #[]) ∧ Lies w' B f lb b g cap n (Hp.sw l i j) ∧ Only (fun k => k = g) w w' := by
  obtain ⟨x, hx⟩ : ∃ x, l[i]? = some x := ⟨_, List.getElem?_eq_getElem (by rw [hl.len]; exact hi)⟩
  obtain ⟨y, hy⟩ : ∃ y, l[j]? = some y := ⟨_, List.getElem?_eq_getElem (by rw [hl.len]; exact hj)⟩
  have H := Lib.hid hl
  have HX := Lib.hid hx
  have HY := Lib.hid hy
  have c1 : w.cell? ⟨b, 1, none⟩ = some (.slice (some ⟨g, 0, none⟩) n cap) := cell_of_blk hl.blk rfl
  have x0 : w.cell? ⟨g, i * 2, none⟩ = some (.int .i64 x.1) := (el_at hl.hold hx).1
  have x1 : w.cell? ⟨g, i * 2 + 1, none⟩ = some (.int .i64 x.2) := (el_at hl.hold hx).2
  have y0 : w.cell? ⟨g, j * 2, none⟩ = some (.int .i64 y.1) := (el_at hl.hold hy).1
  have y1 : w.cell? ⟨g, j * 2 + 1, none⟩ = some (.int .i64 y.2) := (el_at hl.hold hy).2
  have f0 : w.frozen? ⟨g, i * 2, none⟩ = false := hl.hold.free _
  have f1 : w.frozen? ⟨g, j * 2, none⟩ = false := hl.hold.free _
  have f2 : w.frozen? ⟨g, i * 2 + 1, none⟩ = false := hl.hold.free _
  have f3 : w.frozen? ⟨g, j * 2 + 1, none⟩ = false := hl.hold.free _
  have hs1 := el_set (k := i) hl.hold y (by rw [hl.len]; exact hi)
  obtain ⟨z, hz⟩ : ∃ z, (l.set i y)[j]? = some z := ⟨_, List.getElem?_eq_getElem (by rw [List.length_set, hl.len]; exact hj)⟩
  have z0 : (w.setCell ⟨g, i * 2, none⟩ (.int .i64 y.1)).cell? ⟨g, j * 2, none⟩ = some (.int .i64 z.1) := (World.cell?_setCell_other _ _ _ _ (fun e => by have h : i * 2 + 1 = j * 2 := congrArg Addr.off e; omega)).symm.trans (el_at hs1 hz).1
  have z1 : ((w.setCell ⟨g, i * 2, none⟩ (.int .i64 y.1)).setCell ⟨g, i * 2 + 1, none⟩ (.int .i64 y.2)).cell? ⟨g, j * 2 + 1, none⟩ = some (.int .i64 z.2) := (el_at hs1 hz).2
  have k0 := hs1.free (j * 2)
  have k1 := hs1.free (j * 2 + 1)
  have HS1 := Lib.hid hs1
  have a1 : (0 : Int) ≤ (i : Int) := by omega
  have a2 : (i : Int) < (n : Int) := by omega
  have a3 : (0 : Int) ≤ (j : Int) := by omega
  have a4 : (j : Int) < (n : Int) := by omega
  clear hl hx hy hs1 hz
  go_enter Try.func30, Try.ntmps30
  go_wp2
  go_region
  all_goals go_wp2
  all_goals go_end0
  have HLS : Lies ((w.setCells g (i * 2) [.int .i64 y.1, .int .i64 y.2]).setCells g (j * 2) [.int .i64 x.1, .int .i64 x.2]) B f lb b g cap n (Hp.sw l i j) ∧ Only (fun k => k = g) w ((w.setCells g (i * 2) [.int .i64 y.1, .int .i64 y.2]).setCells g (j * 2) [.int .i64 x.1, .int .i64 x.2]) := by
    have ho : Only (fun k => k = g) w ((w.setCells g (i * 2) [.int .i64 y.1, .int .i64 y.2]).setCells g (j * 2) [.int .i64 x.1, .int .i64 x.2]) := set_only.trans set_only (fun _ _ h => h)
    have hb : b < w.heap.size := (Array.getElem?_eq_some_iff.1 H.out.blk).1
    refine ⟨⟨(ho.block b hb H.out.ne).trans H.out.blk, ?_, by rw [Hp.sw_len, H.out.len], H.out.ne, H.out.le⟩, ho⟩
    unfold Hp.sw
    rw [G_of HX.out, G_of HY.out]
    exact el_set HS1.out x (by rw [List.length_set, H.out.len]; exact hj)
  exact ⟨rfl, HLS.1.below ((Below.refl _ _).drew), HLS.2.trans (Only.of_below (Below.refl _ _).drew) (fun _ _ h => h)⟩
end Go.Proofs.Ythhnemanaciikaa.Hq.E

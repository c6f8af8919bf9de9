/- Lemmas that the proof stands on, in build order: TokP TokV TokL TokW TokX TokY. -/
import Derived.Laws.CopyOwn
import Derived.Test.YtmkdbpdfonpfdaaDoorJ127b64a
import Derived.Test.YtmkdbpdfonpfdaaDoorJ30798c8
import Derived.Test.YtmkdbpdfonpfdaaDoorJ7dd9cd8
/- Layer 10 (token): the reference's Open, as a contract: its walk. -/
namespace Go.Proofs.YtmkdbpdfonpfdaaDoor.Tok
open Go.RowKit Var Fld Frm Sha Hmc Rg

/-- What a call that opens bytes answers. -/
def OpenTo (w : World) (r : T × List Int × Nat) (x : Ending) (w' : World) : Prop :=
  ∃ A n c, x = .returned (.tuple #[r.1.val, .slice A n c, .int .i64 (r.2.2 : Int)]) ∧ Row .u8 w' w'.heap.size A n r.2.1 ∧ (A = none → c = 0) ∧ n ≤ c ∧ Below w.heap.size w w'
theorem infoT : (Tryd.prog.info? 26).map (·.size) = some 6 := by kernel_rfl
theorem cellsT (t : T) : t.cells.all (·.oneCell') = true := by simp [T.cells, Value.oneCell']
theorem wholly_byt {k : Int} {b : List Int} (h : Byt b) : Byt (wholly k b).1 := by
  have ht : Byt (took b).2.1 := by
    unfold took
    repeat' split
    all_goals first
      | exact (h.drop _).take _
      | (intro x hx; simp at hx; done)
  unfold wholly
  repeat' split
  all_goals first
    | exact ht
    | (intro x hx; simp at hx; done)
theorem wholly_len (k : Int) (b : List Int) : (wholly k b).1.length ≤ 1048576 := by
  have ht : (took b).2.1.length ≤ 1048576 := by
    unfold took
    repeat' split
    all_goals first
      | (simp; done)
      | (rw [List.length_take]; omega)
  unfold wholly
  repeat' split
  all_goals first
    | (simp; done)
    | exact ht

set_option maxHeartbeats 3200000 in
set_option maxRecDepth 100000 in
theorem refopen_any (A : Option Addr) (n c : Nat) (b : List Int) (w : World) (h : Row .u8 w w.heap.size A n b) (hb : Byt b) (hn : n ≤ 4398046511104) (hc : n ≤ c) (hcm : c ≤ maxLen) :
    Calls Tryd.prog 17 #[.slice A n c] w (OpenTo w (opn b)) := by
  have hb1 : Below w.heap.size w (w.alloc (.cells T.zero.cells 26)) := (Below.refl _ _).alloc (Nat.le_refl _) _
  have HB1 := Lib.hid hb1
  have HS1 : Hid ((w.alloc (.cells T.zero.cells 26)).heap.size = w.heap.size + 1) := by unfold Hid; simp
  have HZ1 : Hid ((w.alloc (.cells T.zero.cells 26)).heap[w.heap.size]? = some (.cells T.zero.cells 26 (0, 0))) := heap_alloc_new w _
  have HW := Lib.hid (refwhole_any 2 A n c b (w.alloc (.cells T.zero.cells 26)) ((h.below hb1).more hb1.size) hb hn hc hcm)
  have HCB := Lib.hid (wholly_byt (k := 2) hb)
  have HCL : Hid ((wholly 2 b).1.length ≤ 4398046511104) := by
    unfold Hid
    have := wholly_len 2 b
    omega
  have HOP : Hid (∃ r, r = opn b) := ⟨_, rfl⟩
  obtain ⟨r, hr⟩ := HOP.out
  rw [← hr]
  unfold opn opnF at hr
  obtain ⟨q, hq⟩ : ∃ q, q = wholly 2 b := ⟨_, rfl⟩
  rw [← hq] at hr HW HCB HCL
  obtain ⟨C, er⟩ := q
  have HR := Lib.hid hr
  have hzz : T.zero.cells = #[.int .i64 0, .int .i64 0, .int .i64 0, .int .i64 0, .int .i64 0, .int .i64 0] := rfl
  clear hb1 h hb hn hc hcm hr hq HOP
  go_enter Tryd.func17, Tryd.ntmps17
  go_wp2_with fail
  refine Calls.mono (by have := HW.out; exact this) ?_
  rintro e2 w2 ⟨A1, c1, rfl, hr1, hb2, hfit⟩
  have HR1 := Lib.hid hr1
  have HB2 := Lib.hid (HB1.out.trans (hb2.mono HB1.out.size))
  have HZ2 : Hid (w2.heap[w.heap.size]? = some (.cells T.zero.cells 26 (0, 0))) := (hb2.block _ (by have := HS1.out; omega)).trans HZ1.out
  have HF := Lib.hid hfit
  have HS2 : Hid (w.heap.size + 1 ≤ w2.heap.size) := by have h1 := HS1.out; have h2 := hb2.size; unfold Hid; omega
  clear hr1 hb2 hfit HW
  have I6 : Hid ((Tryd.prog.info? 26).map (·.size) = some T.zero.cells.size) := infoT
  by_cases her : er = 0
  · subst her
    have hr1' : Row .u8 w2 (w.heap.size + 1) A1 C.length C := by have h1 := HR1.out; rwa [HS1.out] at h1
    have HRD := Lib.hid (refread_any A1 C.length c1 C (w.heap.size + 1) w2 hr1' HS2.out HF.out.2 HF.out.1 HCL.out HCB.out)
    clear hr1'
    go_wp2_with fail
    refine HRD.out.mono ?_
    rintro e3 w3 ⟨rfl, hrf, hb3⟩
    have HST0 : Hid (St w w2.heap.size (w.heap.size + 1) A1 C.length c1 C (C, 0) w3) := ⟨⟨0, hrf, rfl⟩, (hb3.block _ (by have := HS2.out; omega)).trans HZ2.out, HB2.out.trans (hb3.mono HB2.out.size)⟩
    have HG : Hid (w.heap.size < w2.heap.size ∧ w.heap.size + 1 ≤ w2.heap.size) := ⟨by have := HS2.out; omega, HS2.out⟩
    generalize w2.heap.size = g at *
    clear hrf hb3 HRD HR1 HB2 HZ2 HB1 HZ1
    go_wp2_with fail
    refine (num_next HST0.out HG.out.1 2147483648 (by omega) (by omega)).mono ?_
    rintro f0 y0 ⟨rfl, hs0, ho0⟩
    obtain ⟨x0, hx0⟩ : ∃ x, x = rv1 (C, 0) 2147483648 := ⟨_, rfl⟩
    rw [← hx0]
    have HX0 := Lib.hid hx0
    clear hx0
    have hal : Below y0.heap.size y0 (y0.alloc (.cells #[.int .i64 x0, .int .i64 0, .int .i64 0, .int .i64 0, .int .i64 0, .int .i64 0] 26)) := (Below.refl _ _).alloc (Nat.le_refl _) _
    have HTK1 : Hid ((y0.alloc (.cells #[.int .i64 x0, .int .i64 0, .int .i64 0, .int .i64 0, .int .i64 0, .int .i64 0] 26)).heap[y0.heap.size]? = some (.cells #[.int .i64 x0, .int .i64 0, .int .i64 0, .int .i64 0, .int .i64 0, .int .i64 0] 26 (0, 0))) := heap_alloc_new y0 _
    have hgy : g < y0.heap.size := (by obtain ⟨a, h1, _⟩ := hs0.rd; exact h1.lt)
    have HST1 : Hid (St w g (w.heap.size + 1) A1 C.length c1 C (rd1 (C, 0) 2147483648) (y0.alloc (.cells #[.int .i64 x0, .int .i64 0, .int .i64 0, .int .i64 0, .int .i64 0, .int .i64 0] 26))) := hs0.only (M := fun _ => False) (Only.of_below hal) (fun h => h) (fun _ _ h => h) (fun _ _ h => h)
    have HGT : Hid (g < y0.heap.size) := hgy
    clear hs0 ho0 hal hgy
    go_wp2_with fail
    generalize y0.alloc (.cells #[.int .i64 x0, .int .i64 0, .int .i64 0, .int .i64 0, .int .i64 0, .int .i64 0] 26) = z1 at *
    generalize y0.heap.size = G at *
    refine (num_next HST1.out HG.out.1 2147483648 (by omega) (by omega)).mono ?_
    rintro f1 y1 ⟨rfl, hs1, ho1⟩
    obtain ⟨x1, hx1⟩ : ∃ x, x = rv1 (rd1 (C, 0) 2147483648) 2147483648 := ⟨_, rfl⟩
    rw [← hx1]
    have HX1 := Lib.hid hx1
    clear hx1
    have htk1 : y1.heap[G]? = some (.cells #[.int .i64 x0, .int .i64 0, .int .i64 0, .int .i64 0, .int .i64 0, .int .i64 0] 26 (0, 0)) := (ho1.block G (Array.getElem?_eq_some_iff.1 HTK1.out).1 (by have := HGT.out; omega)).trans HTK1.out
    have r1 : y1.cell? ⟨G, 1, none⟩ = some (.int .i64 0) := cell_of_blk htk1 rfl
    have q1 : y1.frozen? ⟨G, 1, none⟩ = false := free_of_blk htk1
    have HTK2 : Hid ((y1.setCell ⟨G, 1, none⟩ (.int .i64 x1)).heap[G]? = some (.cells #[.int .i64 x0, .int .i64 x1, .int .i64 0, .int .i64 0, .int .i64 0, .int .i64 0] 26 (0, 0))) := set_blk htk1
    have HST2 : Hid (St w g (w.heap.size + 1) A1 C.length c1 C (rd1 (rd1 (C, 0) 2147483648) 2147483648) (y1.setCell ⟨G, 1, none⟩ (.int .i64 x1))) := hs1.only (Only.setCell y1 ⟨G, 1, none⟩ _) (by have := HGT.out; show ¬ g = G; omega) (fun i hi h => by have h1 := HGT.out; have h2 := HG.out; have h3 : i = G := h; omega) (fun i hi h => by have h1 := HGT.out; have h2 := HG.out; have h3 : i = G := h; omega)
    clear hs1 ho1 htk1
    go_wp2_with fail
    generalize y1.setCell ⟨G, 1, none⟩ (.int .i64 x1) = z2 at *
    clear r1 q1 HST1 HTK1
    refine (num_next HST2.out HG.out.1 4095 (by omega) (by omega)).mono ?_
    rintro f2 y2 ⟨rfl, hs2, ho2⟩
    obtain ⟨x2, hx2⟩ : ∃ x, x = rv1 (rd1 (rd1 (C, 0) 2147483648) 2147483648) 4095 := ⟨_, rfl⟩
    rw [← hx2]
    have HX2 := Lib.hid hx2
    clear hx2
    have htk2 : y2.heap[G]? = some (.cells #[.int .i64 x0, .int .i64 x1, .int .i64 0, .int .i64 0, .int .i64 0, .int .i64 0] 26 (0, 0)) := (ho2.block G (Array.getElem?_eq_some_iff.1 HTK2.out).1 (by have := HGT.out; omega)).trans HTK2.out
    have r2 : y2.cell? ⟨G, 2, none⟩ = some (.int .i64 0) := cell_of_blk htk2 rfl
    have q2 : y2.frozen? ⟨G, 2, none⟩ = false := free_of_blk htk2
    have HTK3 : Hid ((y2.setCell ⟨G, 2, none⟩ (.int .i64 x2)).heap[G]? = some (.cells #[.int .i64 x0, .int .i64 x1, .int .i64 x2, .int .i64 0, .int .i64 0, .int .i64 0] 26 (0, 0))) := set_blk htk2
    have HST3 : Hid (St w g (w.heap.size + 1) A1 C.length c1 C (rd1 (rd1 (rd1 (C, 0) 2147483648) 2147483648) 4095) (y2.setCell ⟨G, 2, none⟩ (.int .i64 x2))) := hs2.only (Only.setCell y2 ⟨G, 2, none⟩ _) (by have := HGT.out; show ¬ g = G; omega) (fun i hi h => by have h1 := HGT.out; have h2 := HG.out; have h3 : i = G := h; omega) (fun i hi h => by have h1 := HGT.out; have h2 := HG.out; have h3 : i = G := h; omega)
    clear hs2 ho2 htk2
    go_wp2_with fail
    generalize y2.setCell ⟨G, 2, none⟩ (.int .i64 x2) = z3 at *
    clear r2 q2 HST2 HTK2
    refine (num_next HST3.out HG.out.1 1099511627776 (by omega) (by omega)).mono ?_
    rintro f3 y3 ⟨rfl, hs3, ho3⟩
    obtain ⟨x3, hx3⟩ : ∃ x, x = rv1 (rd1 (rd1 (rd1 (C, 0) 2147483648) 2147483648) 4095) 1099511627776 := ⟨_, rfl⟩
    rw [← hx3]
    have HX3 := Lib.hid hx3
    clear hx3
    have htk3 : y3.heap[G]? = some (.cells #[.int .i64 x0, .int .i64 x1, .int .i64 x2, .int .i64 0, .int .i64 0, .int .i64 0] 26 (0, 0)) := (ho3.block G (Array.getElem?_eq_some_iff.1 HTK3.out).1 (by have := HGT.out; omega)).trans HTK3.out
    have r3 : y3.cell? ⟨G, 3, none⟩ = some (.int .i64 0) := cell_of_blk htk3 rfl
    have q3 : y3.frozen? ⟨G, 3, none⟩ = false := free_of_blk htk3
    have HTK4 : Hid ((y3.setCell ⟨G, 3, none⟩ (.int .i64 x3)).heap[G]? = some (.cells #[.int .i64 x0, .int .i64 x1, .int .i64 x2, .int .i64 x3, .int .i64 0, .int .i64 0] 26 (0, 0))) := set_blk htk3
    have HST4 : Hid (St w g (w.heap.size + 1) A1 C.length c1 C (rd1 (rd1 (rd1 (rd1 (C, 0) 2147483648) 2147483648) 4095) 1099511627776) (y3.setCell ⟨G, 3, none⟩ (.int .i64 x3))) := hs3.only (Only.setCell y3 ⟨G, 3, none⟩ _) (by have := HGT.out; show ¬ g = G; omega) (fun i hi h => by have h1 := HGT.out; have h2 := HG.out; have h3 : i = G := h; omega) (fun i hi h => by have h1 := HGT.out; have h2 := HG.out; have h3 : i = G := h; omega)
    clear hs3 ho3 htk3
    go_wp2_with fail
    generalize y3.setCell ⟨G, 3, none⟩ (.int .i64 x3) = z4 at *
    clear r3 q3 HST3 HTK3
    refine (num_next HST4.out HG.out.1 1099511627776 (by omega) (by omega)).mono ?_
    rintro f4 y4 ⟨rfl, hs4, ho4⟩
    obtain ⟨x4, hx4⟩ : ∃ x, x = rv1 (rd1 (rd1 (rd1 (rd1 (C, 0) 2147483648) 2147483648) 4095) 1099511627776) 1099511627776 := ⟨_, rfl⟩
    rw [← hx4]
    have HX4 := Lib.hid hx4
    clear hx4
    have htk4 : y4.heap[G]? = some (.cells #[.int .i64 x0, .int .i64 x1, .int .i64 x2, .int .i64 x3, .int .i64 0, .int .i64 0] 26 (0, 0)) := (ho4.block G (Array.getElem?_eq_some_iff.1 HTK4.out).1 (by have := HGT.out; omega)).trans HTK4.out
    have r4 : y4.cell? ⟨G, 4, none⟩ = some (.int .i64 0) := cell_of_blk htk4 rfl
    have q4 : y4.frozen? ⟨G, 4, none⟩ = false := free_of_blk htk4
    have HTK5 : Hid ((y4.setCell ⟨G, 4, none⟩ (.int .i64 x4)).heap[G]? = some (.cells #[.int .i64 x0, .int .i64 x1, .int .i64 x2, .int .i64 x3, .int .i64 x4, .int .i64 0] 26 (0, 0))) := set_blk htk4
    have HST5 : Hid (St w g (w.heap.size + 1) A1 C.length c1 C (rd1 (rd1 (rd1 (rd1 (rd1 (C, 0) 2147483648) 2147483648) 4095) 1099511627776) 1099511627776) (y4.setCell ⟨G, 4, none⟩ (.int .i64 x4))) := hs4.only (Only.setCell y4 ⟨G, 4, none⟩ _) (by have := HGT.out; show ¬ g = G; omega) (fun i hi h => by have h1 := HGT.out; have h2 := HG.out; have h3 : i = G := h; omega) (fun i hi h => by have h1 := HGT.out; have h2 := HG.out; have h3 : i = G := h; omega)
    clear hs4 ho4 htk4
    go_wp2_with fail
    generalize y4.setCell ⟨G, 4, none⟩ (.int .i64 x4) = z5 at *
    clear r4 q4 HST4 HTK4
    refine (num_next HST5.out HG.out.1 1048576 (by omega) (by omega)).mono ?_
    rintro f5 y5 ⟨rfl, hs5, ho5⟩
    obtain ⟨x5, hx5⟩ : ∃ x, x = rv1 (rd1 (rd1 (rd1 (rd1 (rd1 (C, 0) 2147483648) 2147483648) 4095) 1099511627776) 1099511627776) 1048576 := ⟨_, rfl⟩
    rw [← hx5]
    have HX5 := Lib.hid hx5
    clear hx5
    have htk5 : y5.heap[G]? = some (.cells #[.int .i64 x0, .int .i64 x1, .int .i64 x2, .int .i64 x3, .int .i64 x4, .int .i64 0] 26 (0, 0)) := (ho5.block G (Array.getElem?_eq_some_iff.1 HTK5.out).1 (by have := HGT.out; omega)).trans HTK5.out
    have r5 : y5.cell? ⟨G, 5, none⟩ = some (.int .i64 0) := cell_of_blk htk5 rfl
    have q5 : y5.frozen? ⟨G, 5, none⟩ = false := free_of_blk htk5
    have HTK6 : Hid ((y5.setCell ⟨G, 5, none⟩ (.int .i64 x5)).heap[G]? = some (.cells #[.int .i64 x0, .int .i64 x1, .int .i64 x2, .int .i64 x3, .int .i64 x4, .int .i64 x5] 26 (0, 0))) := set_blk htk5
    have HST6 : Hid (St w g (w.heap.size + 1) A1 C.length c1 C (rd1 (rd1 (rd1 (rd1 (rd1 (rd1 (C, 0) 2147483648) 2147483648) 4095) 1099511627776) 1099511627776) 1048576) (y5.setCell ⟨G, 5, none⟩ (.int .i64 x5))) := hs5.only (Only.setCell y5 ⟨G, 5, none⟩ _) (by have := HGT.out; show ¬ g = G; omega) (fun i hi h => by have h1 := HGT.out; have h2 := HG.out; have h3 : i = G := h; omega) (fun i hi h => by have h1 := HGT.out; have h2 := HG.out; have h3 : i = G := h; omega)
    clear hs5 ho5 htk5
    go_wp2_with fail
    generalize y5.setCell ⟨G, 5, none⟩ (.int .i64 x5) = z6 at *
    clear r5 q5 HST5 HTK5
    have HS6 : Hid (St w g (w.heap.size + 1) A1 C.length c1 C (s6 C) z6) := HST6.out
    have hU : (⟨x0, x1, x2, x3, x4, x5⟩ : T) = tokOf C := by rw [HX0.out, HX1.out, HX2.out, HX3.out, HX4.out, HX5.out]; rfl
    have HU := Lib.hid hU
    obtain ⟨dn, hdn⟩ : ∃ dn, dn = done (s7 C).1 (s7 C).2 := ⟨_, rfl⟩
    have HDN := Lib.hid hdn
    obtain ⟨tg, htg⟩ : ∃ tg, tg = tagOf C := ⟨_, rfl⟩
    have HTG := Lib.hid htg
    have hrr : r = if dn ≠ 0 then (T.zero, [], dn) else if (⟨x0, x1, x2, x3, x4, x5⟩ : T).may ∧ tg.length = 32 then (⟨x0, x1, x2, x3, x4, x5⟩, tg, 0) else (T.zero, [], 2) := by
      rw [hU, hdn, htg]
      have h1 := HR.out
      rwa [if_neg (by simp)] at h1
    have HRR := Lib.hid hrr
    clear HST6 hU hdn htg hrr HR HX0 HX1 HX2 HX3 HX4 HX5
    have HBN := Lib.hid (bytes_next HS6.out HG.out.1)
    refine HBN.out.mono ?_
    rintro e7 w7 ⟨v7, rfl, hown7, ⟨at7, hrf7, hdr7⟩, hrs7, hbel7, ho7⟩
    rw [show vals (s6 C).2 (nxl (s6 C).1 32) = tg from HTG.out.symm] at hown7
    obtain ⟨A7, c7, rfl, hc7, hnil7⟩ := own_slice hown7
    have HR7 : Hid (Row .u8 w7 w7.heap.size A7 tg.length tg) := Row.of_own hown7
    have HN7 := Lib.hid (And.intro hc7 hnil7)
    have HA7 : Hid ((∀ b o, A7 = some ⟨b, o, none⟩ → z6.heap.size ≤ b) ∧ w.heap.size < z6.heap.size) := ⟨fun b o e => by subst e; exact (hown7.lt b rfl).1, (Array.getElem?_eq_some_iff.1 HS6.out.rs).1⟩
    have HT7 : Hid (w7.heap[G]? = some (.cells #[.int .i64 x0, .int .i64 x1, .int .i64 x2, .int .i64 x3, .int .i64 x4, .int .i64 x5] 26 (0, 0))) := (ho7.block G (Array.getElem?_eq_some_iff.1 HTK6.out).1 (by have := HGT.out; omega)).trans HTK6.out
    have HZ7 := Lib.hid hrs7
    have HB7 := Lib.hid hbel7
    have HD7 : Hid (∀ wx : World, wx.heap = w7.heap → Calls Tryd.prog 44 #[.pointer (some ⟨g, 0, none⟩)] wx fun r w' => r = .returned (.int .i64 (dn : Int)) ∧ Like wx w') := fun wx hx => by
      have h1 := done_next (s := s7 C) (w := wx) (g := g) (N := w.heap.size + 1) (A := A1) (n := C.length) (c := c1) (C := C) (at_ := at7) (by
        refine ⟨⟨by rw [hx]; exact hrf7.rf.blk⟩, ?_, hrf7.low, hrf7.nc, hrf7.le, hrf7.nil, hrf7.byt, hrf7.len⟩
        refine ⟨hrf7.row.1, fun h0 => ?_⟩
        obtain ⟨b1, o1, e1, h2, h3⟩ := hrf7.row.2 h0
        exact ⟨b1, o1, e1, h2, fun j hj => (World.cell?_of_block (w := w7) (by rw [hx])).trans (h3 j hj)⟩) hdr7
      rwa [← HDN.out] at h1
    clear hown7 hc7 hnil7 hrf7 hdr7 hrs7 hbel7 ho7 HBN HS6 HTK6
    go_wp2_with fail
    refine (HD7.out w7 rfl).mono ?_
    rintro e8 w8 ⟨rfl, hl8⟩
    have HL8 : Hid (Below w7.heap.size w7 w8) := ⟨hl8.os, hl8.tape, hl8.output, by rw [hl8.heap]; exact Nat.le_refl _, fun k _ => by rw [hl8.heap]⟩
    have HH8 := Lib.hid hl8.heap
    have HZ8 : Hid (w8.heap[w.heap.size]? = some (.cells T.zero.cells 26 (0, 0))) := by unfold Hid; rw [HH8.out]; exact HZ7.out
    have HT8 : Hid (w8.heap[G]? = some (.cells #[.int .i64 x0, .int .i64 x1, .int .i64 x2, .int .i64 x3, .int .i64 x4, .int .i64 x5] 26 (0, 0))) := by unfold Hid; rw [HH8.out]; exact HT7.out
    have HB8 := Lib.hid (HB7.out.trans (HL8.out.mono HB7.out.size))
    have HR8 := Lib.hid ((HR7.out.below HL8.out).more HL8.out.size)
    clear hl8
    by_cases hd0 : dn = 0
    · have hdn0 : ((dn : Int) != 0) = false := by rw [hd0]; rfl
      have HD0 := Lib.hid hd0
      clear hd0
      have u0 := cell_of_blk (j := 0) HT8.out rfl
      have u1 := cell_of_blk (j := 1) HT8.out rfl
      have u2 := cell_of_blk (j := 2) HT8.out rfl
      have u3 := cell_of_blk (j := 3) HT8.out rfl
      have u4 := cell_of_blk (j := 4) HT8.out rfl
      have u5 := cell_of_blk (j := 5) HT8.out rfl
      have HMY : Hid (Calls Tryd.prog 13 #[.agg #[.int .i64 x0, .int .i64 x1, .int .i64 x2, .int .i64 x3, .int .i64 x4, .int .i64 x5]] w8 fun x w' => x = .returned (.bool (decide (⟨x0, x1, x2, x3, x4, x5⟩ : T).may)) ∧ Below w8.heap.size w8 w') := refmay_any ⟨x0, x1, x2, x3, x4, x5⟩ w8
      go_wp2_with fail
      refine HMY.out.mono ?_
      rintro e9 w9 ⟨rfl, hb9⟩
      have HZ9 : Hid (w9.heap[w.heap.size]? = some (.cells T.zero.cells 26 (0, 0))) := (hb9.block _ (Array.getElem?_eq_some_iff.1 HZ8.out).1).trans HZ8.out
      have HT9 : Hid (w9.heap[G]? = some (.cells #[.int .i64 x0, .int .i64 x1, .int .i64 x2, .int .i64 x3, .int .i64 x4, .int .i64 x5] 26 (0, 0))) := (hb9.block _ (Array.getElem?_eq_some_iff.1 HT8.out).1).trans HT8.out
      have HB9 := Lib.hid (HB8.out.trans (hb9.mono HB8.out.size))
      have HR9 := Lib.hid ((HR8.out.below hb9).more hb9.size)
      clear hb9 u0 u1 u2 u3 u4 u5
      by_cases hmy : (⟨x0, x1, x2, x3, x4, x5⟩ : T).may
      · rw [decide_eq_true hmy]
        by_cases hl : tg.length = 32
        · have hl1 : ((tg.length : Int) != 32) = false := by rw [hl]; rfl
          have hrr : r = (⟨x0, x1, x2, x3, x4, x5⟩, tg, 0) := by have h1 := HRR.out; rw [if_neg (by rw [HD0.out]; simp), if_pos ⟨hmy, hl⟩] at h1; exact h1
          have HRE := Lib.hid hrr
          have HHL := Lib.hid hl
          have HMM := Lib.hid hmy
          clear hl hmy hrr
          have IC : Hid ((Tryd.prog.info? 26).map (·.size) = some (#[.int .i64 x0, .int .i64 x1, .int .i64 x2, .int .i64 x3, .int .i64 x4, .int .i64 x5] : Array Value).size) := infoT
          have SC : Hid (T.zero.cells.size = (#[.int .i64 x0, .int .i64 x1, .int .i64 x2, .int .i64 x3, .int .i64 x4, .int .i64 x5] : Array Value).size) := rfl
          go_wp2_with (first
            | ((with_reducible show wpList _ _ _ _ _ _); (refine wpList_load_row rfl 26 (.tmp 8) rfl G rfl 26 #[.int .i64 x0, .int .i64 x1, .int .i64 x2, .int .i64 x3, .int .i64 x4, .int .i64 x5] (0, 0) _ HT9.out Tryd.underlying26 rfl IC.out ?_))
            | ((with_reducible show wpList _ _ _ _ _ _); refine wpList_store_row rfl 26 (.tmp 2) (.tmp 56) rfl w.heap.size #[.int .i64 x0, .int .i64 x1, .int .i64 x2, .int .i64 x3, .int .i64 x4, .int .i64 x5] rfl rfl 26 _ HZ9.out IC.out SC.out (cellsT ⟨x0, x1, x2, x3, x4, x5⟩) ?_))
          refine bodyPost_ret (results_cell_tmps rfl _ _ w.heap.size #[.int .i64 x0, .int .i64 x1, .int .i64 x2, .int .i64 x3, .int .i64 x4, .int .i64 x5] rfl (run_loadVar_row _ _ 26 26 _ (0, 0) _ (setRow_heap _ _ _ _ _ _ HZ9.out) Tryd.underlying26 rfl infoT)) rfl ?_
          rw [HRE.out]
          refine ⟨A7, tg.length, c7, rfl, ⟨HR9.out.1, fun h0 => ?_⟩, HN7.out.2, HN7.out.1, below_setRow HB9.out (Nat.le_refl _) _⟩
          obtain ⟨b1, o1, e1, h2, h3⟩ := HR9.out.2 h0
          have hne : w.heap.size ≠ b1 := by have h4 := HA7.out.1 b1 o1 e1; have h5 := HA7.out.2; omega
          exact ⟨b1, o1, e1, by rw [size_setRow]; exact h2, fun j hj => (World.cell?_of_block (w := w9) (setRow_other w9 _ _ _ (Ne.symm hne))).trans (h3 j hj)⟩
        · have hl1 : ((tg.length : Int) != 32) = true := bne_iff_ne.2 (by omega)
          have hrr : r = (T.zero, [], 2) := by have h1 := HRR.out; rw [if_neg (by rw [HD0.out]; simp), if_neg (fun hh => hl hh.2)] at h1; exact h1
          have HRE := Lib.hid hrr
          have HHL := Lib.hid hl
          clear hl hmy hrr
          go_wp2_with (with_reducible refine wpList_store_row rfl 26 (.tmp 2) (.tmp 55) rfl w.heap.size T.zero.cells rfl rfl 26 _ HZ9.out I6.out rfl (cellsT _) ?_)
          refine bodyPost_ret (results_cell_tmps rfl _ _ w.heap.size T.zero.cells rfl (run_loadVar_row _ _ 26 26 _ (0, 0) _ (setRow_heap _ _ _ _ _ _ HZ9.out) Tryd.underlying26 rfl I6.out)) rfl ?_
          rw [HRE.out]
          exact ⟨none, 0, 0, rfl, Row.none_, fun _ => rfl, Nat.le_refl _, below_setRow HB9.out (Nat.le_refl _) _⟩
      · rw [decide_eq_false hmy]
        have hrr : r = (T.zero, [], 2) := by have h1 := HRR.out; rw [if_neg (by rw [HD0.out]; simp), if_neg (fun hh => hmy hh.1)] at h1; exact h1
        have HRE := Lib.hid hrr
        clear hmy hrr
        go_wp2_with (with_reducible refine wpList_store_row rfl 26 (.tmp 2) (.tmp 55) rfl w.heap.size T.zero.cells rfl rfl 26 _ HZ9.out I6.out rfl (cellsT _) ?_)
        refine bodyPost_ret (results_cell_tmps rfl _ _ w.heap.size T.zero.cells rfl (run_loadVar_row _ _ 26 26 _ (0, 0) _ (setRow_heap _ _ _ _ _ _ HZ9.out) Tryd.underlying26 rfl I6.out)) rfl ?_
        rw [HRE.out]
        exact ⟨none, 0, 0, rfl, Row.none_, fun _ => rfl, Nat.le_refl _, below_setRow HB9.out (Nat.le_refl _) _⟩
    · have hdn0 : ((dn : Int) != 0) = true := bne_iff_ne.2 (by omega)
      have hrr : r = (T.zero, [], dn) := by have h1 := HRR.out; rw [if_pos hd0] at h1; exact h1
      have HRE := Lib.hid hrr
      clear hd0 hrr
      have HD8 := Lib.hid (HD7.out w8 HH8.out)
      go_wp2_with fail
      refine HD8.out.mono ?_
      rintro e9 w9 ⟨rfl, hl9⟩
      have HL9 : Hid (Below w8.heap.size w8 w9) := ⟨hl9.os, hl9.tape, hl9.output, by rw [hl9.heap]; exact Nat.le_refl _, fun k _ => by rw [hl9.heap]⟩
      have HZ9 : Hid (w9.heap[w.heap.size]? = some (.cells T.zero.cells 26 (0, 0))) := by unfold Hid; rw [hl9.heap]; exact HZ8.out
      have HB9 := Lib.hid (HB8.out.trans (HL9.out.mono HB8.out.size))
      clear hl9
      go_wp2_with (with_reducible refine wpList_store_row rfl 26 (.tmp 2) (.tmp 44) rfl w.heap.size T.zero.cells rfl rfl 26 _ HZ9.out I6.out rfl (cellsT _) ?_)
      refine bodyPost_ret (results_cell_tmps rfl _ _ w.heap.size T.zero.cells rfl (run_loadVar_row _ _ 26 26 _ (0, 0) _ (setRow_heap _ _ _ _ _ _ HZ9.out) Tryd.underlying26 rfl I6.out)) rfl ?_
      rw [HRE.out]
      exact ⟨none, 0, 0, rfl, Row.none_, fun _ => rfl, Nat.le_refl _, below_setRow HB9.out (Nat.le_refl _) _⟩
  · have hd : ((er : Int) != 0) = true := bne_iff_ne.2 (by omega)
    have hrr : r = (T.zero, [], er) := by have h1 := HR.out; rw [if_pos her] at h1; exact h1
    have HRR := Lib.hid hrr
    clear hrr her
    go_wp2_with (with_reducible refine wpList_store_row rfl 26 (.tmp 2) (.tmp 17) rfl w.heap.size T.zero.cells rfl rfl 26 _ HZ2.out I6.out rfl (cellsT _) ?_)
    refine bodyPost_ret (results_cell_tmps rfl _ _ w.heap.size T.zero.cells rfl (run_loadVar_row _ _ 26 26 _ (0, 0) _ (setRow_heap _ _ _ _ _ _ HZ2.out) Tryd.underlying26 rfl I6.out)) rfl ?_
    rw [HRR.out]
    exact ⟨none, 0, 0, rfl, Row.none_, fun _ => rfl, Nat.le_refl _, below_setRow HB2.out (Nat.le_refl _) _⟩
end Go.Proofs.YtmkdbpdfonpfdaaDoor.Tok

/- Layer 10 (token): the reference's Verify, as a contract. -/
namespace Go.Proofs.YtmkdbpdfonpfdaaDoor.Tok
open Go.RowKit Var Fld Frm Sha Hmc Rg

theorem opnF_may {er dn : Nat} {t : T} {tg : List Int} (h : (opnF er dn t tg).2.2 = 0) : (opnF er dn t tg).1.may ∧ (opnF er dn t tg).2.1.length = 32 := by
  unfold opnF at h ⊢
  by_cases h1 : er ≠ 0
  · rw [if_pos h1] at h
    exact absurd h h1
  rw [if_neg h1] at h ⊢
  by_cases h2 : dn ≠ 0
  · rw [if_pos h2] at h
    exact absurd h h2
  rw [if_neg h2] at h ⊢
  by_cases h3 : t.may ∧ tg.length = 32
  · rw [if_pos h3]
    exact h3
  · rw [if_neg h3] at h
    simp at h
theorem opnF_tag (er dn : Nat) (t : T) (tg : List Int) : (opnF er dn t tg).2.1 = [] ∨ (opnF er dn t tg).2.1 = tg := by
  unfold opnF
  by_cases h1 : er ≠ 0
  · rw [if_pos h1]; exact .inl rfl
  rw [if_neg h1]
  by_cases h2 : dn ≠ 0
  · rw [if_pos h2]; exact .inl rfl
  rw [if_neg h2]
  by_cases h3 : t.may ∧ tg.length = 32
  · rw [if_pos h3]; exact .inr rfl
  · rw [if_neg h3]; exact .inl rfl
theorem opn_may {b : List Int} (h : (opn b).2.2 = 0) : (opn b).1.may ∧ (opn b).2.1.length = 32 := opnF_may h
theorem after_byt {xs : List Int} (h : Byt xs) (e s er : Nat) : Byt (after xs e s er).1 := by
  unfold after
  split
  · exact h
  split
  · exact h
  · exact h.drop _
theorem nxl_byt {xs : List Int} (h : Byt xs) (m : Int) : Byt (nxl xs m).1 := by
  unfold nxl
  split
  · intro x hx; simp at hx
  split
  · intro x hx; simp at hx
  · exact (h.drop _).take _
theorem tagOf_byt {b : List Int} (h : Byt b) : Byt (opn b).2.1 := by
  have hC : Byt (wholly 2 b).1 := wholly_byt h
  unfold opn
  rcases opnF_tag (wholly 2 b).2 (done (s7 (wholly 2 b).1).1 (s7 (wholly 2 b).1).2) (tokOf (wholly 2 b).1) (tagOf (wholly 2 b).1) with h1 | h1
  · rw [h1]; intro x hx; simp at hx
  · rw [h1]
    obtain ⟨C, hC'⟩ : ∃ C, C = (wholly 2 b).1 := ⟨_, rfl⟩
    rw [← hC'] at hC ⊢
    have e1 : Byt (s1 C).1 := by unfold s1 rd1; exact after_byt hC _ _ _
    have e2 : Byt (s2 C).1 := by unfold s2 rd1; exact after_byt e1 _ _ _
    have e3 : Byt (s3 C).1 := by unfold s3 rd1; exact after_byt e2 _ _ _
    have e4 : Byt (s4 C).1 := by unfold s4 rd1; exact after_byt e3 _ _ _
    have e5 : Byt (s5 C).1 := by unfold s5 rd1; exact after_byt e4 _ _ _
    have hs : Byt (s6 C).1 := by unfold s6 rd1; exact after_byt e5 _ _ _
    unfold tagOf vals
    split
    · intro x hx; simp at hx
    · exact nxl_byt hs 32
theorem fnd_le {w : World} {B n : Nat} {A : Option Addr} {K : List Kp} (h : KRow w B A n K) (hk : ∀ k ∈ K, k.p.n ≤ 100) (e : Int) : ((fnd (ls K) e).getD []).length ≤ 100 := by
  unfold fnd
  cases hf : (ls K).find? (fun k => k.1 == e) with
  | none => simp
  | some q =>
    obtain ⟨k, hk', rfl⟩ := List.mem_map.1 (List.mem_of_find?_eq_some hf)
    have h1 := hk k hk'
    have h2 := (h.ok k hk').len
    simp only [Option.map_some, Option.getD_some, Kp.l]
    omega
theorem fnd_byt {w : World} {B n : Nat} {A : Option Addr} {K : List Kp} (h : KRow w B A n K) {e : Int} {x : List Int} (hx : fnd (ls K) e = some x) : ∀ y ∈ x, 0 ≤ y ∧ y ≤ 255 := by
  unfold fnd at hx
  cases hf : (ls K).find? (fun k => k.1 == e) with
  | none => rw [hf] at hx; cases hx
  | some q =>
    rw [hf] at hx
    obtain ⟨k, hk', rfl⟩ := List.mem_map.1 (List.mem_of_find?_eq_some hf)
    simp only [Option.map_some, Option.some.injEq] at hx
    subst hx
    exact (h.ok k hk').byt

/-- What a call that verifies answers. -/
def VerTo (w : World) (r : T × Nat) (x : Ending) (w' : World) : Prop := x = .returned (.tuple #[r.1.val, .int .i64 (r.2 : Int)]) ∧ Below w.heap.size w w'

set_option maxHeartbeats 3200000 in
set_option maxRecDepth 100000 in
theorem refverify_any (keep nw : Int) (A A' : Option Addr) (n c n' c' : Nat) (K : List Kp) (b : List Int) (w : World) (h : KRow w w.heap.size A n K) (hn : n ≤ 4398046511104) (hk100 : ∀ k ∈ K, k.p.n ≤ 100) (h' : Row .u8 w w.heap.size A' n' b) (hb : Byt b) (hn' : n' ≤ 4398046511104) (hc' : n' ≤ c') (hcm' : c' ≤ maxLen) :
    Calls Tryd.prog 19 #[.agg #[.int .i64 keep, .slice A n c], .slice A' n' c', .int .i64 nw] w (VerTo w (verify (ls K) b nw)) := by
  have H := Lib.hid h
  have H100 := Lib.hid hk100
  obtain ⟨w2, hw2⟩ : ∃ w2, (w.alloc (.cells #[.int .i64 keep, .slice A n c] 24)).alloc (.cells T.zero.cells 26) = w2 := ⟨_, rfl⟩
  have hb2 : Below w.heap.size w w2 := by rw [← hw2]; exact ((Below.refl _ _).alloc (Nat.le_refl _) _).alloc (by simp) _
  have hs2 : w2.heap.size = w.heap.size + 1 + 1 := by rw [← hw2]; simp
  have HG0 : Hid (w2.heap[w.heap.size]? = some (.cells #[.int .i64 keep, .slice A n c] 24 (0, 0))) := by unfold Hid; rw [← hw2]; exact heap_alloc2_old w _ _
  have HZ0 : Hid (w2.heap[w.heap.size + 1]? = some (.cells T.zero.cells 26 (0, 0))) := by unfold Hid; rw [← hw2]; exact heap_alloc2_new w _ _
  have HB2 := Lib.hid hb2
  have HS2 := Lib.hid hs2
  have HW2 := Lib.hid hw2
  have HO := Lib.hid (refopen_any A' n' c' b w2 ((h'.below hb2).more hb2.size) hb hn' hc' hcm')
  have HMAY := Lib.hid (fun h => opn_may (b := b) h)
  have HTB := Lib.hid (tagOf_byt hb)
  obtain ⟨r, hr⟩ : ∃ r, r = verify (ls K) b nw := ⟨_, rfl⟩
  rw [← hr]
  unfold verify at hr
  obtain ⟨q, hq⟩ : ∃ q, q = opn b := ⟨_, rfl⟩
  rw [← hq] at hr HO HTB
  have HMAY2 : Hid (q.2.2 = 0 → q.1.may ∧ q.2.1.length = 32) := by unfold Hid; rw [hq]; exact HMAY.out
  obtain ⟨U, tg, er⟩ := q
  have HR := Lib.hid hr
  have I6 : Hid ((Tryd.prog.info? 26).map (·.size) = some T.zero.cells.size) := infoT
  clear h hk100 hb2 hs2 hw2 h' hb hn' hc' hcm' hr hq HMAY
  go_enter Tryd.func19, Tryd.ntmps19
  go_wp2_with fail
  refine Calls.mono (by have h1 := HO.out; rw [← HW2.out] at h1; exact h1) ?_
  rintro e3 w3 ⟨A3, n3, c3, rfl, hr3, hnil3, hnc3, hb3⟩
  rw [HW2.out] at hb3
  have HR3 := Lib.hid hr3
  have HB3 := Lib.hid (HB2.out.trans (hb3.mono HB2.out.size))
  have HZ3 : Hid (w3.heap[w.heap.size + 1]? = some (.cells T.zero.cells 26 (0, 0))) := (hb3.block _ (by have := HS2.out; omega)).trans HZ0.out
  have HG3 : Hid (w3.heap[w.heap.size]? = some (.cells #[.int .i64 keep, .slice A n c] 24 (0, 0))) := (hb3.block _ (by have := HS2.out; omega)).trans HG0.out
  unfold T.val
  have hal : Below w3.heap.size w3 (w3.alloc (.cells U.cells 26)) := (Below.refl _ _).alloc (Nat.le_refl _) _
  have HT4 : Hid ((w3.alloc (.cells U.cells 26)).heap[w3.heap.size]? = some (.cells U.cells 26 (0, 0))) := heap_alloc_new w3 _
  have HZ4 : Hid ((w3.alloc (.cells U.cells 26)).heap[w.heap.size + 1]? = some (.cells T.zero.cells 26 (0, 0))) := (hal.block _ (Array.getElem?_eq_some_iff.1 HZ3.out).1).trans HZ3.out
  have HG4 : Hid ((w3.alloc (.cells U.cells 26)).heap[w.heap.size]? = some (.cells #[.int .i64 keep, .slice A n c] 24 (0, 0))) := (hal.block _ (Array.getElem?_eq_some_iff.1 HG3.out).1).trans HG3.out
  have HB4 := Lib.hid (HB3.out.trans (hal.mono HB3.out.size))
  have HR4 := Lib.hid ((HR3.out.below hal).more hal.size)
  have HTOP : Hid (w.heap.size + 1 < w3.heap.size) := (Array.getElem?_eq_some_iff.1 HZ3.out).1
  clear hr3 hnil3 hnc3 hb3 hal HR3 HB3 HZ3 HG3 HG0 HZ0 HB2 HO
  obtain ⟨utr, uac, ust, uis, uun, uep⟩ := U
  have eU : (⟨utr, uac, ust, uis, uun, uep⟩ : T).cells = #[.int .i64 utr, .int .i64 uac, .int .i64 ust, .int .i64 uis, .int .i64 uun, .int .i64 uep] := rfl
  rw [eU] at HT4 HZ4 HG4 HB4 HR4 ⊢
  clear eU
  by_cases her : er = 0
  · subst her
    obtain ⟨hmay, htl⟩ := HMAY2.out rfl
    have hok := hmay.ok
    have HOK := Lib.hid hok
    have HTL : Hid (tg.length = 32) := htl
    have hr2 := HR.out
    rw [if_neg (by simp)] at hr2
    simp only at hr2
    have HR5 := Lib.hid hr2
    have g0 := cell_of_blk (j := 0) HG4.out rfl
    have g1 := cell_of_blk (j := 1) HG4.out rfl
    have u5 := cell_of_blk (j := 5) HT4.out rfl
    have HFI := Lib.hid (reffind_any keep uep A n c w.heap.size K (w3.alloc (.cells #[.int .i64 utr, .int .i64 uac, .int .i64 ust, .int .i64 uis, .int .i64 uun, .int .i64 uep] 26)) (H.out.below HB4.out) HB4.out.size hn)
    clear hmay hok htl hr2 HR HMAY2
    go_wp2_with fail
    refine HFI.out.mono ?_
    rintro e5 w5 ⟨A5, n5, c5, rfl, hr5, hnil5, -, hb5⟩
    have HBR := Lib.hid hr5
    have HN5 := Lib.hid hnil5
    have HB5 := Lib.hid (HB4.out.trans (hb5.mono HB4.out.size))
    have HT5 : Hid (w5.heap[w3.heap.size]? = some (.cells #[.int .i64 utr, .int .i64 uac, .int .i64 ust, .int .i64 uis, .int .i64 uun, .int .i64 uep] 26 (0, 0))) := (hb5.block _ (Array.getElem?_eq_some_iff.1 HT4.out).1).trans HT4.out
    have HZ5 : Hid (w5.heap[w.heap.size + 1]? = some (.cells T.zero.cells 26 (0, 0))) := (hb5.block _ (Array.getElem?_eq_some_iff.1 HZ4.out).1).trans HZ4.out
    have HR45 := Lib.hid ((HR4.out.below hb5).more hb5.size)
    have hx100 := fnd_le H.out H100.out uep
    clear hr5 hnil5 hb5 g0 g1 u5
    generalize w3.heap.size = G3 at *
    cases hfn : fnd (ls K) uep with
    | none =>
      have hrr : r = (T.zero, 20) := by have h1 := HR5.out; rw [hfn] at h1; exact h1
      have HRE := Lib.hid hrr
      clear hrr hfn
      go_wp2_with (with_reducible refine wpList_store_row rfl 26 (.tmp 6) (.tmp 32) rfl (w.heap.size + 1) T.zero.cells rfl rfl 26 _ HZ5.out I6.out rfl (cellsT _) ?_)
      refine bodyPost_ret (results_cell_one rfl _ _ (w.heap.size + 1) T.zero.cells rfl (run_loadVar_row _ _ 26 26 _ (0, 0) _ (setRow_heap _ _ _ _ _ _ HZ5.out) Tryd.underlying26 rfl I6.out)) rfl ?_
      rw [HRE.out]
      exact ⟨rfl, below_setRow HB5.out (Nat.le_succ _) _⟩
    | some k =>
      have hr6 := HR5.out
      have hr7 := HBR.out
      rw [hfn] at hr6 hr7 hx100
      simp only [Option.getD_some] at hr6 hr7 hx100
      have HR6 := Lib.hid hr6
      have HRK := Lib.hid hr7
      have HX1 := Lib.hid hx100
      have hkb := fnd_byt H.out hfn
      have HKB := Lib.hid hkb
      rw [show (some k).isSome = true from rfl]
      clear hr6 hr7 hx100 hfn hkb HBR HR5
      have u0 := cell_of_blk (j := 0) HT5.out rfl
      have u1 := cell_of_blk (j := 1) HT5.out rfl
      have u2 := cell_of_blk (j := 2) HT5.out rfl
      have u3 := cell_of_blk (j := 3) HT5.out rfl
      have u4 := cell_of_blk (j := 4) HT5.out rfl
      have u5 := cell_of_blk (j := 5) HT5.out rfl
      have HTG : Hid (Calls Tryd.prog 32 #[.slice A5 n5 c5, .agg #[.int .i64 utr, .int .i64 uac, .int .i64 ust, .int .i64 uis, .int .i64 uun, .int .i64 uep]] w5 fun e w' => ∃ v, e = .returned v ∧ w'.ownsRow w5.heap.size 5 1 v 32 ((tagT k ⟨utr, uac, ust, uis, uun, uep⟩).map (Value.int .u8)) ∧ Below w5.heap.size w5 w') := reftokentag_any A5 n5 c5 w5.heap.size k ⟨utr, uac, ust, uis, uun, uep⟩ HOK.out w5 HRK.out (Nat.le_refl _) HN5.out (by have h1 := HRK.out.len; have h2 := HX1.out; omega) HKB.out
      go_wp2_with fail
      refine HTG.out.mono ?_
      rintro e6 w6 ⟨v6, rfl, hown6, hb6⟩
      obtain ⟨A6, c6, rfl, -, -⟩ := own_slice hown6
      have HR6' : Hid (Row .u8 w6 w6.heap.size A6 32 (tagT k ⟨utr, uac, ust, uis, uun, uep⟩)) := Row.of_own hown6
      have HRT6 := Lib.hid ((HR45.out.below hb6).more hb6.size)
      have HB6 := Lib.hid (HB5.out.trans (hb6.mono HB5.out.size))
      have HT6 : Hid (w6.heap[G3]? = some (.cells #[.int .i64 utr, .int .i64 uac, .int .i64 ust, .int .i64 uis, .int .i64 uun, .int .i64 uep] 26 (0, 0))) := (hb6.block _ (Array.getElem?_eq_some_iff.1 HT5.out).1).trans HT5.out
      have HZ6 : Hid (w6.heap[w.heap.size + 1]? = some (.cells T.zero.cells 26 (0, 0))) := (hb6.block _ (Array.getElem?_eq_some_iff.1 HZ5.out).1).trans HZ5.out
      have hn3 : n3 ≤ 4398046511104 := by have h1 := HRT6.out.len; have h2 := HTL.out; omega
      clear hown6 hb6 u0 u1 u2 u3 u4 u5
      go_wp2_with fail
      refine (same_any A6 A3 32 c6 n3 c3 _ _ (tagT k ⟨utr, uac, ust, uis, uun, uep⟩) tg w6 (by omega) hn3 HR6'.out HRT6.out).mono ?_
      rintro e7 w7 ⟨rfl, q7, rfl⟩
      have HB7 : Hid (Below w.heap.size w (w6.drewN q7)) := below_drewN HB6.out
      have HT7 : Hid ((w6.drewN q7).heap[G3]? = some (.cells #[.int .i64 utr, .int .i64 uac, .int .i64 ust, .int .i64 uis, .int .i64 uun, .int .i64 uep] 26 (0, 0))) := HT6.out
      have HZ7 : Hid ((w6.drewN q7).heap[w.heap.size + 1]? = some (.cells T.zero.cells 26 (0, 0))) := HZ6.out
      generalize w6.drewN q7 = w7 at *
      by_cases htag : tagT k ⟨utr, uac, ust, uis, uun, uep⟩ = tg
      · rw [decide_eq_true htag]
        have h1 := HR6.out
        rw [if_neg (by simp only [ne_eq, Decidable.not_not]; exact htag)] at h1
        have HR8 := Lib.hid h1
        have k3 := cell_of_blk (j := 3) HT7.out rfl
        have k4 := cell_of_blk (j := 4) HT7.out rfl
        clear h1 htag
        by_cases hlo : nw < uis
        · have hd1 : decide (nw < uis) = true := decide_eq_true hlo
          have hrr : r = (T.zero, 22) := by have h1 := HR8.out; rw [if_pos (.inl hlo)] at h1; exact h1
          have HRE := Lib.hid hrr
          clear hrr hlo
          go_wp2_with (with_reducible refine wpList_store_row rfl 26 (.tmp 6) (.tmp 50) rfl (w.heap.size + 1) T.zero.cells rfl rfl 26 _ HZ7.out I6.out rfl (cellsT _) ?_)
          refine bodyPost_ret (results_cell_one rfl _ _ (w.heap.size + 1) T.zero.cells rfl (run_loadVar_row _ _ 26 26 _ (0, 0) _ (setRow_heap _ _ _ _ _ _ HZ7.out) Tryd.underlying26 rfl I6.out)) rfl ?_
          rw [HRE.out]
          exact ⟨rfl, below_setRow HB7.out (Nat.le_succ _) _⟩
        by_cases hhi : uun < nw
        · have hd1 : decide (nw < uis) = false := decide_eq_false hlo
          have hd2 : decide (uun < nw) = true := decide_eq_true hhi
          have hrr : r = (T.zero, 22) := by have h1 := HR8.out; rw [if_pos (.inr hhi)] at h1; exact h1
          have HRE := Lib.hid hrr
          clear hrr hlo hhi
          go_wp2_with (with_reducible refine wpList_store_row rfl 26 (.tmp 6) (.tmp 50) rfl (w.heap.size + 1) T.zero.cells rfl rfl 26 _ HZ7.out I6.out rfl (cellsT _) ?_)
          refine bodyPost_ret (results_cell_one rfl _ _ (w.heap.size + 1) T.zero.cells rfl (run_loadVar_row _ _ 26 26 _ (0, 0) _ (setRow_heap _ _ _ _ _ _ HZ7.out) Tryd.underlying26 rfl I6.out)) rfl ?_
          rw [HRE.out]
          exact ⟨rfl, below_setRow HB7.out (Nat.le_succ _) _⟩
        · have hd1 : decide (nw < uis) = false := decide_eq_false hlo
          have hd2 : decide (uun < nw) = false := decide_eq_false hhi
          have hrr : r = (⟨utr, uac, ust, uis, uun, uep⟩, 0) := by have h1 := HR8.out; rw [if_neg (fun h => Or.elim h hlo hhi)] at h1; exact h1
          have HRE := Lib.hid hrr
          have IC : Hid ((Tryd.prog.info? 26).map (·.size) = some (#[.int .i64 utr, .int .i64 uac, .int .i64 ust, .int .i64 uis, .int .i64 uun, .int .i64 uep] : Array Value).size) := infoT
          have SC : Hid (T.zero.cells.size = (#[.int .i64 utr, .int .i64 uac, .int .i64 ust, .int .i64 uis, .int .i64 uun, .int .i64 uep] : Array Value).size) := rfl
          clear hrr hlo hhi
          go_wp2_with (first
            | ((with_reducible show wpList _ _ _ _ _ _); (refine wpList_load_row rfl 26 (.tmp 8) rfl G3 rfl 26 #[.int .i64 utr, .int .i64 uac, .int .i64 ust, .int .i64 uis, .int .i64 uun, .int .i64 uep] (0, 0) _ HT7.out Tryd.underlying26 rfl IC.out ?_))
            | ((with_reducible show wpList _ _ _ _ _ _); refine wpList_store_row rfl 26 (.tmp 6) (.tmp 51) rfl (w.heap.size + 1) #[.int .i64 utr, .int .i64 uac, .int .i64 ust, .int .i64 uis, .int .i64 uun, .int .i64 uep] rfl rfl 26 _ HZ7.out IC.out SC.out (cellsT ⟨utr, uac, ust, uis, uun, uep⟩) ?_))
          refine bodyPost_ret (results_cell_one rfl _ _ (w.heap.size + 1) #[.int .i64 utr, .int .i64 uac, .int .i64 ust, .int .i64 uis, .int .i64 uun, .int .i64 uep] rfl (run_loadVar_row _ _ 26 26 _ (0, 0) _ (setRow_heap _ _ _ _ _ _ HZ7.out) Tryd.underlying26 rfl infoT)) rfl ?_
          rw [HRE.out]
          exact ⟨rfl, below_setRow HB7.out (Nat.le_succ _) _⟩
      · rw [decide_eq_false htag]
        have hrr : r = (T.zero, 21) := by have h1 := HR6.out; rw [if_pos htag] at h1; exact h1
        have HRE := Lib.hid hrr
        clear hrr htag
        go_wp2_with (with_reducible refine wpList_store_row rfl 26 (.tmp 6) (.tmp 39) rfl (w.heap.size + 1) T.zero.cells rfl rfl 26 _ HZ7.out I6.out rfl (cellsT _) ?_)
        refine bodyPost_ret (results_cell_one rfl _ _ (w.heap.size + 1) T.zero.cells rfl (run_loadVar_row _ _ 26 26 _ (0, 0) _ (setRow_heap _ _ _ _ _ _ HZ7.out) Tryd.underlying26 rfl I6.out)) rfl ?_
        rw [HRE.out]
        exact ⟨rfl, below_setRow HB7.out (Nat.le_succ _) _⟩
  · have hd : ((er : Int) != 0) = true := bne_iff_ne.2 (by omega)
    have hrr : r = (T.zero, er) := by have h1 := HR.out; rw [if_pos her] at h1; exact h1
    have HRE := Lib.hid hrr
    clear hrr her
    go_wp2_with (with_reducible refine wpList_store_row rfl 26 (.tmp 6) (.tmp 21) rfl (w.heap.size + 1) T.zero.cells rfl rfl 26 _ HZ4.out I6.out rfl (cellsT _) ?_)
    refine bodyPost_ret (results_cell_one rfl _ _ (w.heap.size + 1) T.zero.cells rfl (run_loadVar_row _ _ 26 26 _ (0, 0) _ (setRow_heap _ _ _ _ _ _ HZ4.out) Tryd.underlying26 rfl I6.out)) rfl ?_
    rw [HRE.out]
    exact ⟨rfl, below_setRow HB4.out (Nat.le_succ _) _⟩
end Go.Proofs.YtmkdbpdfonpfdaaDoor.Tok

/- Layer 10 (token): what the program's functions must do; few. -/
namespace Go.Proofs.YtmkdbpdfonpfdaaDoor.Tok
open Go.RowKit Slc Var Fld Frm Sha Hmc Rg

/-- What the program's Issue answers. -/
def IssTo (w : World) (r : List Int × Int) (x : Ending) (w' : World) : Prop :=
  ∃ A n c, x = .returned (.tuple #[.slice A n c, .int .i64 r.2]) ∧ Row .u8 w' w'.heap.size A n r.1 ∧ (A = none → c = 0) ∧ n ≤ c ∧ c ≤ maxLen ∧ Below w.heap.size w w'
theorem own_max {w : World} {base n : Nat} {e : TypeId} {v : Value} {xs : List Value} (h : w.ownsRow base e 1 v n xs) : ∃ A c, v = .slice A n c ∧ n ≤ c ∧ c ≤ maxLen ∧ (A = none → c = 0) := by
  rcases h.2 with ⟨rfl, rfl⟩ | ⟨g, cap, cur, rfl, _, _, hc, hm, _⟩
  · exact ⟨none, 0, rfl, Nat.le_refl _, Nat.zero_le _, fun _ => rfl⟩
  · exact ⟨_, cap, rfl, hc, hm, fun h => by cases h⟩
theorem issTo_own {w w' : World} {r : List Int × Int} {v : Value} (h : w'.ownsRow w.heap.size 5 1 v r.1.length (r.1.map (Value.int .u8))) (hb : Below w.heap.size w w') : IssTo w r (.returned (.tuple #[v, .int .i64 r.2])) w' := by
  obtain ⟨A, c, rfl, h1, h2, h3⟩ := own_max h
  exact ⟨A, _, c, rfl, Row.of_own h, h3, h1, h2, hb⟩
/-- What a program's functions must do. -/
def MayOk : Prop := ∀ (t : T) (w : World), t.ok → Calls Tryd.prog 12 #[t.val] w fun x w' => x = .returned (.bool (decide t.may)) ∧ Below w.heap.size w w'
def FieldsOk : Prop := ∀ (t : T) (w : World), t.ok → Calls Tryd.prog 14 #[t.val] w (Makes (flds t) w)
def IssueOk : Prop := ∀ (keep : Int) (A : Option Addr) (n c : Nat) (K : List Kp) (t : T) (w : World), t.ok → KRow w w.heap.size A n K → (A = none → c = 0) → n ≤ c → Small n K → -9223372036854775808 ≤ keep ∧ keep ≤ 9223372036854775807 → Lay w →
  Calls Tryd.prog 9 #[.agg #[.int .i64 keep, .slice A n c], t.val] w (IssTo w (issue keep (ls K) t))
def OpenOk : Prop := ∀ (A : Option Addr) (n c : Nat) (b : List Int) (w : World), Row .u8 w w.heap.size A n b → (A = none → c = 0) → Byt b → n ≤ c → c ≤ maxLen → n ≤ 4398046511104 → Lay w →
  Calls Tryd.prog 16 #[.slice A n c] w (OpenTo w (opn b))
def VerifyOk : Prop := ∀ (keep nw : Int) (A A' : Option Addr) (n c n' c' : Nat) (K : List Kp) (b : List Int) (w : World), KRow w w.heap.size A n K → (A = none → c = 0) → n ≤ c → Small n K → -9223372036854775808 ≤ keep ∧ keep ≤ 9223372036854775807 → -9223372036854775808 ≤ nw ∧ nw ≤ 9223372036854775807 →
  Row .u8 w w.heap.size A' n' b → (A' = none → c' = 0) → Byt b → n' ≤ c' → c' ≤ maxLen → n' ≤ 4398046511104 → Lay w →
  Calls Tryd.prog 18 #[.agg #[.int .i64 keep, .slice A n c], .slice A' n' c', .int .i64 nw] w (VerTo w (verify (ls K) b nw))

/-- What was issued, looked at. -/
theorem verify_body {E : List Kl} {k : List Int} {t : T} {nw : Int} (h : t.may) (hf : fnd E t.ep = some k) : verify E (frame 2 (body k t)) nw = if nw < t.is ∨ t.un < nw then (T.zero, 22) else (t, 0) := by
  unfold verify
  rw [opn_body h]
  simp only [ne_eq, not_true_eq_false, if_false, hf]
theorem verify_none {E : List Kl} {k : List Int} {t : T} {nw : Int} (h : t.may) (hf : fnd E t.ep = none) : verify E (frame 2 (body k t)) nw = (T.zero, 20) := by
  unfold verify
  rw [opn_body h]
  simp only [ne_eq, not_true_eq_false, if_false, hf]
/-- What counts. -/
theorem verify_yes {E : List Kl} {b : List Int} {nw : Int} (h : (verify E b nw).2 = 0) : (opn b).2.2 = 0 ∧ (verify E b nw).1 = (opn b).1 ∧ (opn b).1.may ∧ (∃ k, fnd E (opn b).1.ep = some k ∧ (opn b).2.1 = tagT k (opn b).1) ∧ (opn b).1.is ≤ nw ∧ nw ≤ (opn b).1.un := by
  unfold verify at h ⊢
  by_cases h0 : (opn b).2.2 = 0
  · simp only [h0, ne_eq, not_true_eq_false, if_false] at h ⊢
    cases hf : fnd E (opn b).1.ep with
    | none => rw [hf] at h; cases h
    | some k =>
      rw [hf] at h
      simp only at h ⊢
      by_cases h1 : tagT k (opn b).1 = (opn b).2.1
      · simp only [h1, not_true_eq_false, if_false] at h ⊢
        by_cases h2 : nw < (opn b).1.is ∨ (opn b).1.un < nw
        · simp only [h2, if_true] at h; cases h
        · simp only [h2, if_false, true_and]
          exact ⟨(opn_may h0).1, ⟨k, rfl, h1.symm⟩, by omega, by omega⟩
      · simp only [h1, not_false_eq_true, if_true] at h; cases h
  · simp only [h0, ne_eq, not_false_eq_true, if_true] at h
theorem verify_zero {E : List Kl} {b : List Int} {nw : Int} (h : (verify E b nw).2 ≠ 0) : (verify E b nw).1 = T.zero := by
  unfold verify at h ⊢
  by_cases h0 : (opn b).2.2 = 0
  · simp only [h0, ne_eq, not_true_eq_false, if_false] at h ⊢
    cases hf : fnd E (opn b).1.ep with
    | none => rfl
    | some k =>
      rw [hf] at h
      simp only at h ⊢
      by_cases h1 : tagT k (opn b).1 = (opn b).2.1
      · simp only [h1, not_true_eq_false, if_false] at h ⊢
        by_cases h2 : nw < (opn b).1.is ∨ (opn b).1.un < nw
        · simp only [h2, if_true]
        · simp only [h2, if_false] at h; exact absurd trivial h
      · simp only [h1, not_false_eq_true, if_true]
  · simp only [h0, ne_eq, not_false_eq_true, if_true]
theorem tagT_eq (k : List Int) (t : T) : tagT k t = mac k (tokn ++ 0 :: flds t) := rfl
/-- The example. -/
def exT : T := ⟨1, 2, 3, 4, 5, 0⟩
theorem exT_ok : exT.ok := ⟨by decide, by decide, by decide, by decide, by decide, by decide⟩
theorem exT_may : (exT.at 1).may := by decide
theorem ex_rt (k : List Int) (h : k.length = 32) : RtP 1 [(1, k)] := by
  refine ⟨by omega, by omega, by simp, by simp, fun j q hq => ?_⟩
  match j, hq with
  | 0, hq =>
    obtain rfl : (1, k) = q := by simpa using hq
    exact ⟨h, by omega, by omega, fun h => by omega⟩
  | j + 1, hq => simp at hq
theorem ex_issue (k : List Int) (h : k.length = 32) : issue 1 [(1, k)] exT = (frame 2 (body k (exT.at 1)), 0) := issue_yes ⟨ex_rt k h, exT_may⟩
theorem ex_len (k : List Int) : (frame 2 (body k (exT.at 1))).length = 46 := by
  have e : (body k (exT.at 1)).length = 39 := by
    have h : (flds (exT.at 1)).length = 6 := by decide +kernel
    have h2 : (num 32).length = 1 := by decide +kernel
    unfold body
    rw [List.length_append, List.length_append, tagT_len, h, h2]
  rw [frame_len, e]
  have h3 : (put 39).length = 1 := by decide +kernel
  omega
theorem ex_verify (k : List Int) : verify [(1, k)] (frame 2 (body k (exT.at 1))) 4 = (exT.at 1, 0) := by
  rw [verify_body exT_may (k := k) (by simp [fnd, exT, T.at])]
  rw [if_neg (by simp [exT, T.at])]

set_option maxHeartbeats 800000 in
set_option maxRecDepth 100000 in
theorem few_any (keep : Int) (A : Option Addr) (n c B : Nat) (K : List Kp) (w : World) (h : KRow w B A n K) (hB : B ≤ w.heap.size) (hn : n ≤ maxLen) :
    Calls Tryd.prog 8 #[.agg #[.int .i64 keep, .slice A n c]] w fun x w' => (∃ b, x = .returned (.bool b) ∧ (b = true → n ≤ 30 ∧ ∀ k ∈ K, k.p.n ≤ 100)) ∧ Below w.heap.size w w' := by
  have H := Lib.hid h
  have HBB := Lib.hid hB
  have HLN := Lib.hid h.len
  have HB0 : Hid (Below w.heap.size w (w.alloc (.cells #[.int .i64 keep, .slice A n c] 24))) := (Below.refl _ _).alloc (Nat.le_refl _) _
  have HS1 : Hid ((w.alloc (.cells #[.int .i64 keep, .slice A n c] 24)).heap.size = w.heap.size + 1) := by unfold Hid; simp
  have c1 : (w.alloc (.cells #[.int .i64 keep, .slice A n c] 24)).cell? ⟨w.heap.size, 1, none⟩ = some (.slice A n c) := cell_of_blk (heap_alloc_new w _) rfl
  have HC := Lib.hid c1
  have HK1 := Lib.hid (H.out.below (HB0.out.mono HBB.out))
  clear h hB
  go_enter Tryd.func8, Tryd.ntmps8
  go_wp2_with fail
  generalize w.alloc (.cells #[.int .i64 keep, .slice A n c] 24) = w1 at *
  clear c1
  go_loopw [4, 8] (fun _ i wr => ∃ t : Nat, t ≤ n ∧ i = .int .i64 (t : Int) ∧ Hid (∀ j k, j < t → K[j]? = some k → k.p.n ≤ 100) ∧ Hid (Below w1.heap.size w1 wr)) (fun _ i _ => n - (intOf i).toNat)
  case atStart => exact ⟨0, Nat.zero_le _, rfl, Lib.hid (fun j k h => absurd h (by omega)), Lib.hid (Below.refl _ _)⟩
  case round =>
    obtain ⟨t, ht, rfl, HG, HB⟩ := hrel
    have HBW : Hid (Below w.heap.size w wr) := HB0.out.trans (HB.out.mono HB0.out.size)
    have c1 := (HB.out.cell (p := ⟨w.heap.size, 1, none⟩) (by have := HS1.out; show w.heap.size < _; omega)).trans HC.out
    by_cases hlt : t < n
    · obtain ⟨b, o, k, rfl, hbb, hk, hok, k0, k1⟩ := (HK1.out.below (HB.out.mono (by have := HBB.out; have := HS1.out; omega))).at hlt
      have hlt' : (t : Int) < (n : Int) := by omega
      have HKA := Lib.hid hk
      clear hk hok
      obtain ⟨e, pA, pn, pc, xs⟩ := k
      simp only at k0 k1
      have HBA : Hid (Below w.heap.size w (wr.alloc (.cells #[.int .i64 e, .slice pA pn pc] 58))) := HBW.out.alloc HBW.out.size _
      have HBR : Hid (Below w1.heap.size w1 (wr.alloc (.cells #[.int .i64 e, .slice pA pn pc] 58))) := HB.out.alloc HB.out.size _
      by_cases q0 : 100 < pn
      · have hd : decide ((100 : Int) < (pn : Int)) = true := by simp; omega
        go_wp2
        go_ret
        exact ⟨⟨false, rfl, fun h => by cases h⟩, HBA.out⟩
      · have hd : decide ((100 : Int) < (pn : Int)) = false := by simp; omega
        have m1 : IntKind.i64.wrap ((t : Int) + 1) = (t : Int) + 1 := IntWalk.i64_in _ ⟨by omega, by have h1 : n ≤ maxLen := hn; unfold maxLen at h1; omega⟩
        have HG2 : Hid (∀ j k, j < t + 1 → K[j]? = some k → k.p.n ≤ 100) := fun j k hj hk => by
          by_cases hjt : j < t
          · exact HG.out j k hjt hk
          · obtain rfl : j = t := by omega
            rw [HKA.out] at hk
            injection hk with hk
            subst hk
            simp only
            omega
        go_wp2
        go_roundw
        case rel => exact ⟨t + 1, by omega, by go_num, HG2, HBR⟩
        case measure => simp [intOf]; omega
    · obtain rfl : t = n := by omega
      have hall : Hid (∀ k ∈ K, k.p.n ≤ 100) := fun k hk => by
        obtain ⟨j, hj⟩ := List.getElem?_of_mem hk
        exact HG.out j k (by have h1 := (List.getElem?_eq_some_iff.1 hj).1; have h2 := HLN.out; omega) hj
      go_wp2
      go_ret
      exact ⟨⟨_, rfl, fun h => ⟨by simp at h; omega, hall.out⟩⟩, HBW.out⟩


end Go.Proofs.YtmkdbpdfonpfdaaDoor.Tok

/- Layer 10 (token): the example of the laws. -/
namespace Go.Proofs.YtmkdbpdfonpfdaaDoor.Tok
open Go.RowKit Slc Var Fld Frm Sha Hmc Rg

theorem made32 : madeCells (Value.int .u8 0).cells 32 = (bv (List.replicate 32 0)).toArray := by kernel_rfl

set_option maxHeartbeats 1600000 in
set_option maxRecDepth 100000 in
theorem awake_any (hnew : NewOk) (hiss : IssueOk) (hver : VerifyOk) (w : World) (hT : Lay w) : Calls Tryd.prog 7 #[] w fun x w' => x = .returned (.bool true) ∧ Below w.heap.size w w' := by
  obtain ⟨i0, hi, hz0, hz1, hz2⟩ := parts_of info8
  have HT := Lib.hid hT
  have HISS := Lib.hid hiss
  have HVER := Lib.hid hver
  clear hT hiss hver
  have kmk : ∀ w : World, (Instr.makeSlice 29 (.int .i64 32) (.int .i64 32)).run Tryd.prog w = .ok (.slice (some ⟨w.heap.size, 0, none⟩) 32 32) (w.alloc (.cells (bv (List.replicate 32 0)).toArray 5)) := fun w =>
    (run_make w 29 5 i0 (.int .u8 0) Tryd.underlying29 hi hz0 .i64 .i64 32 32 (by omega) (by omega) (by rw [hz2]; omega) (by omega)).trans (by rw [hz1, show (Int.toNat 32) * 1 = 32 by rfl, made32]; rfl)
  obtain ⟨zs, hzs⟩ : ∃ zs, zs = List.replicate 32 (0 : Int) := ⟨_, rfl⟩
  rw [← hzs] at kmk
  have HZS := Lib.hid hzs
  have zrow : Hid (∀ w : World, Row .u8 (w.alloc (.cells (bv zs).toArray 5)) (w.heap.size + 1) (some ⟨w.heap.size, 0, none⟩) 32 zs) := fun w => by
    refine ⟨by rw [hzs]; rfl, fun _ => ⟨w.heap.size, 0, rfl, by omega, fun j hj => ?_⟩⟩
    rw [Nat.zero_add]
    refine cell_of_blk (heap_alloc_new w _) ?_
    have hl : zs.length = 32 := by rw [hzs]; rfl
    rw [List.getElem?_toArray]
    simp only [bv, List.getElem?_map, List.getElem?_eq_getElem (show j < zs.length by omega), Option.map_some, List.getD, Option.getD_some]
  have HZB : Hid (∀ x ∈ zs, 0 ≤ x ∧ x ≤ 255) := fun x hx => by
    rw [hzs] at hx
    rw [(List.mem_replicate.1 hx).2]
    omega
  clear hzs
  go_enter Tryd.func7, Tryd.ntmps7
  go_wp2_with fail
  have hb1 : Below w.heap.size w (w.alloc (.cells (bv zs).toArray 5)) := (Below.refl _ _).alloc (Nat.le_refl _) _
  have HB1 := Lib.hid hb1
  have HS1 : Hid ((w.alloc (.cells (bv zs).toArray 5)).heap.size = w.heap.size + 1) := by unfold Hid; simp
  have HZL : Hid (zs.length = 32) := by unfold Hid; rw [HZS.out]; rfl
  have HN := Lib.hid (hnew 1 (some ⟨w.heap.size, 0, none⟩) 32 32 zs (w.alloc (.cells (bv zs).toArray 5)) (by rw [HS1.out]; exact zrow.out w) (fun h => by cases h) (by omega) (by unfold maxLen; omega) HZB.out (by omega) (HT.out.below hb1 HT.out.tab.1))
  clear hb1
  refine HN.out.mono ?_
  rintro e2 w2 hN2
  obtain ⟨A, n, c, K, rfl, hk, hls, hfr, hnil, hnc, hb2⟩ := hN2.yes ⟨by omega, HZL.out⟩
  have HB2 := Lib.hid (HB1.out.trans (hb2.mono HB1.out.size))
  have hba : Below w2.heap.size w2 (w2.alloc (.cells #[.int .i64 1, .slice A n c] 24)) := (Below.refl _ _).alloc (Nat.le_refl _) _
  have HB3 := Lib.hid (HB2.out.trans (hba.mono HB2.out.size))
  have c0 : (w2.alloc (.cells #[.int .i64 1, .slice A n c] 24)).cell? ⟨w2.heap.size, 0, none⟩ = some (.int .i64 1) := cell_of_blk (heap_alloc_new w2 _) rfl
  have c1 : (w2.alloc (.cells #[.int .i64 1, .slice A n c] 24)).cell? ⟨w2.heap.size, 1, none⟩ = some (.slice A n c) := cell_of_blk (heap_alloc_new w2 _) rfl
  have C0 := Lib.hid c0
  have C1 := Lib.hid c1
  have HL3 : Hid (w2.heap.size < (w2.alloc (.cells #[.int .i64 1, .slice A n c] 24)).heap.size) := by unfold Hid; simp
  have HSM := Lib.hid (small_of (keep := 1) hk (by rw [hls]; exact rt_one (by omega) _))
  have HK3 := Lib.hid ((hk.below hba).more hba.size)
  have HLS := Lib.hid hls
  have HNL := Lib.hid hnil
  have HNC := Lib.hid hnc
  clear hk hls hfr hnil hnc hb2 hN2 HN hba
  go_wp2_with fail
  generalize w2.alloc (.cells #[.int .i64 1, .slice A n c] 24) = w3 at *
  generalize w2.heap.size = R at *
  have HI := Lib.hid (HISS.out 1 A n c K exT w3 exT_ok HK3.out HNL.out HNC.out HSM.out (by omega) (HT.out.below HB3.out HT.out.tab.1))
  refine HI.out.mono ?_
  rintro e5 w5 ⟨A5, n5, c5, rfl, hr5, hnil5, hnc5, hcm5, hb5⟩
  rw [HLS.out, ex_issue _ (keyOf_len _ _)] at hr5
  simp only [HLS.out, ex_issue _ (keyOf_len _ _)]
  have h46 : n5 = 46 := by rw [← hr5.1, ex_len]
  subst h46
  have c0 := (hb5.cell (p := ⟨R, 0, none⟩) HL3.out).trans C0.out
  have c1 := (hb5.cell (p := ⟨R, 1, none⟩) HL3.out).trans C1.out
  have HB5 := Lib.hid (HB3.out.trans (hb5.mono HB3.out.size))
  have HK5 := Lib.hid ((HK3.out.below hb5).more hb5.size)
  have HV := Lib.hid (HVER.out 1 4 A A5 n c 46 c5 K _ w5 HK5.out HNL.out HNC.out HSM.out (by omega) (by omega) hr5 hnil5 (frame_byt (by omega) (body_byt _ _)) hnc5 hcm5 (by omega) (HT.out.below HB5.out HT.out.tab.1))
  clear hr5 hnil5 hnc5 hcm5 hb5 HI
  go_wp2_with fail
  refine HV.out.mono ?_
  rintro e7 w7 ⟨rfl, hb7⟩
  rw [HLS.out, ex_verify]
  have HB7 := Lib.hid (HB5.out.trans (hb7.mono HB5.out.size))
  clear hb7 HV c0 c1
  simp only [T.val, T.cells, exT, T.at]
  go_wp2
  go_ret
  exact ⟨rfl, HB7.out.alloc HB7.out.size _⟩
end Go.Proofs.YtmkdbpdfonpfdaaDoor.Tok

/- Layer 10 (token): the walk of the law on what is issued. -/
namespace Go.Proofs.YtmkdbpdfonpfdaaDoor.Tok
open Go.RowKit Slc Var Fld Frm Sha Hmc Rg

/-- Behind the law's boxes: the ring's block G, the token's block G + 1. -/
def TokAt (w : World) (G : Nat) (t : T) : Prop :=
  w.cell? ⟨G, 0, none⟩ = some (.int .i64 t.tr) ∧ w.cell? ⟨G, 1, none⟩ = some (.int .i64 t.ac) ∧ w.cell? ⟨G, 2, none⟩ = some (.int .i64 t.st) ∧ w.cell? ⟨G, 3, none⟩ = some (.int .i64 t.is) ∧ w.cell? ⟨G, 4, none⟩ = some (.int .i64 t.un) ∧ w.cell? ⟨G, 5, none⟩ = some (.int .i64 t.ep)
theorem TokAt.below {w w' : World} {G B : Nat} {t : T} (h : TokAt w G t) (hb : Below B w w') (hG : G < B) : TokAt w' G t :=
  ⟨(hb.cell (p := ⟨G, 0, none⟩) hG).trans h.1, (hb.cell (p := ⟨G, 1, none⟩) hG).trans h.2.1, (hb.cell (p := ⟨G, 2, none⟩) hG).trans h.2.2.1, (hb.cell (p := ⟨G, 3, none⟩) hG).trans h.2.2.2.1, (hb.cell (p := ⟨G, 4, none⟩) hG).trans h.2.2.2.2.1, (hb.cell (p := ⟨G, 5, none⟩) hG).trans h.2.2.2.2.2⟩
theorem TokAt.blk {w : World} {G : Nat} {t : T} {ty : TypeId} (h : w.heap[G]? = some (.cells t.cells ty (0, 0))) : TokAt w G t :=
  ⟨cell_of_blk h rfl, cell_of_blk h rfl, cell_of_blk h rfl, cell_of_blk h rfl, cell_of_blk h rfl, cell_of_blk h rfl⟩
structure Bx (w0 : World) (keep : Int) (A : Option Addr) (n c : Nat) (t : T) (w' : World) : Prop where
  ring : w'.cell? ⟨w0.heap.size, 0, none⟩ = some (.int .i64 keep) ∧ w'.cell? ⟨w0.heap.size, 1, none⟩ = some (.slice A n c)
  tok : TokAt w' (w0.heap.size + 1) t
  size : w0.heap.size + 2 ≤ w'.heap.size
  bel : Below w0.heap.size w0 w'
theorem Bx.below {w0 w1 w2 : World} {keep : Int} {A : Option Addr} {n c : Nat} {t : T} (h : Bx w0 keep A n c t w1) (hb : Below w1.heap.size w1 w2) : Bx w0 keep A n c t w2 :=
  have h2 := h.size
  ⟨⟨(hb.cell (p := ⟨w0.heap.size, 0, none⟩) (by show w0.heap.size < _; omega)).trans h.ring.1, (hb.cell (p := ⟨w0.heap.size, 1, none⟩) (by show w0.heap.size < _; omega)).trans h.ring.2⟩,
    h.tok.below hb (by omega), by have := hb.size; omega, h.bel.trans (hb.mono h.bel.size)⟩

theorem issue_len (keep : Int) (E : List Kl) (t : T) : (issue keep E t).1.length ≤ 1000 := by
  by_cases h : RtP keep E ∧ (t.at (now E)).may
  · rw [issue_yes h]
    have h1 := body_len (k := lastK E) h.2.ok
    have h2 : (put (body (lastK E) (t.at (now E))).length).length ≤ 10 := put_len10 (by omega)
    simp only [frame_len]
    omega
  · rw [issue_no h]; simp

set_option maxHeartbeats 3200000 in
set_option maxRecDepth 100000 in
theorem issues_walk (hmay : MayOk) (hfields : FieldsOk) (hiss : IssueOk) (hver : VerifyOk) (hnew : NewOk) (keep : Int) (A : Option Addr) (n c : Nat) (K : List Kp) (t : T) (w : World) (ht : t.ok) (h : KRow w w.heap.size A n K) (hnil : A = none → c = 0) (hc : n ≤ c) (hm : c ≤ maxLen) (hkeep : -9223372036854775808 ≤ keep ∧ keep ≤ 9223372036854775807) (hT : Lay w) :
    Calls Tryd.prog 3 #[.agg #[.int .i64 keep, .slice A n c], t.val] w fun x w' => x = .returned (.bool true) ∧ Below w.heap.size w w' := by
  have H := Lib.hid h
  have HNIL := Lib.hid hnil
  have HT := Lib.hid hT
  have HC := Lib.hid hc
  have HM := Lib.hid (Nat.le_trans hc hm)
  have HKE := Lib.hid hkeep
  have HTO := Lib.hid ht
  have HX : Hid (Bx w keep A n c t ((w.alloc (.cells #[.int .i64 keep, .slice A n c] 24)).alloc (.cells t.cells 26))) :=
    ⟨⟨cell_of_blk (heap_alloc2_old w _ _) rfl, cell_of_blk (heap_alloc2_old w _ _) rfl⟩, TokAt.blk (heap_alloc2_new w _ _), by simp, ((Below.refl _ _).alloc (Nat.le_refl _) _).alloc (by simp) _⟩
  have HISS := Lib.hid hiss
  have HMAY := Lib.hid hmay
  have HFLD := Lib.hid hfields
  clear h hnil hc hm hkeep hT ht
  obtain ⟨utr, uac, ust, uis, uun, uep⟩ := t
  have HS : Hid (T.val ⟨utr, uac, ust, uis, uun, uep⟩ = .agg #[.int .i64 utr, .int .i64 uac, .int .i64 ust, .int .i64 uis, .int .i64 uun, .int .i64 uep]) := rfl
  unfold T.val T.cells at *
  simp only at *
  go_enter Tryd.func3, Tryd.ntmps3
  go_wp2_with fail
  refine (awake_any hnew hiss hver _ (HT.out.below HX.out.bel HT.out.tab.1)).mono ?_
  rintro e1 w1 ⟨rfl, hb1⟩
  have HX1 := Lib.hid (HX.out.below hb1)
  clear hb1 HX
  have g0 := HX1.out.ring.1
  have g1 := HX1.out.ring.2
  go_wp2_with fail
  refine (few_any keep A n c w.heap.size K w1 (H.out.below HX1.out.bel) HX1.out.bel.size HM.out).mono ?_
  rintro e2 w2 ⟨⟨b2, rfl, hfew⟩, hb2⟩
  have HX2 := Lib.hid (HX1.out.below hb2)
  clear hb2 HX1 g0 g1
  cases b2 with
  | false =>
    go_wp2
    go_ret
    exact ⟨rfl, HX2.out.bel⟩
  | true =>
    obtain ⟨hn30, hk100⟩ := hfew rfl
    have HSM : Hid (Small n K) := ⟨by omega, fun k hk => by have := hk100 k hk; omega⟩
    have HK100 := Lib.hid hk100
    clear hfew hk100
    have HK2 := Lib.hid ((H.out.below HX2.out.bel).more HX2.out.bel.size)
    have g0 := HX2.out.ring.1
    have g1 := HX2.out.ring.2
    obtain ⟨a0, a1, a2, a3, a4, a5⟩ := HX2.out.tok
    go_wp2_with fail
    refine (HISS.out keep A n c K ⟨utr, uac, ust, uis, uun, uep⟩ w2 HTO.out HK2.out HNIL.out HC.out HSM.out HKE.out (HT.out.below HX2.out.bel HT.out.tab.1)).mono ?_
    rintro e3 w3 ⟨A3, n3, c3, rfl, hr3, hnil3, hnc3, hcm3, hb3⟩
    have HX3 := Lib.hid (HX2.out.below hb3)
    have HR3 := Lib.hid hr3
    have HI3 := Lib.hid (issue_len keep (ls K) ⟨utr, uac, ust, uis, uun, uep⟩)
    have HK3 := Lib.hid ((H.out.below HX3.out.bel).more HX3.out.bel.size)
    clear hb3 HX2 g0 g1 a0 a1 a2 a3 a4 a5 HK2 hr3 hnil3 hnc3 hcm3
    have g0 := HX3.out.ring.1
    have g1 := HX3.out.ring.2
    obtain ⟨a0, a1, a2, a3, a4, a5⟩ := HX3.out.tok
    go_wp2_with fail
    refine (refissue_any keep A n c K ⟨utr, uac, ust, uis, uun, uep⟩ HTO.out w3 HK3.out (by omega) HK100.out).mono ?_
    rintro e4 w4 ⟨A4, n4, c4, rfl, hr4, hnil4, hb4⟩
    have HX4 := Lib.hid (HX3.out.below hb4)
    have HR4 := Lib.hid hr4
    have HR34 := Lib.hid ((HR3.out.below hb4).more hb4.size)
    clear hb4 HX3 g0 g1 a0 a1 a2 a3 a4 a5 HK3 hr4 hnil4 HR3
    generalize issue keep (ls K) ⟨utr, uac, ust, uis, uun, uep⟩ = r at *
    obtain ⟨rb, re⟩ := r
    simp only at *
    have hd0 : (re == re) = true := beq_self_eq_true _
    have HX4d : Hid (Bx w keep A n c ⟨utr, uac, ust, uis, uun, uep⟩ w4.drew) := HX4.out.below (Below.refl _ _).drew
    have HR34d : Hid (Row .u8 w4.drew w4.heap.size A3 n3 rb) := HR34.out.below (Below.refl _ _).drew
    have HR4d : Hid (Row .u8 w4.drew w4.heap.size A4 n4 rb) := HR4.out.below (Below.refl _ _).drew
    obtain ⟨a0, a1, a2, a3, a4, a5⟩ := HX4d.out.tok
    obtain ⟨mb, hmb⟩ : ∃ mb : Bool, mb = decide (T.may ⟨utr, uac, ust, uis, uun, uep⟩) := ⟨_, rfl⟩
    have HMB := Lib.hid hmb
    clear hmb
    have hd1 : (mb == mb) = true := beq_self_eq_true _
    have hn3 : n3 ≤ 1000 := by have h1 := HR34.out.len; have h2 := HI3.out; omega
    have hn4 : n4 ≤ 1000 := by have h1 := HR4.out.len; have h2 := HI3.out; omega
    have hfl := flds_len HTO.out
    obtain ⟨fl, hfe⟩ : ∃ fl, fl = flds ⟨utr, uac, ust, uis, uun, uep⟩ := ⟨_, rfl⟩
    rw [← hfe] at hfl
    have HFE := Lib.hid hfe
    have HFL := Lib.hid hfl
    clear hfl hfe
    clear HX4 HR34 HR4
    go_wp2_with fail
    go_region_held3 (fun wx => wx.cell? ⟨w.heap.size + 1, 0, none⟩ = some (.int .i64 utr) ∧ wx.cell? ⟨w.heap.size + 1, 1, none⟩ = some (.int .i64 uac) ∧ wx.cell? ⟨w.heap.size + 1, 2, none⟩ = some (.int .i64 ust) ∧ wx.cell? ⟨w.heap.size + 1, 3, none⟩ = some (.int .i64 uis) ∧ wx.cell? ⟨w.heap.size + 1, 4, none⟩ = some (.int .i64 uun) ∧ wx.cell? ⟨w.heap.size + 1, 5, none⟩ = some (.int .i64 uep)) (first | exact HX4d.out.tok | exact HX5.out.tok | exact HX6.out.tok | exact HX7.out.tok | exact HX8.out.tok | exact HX9.out.tok | exact HX10.out.tok) (first
      | (go_at_call 11; refine (same_any A8 A9 fl.length c8 fl.length c9 _ _ fl fl w9 (by have := HFL.out; omega) (by have := HFL.out; omega) HR89.out HR9.out).mono ?_; rintro e10 w10 ⟨he10, q10, hq10⟩; rw [decide_eq_true rfl] at he10; subst he10; have HX10 := Lib.hid (HX9.out.below (w2 := w10) (by rw [hq10]; exact Rg.below_drewN (Below.refl _ _))); clear hq10)
      | (go_at_call 11; refine (same_any A3 A4 n3 c3 n4 c4 _ _ rb rb w4.drew (by omega) (by omega) HR34d.out HR4d.out).mono ?_; rintro e5 w5 ⟨he5, q5, hq5⟩; rw [decide_eq_true rfl] at he5; subst he5; have HX5 := Lib.hid (HX4d.out.below (w2 := w5) (by rw [hq5]; exact Rg.below_drewN (Below.refl _ _))); clear hq5)
      | (go_at_call 12; refine (HMAY.out ⟨utr, uac, ust, uis, uun, uep⟩ w5 HTO.out).mono ?_; rintro e6 w6 ⟨rfl, hb6⟩; rw [← HMB.out]; have HX6 := Lib.hid (HX5.out.below hb6); clear hb6)
      | (go_at_call 13; refine (refmay_any ⟨utr, uac, ust, uis, uun, uep⟩ w6).mono ?_; rintro e7 w7 ⟨rfl, hb7⟩; rw [← HMB.out]; have HX7 := Lib.hid (HX6.out.below hb7); clear hb7)
      | (go_at_call 14; refine (HFLD.out ⟨utr, uac, ust, uis, uun, uep⟩ w7 HTO.out).mono ?_; rintro e8 w8 ⟨v8, rfl, ho8, hb8⟩; rw [← HFE.out] at ho8; obtain ⟨A8, c8, rfl, -, hnil8⟩ := own_slice ho8; have HX8 := Lib.hid (HX7.out.below hb8); have HR8 := Lib.hid (Row.of_own ho8); clear hb8 ho8 hnil8)
      | (go_at_call 15; refine (reffields_any ⟨utr, uac, ust, uis, uun, uep⟩ HTO.out w8).mono ?_; rintro e9 w9 ⟨v9, rfl, ho9, hb9⟩; rw [← HFE.out] at ho9; obtain ⟨A9, c9, rfl, -, hnil9⟩ := own_slice ho9; have HX9 := Lib.hid (HX8.out.below hb9); have HR9 := Lib.hid (Row.of_own ho9); have HR89 := Lib.hid (HR8.out.below hb9); clear hb9 ho9 hnil9))
    go_wp2
    go_ret
    exact ⟨rfl, HX10.out.bel⟩
end Go.Proofs.YtmkdbpdfonpfdaaDoor.Tok

/- Layer 10 (token): the walk of the law on what counts. -/
namespace Go.Proofs.YtmkdbpdfonpfdaaDoor.Tok
open Go.RowKit Slc Var Fld Frm Sha Hmc Rg

/-- Behind the law's box: the ring's block. -/
structure Rx (w0 : World) (keep : Int) (A : Option Addr) (n c : Nat) (w' : World) : Prop where
  ring : w'.cell? ⟨w0.heap.size, 0, none⟩ = some (.int .i64 keep) ∧ w'.cell? ⟨w0.heap.size, 1, none⟩ = some (.slice A n c)
  size : w0.heap.size + 1 ≤ w'.heap.size
  bel : Below w0.heap.size w0 w'
theorem Rx.below {w0 w1 w2 : World} {keep : Int} {A : Option Addr} {n c : Nat} (h : Rx w0 keep A n c w1) (hb : Below w1.heap.size w1 w2) : Rx w0 keep A n c w2 :=
  have h2 := h.size
  ⟨⟨(hb.cell (p := ⟨w0.heap.size, 0, none⟩) (by show w0.heap.size < _; omega)).trans h.ring.1, (hb.cell (p := ⟨w0.heap.size, 1, none⟩) (by show w0.heap.size < _; omega)).trans h.ring.2⟩,
    by have := hb.size; omega, h.bel.trans (hb.mono h.bel.size)⟩
theorem Rx.new {w : World} {keep : Int} {A : Option Addr} {n c : Nat} {ty : TypeId} : Rx w keep A n c (w.alloc (.cells #[.int .i64 keep, .slice A n c] ty)) :=
  ⟨⟨cell_of_blk (heap_alloc_new w _) rfl, cell_of_blk (heap_alloc_new w _) rfl⟩, by simp, (Below.refl _ _).alloc (Nat.le_refl _) _⟩
theorem below_new {w : World} {o : Obj} : Below w.heap.size w (w.alloc o) := (Below.refl _ _).alloc (Nat.le_refl _) _

theorem opnF_no {er dn : Nat} {t : T} {tg : List Int} (h : (opnF er dn t tg).2.2 ≠ 0) : (opnF er dn t tg).2.1 = [] := by
  unfold opnF at h ⊢
  by_cases h0 : er = 0
  · by_cases h1 : dn = 0
    · by_cases h2 : t.may ∧ tg.length = 32
      · rw [if_neg (by simp [h0]), if_neg (by simp [h1]), if_pos h2] at h
        exact absurd rfl h
      · rw [if_neg (by simp [h0]), if_neg (by simp [h1]), if_neg h2]
    · rw [if_neg (by simp [h0]), if_pos h1]
  · rw [if_pos h0]
theorem opn_len (b : List Int) : (opn b).2.1.length ≤ 500 := by
  by_cases h0 : (opn b).2.2 = 0
  · rw [(opn_may h0).2]; omega
  · have h1 : (opn b).2.1 = [] := opnF_no h0
    rw [h1]; simp

set_option maxHeartbeats 3200000 in
set_option maxRecDepth 100000 in
theorem verifies_walk (hopen : OpenOk) (hiss : IssueOk) (hver : VerifyOk) (hnew : NewOk) (keep nw : Int) (A A' : Option Addr) (n c n' c' : Nat) (K : List Kp) (b : List Int) (w : World) (h : KRow w w.heap.size A n K) (hnil : A = none → c = 0) (hc : n ≤ c) (hm : c ≤ maxLen) (hkeep : -9223372036854775808 ≤ keep ∧ keep ≤ 9223372036854775807) (hnw : -9223372036854775808 ≤ nw ∧ nw ≤ 9223372036854775807)
    (h' : Row .u8 w w.heap.size A' n' b) (hnil' : A' = none → c' = 0) (hc' : n' ≤ c') (hm' : c' ≤ maxLen) (hb : Byt b) (hT : Lay w) :
    Calls Tryd.prog 4 #[.agg #[.int .i64 keep, .slice A n c], .slice A' n' c', .int .i64 nw] w fun x w' => x = .returned (.bool true) ∧ Below w.heap.size w w' := by
  have H := Lib.hid h
  have HD := Lib.hid h'
  have HNIL := Lib.hid hnil
  have HNIL' := Lib.hid hnil'
  have HT := Lib.hid hT
  have HC := Lib.hid hc
  have HC' := Lib.hid hc'
  have HM := Lib.hid (Nat.le_trans hc hm)
  have HM' := Lib.hid hm'
  have HKE := Lib.hid hkeep
  have HNW := Lib.hid hnw
  have HBY := Lib.hid hb
  have HVER := Lib.hid hver
  have HOPN := Lib.hid hopen
  have HX : Hid (Rx w keep A n c (w.alloc (.cells #[.int .i64 keep, .slice A n c] 24))) := Rx.new
  clear h hnil hc hm hkeep hT h' hnil' hc' hm' hnw hb
  go_enter Tryd.func4, Tryd.ntmps4
  go_wp2_with fail
  refine (awake_any hnew hiss hver _ (HT.out.below HX.out.bel HT.out.tab.1)).mono ?_
  rintro e1 w1 ⟨rfl, hb1⟩
  have HX1 := Lib.hid (HX.out.below hb1)
  clear hb1 HX
  have g0 := HX1.out.ring.1
  have g1 := HX1.out.ring.2
  go_wp2_with fail
  refine (few_any keep A n c w.heap.size K w1 (H.out.below HX1.out.bel) HX1.out.bel.size HM.out).mono ?_
  rintro e2 w2 ⟨⟨b2, rfl, hfew⟩, hb2⟩
  have HX2 := Lib.hid (HX1.out.below hb2)
  clear hb2 HX1 g0 g1
  cases b2 with
  | false =>
    go_wp2
    go_ret
    exact ⟨rfl, HX2.out.bel⟩
  | true =>
    obtain ⟨hn30, hk100⟩ := hfew rfl
    have HSM : Hid (Small n K) := ⟨by omega, fun k hk => by have := hk100 k hk; omega⟩
    have HK100 := Lib.hid hk100
    clear hfew hk100
    by_cases hbig : 500 < n'
    · have hd : decide ((500 : Int) < (n' : Int)) = true := by simp; omega
      go_wp2
      go_ret
      exact ⟨rfl, HX2.out.bel⟩
    have hd : decide ((500 : Int) < (n' : Int)) = false := by simp; omega
    have HNB : Hid (n' ≤ 4398046511104) := by unfold Hid; omega
    have HR2 := Lib.hid ((HD.out.below HX2.out.bel).more HX2.out.bel.size)
    go_wp2_with fail
    refine (HOPN.out A' n' c' b w2 HR2.out HNIL'.out HBY.out HC'.out HM'.out HNB.out (HT.out.below HX2.out.bel HT.out.tab.1)).mono ?_
    rintro e3 w3 ⟨A3, n3, c3, rfl, hr3, hnil3, hnc3, hb3⟩
    have HX3 := Lib.hid (HX2.out.below hb3)
    have HR3 := Lib.hid hr3
    have HREF := fun w h1 => Lib.hid (refopen_any A' n' c' b w h1 HBY.out HNB.out HC'.out HM'.out)
    clear hb3 HX2 HR2 hr3 hnil3 hnc3
    have hlen := opn_len b
    have HREV := fun w h1 h2 => Lib.hid (refverify_any keep nw A A' n c n' c' K b w h1 (by omega) HK100.out h2 HBY.out HNB.out HC'.out HM'.out)
    generalize opn b = r at *
    obtain ⟨⟨o0, o1, o2, o3, o4, o5⟩, og, oe⟩ := r
    simp only [T.val, T.cells] at *
    go_wp2_with fail
    have HL4 : Hid (w3.heap.size < (w3.alloc (.cells #[.int .i64 o0, .int .i64 o1, .int .i64 o2, .int .i64 o3, .int .i64 o4, .int .i64 o5] 26)).heap.size) := by unfold Hid; simp
    have HX4 : Hid (Rx w keep A n c (w3.alloc (.cells #[.int .i64 o0, .int .i64 o1, .int .i64 o2, .int .i64 o3, .int .i64 o4, .int .i64 o5] 26))) := HX3.out.below below_new
    have HG4 : Hid (TokAt (w3.alloc (.cells #[.int .i64 o0, .int .i64 o1, .int .i64 o2, .int .i64 o3, .int .i64 o4, .int .i64 o5] 26)) w3.heap.size ⟨o0, o1, o2, o3, o4, o5⟩) := TokAt.blk (heap_alloc_new _ _)
    have HR34 : Hid (Row .u8 (w3.alloc (.cells #[.int .i64 o0, .int .i64 o1, .int .i64 o2, .int .i64 o3, .int .i64 o4, .int .i64 o5] 26)) (w3.alloc (.cells #[.int .i64 o0, .int .i64 o1, .int .i64 o2, .int .i64 o3, .int .i64 o4, .int .i64 o5] 26)).heap.size A3 n3 og) := (HR3.out.below below_new).more (below_new (o := .cells #[.int .i64 o0, .int .i64 o1, .int .i64 o2, .int .i64 o3, .int .i64 o4, .int .i64 o5] 26)).size
    clear HR3 HX3
    generalize w3.alloc (.cells #[.int .i64 o0, .int .i64 o1, .int .i64 o2, .int .i64 o3, .int .i64 o4, .int .i64 o5] 26) = w4 at *
    generalize w3.heap.size = G3 at *
    refine (HREF w4 ((HD.out.below HX4.out.bel).more HX4.out.bel.size)).out.mono ?_
    rintro e5 w5 ⟨A5, n5, c5, rfl, hr5, hnil5, hnc5, hb5⟩
    simp only [T.val, T.cells]
    have HX5 := Lib.hid (HX4.out.below hb5)
    have HG5 := Lib.hid (HG4.out.below hb5 HL4.out)
    have HL5 : Hid (G3 < w5.heap.size) := Nat.lt_of_lt_of_le HL4.out hb5.size
    have HR5 : Hid (Row .u8 w5 w5.heap.size A5 n5 og) := hr5
    have HR35 := Lib.hid ((HR34.out.below hb5).more hb5.size)
    clear hr5 hnil5 hnc5 hb5 HX4 HG4 HL4 HR34 HREF
    have HX6 : Hid (Rx w keep A n c (w5.alloc (.cells #[.int .i64 o0, .int .i64 o1, .int .i64 o2, .int .i64 o3, .int .i64 o4, .int .i64 o5] 26))) := HX5.out.below below_new
    have HG6 : Hid (TokAt (w5.alloc (.cells #[.int .i64 o0, .int .i64 o1, .int .i64 o2, .int .i64 o3, .int .i64 o4, .int .i64 o5] 26)) G3 ⟨o0, o1, o2, o3, o4, o5⟩) := HG5.out.below below_new HL5.out
    have HH6 : Hid (TokAt (w5.alloc (.cells #[.int .i64 o0, .int .i64 o1, .int .i64 o2, .int .i64 o3, .int .i64 o4, .int .i64 o5] 26)) w5.heap.size ⟨o0, o1, o2, o3, o4, o5⟩) := TokAt.blk (heap_alloc_new _ _)
    have HL6 : Hid (w5.heap.size < (w5.alloc (.cells #[.int .i64 o0, .int .i64 o1, .int .i64 o2, .int .i64 o3, .int .i64 o4, .int .i64 o5] 26)).heap.size) := by unfold Hid; simp
    have HR36 := Lib.hid (HR35.out.below (below_new (w := w5) (o := .cells #[.int .i64 o0, .int .i64 o1, .int .i64 o2, .int .i64 o3, .int .i64 o4, .int .i64 o5] 26)))
    have HR56 := Lib.hid (HR5.out.below (below_new (w := w5) (o := .cells #[.int .i64 o0, .int .i64 o1, .int .i64 o2, .int .i64 o3, .int .i64 o4, .int .i64 o5] 26)))
    have g0 := HX6.out.ring.1
    have g1 := HX6.out.ring.2
    clear HX5 HG5 HR5 HR35
    go_wp2_with fail
    generalize w5.alloc (.cells #[.int .i64 o0, .int .i64 o1, .int .i64 o2, .int .i64 o3, .int .i64 o4, .int .i64 o5] 26) = w6 at *
    generalize w5.heap.size = G5 at *
    refine (HVER.out keep nw A A' n c n' c' K b w6 ((H.out.below HX6.out.bel).more HX6.out.bel.size) HNIL.out HC.out HSM.out HKE.out HNW.out ((HD.out.below HX6.out.bel).more HX6.out.bel.size) HNIL'.out HBY.out HC'.out HM'.out HNB.out (HT.out.below HX6.out.bel HT.out.tab.1)).mono ?_
    rintro e7 w7 ⟨rfl, hb7⟩
    generalize verify (ls K) b nw = v at *
    obtain ⟨⟨v0, v1, v2, v3, v4, v5⟩, ve⟩ := v
    simp only [T.val, T.cells]
    have HX7 := Lib.hid (HX6.out.below hb7)
    have HG7 := Lib.hid (HG6.out.below hb7 (Nat.lt_trans HL5.out HL6.out))
    have HH7 := Lib.hid (HH6.out.below hb7 HL6.out)
    have HL7 : Hid (G5 < w7.heap.size) := Nat.lt_of_lt_of_le HL6.out hb7.size
    have HR37 := Lib.hid (HR36.out.below (hb7.mono (Nat.le_of_lt HL6.out)))
    have HR57 := Lib.hid (HR56.out.below (hb7.mono (Nat.le_of_lt HL6.out)))
    clear hb7 HX6 HG6 HH6 HL6 HR36 HR56 g0 g1
    have HX8 : Hid (Rx w keep A n c (w7.alloc (.cells #[.int .i64 v0, .int .i64 v1, .int .i64 v2, .int .i64 v3, .int .i64 v4, .int .i64 v5] 26))) := HX7.out.below below_new
    have HG8 : Hid (TokAt (w7.alloc (.cells #[.int .i64 v0, .int .i64 v1, .int .i64 v2, .int .i64 v3, .int .i64 v4, .int .i64 v5] 26)) G3 ⟨o0, o1, o2, o3, o4, o5⟩) := HG7.out.below below_new (Nat.lt_trans HL5.out HL7.out)
    have HH8 : Hid (TokAt (w7.alloc (.cells #[.int .i64 v0, .int .i64 v1, .int .i64 v2, .int .i64 v3, .int .i64 v4, .int .i64 v5] 26)) G5 ⟨o0, o1, o2, o3, o4, o5⟩) := HH7.out.below below_new HL7.out
    have HI8 : Hid (TokAt (w7.alloc (.cells #[.int .i64 v0, .int .i64 v1, .int .i64 v2, .int .i64 v3, .int .i64 v4, .int .i64 v5] 26)) w7.heap.size ⟨v0, v1, v2, v3, v4, v5⟩) := TokAt.blk (heap_alloc_new _ _)
    have HL8 : Hid (w7.heap.size < (w7.alloc (.cells #[.int .i64 v0, .int .i64 v1, .int .i64 v2, .int .i64 v3, .int .i64 v4, .int .i64 v5] 26)).heap.size) := by unfold Hid; simp
    have HR38 := Lib.hid (HR37.out.below ((below_new (w := w7) (o := (.cells #[.int .i64 v0, .int .i64 v1, .int .i64 v2, .int .i64 v3, .int .i64 v4, .int .i64 v5] 26))).mono (Nat.le_of_lt HL7.out)))
    have HR58 := Lib.hid (HR57.out.below ((below_new (w := w7) (o := (.cells #[.int .i64 v0, .int .i64 v1, .int .i64 v2, .int .i64 v3, .int .i64 v4, .int .i64 v5] 26))).mono (Nat.le_of_lt HL7.out)))
    clear HX7 HG7 HH7 HR37 HR57
    have g0 := HX8.out.ring.1
    have g1 := HX8.out.ring.2
    go_wp2_with fail
    generalize w7.alloc (.cells #[.int .i64 v0, .int .i64 v1, .int .i64 v2, .int .i64 v3, .int .i64 v4, .int .i64 v5] 26) = w8 at *
    generalize w7.heap.size = G7 at *
    refine (HREV w8 ((H.out.below HX8.out.bel).more HX8.out.bel.size) ((HD.out.below HX8.out.bel).more HX8.out.bel.size)).out.mono ?_
    rintro e9 w9 ⟨rfl, hb9⟩
    simp only [T.val, T.cells]
    have HX9 := Lib.hid (HX8.out.below hb9)
    have HG9 := Lib.hid (HG8.out.below hb9 (Nat.lt_trans HL5.out (Nat.lt_trans HL7.out HL8.out)))
    have HH9 := Lib.hid (HH8.out.below hb9 (Nat.lt_trans HL7.out HL8.out))
    have HI9 := Lib.hid (HI8.out.below hb9 HL8.out)
    have HL9 : Hid (G7 < w9.heap.size) := Nat.lt_of_lt_of_le HL8.out hb9.size
    have HR39 := Lib.hid (HR38.out.below (hb9.mono (Nat.le_of_lt (Nat.lt_trans HL7.out HL8.out))))
    have HR59 := Lib.hid (HR58.out.below (hb9.mono (Nat.le_of_lt (Nat.lt_trans HL7.out HL8.out))))
    clear hb9 HX8 HG8 HH8 HI8 HL8 HR38 HR58 g0 g1
    have HX10 : Hid (Rx w keep A n c (w9.alloc (.cells #[.int .i64 v0, .int .i64 v1, .int .i64 v2, .int .i64 v3, .int .i64 v4, .int .i64 v5] 26))) := HX9.out.below below_new
    have HG10 : Hid (TokAt (w9.alloc (.cells #[.int .i64 v0, .int .i64 v1, .int .i64 v2, .int .i64 v3, .int .i64 v4, .int .i64 v5] 26)) G3 ⟨o0, o1, o2, o3, o4, o5⟩) := HG9.out.below below_new (Nat.lt_trans HL5.out (Nat.lt_trans HL7.out HL9.out))
    have HH10 : Hid (TokAt (w9.alloc (.cells #[.int .i64 v0, .int .i64 v1, .int .i64 v2, .int .i64 v3, .int .i64 v4, .int .i64 v5] 26)) G5 ⟨o0, o1, o2, o3, o4, o5⟩) := HH9.out.below below_new (Nat.lt_trans HL7.out HL9.out)
    have HI10 : Hid (TokAt (w9.alloc (.cells #[.int .i64 v0, .int .i64 v1, .int .i64 v2, .int .i64 v3, .int .i64 v4, .int .i64 v5] 26)) G7 ⟨v0, v1, v2, v3, v4, v5⟩) := HI9.out.below below_new HL9.out
    have HJ10 : Hid (TokAt (w9.alloc (.cells #[.int .i64 v0, .int .i64 v1, .int .i64 v2, .int .i64 v3, .int .i64 v4, .int .i64 v5] 26)) w9.heap.size ⟨v0, v1, v2, v3, v4, v5⟩) := TokAt.blk (heap_alloc_new _ _)
    have HR310 : Hid (Row .u8 (w9.alloc (.cells #[.int .i64 v0, .int .i64 v1, .int .i64 v2, .int .i64 v3, .int .i64 v4, .int .i64 v5] 26)) G5 A3 n3 og) := HR39.out.below ((below_new (w := w9) (o := (.cells #[.int .i64 v0, .int .i64 v1, .int .i64 v2, .int .i64 v3, .int .i64 v4, .int .i64 v5] 26))).mono (Nat.le_of_lt (Nat.lt_trans HL7.out HL9.out)))
    have HR510 : Hid (Row .u8 (w9.alloc (.cells #[.int .i64 v0, .int .i64 v1, .int .i64 v2, .int .i64 v3, .int .i64 v4, .int .i64 v5] 26)) G5 A5 n5 og) := HR59.out.below ((below_new (w := w9) (o := (.cells #[.int .i64 v0, .int .i64 v1, .int .i64 v2, .int .i64 v3, .int .i64 v4, .int .i64 v5] 26))).mono (Nat.le_of_lt (Nat.lt_trans HL7.out HL9.out)))
    have hn3 : n3 ≤ 500 := by rw [← HR310.out.len]; exact hlen
    have hn5 : n5 ≤ 500 := by rw [← HR510.out.len]; exact hlen
    have hd0 : ((oe : Int) == (oe : Int)) = true := beq_self_eq_true _
    have hd1 : ((ve : Int) == (ve : Int)) = true := beq_self_eq_true _
    clear HX9 HG9 HH9 HI9 HR39 HR59
    obtain ⟨a0, a1, a2, a3, a4, a5⟩ := HG10.out
    obtain ⟨b0, b1, b2, b3, b4, b5⟩ := HH10.out
    go_wp2_with fail
    generalize w9.alloc (.cells #[.int .i64 v0, .int .i64 v1, .int .i64 v2, .int .i64 v3, .int .i64 v4, .int .i64 v5] 26) = w10 at *
    generalize w9.heap.size = G9 at *
    refine (same_any A3 A5 n3 c3 n5 c5 _ _ og og w10 (by omega) (by omega) HR310.out HR510.out).mono ?_
    rintro e11 w11 ⟨he11, q11, hq11⟩
    rw [decide_eq_true rfl] at he11
    subst he11
    have hb11 : Below w10.heap.size w10 w11 := by rw [hq11]; exact Rg.below_drewN (Below.refl _ _)
    have HX11 := Lib.hid (HX10.out.below hb11)
    have HI11 : Hid (TokAt w11 G7 ⟨v0, v1, v2, v3, v4, v5⟩) := by rw [hq11]; exact HI10.out
    have HJ11 : Hid (TokAt w11 G9 ⟨v0, v1, v2, v3, v4, v5⟩) := by rw [hq11]; exact HJ10.out
    clear hq11 hb11 a0 a1 a2 a3 a4 a5 b0 b1 b2 b3 b4 b5
    obtain ⟨a0, a1, a2, a3, a4, a5⟩ := HI11.out
    obtain ⟨b0, b1, b2, b3, b4, b5⟩ := HJ11.out
    go_wp2
    go_ret
    exact ⟨rfl, HX11.out.bel⟩
end Go.Proofs.YtmkdbpdfonpfdaaDoor.Tok

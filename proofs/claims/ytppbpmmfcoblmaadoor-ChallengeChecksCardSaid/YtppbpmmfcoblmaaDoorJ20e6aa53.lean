/- Lemmas that the proof stands on, in build order: TokP. -/
import Derived.Laws.CopyOwn
import Derived.Test.YtppbpmmfcoblmaaDoorJ199702d1
/- Layer 10 (token): the reference's Open, as a contract: its walk. -/
namespace Go.Proofs.YtppbpmmfcoblmaaDoor.Tok
open Go.RowKit Var Fld Frm Sha Hmc Rg

/-- What a call that opens bytes answers. -/
def OpenTo (w : World) (r : T × List Int × Nat) (x : Ending) (w' : World) : Prop :=
  ∃ A n c, x = .returned (.tuple #[r.1.val, .slice A n c, .int .i64 (r.2.2 : Int)]) ∧ Row .u8 w' w'.heap.size A n r.2.1 ∧ (A = none → c = 0) ∧ n ≤ c ∧ Below w.heap.size w w'
theorem infoT : (Tryd.prog.info? 41).map (·.size) = some 6 := by kernel_rfl
theorem cellsT (t : T) : t.cells.all (·.oneCell') = true := by simp [T.cells, Value.oneCell']
theorem wholly_byt {k : Int} {b : List Int} (h : Byt b) : Byt (wholly k b).1 := by
  have ht : Byt (took b).2.1 := by
    unfold took
    repeat' split
    all_goals first
      | exact (h.drop _).take _
      | (intro x hx; simp at hx; done)
  unfold wholly
  repeat' split
  all_goals first
    | exact ht
    | (intro x hx; simp at hx; done)
theorem wholly_len (k : Int) (b : List Int) : (wholly k b).1.length ≤ 1048576 := by
  have ht : (took b).2.1.length ≤ 1048576 := by
    unfold took
    repeat' split
    all_goals first
      | (simp; done)
      | (rw [List.length_take]; omega)
  unfold wholly
  repeat' split
  all_goals first
    | (simp; done)
    | exact ht

set_option maxHeartbeats 3200000 in
set_option maxRecDepth 100000 in
theorem refopen_any (A : Option Addr) (n c : Nat) (b : List Int) (w : World) (h : Row .u8 w w.heap.size A n b) (hb : Byt b) (hn : n ≤ 4398046511104) (hc : n ≤ c) (hcm : c ≤ maxLen) :
    Calls Tryd.prog 22 #[.slice A n c] w (OpenTo w (opn b)) := by
  have hb1 : Below w.heap.size w (w.alloc (.cells T.zero.cells 41)) := (Below.refl _ _).alloc (Nat.le_refl _) _
  have HB1 := Lib.hid hb1
  have HS1 : Hid ((w.alloc (.cells T.zero.cells 41)).heap.size = w.heap.size + 1) := by unfold Hid; simp
  have HZ1 : Hid ((w.alloc (.cells T.zero.cells 41)).heap[w.heap.size]? = some (.cells T.zero.cells 41 (0, 0))) := heap_alloc_new w _
  have HW := Lib.hid (refwhole_any 2 A n c b (w.alloc (.cells T.zero.cells 41)) ((h.below hb1).more hb1.size) hb hn hc hcm)
  have HCB := Lib.hid (wholly_byt (k := 2) hb)
  have HCL : Hid ((wholly 2 b).1.length ≤ 4398046511104) := by
    unfold Hid
    have := wholly_len 2 b
    omega
  have HOP : Hid (∃ r, r = opn b) := ⟨_, rfl⟩
  obtain ⟨r, hr⟩ := HOP.out
  rw [← hr]
  unfold opn opnF at hr
  obtain ⟨q, hq⟩ : ∃ q, q = wholly 2 b := ⟨_, rfl⟩
  rw [← hq] at hr HW HCB HCL
  obtain ⟨C, er⟩ := q
  have HR := Lib.hid hr
  have hzz : T.zero.cells = #[.int .i64 0, .int .i64 0, .int .i64 0, .int .i64 0, .int .i64 0, .int .i64 0] := rfl
  clear hb1 h hb hn hc hcm hr hq HOP
  go_enter Tryd.func22, Tryd.ntmps22
  go_wp2_with fail
  refine Calls.mono (by have := HW.out; exact this) ?_
  rintro e2 w2 ⟨A1, c1, rfl, hr1, hb2, hfit⟩
  have HR1 := Lib.hid hr1
  have HB2 := Lib.hid (HB1.out.trans (hb2.mono HB1.out.size))
  have HZ2 : Hid (w2.heap[w.heap.size]? = some (.cells T.zero.cells 41 (0, 0))) := (hb2.block _ (by have := HS1.out; omega)).trans HZ1.out
  have HF := Lib.hid hfit
  have HS2 : Hid (w.heap.size + 1 ≤ w2.heap.size) := by have h1 := HS1.out; have h2 := hb2.size; unfold Hid; omega
  clear hr1 hb2 hfit HW
  have I6 : Hid ((Tryd.prog.info? 41).map (·.size) = some T.zero.cells.size) := infoT
  by_cases her : er = 0
  · subst her
    have hr1' : Row .u8 w2 (w.heap.size + 1) A1 C.length C := by have h1 := HR1.out; rwa [HS1.out] at h1
    have HRD := Lib.hid (refread_any A1 C.length c1 C (w.heap.size + 1) w2 hr1' HS2.out HF.out.2 HF.out.1 HCL.out HCB.out)
    clear hr1'
    go_wp2_with fail
    refine HRD.out.mono ?_
    rintro e3 w3 ⟨rfl, hrf, hb3⟩
    have HST0 : Hid (St w w2.heap.size (w.heap.size + 1) A1 C.length c1 C (C, 0) w3) := ⟨⟨0, hrf, rfl⟩, (hb3.block _ (by have := HS2.out; omega)).trans HZ2.out, HB2.out.trans (hb3.mono HB2.out.size)⟩
    have HG : Hid (w.heap.size < w2.heap.size ∧ w.heap.size + 1 ≤ w2.heap.size) := ⟨by have := HS2.out; omega, HS2.out⟩
    generalize w2.heap.size = g at *
    clear hrf hb3 HRD HR1 HB2 HZ2 HB1 HZ1
    go_wp2_with fail
    refine (num_next HST0.out HG.out.1 2147483648 (by omega) (by omega)).mono ?_
    rintro f0 y0 ⟨rfl, hs0, ho0⟩
    obtain ⟨x0, hx0⟩ : ∃ x, x = rv1 (C, 0) 2147483648 := ⟨_, rfl⟩
    rw [← hx0]
    have HX0 := Lib.hid hx0
    clear hx0
    have hal : Below y0.heap.size y0 (y0.alloc (.cells #[.int .i64 x0, .int .i64 0, .int .i64 0, .int .i64 0, .int .i64 0, .int .i64 0] 41)) := (Below.refl _ _).alloc (Nat.le_refl _) _
    have HTK1 : Hid ((y0.alloc (.cells #[.int .i64 x0, .int .i64 0, .int .i64 0, .int .i64 0, .int .i64 0, .int .i64 0] 41)).heap[y0.heap.size]? = some (.cells #[.int .i64 x0, .int .i64 0, .int .i64 0, .int .i64 0, .int .i64 0, .int .i64 0] 41 (0, 0))) := heap_alloc_new y0 _
    have hgy : g < y0.heap.size := (by obtain ⟨a, h1, _⟩ := hs0.rd; exact h1.lt)
    have HST1 : Hid (St w g (w.heap.size + 1) A1 C.length c1 C (rd1 (C, 0) 2147483648) (y0.alloc (.cells #[.int .i64 x0, .int .i64 0, .int .i64 0, .int .i64 0, .int .i64 0, .int .i64 0] 41))) := hs0.only (M := fun _ => False) (Only.of_below hal) (fun h => h) (fun _ _ h => h) (fun _ _ h => h)
    have HGT : Hid (g < y0.heap.size) := hgy
    clear hs0 ho0 hal hgy
    go_wp2_with fail
    generalize y0.alloc (.cells #[.int .i64 x0, .int .i64 0, .int .i64 0, .int .i64 0, .int .i64 0, .int .i64 0] 41) = z1 at *
    generalize y0.heap.size = G at *
    refine (num_next HST1.out HG.out.1 2147483648 (by omega) (by omega)).mono ?_
    rintro f1 y1 ⟨rfl, hs1, ho1⟩
    obtain ⟨x1, hx1⟩ : ∃ x, x = rv1 (rd1 (C, 0) 2147483648) 2147483648 := ⟨_, rfl⟩
    rw [← hx1]
    have HX1 := Lib.hid hx1
    clear hx1
    have htk1 : y1.heap[G]? = some (.cells #[.int .i64 x0, .int .i64 0, .int .i64 0, .int .i64 0, .int .i64 0, .int .i64 0] 41 (0, 0)) := (ho1.block G (Array.getElem?_eq_some_iff.1 HTK1.out).1 (by have := HGT.out; omega)).trans HTK1.out
    have r1 : y1.cell? ⟨G, 1, none⟩ = some (.int .i64 0) := cell_of_blk htk1 rfl
    have q1 : y1.frozen? ⟨G, 1, none⟩ = false := free_of_blk htk1
    have HTK2 : Hid ((y1.setCell ⟨G, 1, none⟩ (.int .i64 x1)).heap[G]? = some (.cells #[.int .i64 x0, .int .i64 x1, .int .i64 0, .int .i64 0, .int .i64 0, .int .i64 0] 41 (0, 0))) := set_blk htk1
    have HST2 : Hid (St w g (w.heap.size + 1) A1 C.length c1 C (rd1 (rd1 (C, 0) 2147483648) 2147483648) (y1.setCell ⟨G, 1, none⟩ (.int .i64 x1))) := hs1.only (Only.setCell y1 ⟨G, 1, none⟩ _) (by have := HGT.out; show ¬ g = G; omega) (fun i hi h => by have h1 := HGT.out; have h2 := HG.out; have h3 : i = G := h; omega) (fun i hi h => by have h1 := HGT.out; have h2 := HG.out; have h3 : i = G := h; omega)
    clear hs1 ho1 htk1
    go_wp2_with fail
    generalize y1.setCell ⟨G, 1, none⟩ (.int .i64 x1) = z2 at *
    clear r1 q1 HST1 HTK1
    refine (num_next HST2.out HG.out.1 4095 (by omega) (by omega)).mono ?_
    rintro f2 y2 ⟨rfl, hs2, ho2⟩
    obtain ⟨x2, hx2⟩ : ∃ x, x = rv1 (rd1 (rd1 (C, 0) 2147483648) 2147483648) 4095 := ⟨_, rfl⟩
    rw [← hx2]
    have HX2 := Lib.hid hx2
    clear hx2
    have htk2 : y2.heap[G]? = some (.cells #[.int .i64 x0, .int .i64 x1, .int .i64 0, .int .i64 0, .int .i64 0, .int .i64 0] 41 (0, 0)) := (ho2.block G (Array.getElem?_eq_some_iff.1 HTK2.out).1 (by have := HGT.out; omega)).trans HTK2.out
    have r2 : y2.cell? ⟨G, 2, none⟩ = some (.int .i64 0) := cell_of_blk htk2 rfl
    have q2 : y2.frozen? ⟨G, 2, none⟩ = false := free_of_blk htk2
    have HTK3 : Hid ((y2.setCell ⟨G, 2, none⟩ (.int .i64 x2)).heap[G]? = some (.cells #[.int .i64 x0, .int .i64 x1, .int .i64 x2, .int .i64 0, .int .i64 0, .int .i64 0] 41 (0, 0))) := set_blk htk2
    have HST3 : Hid (St w g (w.heap.size + 1) A1 C.length c1 C (rd1 (rd1 (rd1 (C, 0) 2147483648) 2147483648) 4095) (y2.setCell ⟨G, 2, none⟩ (.int .i64 x2))) := hs2.only (Only.setCell y2 ⟨G, 2, none⟩ _) (by have := HGT.out; show ¬ g = G; omega) (fun i hi h => by have h1 := HGT.out; have h2 := HG.out; have h3 : i = G := h; omega) (fun i hi h => by have h1 := HGT.out; have h2 := HG.out; have h3 : i = G := h; omega)
    clear hs2 ho2 htk2
    go_wp2_with fail
    generalize y2.setCell ⟨G, 2, none⟩ (.int .i64 x2) = z3 at *
    clear r2 q2 HST2 HTK2
    refine (num_next HST3.out HG.out.1 1099511627776 (by omega) (by omega)).mono ?_
    rintro f3 y3 ⟨rfl, hs3, ho3⟩
    obtain ⟨x3, hx3⟩ : ∃ x, x = rv1 (rd1 (rd1 (rd1 (C, 0) 2147483648) 2147483648) 4095) 1099511627776 := ⟨_, rfl⟩
    rw [← hx3]
    have HX3 := Lib.hid hx3
    clear hx3
    have htk3 : y3.heap[G]? = some (.cells #[.int .i64 x0, .int .i64 x1, .int .i64 x2, .int .i64 0, .int .i64 0, .int .i64 0] 41 (0, 0)) := (ho3.block G (Array.getElem?_eq_some_iff.1 HTK3.out).1 (by have := HGT.out; omega)).trans HTK3.out
    have r3 : y3.cell? ⟨G, 3, none⟩ = some (.int .i64 0) := cell_of_blk htk3 rfl
    have q3 : y3.frozen? ⟨G, 3, none⟩ = false := free_of_blk htk3
    have HTK4 : Hid ((y3.setCell ⟨G, 3, none⟩ (.int .i64 x3)).heap[G]? = some (.cells #[.int .i64 x0, .int .i64 x1, .int .i64 x2, .int .i64 x3, .int .i64 0, .int .i64 0] 41 (0, 0))) := set_blk htk3
    have HST4 : Hid (St w g (w.heap.size + 1) A1 C.length c1 C (rd1 (rd1 (rd1 (rd1 (C, 0) 2147483648) 2147483648) 4095) 1099511627776) (y3.setCell ⟨G, 3, none⟩ (.int .i64 x3))) := hs3.only (Only.setCell y3 ⟨G, 3, none⟩ _) (by have := HGT.out; show ¬ g = G; omega) (fun i hi h => by have h1 := HGT.out; have h2 := HG.out; have h3 : i = G := h; omega) (fun i hi h => by have h1 := HGT.out; have h2 := HG.out; have h3 : i = G := h; omega)
    clear hs3 ho3 htk3
    go_wp2_with fail
    generalize y3.setCell ⟨G, 3, none⟩ (.int .i64 x3) = z4 at *
    clear r3 q3 HST3 HTK3
    refine (num_next HST4.out HG.out.1 1099511627776 (by omega) (by omega)).mono ?_
    rintro f4 y4 ⟨rfl, hs4, ho4⟩
    obtain ⟨x4, hx4⟩ : ∃ x, x = rv1 (rd1 (rd1 (rd1 (rd1 (C, 0) 2147483648) 2147483648) 4095) 1099511627776) 1099511627776 := ⟨_, rfl⟩
    rw [← hx4]
    have HX4 := Lib.hid hx4
    clear hx4
    have htk4 : y4.heap[G]? = some (.cells #[.int .i64 x0, .int .i64 x1, .int .i64 x2, .int .i64 x3, .int .i64 0, .int .i64 0] 41 (0, 0)) := (ho4.block G (Array.getElem?_eq_some_iff.1 HTK4.out).1 (by have := HGT.out; omega)).trans HTK4.out
    have r4 : y4.cell? ⟨G, 4, none⟩ = some (.int .i64 0) := cell_of_blk htk4 rfl
    have q4 : y4.frozen? ⟨G, 4, none⟩ = false := free_of_blk htk4
    have HTK5 : Hid ((y4.setCell ⟨G, 4, none⟩ (.int .i64 x4)).heap[G]? = some (.cells #[.int .i64 x0, .int .i64 x1, .int .i64 x2, .int .i64 x3, .int .i64 x4, .int .i64 0] 41 (0, 0))) := set_blk htk4
    have HST5 : Hid (St w g (w.heap.size + 1) A1 C.length c1 C (rd1 (rd1 (rd1 (rd1 (rd1 (C, 0) 2147483648) 2147483648) 4095) 1099511627776) 1099511627776) (y4.setCell ⟨G, 4, none⟩ (.int .i64 x4))) := hs4.only (Only.setCell y4 ⟨G, 4, none⟩ _) (by have := HGT.out; show ¬ g = G; omega) (fun i hi h => by have h1 := HGT.out; have h2 := HG.out; have h3 : i = G := h; omega) (fun i hi h => by have h1 := HGT.out; have h2 := HG.out; have h3 : i = G := h; omega)
    clear hs4 ho4 htk4
    go_wp2_with fail
    generalize y4.setCell ⟨G, 4, none⟩ (.int .i64 x4) = z5 at *
    clear r4 q4 HST4 HTK4
    refine (num_next HST5.out HG.out.1 1048576 (by omega) (by omega)).mono ?_
    rintro f5 y5 ⟨rfl, hs5, ho5⟩
    obtain ⟨x5, hx5⟩ : ∃ x, x = rv1 (rd1 (rd1 (rd1 (rd1 (rd1 (C, 0) 2147483648) 2147483648) 4095) 1099511627776) 1099511627776) 1048576 := ⟨_, rfl⟩
    rw [← hx5]
    have HX5 := Lib.hid hx5
    clear hx5
    have htk5 : y5.heap[G]? = some (.cells #[.int .i64 x0, .int .i64 x1, .int .i64 x2, .int .i64 x3, .int .i64 x4, .int .i64 0] 41 (0, 0)) := (ho5.block G (Array.getElem?_eq_some_iff.1 HTK5.out).1 (by have := HGT.out; omega)).trans HTK5.out
    have r5 : y5.cell? ⟨G, 5, none⟩ = some (.int .i64 0) := cell_of_blk htk5 rfl
    have q5 : y5.frozen? ⟨G, 5, none⟩ = false := free_of_blk htk5
    have HTK6 : Hid ((y5.setCell ⟨G, 5, none⟩ (.int .i64 x5)).heap[G]? = some (.cells #[.int .i64 x0, .int .i64 x1, .int .i64 x2, .int .i64 x3, .int .i64 x4, .int .i64 x5] 41 (0, 0))) := set_blk htk5
    have HST6 : Hid (St w g (w.heap.size + 1) A1 C.length c1 C (rd1 (rd1 (rd1 (rd1 (rd1 (rd1 (C, 0) 2147483648) 2147483648) 4095) 1099511627776) 1099511627776) 1048576) (y5.setCell ⟨G, 5, none⟩ (.int .i64 x5))) := hs5.only (Only.setCell y5 ⟨G, 5, none⟩ _) (by have := HGT.out; show ¬ g = G; omega) (fun i hi h => by have h1 := HGT.out; have h2 := HG.out; have h3 : i = G := h; omega) (fun i hi h => by have h1 := HGT.out; have h2 := HG.out; have h3 : i = G := h; omega)
    clear hs5 ho5 htk5
    go_wp2_with fail
    generalize y5.setCell ⟨G, 5, none⟩ (.int .i64 x5) = z6 at *
    clear r5 q5 HST5 HTK5
    have HS6 : Hid (St w g (w.heap.size + 1) A1 C.length c1 C (s6 C) z6) := HST6.out
    have hU : (⟨x0, x1, x2, x3, x4, x5⟩ : T) = tokOf C := by rw [HX0.out, HX1.out, HX2.out, HX3.out, HX4.out, HX5.out]; rfl
    have HU := Lib.hid hU
    obtain ⟨dn, hdn⟩ : ∃ dn, dn = done (s7 C).1 (s7 C).2 := ⟨_, rfl⟩
    have HDN := Lib.hid hdn
    obtain ⟨tg, htg⟩ : ∃ tg, tg = tagOf C := ⟨_, rfl⟩
    have HTG := Lib.hid htg
    have hrr : r = if dn ≠ 0 then (T.zero, [], dn) else if (⟨x0, x1, x2, x3, x4, x5⟩ : T).may ∧ tg.length = 32 then (⟨x0, x1, x2, x3, x4, x5⟩, tg, 0) else (T.zero, [], 2) := by
      rw [hU, hdn, htg]
      have h1 := HR.out
      rwa [if_neg (by simp)] at h1
    have HRR := Lib.hid hrr
    clear HST6 hU hdn htg hrr HR HX0 HX1 HX2 HX3 HX4 HX5
    have HBN := Lib.hid (bytes_next HS6.out HG.out.1)
    refine HBN.out.mono ?_
    rintro e7 w7 ⟨v7, rfl, hown7, ⟨at7, hrf7, hdr7⟩, hrs7, hbel7, ho7⟩
    rw [show vals (s6 C).2 (nxl (s6 C).1 32) = tg from HTG.out.symm] at hown7
    obtain ⟨A7, c7, rfl, hc7, hnil7⟩ := own_slice hown7
    have HR7 : Hid (Row .u8 w7 w7.heap.size A7 tg.length tg) := Row.of_own hown7
    have HN7 := Lib.hid (And.intro hc7 hnil7)
    have HA7 : Hid ((∀ b o, A7 = some ⟨b, o, none⟩ → z6.heap.size ≤ b) ∧ w.heap.size < z6.heap.size) := ⟨fun b o e => by subst e; exact (hown7.lt b rfl).1, (Array.getElem?_eq_some_iff.1 HS6.out.rs).1⟩
    have HT7 : Hid (w7.heap[G]? = some (.cells #[.int .i64 x0, .int .i64 x1, .int .i64 x2, .int .i64 x3, .int .i64 x4, .int .i64 x5] 41 (0, 0))) := (ho7.block G (Array.getElem?_eq_some_iff.1 HTK6.out).1 (by have := HGT.out; omega)).trans HTK6.out
    have HZ7 := Lib.hid hrs7
    have HB7 := Lib.hid hbel7
    have HD7 : Hid (∀ wx : World, wx.heap = w7.heap → Calls Tryd.prog 45 #[.pointer (some ⟨g, 0, none⟩)] wx fun r w' => r = .returned (.int .i64 (dn : Int)) ∧ Like wx w') := fun wx hx => by
      have h1 := done_next (s := s7 C) (w := wx) (g := g) (N := w.heap.size + 1) (A := A1) (n := C.length) (c := c1) (C := C) (at_ := at7) (by
        refine ⟨⟨by rw [hx]; exact hrf7.rf.blk⟩, ?_, hrf7.low, hrf7.nc, hrf7.le, hrf7.nil, hrf7.byt, hrf7.len⟩
        refine ⟨hrf7.row.1, fun h0 => ?_⟩
        obtain ⟨b1, o1, e1, h2, h3⟩ := hrf7.row.2 h0
        exact ⟨b1, o1, e1, h2, fun j hj => (World.cell?_of_block (w := w7) (by rw [hx])).trans (h3 j hj)⟩) hdr7
      rwa [← HDN.out] at h1
    clear hown7 hc7 hnil7 hrf7 hdr7 hrs7 hbel7 ho7 HBN HS6 HTK6
    go_wp2_with fail
    refine (HD7.out w7 rfl).mono ?_
    rintro e8 w8 ⟨rfl, hl8⟩
    have HL8 : Hid (Below w7.heap.size w7 w8) := ⟨hl8.os, hl8.tape, hl8.output, by rw [hl8.heap]; exact Nat.le_refl _, fun k _ => by rw [hl8.heap]⟩
    have HH8 := Lib.hid hl8.heap
    have HZ8 : Hid (w8.heap[w.heap.size]? = some (.cells T.zero.cells 41 (0, 0))) := by unfold Hid; rw [HH8.out]; exact HZ7.out
    have HT8 : Hid (w8.heap[G]? = some (.cells #[.int .i64 x0, .int .i64 x1, .int .i64 x2, .int .i64 x3, .int .i64 x4, .int .i64 x5] 41 (0, 0))) := by unfold Hid; rw [HH8.out]; exact HT7.out
    have HB8 := Lib.hid (HB7.out.trans (HL8.out.mono HB7.out.size))
    have HR8 := Lib.hid ((HR7.out.below HL8.out).more HL8.out.size)
    clear hl8
    by_cases hd0 : dn = 0
    · have hdn0 : ((dn : Int) != 0) = false := by rw [hd0]; rfl
      have HD0 := Lib.hid hd0
      clear hd0
      have u0 := cell_of_blk (j := 0) HT8.out rfl
      have u1 := cell_of_blk (j := 1) HT8.out rfl
      have u2 := cell_of_blk (j := 2) HT8.out rfl
      have u3 := cell_of_blk (j := 3) HT8.out rfl
      have u4 := cell_of_blk (j := 4) HT8.out rfl
      have u5 := cell_of_blk (j := 5) HT8.out rfl
      have HMY : Hid (Calls Tryd.prog 57 #[.agg #[.int .i64 x0, .int .i64 x1, .int .i64 x2, .int .i64 x3, .int .i64 x4, .int .i64 x5]] w8 fun x w' => x = .returned (.bool (decide (⟨x0, x1, x2, x3, x4, x5⟩ : T).may)) ∧ Below w8.heap.size w8 w') := refmay_any ⟨x0, x1, x2, x3, x4, x5⟩ w8
      go_wp2_with fail
      refine HMY.out.mono ?_
      rintro e9 w9 ⟨rfl, hb9⟩
      have HZ9 : Hid (w9.heap[w.heap.size]? = some (.cells T.zero.cells 41 (0, 0))) := (hb9.block _ (Array.getElem?_eq_some_iff.1 HZ8.out).1).trans HZ8.out
      have HT9 : Hid (w9.heap[G]? = some (.cells #[.int .i64 x0, .int .i64 x1, .int .i64 x2, .int .i64 x3, .int .i64 x4, .int .i64 x5] 41 (0, 0))) := (hb9.block _ (Array.getElem?_eq_some_iff.1 HT8.out).1).trans HT8.out
      have HB9 := Lib.hid (HB8.out.trans (hb9.mono HB8.out.size))
      have HR9 := Lib.hid ((HR8.out.below hb9).more hb9.size)
      clear hb9 u0 u1 u2 u3 u4 u5
      by_cases hmy : (⟨x0, x1, x2, x3, x4, x5⟩ : T).may
      · rw [decide_eq_true hmy]
        by_cases hl : tg.length = 32
        · have hl1 : ((tg.length : Int) != 32) = false := by rw [hl]; rfl
          have hrr : r = (⟨x0, x1, x2, x3, x4, x5⟩, tg, 0) := by have h1 := HRR.out; rw [if_neg (by rw [HD0.out]; simp), if_pos ⟨hmy, hl⟩] at h1; exact h1
          have HRE := Lib.hid hrr
          have HHL := Lib.hid hl
          have HMM := Lib.hid hmy
          clear hl hmy hrr
          have IC : Hid ((Tryd.prog.info? 41).map (·.size) = some (#[.int .i64 x0, .int .i64 x1, .int .i64 x2, .int .i64 x3, .int .i64 x4, .int .i64 x5] : Array Value).size) := infoT
          have SC : Hid (T.zero.cells.size = (#[.int .i64 x0, .int .i64 x1, .int .i64 x2, .int .i64 x3, .int .i64 x4, .int .i64 x5] : Array Value).size) := rfl
          go_wp2_with (first
            | ((with_reducible show wpList _ _ _ _ _ _); (refine wpList_load_row rfl 41 (.tmp 8) rfl G rfl 41 #[.int .i64 x0, .int .i64 x1, .int .i64 x2, .int .i64 x3, .int .i64 x4, .int .i64 x5] (0, 0) _ HT9.out Tryd.underlying41 rfl IC.out ?_))
            | ((with_reducible show wpList _ _ _ _ _ _); refine wpList_store_row rfl 41 (.tmp 2) (.tmp 56) rfl w.heap.size #[.int .i64 x0, .int .i64 x1, .int .i64 x2, .int .i64 x3, .int .i64 x4, .int .i64 x5] rfl rfl 41 _ HZ9.out IC.out SC.out (cellsT ⟨x0, x1, x2, x3, x4, x5⟩) ?_))
          refine bodyPost_ret (results_cell_tmps rfl _ _ w.heap.size #[.int .i64 x0, .int .i64 x1, .int .i64 x2, .int .i64 x3, .int .i64 x4, .int .i64 x5] rfl (run_loadVar_row _ _ 41 41 _ (0, 0) _ (setRow_heap _ _ _ _ _ _ HZ9.out) Tryd.underlying41 rfl infoT)) rfl ?_
          rw [HRE.out]
          refine ⟨A7, tg.length, c7, rfl, ⟨HR9.out.1, fun h0 => ?_⟩, HN7.out.2, HN7.out.1, below_setRow HB9.out (Nat.le_refl _) _⟩
          obtain ⟨b1, o1, e1, h2, h3⟩ := HR9.out.2 h0
          have hne : w.heap.size ≠ b1 := by have h4 := HA7.out.1 b1 o1 e1; have h5 := HA7.out.2; omega
          exact ⟨b1, o1, e1, by rw [size_setRow]; exact h2, fun j hj => (World.cell?_of_block (w := w9) (setRow_other w9 _ _ _ (Ne.symm hne))).trans (h3 j hj)⟩
        · have hl1 : ((tg.length : Int) != 32) = true := bne_iff_ne.2 (by omega)
          have hrr : r = (T.zero, [], 2) := by have h1 := HRR.out; rw [if_neg (by rw [HD0.out]; simp), if_neg (fun hh => hl hh.2)] at h1; exact h1
          have HRE := Lib.hid hrr
          have HHL := Lib.hid hl
          clear hl hmy hrr
          go_wp2_with (with_reducible refine wpList_store_row rfl 41 (.tmp 2) (.tmp 55) rfl w.heap.size T.zero.cells rfl rfl 41 _ HZ9.out I6.out rfl (cellsT _) ?_)
          refine bodyPost_ret (results_cell_tmps rfl _ _ w.heap.size T.zero.cells rfl (run_loadVar_row _ _ 41 41 _ (0, 0) _ (setRow_heap _ _ _ _ _ _ HZ9.out) Tryd.underlying41 rfl I6.out)) rfl ?_
          rw [HRE.out]
          exact ⟨none, 0, 0, rfl, Row.none_, fun _ => rfl, Nat.le_refl _, below_setRow HB9.out (Nat.le_refl _) _⟩
      · rw [decide_eq_false hmy]
        have hrr : r = (T.zero, [], 2) := by have h1 := HRR.out; rw [if_neg (by rw [HD0.out]; simp), if_neg (fun hh => hmy hh.1)] at h1; exact h1
        have HRE := Lib.hid hrr
        clear hmy hrr
        go_wp2_with (with_reducible refine wpList_store_row rfl 41 (.tmp 2) (.tmp 55) rfl w.heap.size T.zero.cells rfl rfl 41 _ HZ9.out I6.out rfl (cellsT _) ?_)
        refine bodyPost_ret (results_cell_tmps rfl _ _ w.heap.size T.zero.cells rfl (run_loadVar_row _ _ 41 41 _ (0, 0) _ (setRow_heap _ _ _ _ _ _ HZ9.out) Tryd.underlying41 rfl I6.out)) rfl ?_
        rw [HRE.out]
        exact ⟨none, 0, 0, rfl, Row.none_, fun _ => rfl, Nat.le_refl _, below_setRow HB9.out (Nat.le_refl _) _⟩
    · have hdn0 : ((dn : Int) != 0) = true := bne_iff_ne.2 (by omega)
      have hrr : r = (T.zero, [], dn) := by have h1 := HRR.out; rw [if_pos hd0] at h1; exact h1
      have HRE := Lib.hid hrr
      clear hd0 hrr
      have HD8 := Lib.hid (HD7.out w8 HH8.out)
      go_wp2_with fail
      refine HD8.out.mono ?_
      rintro e9 w9 ⟨rfl, hl9⟩
      have HL9 : Hid (Below w8.heap.size w8 w9) := ⟨hl9.os, hl9.tape, hl9.output, by rw [hl9.heap]; exact Nat.le_refl _, fun k _ => by rw [hl9.heap]⟩
      have HZ9 : Hid (w9.heap[w.heap.size]? = some (.cells T.zero.cells 41 (0, 0))) := by unfold Hid; rw [hl9.heap]; exact HZ8.out
      have HB9 := Lib.hid (HB8.out.trans (HL9.out.mono HB8.out.size))
      clear hl9
      go_wp2_with (with_reducible refine wpList_store_row rfl 41 (.tmp 2) (.tmp 44) rfl w.heap.size T.zero.cells rfl rfl 41 _ HZ9.out I6.out rfl (cellsT _) ?_)
      refine bodyPost_ret (results_cell_tmps rfl _ _ w.heap.size T.zero.cells rfl (run_loadVar_row _ _ 41 41 _ (0, 0) _ (setRow_heap _ _ _ _ _ _ HZ9.out) Tryd.underlying41 rfl I6.out)) rfl ?_
      rw [HRE.out]
      exact ⟨none, 0, 0, rfl, Row.none_, fun _ => rfl, Nat.le_refl _, below_setRow HB9.out (Nat.le_refl _) _⟩
  · have hd : ((er : Int) != 0) = true := bne_iff_ne.2 (by omega)
    have hrr : r = (T.zero, [], er) := by have h1 := HR.out; rw [if_pos her] at h1; exact h1
    have HRR := Lib.hid hrr
    clear hrr her
    go_wp2_with (with_reducible refine wpList_store_row rfl 41 (.tmp 2) (.tmp 17) rfl w.heap.size T.zero.cells rfl rfl 41 _ HZ2.out I6.out rfl (cellsT _) ?_)
    refine bodyPost_ret (results_cell_tmps rfl _ _ w.heap.size T.zero.cells rfl (run_loadVar_row _ _ 41 41 _ (0, 0) _ (setRow_heap _ _ _ _ _ _ HZ2.out) Tryd.underlying41 rfl I6.out)) rfl ?_
    rw [HRR.out]
    exact ⟨none, 0, 0, rfl, Row.none_, fun _ => rfl, Nat.le_refl _, below_setRow HB2.out (Nat.le_refl _) _⟩
end Go.Proofs.YtppbpmmfcoblmaaDoor.Tok

/- Lemmas that the proof stands on, in build order: TokH TokU TokF TokJ TokG TokT. -/
import Derived.Deep.QuietTactic
import Derived.BigQuiet
import Derived.RegionTactic
import Derived.Deep.RegionHeld3
import Derived.Test.YtmkdbpdfonpfdaaDoorJ10620102
import Derived.Test.YtmkdbpdfonpfdaaDoorJ11288da5
import Derived.Test.YtmkdbpdfonpfdaaDoorJ30798c8
import Derived.Test.YtmkdbpdfonpfdaaDoorJ57ad6f8
import Derived.Test.YtmkdbpdfonpfdaaDoorJ6ebf1f3
import Derived.Test.YtmkdbpdfonpfdaaDoorJ7dd9cd8
import Derived.Test.YtmkdbpdfonpfdaaDoorJ81f4fc8
/- Layer 10 (token): the program's read, as a contract. -/
namespace Go.Proofs.YtmkdbpdfonpfdaaDoor.Tok
open Go.RowKit Var Fld Frm Sha Hmc Rg

/-- The next number of a Reader. -/
theorem number_stp (g : Nat) (s : List Int × Nat) (most : Int) (w : World) (h : Rdr w g s.1 s.2) (h1 : -9223372036854775808 ≤ most) (h2 : most ≤ 9223372036854775807) :
    Calls Tryd.prog 64 #[.pointer (some ⟨g, 0, none⟩), .int .i64 most] w fun r w' => r = .returned (.int .i64 (rv1 s most)) ∧ Rdr w' g (rd1 s most).1 (rd1 s most).2 ∧ Only (fun k => k = g) w w' :=
  numberR g s.2 s.1 most w h h1 h2
theorem rd1_len (s : List Int × Nat) (most : Int) : (rd1 s most).1.length ≤ s.1.length := by
  unfold rd1 after
  split
  · exact Nat.le_refl _
  split
  · exact Nat.le_refl _
  · rw [List.length_drop]; omega
theorem s6_len (C : List Int) : (s6 C).1.length ≤ C.length := by
  have h1 := rd1_len (C, 0) 2147483648
  have h2 := rd1_len (s1 C) 2147483648
  have h3 := rd1_len (s2 C) 4095
  have h4 := rd1_len (s3 C) 1099511627776
  have h5 := rd1_len (s4 C) 1099511627776
  have h6 := rd1_len (s5 C) 1048576
  have e1 : (s1 C).1.length ≤ C.length := h1
  have e2 : (s2 C).1.length ≤ (s1 C).1.length := h2
  have e3 : (s3 C).1.length ≤ (s2 C).1.length := h3
  have e4 : (s4 C).1.length ≤ (s3 C).1.length := h4
  have e5 : (s5 C).1.length ≤ (s4 C).1.length := h5
  have e6 : (s6 C).1.length ≤ (s5 C).1.length := h6
  omega

theorem six_keep {w : World} {g G : Nat} (hg : g < G) {a0 a1 a2 a3 a4 a5 x0 x1 x2 x3 x4 x5 : Int} (h : w.cell? ⟨G, 0, none⟩ = some (.int .i64 x0) ∧ w.cell? ⟨G, 1, none⟩ = some (.int .i64 x1) ∧ w.cell? ⟨G, 2, none⟩ = some (.int .i64 x2) ∧ w.cell? ⟨G, 3, none⟩ = some (.int .i64 x3) ∧ w.cell? ⟨G, 4, none⟩ = some (.int .i64 x4) ∧ w.cell? ⟨G, 5, none⟩ = some (.int .i64 x5)) :
    ((((((w.setCell ⟨g, 0, none⟩ (.int .i64 a0)).setCell ⟨g, 1, none⟩ (.int .i64 a1)).setCell ⟨g, 2, none⟩ (.int .i64 a2)).setCell ⟨g, 3, none⟩ (.int .i64 a3)).setCell ⟨g, 4, none⟩ (.int .i64 a4)).setCell ⟨g, 5, none⟩ (.int .i64 a5)).cell? ⟨G, 0, none⟩ = some (.int .i64 x0) ∧ ((((((w.setCell ⟨g, 0, none⟩ (.int .i64 a0)).setCell ⟨g, 1, none⟩ (.int .i64 a1)).setCell ⟨g, 2, none⟩ (.int .i64 a2)).setCell ⟨g, 3, none⟩ (.int .i64 a3)).setCell ⟨g, 4, none⟩ (.int .i64 a4)).setCell ⟨g, 5, none⟩ (.int .i64 a5)).cell? ⟨G, 1, none⟩ = some (.int .i64 x1) ∧ ((((((w.setCell ⟨g, 0, none⟩ (.int .i64 a0)).setCell ⟨g, 1, none⟩ (.int .i64 a1)).setCell ⟨g, 2, none⟩ (.int .i64 a2)).setCell ⟨g, 3, none⟩ (.int .i64 a3)).setCell ⟨g, 4, none⟩ (.int .i64 a4)).setCell ⟨g, 5, none⟩ (.int .i64 a5)).cell? ⟨G, 2, none⟩ = some (.int .i64 x2) ∧ ((((((w.setCell ⟨g, 0, none⟩ (.int .i64 a0)).setCell ⟨g, 1, none⟩ (.int .i64 a1)).setCell ⟨g, 2, none⟩ (.int .i64 a2)).setCell ⟨g, 3, none⟩ (.int .i64 a3)).setCell ⟨g, 4, none⟩ (.int .i64 a4)).setCell ⟨g, 5, none⟩ (.int .i64 a5)).cell? ⟨G, 3, none⟩ = some (.int .i64 x3) ∧ ((((((w.setCell ⟨g, 0, none⟩ (.int .i64 a0)).setCell ⟨g, 1, none⟩ (.int .i64 a1)).setCell ⟨g, 2, none⟩ (.int .i64 a2)).setCell ⟨g, 3, none⟩ (.int .i64 a3)).setCell ⟨g, 4, none⟩ (.int .i64 a4)).setCell ⟨g, 5, none⟩ (.int .i64 a5)).cell? ⟨G, 4, none⟩ = some (.int .i64 x4) ∧ ((((((w.setCell ⟨g, 0, none⟩ (.int .i64 a0)).setCell ⟨g, 1, none⟩ (.int .i64 a1)).setCell ⟨g, 2, none⟩ (.int .i64 a2)).setCell ⟨g, 3, none⟩ (.int .i64 a3)).setCell ⟨g, 4, none⟩ (.int .i64 a4)).setCell ⟨g, 5, none⟩ (.int .i64 a5)).cell? ⟨G, 5, none⟩ = some (.int .i64 x5) := by
  refine ⟨?_, ?_, ?_, ?_, ?_, ?_⟩
  all_goals rw [World.cell?_setCell_other _ _ _ _ (by simp <;> omega), World.cell?_setCell_other _ _ _ _ (by simp <;> omega), World.cell?_setCell_other _ _ _ _ (by simp <;> omega), World.cell?_setCell_other _ _ _ _ (by simp <;> omega), World.cell?_setCell_other _ _ _ _ (by simp <;> omega), World.cell?_setCell_other _ _ _ _ (by simp <;> omega)]
  · exact h.1
  · exact h.2.1
  · exact h.2.2.1
  · exact h.2.2.2.1
  · exact h.2.2.2.2.1
  · exact h.2.2.2.2.2

/-- What read answers. -/
def ReadTo (C : List Int) (w : World) (x : Ending) (w' : World) : Prop :=
  ∃ A c, x = .returned (.tuple #[(tokOf C).val, .slice A (tagOf C).length c, .int .i64 (done (s7 C).1 (s7 C).2 : Int)]) ∧ Row .u8 w' w'.heap.size A (tagOf C).length (tagOf C) ∧ (A = none → c = 0) ∧ (tagOf C).length ≤ c ∧ (∀ b o, A = some ⟨b, o, none⟩ → w.heap.size ≤ b) ∧ Below w.heap.size w w'

set_option maxHeartbeats 3200000 in
set_option maxRecDepth 100000 in
theorem read_any (A : Option Addr) (n c : Nat) (C : List Int) (w : World) (h : Row .u8 w w.heap.size A n C) (hnil : A = none → c = 0) (hn : n ≤ 4398046511104) (hC : ∀ x ∈ C, 0 ≤ x ∧ x ≤ 255) :
    Calls Tryd.prog 39 #[.slice A n c] w (ReadTo C w) := by
  obtain ⟨w1, hw1⟩ : ∃ w1, w.alloc (.cells T.zero.cells 26) = w1 := ⟨_, rfl⟩
  have hs1 : w1.heap.size = w.heap.size + 1 := by rw [← hw1]; simp
  have hb1 : Below w.heap.size w w1 := by rw [← hw1]; exact (Below.refl _ _).alloc (Nat.le_refl _) _
  have hz1 : w1.heap[w.heap.size]? = some (.cells T.zero.cells 26 (0, 0)) := by rw [← hw1]; exact heap_alloc_new w _
  have HL : Hid (C.length ≤ 4398046511104) := by unfold Hid; rw [h.len]; exact hn
  have HRD := Lib.hid (readR A n c w.heap.size C w1 (h.below hb1) hb1.size hnil hn hC)
  have HS1 := Lib.hid hs1
  have HB1 := Lib.hid hb1
  have HZ1 := Lib.hid hz1
  have HW1 := Lib.hid hw1
  have I6 : Hid ((Tryd.prog.info? 26).map (·.size) = some T.zero.cells.size) := infoT
  clear h hnil hn hC hs1 hb1 hz1 hw1
  go_enter Tryd.func39, Tryd.ntmps39
  go_wp2_with fail
  refine Calls.mono (by have h1 := HRD.out; rw [← HW1.out] at h1; exact h1) ?_
  rintro e2 w2 ⟨g, rfl, hg2, hrd2, hb2⟩
  rw [HW1.out] at hg2 hb2
  have HG : Hid (w.heap.size < g) := by unfold Hid; have := HS1.out; omega
  have HR0 : Hid (Rdr w2 g (C, 0).1 (C, 0).2) := hrd2
  have HB2 := Lib.hid (HB1.out.trans (hb2.mono (by have := HS1.out; omega)))
  have HZ2 : Hid (w2.heap[w.heap.size]? = some (.cells T.zero.cells 26 (0, 0))) := (hb2.block _ (by have := HS1.out; omega)).trans HZ1.out
  clear hg2 hrd2 hb2 HRD
  go_wp2_with fail
  refine (number_stp g (C, 0) 2147483648 w2 HR0.out (by omega) (by omega)).mono ?_
  rintro e3 y0 ⟨rfl, hrd, ho⟩
  have HR1 : Hid (Rdr y0 g (s1 C).1 (s1 C).2) := hrd
  have HB3 : Hid (Below w.heap.size w y0) := HB2.out.trans (ho.below HB2.out.size (fun k hk => by have := HG.out; omega))
  have HZ3 : Hid (y0.heap[w.heap.size]? = some (.cells T.zero.cells 26 (0, 0))) := ho.at HZ2.out (by have := HG.out; omega)
  obtain ⟨x0, hx0⟩ : ∃ x, x = rv1 (C, 0) 2147483648 := ⟨_, rfl⟩
  rw [← hx0]
  have HX0 := Lib.hid hx0
  clear hrd ho hx0 HR0 HB2 HZ2
  go_wp2_with fail
  refine (number_stp g (s1 C) 2147483648 y0 HR1.out (by omega) (by omega)).mono ?_
  rintro e4 y1 ⟨rfl, hrd, ho⟩
  have HR2 : Hid (Rdr y1 g (s2 C).1 (s2 C).2) := hrd
  have HB4 : Hid (Below w.heap.size w y1) := HB3.out.trans (ho.below HB3.out.size (fun k hk => by have := HG.out; omega))
  have HZ4 : Hid (y1.heap[w.heap.size]? = some (.cells T.zero.cells 26 (0, 0))) := ho.at HZ3.out (by have := HG.out; omega)
  obtain ⟨x1, hx1⟩ : ∃ x, x = rv1 (s1 C) 2147483648 := ⟨_, rfl⟩
  rw [← hx1]
  have HX1 := Lib.hid hx1
  clear hrd ho hx1 HR1 HB3 HZ3
  go_wp2_with fail
  refine (number_stp g (s2 C) 4095 y1 HR2.out (by omega) (by omega)).mono ?_
  rintro e5 y2 ⟨rfl, hrd, ho⟩
  have HR3 : Hid (Rdr y2 g (s3 C).1 (s3 C).2) := hrd
  have HB5 : Hid (Below w.heap.size w y2) := HB4.out.trans (ho.below HB4.out.size (fun k hk => by have := HG.out; omega))
  have HZ5 : Hid (y2.heap[w.heap.size]? = some (.cells T.zero.cells 26 (0, 0))) := ho.at HZ4.out (by have := HG.out; omega)
  obtain ⟨x2, hx2⟩ : ∃ x, x = rv1 (s2 C) 4095 := ⟨_, rfl⟩
  rw [← hx2]
  have HX2 := Lib.hid hx2
  clear hrd ho hx2 HR2 HB4 HZ4
  go_wp2_with fail
  refine (number_stp g (s3 C) 1099511627776 y2 HR3.out (by omega) (by omega)).mono ?_
  rintro e6 y3 ⟨rfl, hrd, ho⟩
  have HR4 : Hid (Rdr y3 g (s4 C).1 (s4 C).2) := hrd
  have HB6 : Hid (Below w.heap.size w y3) := HB5.out.trans (ho.below HB5.out.size (fun k hk => by have := HG.out; omega))
  have HZ6 : Hid (y3.heap[w.heap.size]? = some (.cells T.zero.cells 26 (0, 0))) := ho.at HZ5.out (by have := HG.out; omega)
  obtain ⟨x3, hx3⟩ : ∃ x, x = rv1 (s3 C) 1099511627776 := ⟨_, rfl⟩
  rw [← hx3]
  have HX3 := Lib.hid hx3
  clear hrd ho hx3 HR3 HB5 HZ5
  go_wp2_with fail
  refine (number_stp g (s4 C) 1099511627776 y3 HR4.out (by omega) (by omega)).mono ?_
  rintro e7 y4 ⟨rfl, hrd, ho⟩
  have HR5 : Hid (Rdr y4 g (s5 C).1 (s5 C).2) := hrd
  have HB7 : Hid (Below w.heap.size w y4) := HB6.out.trans (ho.below HB6.out.size (fun k hk => by have := HG.out; omega))
  have HZ7 : Hid (y4.heap[w.heap.size]? = some (.cells T.zero.cells 26 (0, 0))) := ho.at HZ6.out (by have := HG.out; omega)
  obtain ⟨x4, hx4⟩ : ∃ x, x = rv1 (s4 C) 1099511627776 := ⟨_, rfl⟩
  rw [← hx4]
  have HX4 := Lib.hid hx4
  clear hrd ho hx4 HR4 HB6 HZ6
  go_wp2_with fail
  refine (number_stp g (s5 C) 1048576 y4 HR5.out (by omega) (by omega)).mono ?_
  rintro e8 y5 ⟨rfl, hrd, ho⟩
  have HR6 : Hid (Rdr y5 g (s6 C).1 (s6 C).2) := hrd
  have HB8 : Hid (Below w.heap.size w y5) := HB7.out.trans (ho.below HB7.out.size (fun k hk => by have := HG.out; omega))
  have HZ8 : Hid (y5.heap[w.heap.size]? = some (.cells T.zero.cells 26 (0, 0))) := ho.at HZ7.out (by have := HG.out; omega)
  obtain ⟨x5, hx5⟩ : ∃ x, x = rv1 (s5 C) 1048576 := ⟨_, rfl⟩
  rw [← hx5]
  have HX5 := Lib.hid hx5
  clear hrd ho hx5 HR5 HB7 HZ7
  have HU : Hid (tokOf C = ⟨x0, x1, x2, x3, x4, x5⟩) := by unfold Hid tokOf; rw [HX0.out, HX1.out, HX2.out, HX3.out, HX4.out, HX5.out]
  clear HX0 HX1 HX2 HX3 HX4 HX5
  obtain ⟨y6, hy6⟩ : ∃ y6, y5.alloc (.cells #[.int .i64 x0, .int .i64 x1, .int .i64 x2, .int .i64 x3, .int .i64 x4, .int .i64 x5] 26) = y6 := ⟨_, rfl⟩
  have hb6 : Below y5.heap.size y5 y6 := by rw [← hy6]; exact (Below.refl _ _).alloc (Nat.le_refl _) _
  have HT6 : Hid (y6.heap[y5.heap.size]? = some (.cells #[.int .i64 x0, .int .i64 x1, .int .i64 x2, .int .i64 x3, .int .i64 x4, .int .i64 x5] 26 (0, 0))) := by unfold Hid; rw [← hy6]; exact heap_alloc_new y5 _
  have HB9 : Hid (Below w.heap.size w y6) := HB8.out.trans (hb6.mono HB8.out.size)
  have HZ9 : Hid (y6.heap[w.heap.size]? = some (.cells T.zero.cells 26 (0, 0))) := (hb6.block _ (Array.getElem?_eq_some_iff.1 HZ8.out).1).trans HZ8.out
  have HGT : Hid (g < y5.heap.size) := HR6.out.lt
  have HR7 : Hid (Rdr y6 g (s6 C).1 (s6 C).2) := HR6.out.below hb6
  have HBY := Lib.hid (bytesR g (s6 C).2 (s6 C).1 32 y6 HR7.out (by omega) (by omega) (by have h1 := s6_len C; have h2 := HL.out; omega))
  have HY6 := Lib.hid hy6
  clear hb6 hy6 HB8 HZ8 HR6
  go_wp2_with fail
  refine Calls.mono (by have h1 := HBY.out; rw [← HY6.out] at h1; exact h1) ?_
  rintro e9 w9 ⟨v9, rfl, hown9, hrd9, ho9⟩
  rw [HY6.out] at hown9 ho9
  obtain ⟨A9, c9, rfl, hc9, hnil9⟩ := own_slice hown9
  obtain ⟨TG, hTG⟩ : ∃ TG, TG = tagOf C := ⟨_, rfl⟩
  have hown9' : w9.ownsRow y6.heap.size 5 1 (.slice A9 TG.length c9) TG.length (TG.map (Value.int .u8)) := by rw [hTG]; exact hown9
  have hc9' : TG.length ≤ c9 := by rw [hTG]; exact hc9
  have HR9 : Hid (Row .u8 w9 w9.heap.size A9 TG.length TG) := Row.of_own hown9'
  have HAD : Hid (∀ b o, A9 = some ⟨b, o, none⟩ → w.heap.size + 1 ≤ b) := fun b o e => by
    have h1 := own_addr hown9' b o e
    have h2 := HB9.out.size
    have h3 := (Array.getElem?_eq_some_iff.1 HZ9.out).1
    omega
  have HN9 := Lib.hid (And.intro hnil9 hc9')
  have HRE : Hid (Rdr w9 g (s7 C).1 (s7 C).2) := hrd9
  have HT9 : Hid (w9.heap[y5.heap.size]? = some (.cells #[.int .i64 x0, .int .i64 x1, .int .i64 x2, .int .i64 x3, .int .i64 x4, .int .i64 x5] 26 (0, 0))) := ho9.at HT6.out (by have := HGT.out; omega)
  have HB10 : Hid (Below w.heap.size w w9) := HB9.out.trans (ho9.below HB9.out.size (fun k hk => by have := HG.out; omega))
  have HZ10 : Hid (w9.heap[w.heap.size]? = some (.cells T.zero.cells 26 (0, 0))) := ho9.at HZ9.out (by have := HG.out; omega)
  have HNE : Hid (w.heap.size < y5.heap.size) := by unfold Hid; have := HG.out; have := HGT.out; omega
  have HTGE := Lib.hid hTG
  have u0 : w9.cell? ⟨y5.heap.size, 0, none⟩ = some (.int .i64 x0) := cell_of_blk HT9.out rfl
  have u1 : w9.cell? ⟨y5.heap.size, 1, none⟩ = some (.int .i64 x1) := cell_of_blk HT9.out rfl
  have u2 : w9.cell? ⟨y5.heap.size, 2, none⟩ = some (.int .i64 x2) := cell_of_blk HT9.out rfl
  have u3 : w9.cell? ⟨y5.heap.size, 3, none⟩ = some (.int .i64 x3) := cell_of_blk HT9.out rfl
  have u4 : w9.cell? ⟨y5.heap.size, 4, none⟩ = some (.int .i64 x4) := cell_of_blk HT9.out rfl
  have u5 : w9.cell? ⟨y5.heap.size, 5, none⟩ = some (.int .i64 x5) := cell_of_blk HT9.out rfl
  have HDN := Lib.hid (doneR g (s7 C).2 (s7 C).1 w9.drew (HRE.out.below (Below.refl _ _).drew))
  have HZD : Hid (w9.drew.heap[w.heap.size]? = some (.cells T.zero.cells 26 (0, 0))) := HZ10.out
  rw [show vals (s6 C).2 (nxl (s6 C).1 32) = TG from hTG.symm]
  clear hown9 hown9' hrd9 ho9 hc9 hc9' hnil9 HBY HB9 HZ9 HR7 HT6 hTG
  generalize y5.heap.size = G at *
  go_wp2_with fail
  have aS : w9.drew.cell? ⟨G, 0, none⟩ = some (.int .i64 x0) ∧ w9.drew.cell? ⟨G, 1, none⟩ = some (.int .i64 x1) ∧ w9.drew.cell? ⟨G, 2, none⟩ = some (.int .i64 x2) ∧ w9.drew.cell? ⟨G, 3, none⟩ = some (.int .i64 x3) ∧ w9.drew.cell? ⟨G, 4, none⟩ = some (.int .i64 x4) ∧ w9.drew.cell? ⟨G, 5, none⟩ = some (.int .i64 x5) := ⟨u0, u1, u2, u3, u4, u5⟩
  have hne := HNE.out
  have HDL : Hid (Calls Tryd.prog 66 #[.pointer (some ⟨g, 0, none⟩)] w9.drew fun r w' => r = .returned (.int .i64 (done (s7 C).1 (s7 C).2 : Int)) ∧ w'.heap = w9.heap ∧ Below w9.heap.size w9 w') := HDN.out.mono fun _ _ ⟨a, b⟩ => ⟨a, by subst b; exact ⟨rfl, (Below.refl _ _).drew⟩⟩
  clear u0 u1 u2 u3 u4 u5
  go_region_held3 (fun wx => wx.cell? ⟨G, 0, none⟩ = some (.int .i64 x0) ∧ wx.cell? ⟨G, 1, none⟩ = some (.int .i64 x1) ∧ wx.cell? ⟨G, 2, none⟩ = some (.int .i64 x2) ∧ wx.cell? ⟨G, 3, none⟩ = some (.int .i64 x3) ∧ wx.cell? ⟨G, 4, none⟩ = some (.int .i64 x4) ∧ wx.cell? ⟨G, 5, none⟩ = some (.int .i64 x5)) (first | (with_reducible exact aS) | (with_reducible exact a11) | (with_reducible exact six_keep hne a11)) (first | (go_at_call 66; (with_reducible refine HDL.out.mono ?_); go_loud (rintro e11 w11 ⟨rfl, hh11, hb11⟩; have HZ11 : Hid (w11.heap[w.heap.size]? = some (.cells T.zero.cells 26 (0, 0))) := (congrArg (fun h => h[w.heap.size]?) hh11).trans HZ10.out; have HT11 : Hid (w11.heap[G]? = some (.cells #[.int .i64 x0, .int .i64 x1, .int .i64 x2, .int .i64 x3, .int .i64 x4, .int .i64 x5] 26 (0, 0))) := (congrArg (fun h => h[G]?) hh11).trans HT9.out; have a11 : w11.cell? ⟨G, 0, none⟩ = some (.int .i64 x0) ∧ w11.cell? ⟨G, 1, none⟩ = some (.int .i64 x1) ∧ w11.cell? ⟨G, 2, none⟩ = some (.int .i64 x2) ∧ w11.cell? ⟨G, 3, none⟩ = some (.int .i64 x3) ∧ w11.cell? ⟨G, 4, none⟩ = some (.int .i64 x4) ∧ w11.cell? ⟨G, 5, none⟩ = some (.int .i64 x5) := ⟨cell_of_blk HT11.out rfl, cell_of_blk HT11.out rfl, cell_of_blk HT11.out rfl, cell_of_blk HT11.out rfl, cell_of_blk HT11.out rfl, cell_of_blk HT11.out rfl⟩; have HB11 := Lib.hid hb11; have HH11 := Lib.hid hh11; clear hh11 hb11; have p0 : w11.cell? ⟨w.heap.size, 0, none⟩ = some (.int .i64 0) := cell_of_blk HZ11.out rfl; have q0 : w11.frozen? ⟨w.heap.size, 0, none⟩ = false := free_of_blk HZ11.out; have p1 : w11.cell? ⟨w.heap.size, 1, none⟩ = some (.int .i64 0) := cell_of_blk HZ11.out rfl; have q1 : w11.frozen? ⟨w.heap.size, 1, none⟩ = false := free_of_blk HZ11.out; have p2 : w11.cell? ⟨w.heap.size, 2, none⟩ = some (.int .i64 0) := cell_of_blk HZ11.out rfl; have q2 : w11.frozen? ⟨w.heap.size, 2, none⟩ = false := free_of_blk HZ11.out; have p3 : w11.cell? ⟨w.heap.size, 3, none⟩ = some (.int .i64 0) := cell_of_blk HZ11.out rfl; have q3 : w11.frozen? ⟨w.heap.size, 3, none⟩ = false := free_of_blk HZ11.out; have p4 : w11.cell? ⟨w.heap.size, 4, none⟩ = some (.int .i64 0) := cell_of_blk HZ11.out rfl; have q4 : w11.frozen? ⟨w.heap.size, 4, none⟩ = false := free_of_blk HZ11.out; have p5 : w11.cell? ⟨w.heap.size, 5, none⟩ = some (.int .i64 0) := cell_of_blk HZ11.out rfl; have q5 : w11.frozen? ⟨w.heap.size, 5, none⟩ = false := free_of_blk HZ11.out)))
  have hset : ((((((w11.setCell ⟨w.heap.size, 0, none⟩ (.int .i64 x0)).setCell ⟨w.heap.size, 1, none⟩ (.int .i64 x1)).setCell ⟨w.heap.size, 2, none⟩ (.int .i64 x2)).setCell ⟨w.heap.size, 3, none⟩ (.int .i64 x3)).setCell ⟨w.heap.size, 4, none⟩ (.int .i64 x4)).setCell ⟨w.heap.size, 5, none⟩ (.int .i64 x5)).heap[w.heap.size]? = some (.cells #[.int .i64 x0, .int .i64 x1, .int .i64 x2, .int .i64 x3, .int .i64 x4, .int .i64 x5] 26 (0, 0)) := (set_blk (set_blk (set_blk (set_blk (set_blk (set_blk HZ11.out))))))
  have honl : Only (fun k => k = w.heap.size) w11 ((((((w11.setCell ⟨w.heap.size, 0, none⟩ (.int .i64 x0)).setCell ⟨w.heap.size, 1, none⟩ (.int .i64 x1)).setCell ⟨w.heap.size, 2, none⟩ (.int .i64 x2)).setCell ⟨w.heap.size, 3, none⟩ (.int .i64 x3)).setCell ⟨w.heap.size, 4, none⟩ (.int .i64 x4)).setCell ⟨w.heap.size, 5, none⟩ (.int .i64 x5)) := ((((((Only.setCell w11 ⟨w.heap.size, 0, none⟩ (.int .i64 x0)).trans (Only.setCell _ ⟨w.heap.size, 1, none⟩ (.int .i64 x1)) (fun _ _ h => h)).trans (Only.setCell _ ⟨w.heap.size, 2, none⟩ (.int .i64 x2)) (fun _ _ h => h)).trans (Only.setCell _ ⟨w.heap.size, 3, none⟩ (.int .i64 x3)) (fun _ _ h => h)).trans (Only.setCell _ ⟨w.heap.size, 4, none⟩ (.int .i64 x4)) (fun _ _ h => h)).trans (Only.setCell _ ⟨w.heap.size, 5, none⟩ (.int .i64 x5)) (fun _ _ h => h))
  have HSET := Lib.hid hset
  have HONL := Lib.hid honl
  clear hset honl a11 p0 p1 p2 p3 p4 p5 q0 q1 q2 q3 q4 q5
  generalize ((((((w11.setCell ⟨w.heap.size, 0, none⟩ (.int .i64 x0)).setCell ⟨w.heap.size, 1, none⟩ (.int .i64 x1)).setCell ⟨w.heap.size, 2, none⟩ (.int .i64 x2)).setCell ⟨w.heap.size, 3, none⟩ (.int .i64 x3)).setCell ⟨w.heap.size, 4, none⟩ (.int .i64 x4)).setCell ⟨w.heap.size, 5, none⟩ (.int .i64 x5)) = wf at *
  go_wp2
  refine bodyPost_ret (results_cell_tmps rfl _ _ w.heap.size #[.int .i64 x0, .int .i64 x1, .int .i64 x2, .int .i64 x3, .int .i64 x4, .int .i64 x5] rfl (run_loadVar_row _ _ 26 26 _ (0, 0) _ HSET.out Tryd.underlying26 rfl infoT)) rfl ?_
  have hb11 : Below w.heap.size w w11 := HB10.out.trans (HB11.out.mono HB10.out.size)
  have hr11 : Row .u8 w11 w11.heap.size A9 TG.length TG := (HR9.out.below HB11.out).more HB11.out.size
  refine ⟨A9, c9, ?_, ?_, HN9.out.1, ?_, fun b o e => by have := HAD.out b o e; omega, hb11.trans (HONL.out.below hb11.size (fun k hk => Nat.le_of_eq hk.symm))⟩
  · rw [HU.out, ← HTGE.out]
    rfl
  · rw [← HTGE.out]
    exact (HONL.out.row hr11 (Nat.le_refl _) (fun b o hb _ hm => by have := HAD.out b o hb; omega)).more HONL.out.size
  · rw [← HTGE.out]
    exact HN9.out.2
end Go.Proofs.YtmkdbpdfonpfdaaDoor.Tok

/- Layer 10 (token): the program's Open, as a contract. -/
namespace Go.Proofs.YtmkdbpdfonpfdaaDoor.Tok
open Go.RowKit Var Fld Frm Sha Hmc Rg

theorem row_setRow {k : IntKind} {w : World} {B n g : Nat} {A : Option Addr} {xs : List Int} (h : Row k w B A n xs) (cs : Array Value) (hA : ∀ b o, A = some ⟨b, o, none⟩ → b ≠ g) : Row k (w.setRow g cs) B A n xs := by
  refine ⟨h.1, fun h0 => ?_⟩
  obtain ⟨b, o, e, h1, h2⟩ := h.2 h0
  exact ⟨b, o, e, h1, fun j hj => (World.cell?_of_block (w := w) (setRow_other w _ _ _ (hA b o e))).trans (h2 j hj)⟩

set_option maxHeartbeats 3200000 in
set_option maxRecDepth 100000 in
theorem open_any (A : Option Addr) (n c : Nat) (b : List Int) (w : World) (h : Row .u8 w w.heap.size A n b) (hnil : A = none → c = 0) (hb : Byt b) (hc : n ≤ c) (hcm : c ≤ maxLen) (hn : n ≤ 4398046511104) :
    Calls Tryd.prog 16 #[.slice A n c] w (OpenTo w (opn b)) := by
  obtain ⟨w1, hw1⟩ : ∃ w1, w.alloc (.cells T.zero.cells 26) = w1 := ⟨_, rfl⟩
  have hs1 : w1.heap.size = w.heap.size + 1 := by rw [← hw1]; simp
  have hb1 : Below w.heap.size w w1 := by rw [← hw1]; exact (Below.refl _ _).alloc (Nat.le_refl _) _
  have hz1 : w1.heap[w.heap.size]? = some (.cells T.zero.cells 26 (0, 0)) := by rw [← hw1]; exact heap_alloc_new w _
  have HW := Lib.hid (whole_any 2 A n c b w1 ((h.below hb1).more hb1.size) hnil hb hn hc hcm)
  have HCB := Lib.hid (wholly_byt (k := 2) hb)
  have HCL : Hid ((wholly 2 b).1.length ≤ 1048576) := wholly_len 2 b
  have HB1 := Lib.hid hb1
  have HS1 := Lib.hid hs1
  have HZ1 := Lib.hid hz1
  have HW1 := Lib.hid hw1
  obtain ⟨r, hr⟩ : ∃ r, r = opn b := ⟨_, rfl⟩
  rw [← hr]
  unfold opn at hr
  obtain ⟨q, hq⟩ : ∃ q, q = wholly 2 b := ⟨_, rfl⟩
  rw [← hq] at hr HW HCB HCL
  obtain ⟨C, er⟩ := q
  have HR := Lib.hid hr
  have I6 : Hid ((Tryd.prog.info? 26).map (·.size) = some T.zero.cells.size) := infoT
  clear h hnil hb hc hcm hn hb1 hs1 hz1 hw1 hr hq
  go_enter Tryd.func16, Tryd.ntmps16
  go_wp2_with fail
  refine Calls.mono (by have h1 := HW.out; rw [← HW1.out] at h1; exact h1) ?_
  rintro e2 w2 ⟨v2, rfl, hown2, hb2⟩
  rw [HW1.out] at hown2 hb2
  obtain ⟨A2, c2, rfl, hc2, hnil2⟩ := own_slice hown2
  simp only at hown2 hc2 hnil2 HCB HCL
  have HR2 : Hid (Row .u8 w2 w2.heap.size A2 C.length C) := Row.of_own hown2
  have HN2 := Lib.hid hnil2
  have HB2 := Lib.hid (HB1.out.trans (hb2.mono HB1.out.size))
  have HZ2 : Hid (w2.heap[w.heap.size]? = some (.cells T.zero.cells 26 (0, 0))) := (hb2.block _ (by have := HS1.out; omega)).trans HZ1.out
  have HLT : Hid (w.heap.size < w2.heap.size) := (Array.getElem?_eq_some_iff.1 HZ2.out).1
  clear hown2 hc2 hnil2 hb2 HW
  by_cases her : er = 0
  · subst her
    have HRD := Lib.hid (read_any A2 C.length c2 C w2 HR2.out HN2.out (by have := HCL.out; omega) HCB.out)
    obtain ⟨U, hU⟩ : ∃ U, U = tokOf C := ⟨_, rfl⟩
    obtain ⟨TG, hTG⟩ : ∃ TG, TG = tagOf C := ⟨_, rfl⟩
    obtain ⟨dn, hdn⟩ : ∃ dn, dn = done (s7 C).1 (s7 C).2 := ⟨_, rfl⟩
    have hr := HR.out
    unfold ReadTo at HRD
    try simp only at hr
    rw [← hU, ← hTG, ← hdn] at HRD hr
    obtain ⟨x0, x1, x2, x3, x4, x5⟩ := U
    have HRR := Lib.hid hr
    have IC : Hid ((Tryd.prog.info? 26).map (·.size) = some (#[.int .i64 x0, .int .i64 x1, .int .i64 x2, .int .i64 x3, .int .i64 x4, .int .i64 x5] : Array Value).size) := infoT
    have SC : Hid (T.zero.cells.size = (#[.int .i64 x0, .int .i64 x1, .int .i64 x2, .int .i64 x3, .int .i64 x4, .int .i64 x5] : Array Value).size) := rfl
    clear hU hTG hdn hr HR
    go_wp2_with fail
    refine HRD.out.mono ?_
    rintro e3 w3 ⟨A3, c3, rfl, hr3, hnil3, hc3, had3, hb3⟩
    have HR3 := Lib.hid hr3
    have HN3 := Lib.hid (And.intro hnil3 hc3)
    have HAD3 : Hid (∀ b o, A3 = some ⟨b, o, none⟩ → b ≠ w.heap.size) := fun b o e => by have h1 := had3 b o e; have h2 := HLT.out; omega
    have HB3 := Lib.hid (HB2.out.trans (hb3.mono HB2.out.size))
    have HZ3 : Hid (w3.heap[w.heap.size]? = some (.cells T.zero.cells 26 (0, 0))) := (hb3.block _ HLT.out).trans HZ2.out
    have HT4 : Hid ((w3.setRow w.heap.size #[.int .i64 x0, .int .i64 x1, .int .i64 x2, .int .i64 x3, .int .i64 x4, .int .i64 x5]).heap[w.heap.size]? = some (.cells #[.int .i64 x0, .int .i64 x1, .int .i64 x2, .int .i64 x3, .int .i64 x4, .int .i64 x5] 26 (0, 0))) := setRow_heap _ _ _ _ _ _ HZ3.out
    have HB4 : Hid (Below w.heap.size w (w3.setRow w.heap.size #[.int .i64 x0, .int .i64 x1, .int .i64 x2, .int .i64 x3, .int .i64 x4, .int .i64 x5])) := below_setRow HB3.out (Nat.le_refl _) _
    have HR4 : Hid (Row .u8 (w3.setRow w.heap.size #[.int .i64 x0, .int .i64 x1, .int .i64 x2, .int .i64 x3, .int .i64 x4, .int .i64 x5]) (w3.setRow w.heap.size #[.int .i64 x0, .int .i64 x1, .int .i64 x2, .int .i64 x3, .int .i64 x4, .int .i64 x5]).heap.size A3 TG.length TG) := by unfold Hid; rw [size_setRow]; exact row_setRow HR3.out _ HAD3.out
    clear hr3 hnil3 hc3 had3 hb3 HRD
    unfold T.val T.cells
    obtain ⟨w4, hw4⟩ : ∃ w4, w3.setRow w.heap.size #[.int .i64 x0, .int .i64 x1, .int .i64 x2, .int .i64 x3, .int .i64 x4, .int .i64 x5] = w4 := ⟨_, rfl⟩
    rw [hw4] at HT4 HB4 HR4
    have HW4 := Lib.hid hw4
    clear hw4
    by_cases hd0 : dn = 0
    · have hdn0 : ((dn : Int) != 0) = false := by rw [hd0]; rfl
      have HD0 := Lib.hid hd0
      have u0 := cell_of_blk (j := 0) HT4.out rfl
      have u1 := cell_of_blk (j := 1) HT4.out rfl
      have u2 := cell_of_blk (j := 2) HT4.out rfl
      have u3 := cell_of_blk (j := 3) HT4.out rfl
      have u4 := cell_of_blk (j := 4) HT4.out rfl
      have u5 := cell_of_blk (j := 5) HT4.out rfl
      have HMY : Hid (Calls Tryd.prog 12 #[.agg #[.int .i64 x0, .int .i64 x1, .int .i64 x2, .int .i64 x3, .int .i64 x4, .int .i64 x5]] w4 fun x w' => x = .returned (.bool (decide (⟨x0, x1, x2, x3, x4, x5⟩ : T).may)) ∧ Below w4.heap.size w4 w') := may_any (⟨x0, x1, x2, x3, x4, x5⟩ : T) w4
      clear hd0
      go_wp2_with (first
        | ((with_reducible show wpList _ _ _ _ _ _); (refine wpList_store_row rfl 26 (.tmp 2) (.tmp 18) rfl w.heap.size #[.int .i64 x0, .int .i64 x1, .int .i64 x2, .int .i64 x3, .int .i64 x4, .int .i64 x5] rfl rfl 26 _ HZ3.out IC.out SC.out (cellsT (⟨x0, x1, x2, x3, x4, x5⟩ : T)) ?_); (rw [HW4.out]))
        )
      refine HMY.out.mono ?_
      rintro e5 w5 ⟨rfl, hb5⟩
      have HT5 : Hid (w5.heap[w.heap.size]? = some (.cells #[.int .i64 x0, .int .i64 x1, .int .i64 x2, .int .i64 x3, .int .i64 x4, .int .i64 x5] 26 (0, 0))) := (hb5.block _ (Array.getElem?_eq_some_iff.1 HT4.out).1).trans HT4.out
      have HB5 := Lib.hid (HB4.out.trans (hb5.mono HB4.out.size))
      have HR5 := Lib.hid ((HR4.out.below hb5).more hb5.size)
      clear hb5 u0 u1 u2 u3 u4 u5
      by_cases hmy : (⟨x0, x1, x2, x3, x4, x5⟩ : T).may
      · rw [decide_eq_true hmy]
        by_cases hl : TG.length = 32
        · have hl1 : ((TG.length : Int) != 32) = false := by rw [hl]; rfl
          have hrr : r = ((⟨x0, x1, x2, x3, x4, x5⟩ : T), TG, 0) := by have h1 := HRR.out; unfold opnF at h1; rw [if_neg (by simp), if_neg (by rw [HD0.out]; simp), if_pos ⟨hmy, hl⟩] at h1; exact h1
          have HRE := Lib.hid hrr
          have HHL := Lib.hid hl
          clear hl hmy hrr
          go_wp2_with (first
            | ((with_reducible show wpList _ _ _ _ _ _); (refine wpList_load_row rfl 26 (.tmp 2) rfl w.heap.size rfl 26 #[.int .i64 x0, .int .i64 x1, .int .i64 x2, .int .i64 x3, .int .i64 x4, .int .i64 x5] (0, 0) _ HT5.out Tryd.underlying26 rfl IC.out ?_))
            | ((with_reducible show wpList _ _ _ _ _ _); (refine wpList_store_row rfl 26 (.tmp 2) (.tmp 34) rfl w.heap.size #[.int .i64 x0, .int .i64 x1, .int .i64 x2, .int .i64 x3, .int .i64 x4, .int .i64 x5] rfl rfl 26 _ HT5.out IC.out rfl (cellsT (⟨x0, x1, x2, x3, x4, x5⟩ : T)) ?_)))
          refine bodyPost_ret (results_cell_tmps rfl _ _ w.heap.size #[.int .i64 x0, .int .i64 x1, .int .i64 x2, .int .i64 x3, .int .i64 x4, .int .i64 x5] rfl (run_loadVar_row _ _ 26 26 _ (0, 0) _ (setRow_heap _ _ _ _ _ _ HT5.out) Tryd.underlying26 rfl infoT)) rfl ?_
          rw [HRE.out]
          refine ⟨A3, TG.length, c3, rfl, ?_, HN3.out.1, HN3.out.2, below_setRow HB5.out (Nat.le_refl _) _⟩
          rw [size_setRow]
          exact row_setRow HR5.out _ HAD3.out
        · have hl1 : ((TG.length : Int) != 32) = true := bne_iff_ne.2 (by omega)
          have hrr : r = (T.zero, [], 2) := by have h1 := HRR.out; unfold opnF at h1; rw [if_neg (by simp), if_neg (by rw [HD0.out]; simp), if_neg (fun hh => hl hh.2)] at h1; exact h1
          have HRE := Lib.hid hrr
          have HHL := Lib.hid hl
          clear hl hmy hrr
          go_wp2_with (first
            | ((with_reducible show wpList _ _ _ _ _ _); (refine wpList_store_row rfl 26 (.tmp 2) (.tmp 33) rfl w.heap.size T.zero.cells rfl rfl 26 _ HT5.out I6.out rfl (cellsT _) ?_)))
          refine bodyPost_ret (results_cell_tmps rfl _ _ w.heap.size T.zero.cells rfl (run_loadVar_row _ _ 26 26 _ (0, 0) _ (setRow_heap _ _ _ _ _ _ HT5.out) Tryd.underlying26 rfl I6.out)) rfl ?_
          rw [HRE.out]
          exact ⟨none, 0, 0, rfl, Row.none_, fun _ => rfl, Nat.le_refl _, below_setRow HB5.out (Nat.le_refl _) _⟩
      · rw [decide_eq_false hmy]
        have hrr : r = (T.zero, [], 2) := by have h1 := HRR.out; unfold opnF at h1; rw [if_neg (by simp), if_neg (by rw [HD0.out]; simp), if_neg (fun hh => hmy hh.1)] at h1; exact h1
        have HRE := Lib.hid hrr
        clear hmy hrr
        go_wp2_with (first
          | ((with_reducible show wpList _ _ _ _ _ _); (refine wpList_store_row rfl 26 (.tmp 2) (.tmp 33) rfl w.heap.size T.zero.cells rfl rfl 26 _ HT5.out I6.out rfl (cellsT _) ?_)))
        refine bodyPost_ret (results_cell_tmps rfl _ _ w.heap.size T.zero.cells rfl (run_loadVar_row _ _ 26 26 _ (0, 0) _ (setRow_heap _ _ _ _ _ _ HT5.out) Tryd.underlying26 rfl I6.out)) rfl ?_
        rw [HRE.out]
        exact ⟨none, 0, 0, rfl, Row.none_, fun _ => rfl, Nat.le_refl _, below_setRow HB5.out (Nat.le_refl _) _⟩
    · have hdn0 : ((dn : Int) != 0) = true := bne_iff_ne.2 (by omega)
      have hrr : r = (T.zero, [], dn) := by have h1 := HRR.out; unfold opnF at h1; rw [if_neg (by simp), if_pos hd0] at h1; exact h1
      have HRE := Lib.hid hrr
      clear hd0 hrr
      go_wp2_with (first
        | ((with_reducible show wpList _ _ _ _ _ _); (refine wpList_store_row rfl 26 (.tmp 2) (.tmp 18) rfl w.heap.size #[.int .i64 x0, .int .i64 x1, .int .i64 x2, .int .i64 x3, .int .i64 x4, .int .i64 x5] rfl rfl 26 _ HZ3.out IC.out SC.out (cellsT (⟨x0, x1, x2, x3, x4, x5⟩ : T)) ?_); (rw [HW4.out]))
        | ((with_reducible show wpList _ _ _ _ _ _); (refine wpList_store_row rfl 26 (.tmp 2) (.tmp 23) rfl w.heap.size T.zero.cells rfl rfl 26 _ HT4.out I6.out rfl (cellsT _) ?_)))
      refine bodyPost_ret (results_cell_tmps rfl _ _ w.heap.size T.zero.cells rfl (run_loadVar_row _ _ 26 26 _ (0, 0) _ (setRow_heap _ _ _ _ _ _ HT4.out) Tryd.underlying26 rfl I6.out)) rfl ?_
      rw [HRE.out]
      exact ⟨none, 0, 0, rfl, Row.none_, fun _ => rfl, Nat.le_refl _, below_setRow HB4.out (Nat.le_refl _) _⟩
  · have hd : ((er : Int) != 0) = true := bne_iff_ne.2 (by omega)
    have hrr : r = (T.zero, [], er) := by have h1 := HR.out; unfold opnF at h1; rw [if_pos her] at h1; exact h1
    have HRE := Lib.hid hrr
    clear hrr her
    go_wp2_with (first
      | ((with_reducible show wpList _ _ _ _ _ _); (refine wpList_store_row rfl 26 (.tmp 2) (.tmp 13) rfl w.heap.size T.zero.cells rfl rfl 26 _ HZ2.out I6.out rfl (cellsT _) ?_)))
    refine bodyPost_ret (results_cell_tmps rfl _ _ w.heap.size T.zero.cells rfl (run_loadVar_row _ _ 26 26 _ (0, 0) _ (setRow_heap _ _ _ _ _ _ HZ2.out) Tryd.underlying26 rfl I6.out)) rfl ?_
    rw [HRE.out]
    exact ⟨none, 0, 0, rfl, Row.none_, fun _ => rfl, Nat.le_refl _, below_setRow HB2.out (Nat.le_refl _) _⟩
end Go.Proofs.YtmkdbpdfonpfdaaDoor.Tok

/- Layer 10 (token): the program's tagged and put, as contracts. -/
namespace Go.Proofs.YtmkdbpdfonpfdaaDoor.Tok
open Go.RowKit Slc Var Fld Frm Sha Hmc Rg

set_option maxHeartbeats 800000 in
set_option maxRecDepth 100000 in
theorem tagged_any (A : Option Addr) (n c : Nat) (k : List Int) (t : T) (ht : t.ok) (w : World) (h : Row .u8 w w.heap.size A n k) (hc : n ≤ c) (hn : n ≤ 100000) (hk : ∀ x ∈ k, 0 ≤ x ∧ x ≤ 255) (hT : Lay w) :
    Calls Tryd.prog 29 #[.slice A n c, t.val] w fun e w' => ∃ v, e = .returned v ∧ w'.ownsRow w.heap.size 5 1 v 32 ((tagT k t).map (Value.int .u8)) ∧ Below w.heap.size w w' := by
  obtain ⟨w1, hw1⟩ : ∃ w1, w.alloc (.cells t.cells 26) = w1 := ⟨_, rfl⟩
  have hb1 : Below w.heap.size w w1 := by rw [← hw1]; exact (Below.refl _ _).alloc (Nat.le_refl _) _
  have hT1 : w1.heap[w.heap.size]? = some (.cells t.cells 26 (0, 0)) := by rw [← hw1]; exact heap_alloc_new w _
  have HF := Lib.hid (fields_any t ht w1)
  have HFL := Lib.hid (flds_len ht)
  have HFB := Lib.hid (flds_byt t)
  have HB1 := Lib.hid hb1
  have HW1 := Lib.hid hw1
  have H := Lib.hid h
  have HC := Lib.hid hc
  have HN := Lib.hid hn
  have HK := Lib.hid hk
  have HT := Lib.hid hT
  unfold T.val at HF ⊢
  have eC : t.cells = #[.int .i64 t.tr, .int .i64 t.ac, .int .i64 t.st, .int .i64 t.is, .int .i64 t.un, .int .i64 t.ep] := rfl
  rw [eC] at hw1 hT1 HW1 HF ⊢
  have k0 : w1.cell? ⟨w.heap.size, 0, none⟩ = some (.int .i64 t.tr) := cell_of_blk hT1 rfl
  have k1 : w1.cell? ⟨w.heap.size, 1, none⟩ = some (.int .i64 t.ac) := cell_of_blk hT1 rfl
  have k2 : w1.cell? ⟨w.heap.size, 2, none⟩ = some (.int .i64 t.st) := cell_of_blk hT1 rfl
  have k3 : w1.cell? ⟨w.heap.size, 3, none⟩ = some (.int .i64 t.is) := cell_of_blk hT1 rfl
  have k4 : w1.cell? ⟨w.heap.size, 4, none⟩ = some (.int .i64 t.un) := cell_of_blk hT1 rfl
  have k5 : w1.cell? ⟨w.heap.size, 5, none⟩ = some (.int .i64 t.ep) := cell_of_blk hT1 rfl
  rw [← hw1] at k0 k1 k2 k3 k4 k5
  clear hw1 hb1 hT1 eC h hc hn hk hT
  go_enter Tryd.func29, Tryd.ntmps29
  go_wp2_with fail
  rw [HW1.out]
  refine HF.out.mono ?_
  rintro e2 w2 ⟨v2, rfl, hown2, hb2⟩
  obtain ⟨A2, c2, rfl, hc2, hnil2⟩ := own_slice hown2
  have hba : Below w2.heap.size w2 (w2.alloc (.cells #[.slice A2 (flds t).length c2] 29)) := (Below.refl _ _).alloc (Nat.le_refl _) _
  have hr2 : Row .u8 (w2.alloc (.cells #[.slice A2 (flds t).length c2] 29)) (w2.alloc (.cells #[.slice A2 (flds t).length c2] 29)).heap.size A2 (flds t).length (flds t) := ((Row.of_own hown2).below hba).more hba.size
  have hp : Prs (w2.alloc (.cells #[.slice A2 (flds t).length c2] 29)) (w2.alloc (.cells #[.slice A2 (flds t).length c2] 29)).heap.size (some ⟨w2.heap.size, 0, none⟩) 1 [⟨A2, (flds t).length, c2, flds t⟩] := Prs.of_blk (L := [⟨A2, (flds t).length, c2, flds t⟩]) (heap_alloc_new w2 _) (by simp) rfl (fun p hp => by
    obtain rfl := List.mem_singleton.1 hp
    exact ⟨hr2, hnil2⟩) (fun p hp => by
    obtain rfl := List.mem_singleton.1 hp
    exact ⟨hc2, HFB.out⟩)
  have hB2 : Below w.heap.size w w2 := HB1.out.trans (hb2.mono HB1.out.size)
  have hB3 : Below w.heap.size w (w2.alloc (.cells #[.slice A2 (flds t).length c2] 29)) := hB2.trans (hba.mono hB2.size)
  have HD := Lib.hid (derive_any A (some ⟨w2.heap.size, 0, none⟩) n c 1 1 k tokB _ (w2.alloc (.cells #[.slice A2 (flds t).length c2] 29)) ((H.out.below hB3).more hB3.size) HC.out HK.out hp (fun h => by cases h) HN.out (by show 5 ≤ 100000; omega) (by omega) (by show (flds t).length + 0 ≤ 100000; have := HFL.out; omega) (HT.out.below hB3 HT.out.tab.1))
  have hwh : whole [(⟨A2, (flds t).length, c2, flds t⟩ : Part)] = flds t := by simp [whole]
  rw [hwh, tokB_sby] at HD
  have HB3 := Lib.hid hB3
  clear hown2 hb2 hc2 hnil2 hba hr2 hp hB2 hB3 hwh k0 k1 k2 k3 k4 k5
  go_wp2_with fail
  refine HD.out.mono ?_
  rintro e4 w4 ⟨v4, rfl, hown4, hb4⟩
  have HO4 : Hid (w4.ownsRow w.heap.size 5 1 v4 32 ((tagT k t).map (Value.int .u8))) := own_low hown4 HB3.out.size
  have HB4 := Lib.hid (HB3.out.trans (hb4.mono HB3.out.size))
  clear hown4 hb4
  go_wp2
  go_ret
  exact ⟨_, rfl, HO4.out, HB4.out⟩

/-- slices.Concat of two. -/
theorem concat_two (A1 A2 : Option Addr) (n1 c1 n2 c2 : Nat) (xs ys : List Int) (w : World) (h1 : Row .u8 w w.heap.size A1 n1 xs) (h2 : Row .u8 w w.heap.size A2 n2 ys) (i1 : A1 = none → c1 = 0) (i2 : A2 = none → c2 = 0) (hn : n1 + n2 ≤ 4398046511104) :
    Calls Tryd.prog 55 #[.slice (some ⟨w.heap.size, 0, none⟩) 2 2] (w.alloc (.cells #[.slice A1 n1 c1, .slice A2 n2 c2] 29)) fun e w' =>
      ∃ v, e = .returned v ∧ w'.ownsRow w.heap.size 5 1 v (n1 + n2) ((xs ++ ys).map (Value.int .u8)) ∧ Below w.heap.size w w' := by
  have hb := (Below.refl w.heap.size w).alloc (Nat.le_refl _) (.cells #[.slice A1 n1 c1, .slice A2 n2 c2] 29)
  refine (concat_any [Part.mk A1 n1 c1 xs, Part.mk A2 n2 c2 ys] w.heap.size 2 w.heap.size _ ?_ ?_ hb.size (by simp) (by simp [total]; omega) (by simp)).mono ?_
  · intro j hj
    match j, hj with
    | 0, _ => simp [Part.v]
    | 1, _ => simp [Part.v]
  · intro p hp
    simp only [List.mem_cons, List.not_mem_nil, or_false] at hp
    rcases hp with rfl | rfl
    · exact ⟨h1.below hb, i1⟩
    · exact ⟨h2.below hb, i2⟩
  · rintro e w' ⟨v, rfl, hown, hb'⟩
    have ht : total [Part.mk A1 n1 c1 xs, Part.mk A2 n2 c2 ys] = n1 + n2 := by simp [total]
    have hw : whole [Part.mk A1 n1 c1 xs, Part.mk A2 n2 c2 ys] = xs ++ ys := by simp [whole]
    rw [ht, hw] at hown
    exact ⟨v, rfl, own_low hown hb.size, hb.trans (hb'.mono hb.size)⟩

set_option maxHeartbeats 1600000 in
set_option maxRecDepth 100000 in
theorem tput_any (A : Option Addr) (c : Nat) (k : List Int) (t : T) (ht : t.ok) (w : World) (h : Row .u8 w w.heap.size A 32 (tagT k t)) (hnil : A = none → c = 0) :
    Calls Tryd.prog 28 #[t.val, .slice A 32 c] w fun e w' => ∃ v, e = .returned (.tuple #[v, .int .i64 0]) ∧ w'.ownsRow w.heap.size 5 1 v (frame 2 (body k t)).length ((frame 2 (body k t)).map (Value.int .u8)) ∧ Below w.heap.size w w' := by
  obtain ⟨w1, hw1⟩ : ∃ w1, w.alloc (.cells t.cells 26) = w1 := ⟨_, rfl⟩
  have hs1 : w1.heap.size = w.heap.size + 1 := by rw [← hw1]; simp
  have hb1 : Below w.heap.size w w1 := by rw [← hw1]; exact (Below.refl _ _).alloc (Nat.le_refl _) _
  obtain ⟨w2, hw2⟩ : ∃ w2, w1.alloc (.cells #[.slice none 0 0] 65) = w2 := ⟨_, rfl⟩
  have hw0 : Wr w2 (w.heap.size + 1) (w.heap.size + 1) (.slice none 0 0) 0 [] := by
    rw [← hw2, ← hs1]
    exact ⟨heap_alloc_new w1 _, World.ownsRow_nil _ _ _ _, by simp [Value.ownBlock], Nat.le_refl _⟩
  have hb2 : Below w1.heap.size w1 w2 := by rw [← hw2]; exact (Below.refl _ _).alloc (Nat.le_refl _) _
  have hT2 : w2.heap[w.heap.size]? = some (.cells t.cells 26 (0, 0)) := by
    rw [hb2.block w.heap.size (by omega), ← hw1]
    exact heap_alloc_new w _
  have hb02 : Below w.heap.size w w2 := hb1.trans (hb2.mono (by omega))
  have HBY := Lib.hid (bytes_any (w.heap.size + 1) (w.heap.size + 1) 0 (.slice none 0 0) [] A 32 c (tagT k t) w2 hw0 ((h.below hb02).more (by omega)) hnil (by omega))
  have HW0 := Lib.hid hw0
  have HB2 := Lib.hid hb02
  have HFL := Lib.hid (flds_len ht)
  have HBL := Lib.hid (body_len (k := k) ht)
  have HBB := Lib.hid (body_byt k t)
  have HTO := Lib.hid ht
  have HS1 := Lib.hid hs1
  have HW1 := Lib.hid hw1
  have HW2 := Lib.hid hw2
  have HN32 : Hid ((num ((32 : Nat) : Int)).length ≤ 10) := num_len (by omega)
  obtain ⟨Y, hY⟩ : ∃ Y, Y = num ((32 : Nat) : Int) ++ tagT k t := ⟨_, rfl⟩
  have HYB : Hid (flds t ++ Y = body k t) := by unfold Hid; rw [hY]; rfl
  have HYL : Hid (Y.length ≤ 42) := by unfold Hid; rw [hY, List.length_append, tagT_len]; have h1 := HN32.out; omega
  rw [← hY] at HBY
  unfold T.val
  have eC : t.cells = #[.int .i64 t.tr, .int .i64 t.ac, .int .i64 t.st, .int .i64 t.is, .int .i64 t.un, .int .i64 t.ep] := rfl
  rw [eC] at hw1 hT2 HW1 ⊢
  have HT2 := Lib.hid hT2
  clear h hnil ht hs1 hb1 hw0 hb2 hb02 hY hT2 hw1 hw2 eC
  go_enter Tryd.func28, Tryd.ntmps28
  go_wp2_with fail
  rw [HW1.out, HW2.out]
  refine HBY.out.mono ?_
  rintro e3 w3 ⟨rfl, v3, hw3, hm3⟩
  have HW3 := Lib.hid hw3
  have hbb3 := HW0.out.below_of hm3
  have HT3 : Hid (w3.heap[w.heap.size]? = some (.cells #[.int .i64 t.tr, .int .i64 t.ac, .int .i64 t.st, .int .i64 t.is, .int .i64 t.un, .int .i64 t.ep] 26 (0, 0))) := (hbb3.block _ (by have := HS1.out; omega)).trans HT2.out
  have HB3 := Lib.hid (HB2.out.trans (hbb3.mono (by have := HS1.out; omega)))
  have k0 : w3.cell? ⟨w.heap.size, 0, none⟩ = some (.int .i64 t.tr) := cell_of_blk HT3.out rfl
  have k1 : w3.cell? ⟨w.heap.size, 1, none⟩ = some (.int .i64 t.ac) := cell_of_blk HT3.out rfl
  have k2 : w3.cell? ⟨w.heap.size, 2, none⟩ = some (.int .i64 t.st) := cell_of_blk HT3.out rfl
  have k3 : w3.cell? ⟨w.heap.size, 3, none⟩ = some (.int .i64 t.is) := cell_of_blk HT3.out rfl
  have k4 : w3.cell? ⟨w.heap.size, 4, none⟩ = some (.int .i64 t.un) := cell_of_blk HT3.out rfl
  have k5 : w3.cell? ⟨w.heap.size, 5, none⟩ = some (.int .i64 t.ep) := cell_of_blk HT3.out rfl
  have hf := fields_any t HTO.out w3
  unfold T.val T.cells at hf
  have HF := Lib.hid hf
  clear hw3 hm3 hbb3 HBY HW0 HT2 HT3 hf
  go_wp2_with fail
  refine HF.out.mono ?_
  rintro e4 w4 ⟨v4, rfl, hown4, hb4⟩
  obtain ⟨A4, c4, rfl, hc4, hnil4⟩ := own_slice hown4
  have HW4 := Lib.hid (HW3.out.below hb4)
  have HO4 := Lib.hid hown4
  have HI4 := Lib.hid hnil4
  have HB4 := Lib.hid (HB3.out.trans (hb4.mono HB3.out.size))
  clear hown4 hb4 hc4 hnil4 k0 k1 k2 k3 k4 k5 HF HW3
  go_wp2_with fail
  refine (out_any (w.heap.size + 1) (w.heap.size + 1) _ v3 _ w4 HW4.out (by have := HYL.out; omega)).mono ?_
  rintro e5 w5 ⟨v5, rfl, hown5, hb5⟩
  rw [Nat.zero_add, List.nil_append] at hown5
  obtain ⟨A5, c5, rfl, hc5, hnil5⟩ := own_slice hown5
  have HB5 := Lib.hid (HB4.out.trans (hb5.mono HB4.out.size))
  have hcc := concat_two A4 A5 (flds t).length c4 Y.length c5 (flds t) Y w5 (((Row.of_own HO4.out).below hb5).more hb5.size) (Row.of_own hown5) HI4.out hnil5 (by have := HYL.out; have := HFL.out; omega)
  rw [← List.length_append, HYB.out] at hcc
  have HCC := Lib.hid hcc
  obtain ⟨nY, hnY⟩ : ∃ m, m = 0 + Y.length := ⟨_, rfl⟩
  have HNY := Lib.hid hnY
  clear hown5 hb5 hc5 hnil5 hcc HO4 hnY
  go_wp2_with fail
  refine HCC.out.mono ?_
  rintro e6 w6 ⟨v6, rfl, hown6, hb6⟩
  obtain ⟨A6, c6, rfl, -, hnil6⟩ := own_slice hown6
  have HB6 := Lib.hid (HB5.out.trans (hb6.mono HB5.out.size))
  have HP := Lib.hid (put_any 2 (by omega) A6 (body k t).length c6 (body k t) w6 (Row.of_own hown6) hnil6 HBB.out (by have := HBL.out; omega))
  clear hown6 hb6 hnil6 HCC
  go_wp2_with fail
  refine HP.out.mono ?_
  rintro e7 w7 ⟨v7, rfl, hown7, hb7⟩
  have HO7 : Hid (w7.ownsRow w.heap.size 5 1 v7 (frame 2 (body k t)).length ((frame 2 (body k t)).map (Value.int .u8))) := own_low hown7 HB6.out.size
  have HB7 := Lib.hid (HB6.out.trans (hb7.mono HB6.out.size))
  clear hown7 hb7 HP
  go_wp2
  go_ret2
  exact ⟨v7, rfl, HO7.out, HB7.out⟩
end Go.Proofs.YtmkdbpdfonpfdaaDoor.Tok

/- Layer 10 (token): the program's Verify, as a contract. -/
namespace Go.Proofs.YtmkdbpdfonpfdaaDoor.Tok
open Go.RowKit Var Fld Frm Sha Hmc Rg

theorem fnd_small {w : World} {B n : Nat} {A : Option Addr} {K : List Kp} (h : KRow w B A n K) (hk : ∀ k ∈ K, k.p.n ≤ 1000) {e : Int} {x : List Int} (hx : fnd (ls K) e = some x) : x.length ≤ 1000 := by
  unfold fnd at hx
  cases hf : (ls K).find? (fun k => k.1 == e) with
  | none => rw [hf] at hx; cases hx
  | some q =>
    rw [hf] at hx
    obtain ⟨k, hk', rfl⟩ := List.mem_map.1 (List.mem_of_find?_eq_some hf)
    have h1 := hk k hk'
    have h2 := (h.ok k hk').len
    simp only [Option.map_some, Option.some.injEq, Kp.l] at hx
    rw [← hx]
    omega

set_option maxHeartbeats 3200000 in
set_option maxRecDepth 100000 in
theorem verify_any (keep nw : Int) (A A' : Option Addr) (n c n' c' : Nat) (K : List Kp) (b : List Int) (w : World) (h : KRow w w.heap.size A n K) (hs : Small n K)
    (h' : Row .u8 w w.heap.size A' n' b) (hnil' : A' = none → c' = 0) (hb : Byt b) (hc' : n' ≤ c') (hcm' : c' ≤ maxLen) (hn' : n' ≤ 4398046511104) (hT : Lay w) :
    Calls Tryd.prog 18 #[.agg #[.int .i64 keep, .slice A n c], .slice A' n' c', .int .i64 nw] w (VerTo w (verify (ls K) b nw)) := by
  have H := Lib.hid h
  have HSM := Lib.hid hs
  have HLY := Lib.hid hT
  obtain ⟨w2, hw2⟩ : ∃ w2, (w.alloc (.cells #[.int .i64 keep, .slice A n c] 24)).alloc (.cells T.zero.cells 26) = w2 := ⟨_, rfl⟩
  have hb2 : Below w.heap.size w w2 := by rw [← hw2]; exact ((Below.refl _ _).alloc (Nat.le_refl _) _).alloc (by simp) _
  have hs2 : w2.heap.size = w.heap.size + 1 + 1 := by rw [← hw2]; simp
  have HG0 : Hid (w2.heap[w.heap.size]? = some (.cells #[.int .i64 keep, .slice A n c] 24 (0, 0))) := by unfold Hid; rw [← hw2]; exact heap_alloc2_old w _ _
  have HZ0 : Hid (w2.heap[w.heap.size + 1]? = some (.cells T.zero.cells 26 (0, 0))) := by unfold Hid; rw [← hw2]; exact heap_alloc2_new w _ _
  have HB2 := Lib.hid hb2
  have HS2 := Lib.hid hs2
  have HW2 := Lib.hid hw2
  have HO := Lib.hid (open_any A' n' c' b w2 ((h'.below hb2).more hb2.size) hnil' hb hc' hcm' hn')
  have HMAY := Lib.hid (fun h => opn_may (b := b) h)
  have HTB := Lib.hid (tagOf_byt hb)
  obtain ⟨r, hr⟩ : ∃ r, r = verify (ls K) b nw := ⟨_, rfl⟩
  rw [← hr]
  unfold verify at hr
  obtain ⟨q, hq⟩ : ∃ q, q = opn b := ⟨_, rfl⟩
  rw [← hq] at hr HO HTB
  have HMAY2 : Hid (q.2.2 = 0 → q.1.may ∧ q.2.1.length = 32) := by unfold Hid; rw [hq]; exact HMAY.out
  obtain ⟨U, tg, er⟩ := q
  have HR := Lib.hid hr
  have HTBY : Hid (∀ x ∈ tg, 0 ≤ x ∧ x ≤ 255) := HTB.out
  have I6 : Hid ((Tryd.prog.info? 26).map (·.size) = some T.zero.cells.size) := infoT
  clear h hs hb2 hs2 hw2 h' hnil' hb hn' hc' hcm' hr hq HMAY hT HTB
  go_enter Tryd.func18, Tryd.ntmps18
  go_wp2_with fail
  refine Calls.mono (by have h1 := HO.out; rw [← HW2.out] at h1; exact h1) ?_
  rintro e3 w3 ⟨A3, n3, c3, rfl, hr3, hnil3, hnc3, hb3⟩
  rw [HW2.out] at hb3
  have HR3 := Lib.hid hr3
  have HB3 := Lib.hid (HB2.out.trans (hb3.mono HB2.out.size))
  have HZ3 : Hid (w3.heap[w.heap.size + 1]? = some (.cells T.zero.cells 26 (0, 0))) := (hb3.block _ (by have := HS2.out; omega)).trans HZ0.out
  have HG3 : Hid (w3.heap[w.heap.size]? = some (.cells #[.int .i64 keep, .slice A n c] 24 (0, 0))) := (hb3.block _ (by have := HS2.out; omega)).trans HG0.out
  obtain ⟨utr, uac, ust, uis, uun, uep⟩ := U
  have eU : (⟨utr, uac, ust, uis, uun, uep⟩ : T).cells = #[.int .i64 utr, .int .i64 uac, .int .i64 ust, .int .i64 uis, .int .i64 uun, .int .i64 uep] := rfl
  unfold T.val
  rw [eU]
  obtain ⟨w4, hw4⟩ : ∃ w4, w3.alloc (.cells #[.int .i64 utr, .int .i64 uac, .int .i64 ust, .int .i64 uis, .int .i64 uun, .int .i64 uep] 26) = w4 := ⟨_, rfl⟩
  have hal : Below w3.heap.size w3 w4 := by rw [← hw4]; exact (Below.refl _ _).alloc (Nat.le_refl _) _
  have HT4 : Hid (w4.heap[w3.heap.size]? = some (.cells #[.int .i64 utr, .int .i64 uac, .int .i64 ust, .int .i64 uis, .int .i64 uun, .int .i64 uep] 26 (0, 0))) := by unfold Hid; rw [← hw4]; exact heap_alloc_new w3 _
  have HZ4 : Hid (w4.heap[w.heap.size + 1]? = some (.cells T.zero.cells 26 (0, 0))) := (hal.block _ (Array.getElem?_eq_some_iff.1 HZ3.out).1).trans HZ3.out
  have HG4 : Hid (w4.heap[w.heap.size]? = some (.cells #[.int .i64 keep, .slice A n c] 24 (0, 0))) := (hal.block _ (Array.getElem?_eq_some_iff.1 HG3.out).1).trans HG3.out
  have HB4 := Lib.hid (HB3.out.trans (hal.mono HB3.out.size))
  have HR4 : Hid (Row .u8 w4 w4.heap.size A3 n3 tg) := (HR3.out.below hal).more hal.size
  have HTOP : Hid (w.heap.size + 1 < w3.heap.size) := (Array.getElem?_eq_some_iff.1 HZ3.out).1
  have HW4 := Lib.hid hw4
  clear hr3 hnil3 hnc3 hb3 hal HR3 HB3 HZ3 HG3 HG0 HZ0 HB2 HO eU
  by_cases her : er = 0
  · subst her
    obtain ⟨hmay, htl⟩ := HMAY2.out rfl
    have hok := hmay.ok
    have HOK := Lib.hid hok
    have HTL : Hid (tg.length = 32) := htl
    have hr2 := HR.out
    rw [if_neg (by simp)] at hr2
    simp only at hr2
    have HR5 := Lib.hid hr2
    have g0 : w4.cell? ⟨w.heap.size, 0, none⟩ = some (.int .i64 keep) := cell_of_blk HG4.out rfl
    have g1 : w4.cell? ⟨w.heap.size, 1, none⟩ = some (.slice A n c) := cell_of_blk HG4.out rfl
    have u5 : w4.cell? ⟨w3.heap.size, 5, none⟩ = some (.int .i64 uep) := cell_of_blk HT4.out rfl
    have HFI := Lib.hid (find_any keep uep A n c w.heap.size K w4 (H.out.below HB4.out) HB4.out.size (by have := HSM.out.1; omega) HSM.out.2)
    rw [← hw4] at g0 g1 u5
    clear hmay hok htl hr2 HR HMAY2 hw4
    go_wp2_with fail
    rw [HW4.out]
    refine HFI.out.mono ?_
    rintro e5 w5 ⟨A5, n5, c5, rfl, hr5, hnil5, hnc5, hb5⟩
    have HBR := Lib.hid hr5
    have HN5 := Lib.hid (And.intro hnil5 hnc5)
    have HB5 := Lib.hid (HB4.out.trans (hb5.mono HB4.out.size))
    have HT5 : Hid (w5.heap[w3.heap.size]? = some (.cells #[.int .i64 utr, .int .i64 uac, .int .i64 ust, .int .i64 uis, .int .i64 uun, .int .i64 uep] 26 (0, 0))) := (hb5.block _ (Array.getElem?_eq_some_iff.1 HT4.out).1).trans HT4.out
    have HZ5 : Hid (w5.heap[w.heap.size + 1]? = some (.cells T.zero.cells 26 (0, 0))) := (hb5.block _ (Array.getElem?_eq_some_iff.1 HZ4.out).1).trans HZ4.out
    have HR45 := Lib.hid ((HR4.out.below hb5).more hb5.size)
    clear hr5 hnil5 hnc5 hb5 g0 g1 u5 HW4
    generalize w3.heap.size = G3 at *
    cases hfn : fnd (ls K) uep with
    | none =>
      have hrr : r = (T.zero, 20) := by have h1 := HR5.out; rw [hfn] at h1; exact h1
      have HRE := Lib.hid hrr
      rw [show (none : Option (List Int)).isSome = false from rfl]
      clear hrr hfn
      go_wp2_with (first
        | ((with_reducible show wpList _ _ _ _ _ _); (refine wpList_store_row rfl 26 (.tmp 6) (.tmp 33) rfl (w.heap.size + 1) T.zero.cells rfl rfl 26 _ HZ5.out I6.out rfl (cellsT _) ?_)))
      refine bodyPost_ret (results_cell_one rfl _ _ (w.heap.size + 1) T.zero.cells rfl (run_loadVar_row _ _ 26 26 _ (0, 0) _ (setRow_heap _ _ _ _ _ _ HZ5.out) Tryd.underlying26 rfl I6.out)) rfl ?_
      rw [HRE.out]
      exact ⟨rfl, below_setRow HB5.out (Nat.le_succ _) _⟩
    | some k =>
      have hr6 := HR5.out
      have hr7 := HBR.out
      have hx1 := fnd_small H.out HSM.out.2 hfn
      rw [hfn] at hr6 hr7
      simp only [Option.getD_some] at hr6 hr7
      have HR6 := Lib.hid hr6
      have HRK := Lib.hid hr7
      have HX1 := Lib.hid hx1
      have hkb := fnd_byt H.out hfn
      have HKB := Lib.hid hkb
      rw [show (some k).isSome = true from rfl]
      clear hr6 hr7 hx1 hfn hkb HBR HR5
      have u0 := cell_of_blk (j := 0) HT5.out rfl
      have u1 := cell_of_blk (j := 1) HT5.out rfl
      have u2 := cell_of_blk (j := 2) HT5.out rfl
      have u3 := cell_of_blk (j := 3) HT5.out rfl
      have u4 := cell_of_blk (j := 4) HT5.out rfl
      have u5 := cell_of_blk (j := 5) HT5.out rfl
      have HTG : Hid (Calls Tryd.prog 29 #[.slice A5 n5 c5, .agg #[.int .i64 utr, .int .i64 uac, .int .i64 ust, .int .i64 uis, .int .i64 uun, .int .i64 uep]] w5 fun e w' => ∃ v, e = .returned v ∧ w'.ownsRow w5.heap.size 5 1 v 32 ((tagT k (⟨utr, uac, ust, uis, uun, uep⟩ : T)).map (Value.int .u8)) ∧ Below w5.heap.size w5 w') := tagged_any A5 n5 c5 k (⟨utr, uac, ust, uis, uun, uep⟩ : T) HOK.out w5 HRK.out HN5.out.2 (by have h1 := HRK.out.len; have h2 := HX1.out; omega) HKB.out (HLY.out.below HB5.out HLY.out.tab.1)
      go_wp2_with fail
      refine HTG.out.mono ?_
      rintro e6 w6 ⟨v6, rfl, hown6, hb6⟩
      obtain ⟨A6, c6, rfl, -, -⟩ := own_slice hown6
      have HR6' : Hid (Row .u8 w6 w6.heap.size A6 32 (tagT k (⟨utr, uac, ust, uis, uun, uep⟩ : T))) := Row.of_own hown6
      have HRT6 := Lib.hid ((HR45.out.below hb6).more hb6.size)
      have HB6 := Lib.hid (HB5.out.trans (hb6.mono HB5.out.size))
      have HT6 : Hid (w6.heap[G3]? = some (.cells #[.int .i64 utr, .int .i64 uac, .int .i64 ust, .int .i64 uis, .int .i64 uun, .int .i64 uep] 26 (0, 0))) := (hb6.block _ (Array.getElem?_eq_some_iff.1 HT5.out).1).trans HT5.out
      have HZ6 : Hid (w6.heap[w.heap.size + 1]? = some (.cells T.zero.cells 26 (0, 0))) := (hb6.block _ (Array.getElem?_eq_some_iff.1 HZ5.out).1).trans HZ5.out
      have hn3 : n3 ≤ 1099511627776 := by have h1 := HRT6.out.len; have h2 := HTL.out; omega
      clear hown6 hb6 u0 u1 u2 u3 u4 u5
      go_wp2_with fail
      refine (psame_any A3 A6 n3 c3 32 c6 _ _ tg (tagT k (⟨utr, uac, ust, uis, uun, uep⟩ : T)) w6 HRT6.out HR6'.out hn3 (by omega) HTBY.out (tagT_byt k (⟨utr, uac, ust, uis, uun, uep⟩ : T))).mono ?_
      rintro e7 w7 ⟨rfl, q7, rfl⟩
      have HB7 : Hid (Below w.heap.size w (w6.drewN q7)) := Rg.below_drewN HB6.out
      have HT7 : Hid ((w6.drewN q7).heap[G3]? = some (.cells #[.int .i64 utr, .int .i64 uac, .int .i64 ust, .int .i64 uis, .int .i64 uun, .int .i64 uep] 26 (0, 0))) := HT6.out
      have HZ7 : Hid ((w6.drewN q7).heap[w.heap.size + 1]? = some (.cells T.zero.cells 26 (0, 0))) := HZ6.out
      generalize w6.drewN q7 = w7 at *
      by_cases htag : tg = tagT k (⟨utr, uac, ust, uis, uun, uep⟩ : T)
      · rw [decide_eq_true htag]
        have h1 := HR6.out
        rw [if_neg (by simp only [ne_eq, Decidable.not_not]; exact htag.symm)] at h1
        have HR8 := Lib.hid h1
        have k3 := cell_of_blk (j := 3) HT7.out rfl
        have k4 := cell_of_blk (j := 4) HT7.out rfl
        have HWI := Lib.hid (within_any nw uis uun w7)
        clear h1 htag
        go_wp2_with fail
        refine HWI.out.mono ?_
        rintro e8 w8 ⟨rfl, rfl⟩
        by_cases hin : uis ≤ nw ∧ nw ≤ uun
        · have hf : fr nw uis uun = true := by unfold fr; simp [hin.1, hin.2]
          have hrr : r = ((⟨utr, uac, ust, uis, uun, uep⟩ : T), 0) := by have h1 := HR8.out; rw [if_neg (by omega)] at h1; exact h1
          have HRE := Lib.hid hrr
          have IC : Hid ((Tryd.prog.info? 26).map (·.size) = some (#[.int .i64 utr, .int .i64 uac, .int .i64 ust, .int .i64 uis, .int .i64 uun, .int .i64 uep] : Array Value).size) := infoT
          rw [hf]
          clear hrr hin hf
          go_wp2_with (first
            | ((with_reducible show wpList _ _ _ _ _ _); (refine wpList_load_row rfl 26 (.tmp 8) rfl G3 rfl 26 #[.int .i64 utr, .int .i64 uac, .int .i64 ust, .int .i64 uis, .int .i64 uun, .int .i64 uep] (0, 0) _ HT7.out Tryd.underlying26 rfl IC.out ?_))
            | ((with_reducible show wpList _ _ _ _ _ _); (refine wpList_store_row rfl 26 (.tmp 6) (.tmp 51) rfl (w.heap.size + 1) #[.int .i64 utr, .int .i64 uac, .int .i64 ust, .int .i64 uis, .int .i64 uun, .int .i64 uep] rfl rfl 26 _ HZ7.out IC.out rfl (cellsT (⟨utr, uac, ust, uis, uun, uep⟩ : T)) ?_)))
          refine bodyPost_ret (results_cell_one rfl _ _ (w.heap.size + 1) #[.int .i64 utr, .int .i64 uac, .int .i64 ust, .int .i64 uis, .int .i64 uun, .int .i64 uep] rfl (run_loadVar_row _ _ 26 26 _ (0, 0) _ (setRow_heap _ _ _ _ _ _ HZ7.out) Tryd.underlying26 rfl infoT)) rfl ?_
          rw [HRE.out]
          exact ⟨rfl, below_setRow HB7.out (Nat.le_succ _) _⟩
        · have hf : fr nw uis uun = false := by
            cases h2 : fr nw uis uun with
            | false => rfl
            | true => exact absurd (fr_yes h2) hin
          have hrr : r = (T.zero, 22) := by have h1 := HR8.out; rw [if_pos (by omega)] at h1; exact h1
          have HRE := Lib.hid hrr
          rw [hf]
          clear hrr hin hf
          go_wp2_with (first
            | ((with_reducible show wpList _ _ _ _ _ _); (refine wpList_store_row rfl 26 (.tmp 6) (.tmp 50) rfl (w.heap.size + 1) T.zero.cells rfl rfl 26 _ HZ7.out I6.out rfl (cellsT _) ?_)))
          refine bodyPost_ret (results_cell_one rfl _ _ (w.heap.size + 1) T.zero.cells rfl (run_loadVar_row _ _ 26 26 _ (0, 0) _ (setRow_heap _ _ _ _ _ _ HZ7.out) Tryd.underlying26 rfl I6.out)) rfl ?_
          rw [HRE.out]
          exact ⟨rfl, below_setRow HB7.out (Nat.le_succ _) _⟩
      · rw [decide_eq_false htag]
        have hrr : r = (T.zero, 21) := by
          have h1 := HR6.out
          rw [if_pos (by simp only [ne_eq]; exact fun e => htag e.symm)] at h1
          exact h1
        have HRE := Lib.hid hrr
        clear hrr htag
        go_wp2_with (first
          | ((with_reducible show wpList _ _ _ _ _ _); (refine wpList_store_row rfl 26 (.tmp 6) (.tmp 41) rfl (w.heap.size + 1) T.zero.cells rfl rfl 26 _ HZ7.out I6.out rfl (cellsT _) ?_)))
        refine bodyPost_ret (results_cell_one rfl _ _ (w.heap.size + 1) T.zero.cells rfl (run_loadVar_row _ _ 26 26 _ (0, 0) _ (setRow_heap _ _ _ _ _ _ HZ7.out) Tryd.underlying26 rfl I6.out)) rfl ?_
        rw [HRE.out]
        exact ⟨rfl, below_setRow HB7.out (Nat.le_succ _) _⟩
  · have hd : ((er : Int) != 0) = true := bne_iff_ne.2 (by omega)
    have hrr : r = (T.zero, er) := by have h1 := HR.out; rw [if_pos her] at h1; exact h1
    have HRE := Lib.hid hrr
    have HWF : Hid (w3.alloc (.cells #[.int .i64 utr, .int .i64 uac, .int .i64 ust, .int .i64 uis, .int .i64 uun, .int .i64 uep] 26) = w4) := HW4.out
    clear hrr her hw4 HR HMAY2
    have HZ4' : Hid ((w3.alloc (.cells #[.int .i64 utr, .int .i64 uac, .int .i64 ust, .int .i64 uis, .int .i64 uun, .int .i64 uep] 26)).heap[w.heap.size + 1]? = some (.cells T.zero.cells 26 (0, 0))) := by unfold Hid; rw [HWF.out]; exact HZ4.out
    have HB4' : Hid (Below w.heap.size w (w3.alloc (.cells #[.int .i64 utr, .int .i64 uac, .int .i64 ust, .int .i64 uis, .int .i64 uun, .int .i64 uep] 26))) := by unfold Hid; rw [HWF.out]; exact HB4.out
    go_wp2_with (first
      | ((with_reducible show wpList _ _ _ _ _ _); (refine wpList_store_row rfl 26 (.tmp 6) (.tmp 21) rfl (w.heap.size + 1) T.zero.cells rfl rfl 26 _ HZ4'.out I6.out rfl (cellsT _) ?_)))
    refine bodyPost_ret (results_cell_one rfl _ _ (w.heap.size + 1) T.zero.cells rfl (run_loadVar_row _ _ 26 26 _ (0, 0) _ (setRow_heap _ _ _ _ _ _ HZ4'.out) Tryd.underlying26 rfl I6.out)) rfl ?_
    rw [HRE.out]
    exact ⟨rfl, below_setRow HB4'.out (Nat.le_succ _) _⟩
end Go.Proofs.YtmkdbpdfonpfdaaDoor.Tok

/- Layer 10 (token): the program's Issue, as a contract. -/
namespace Go.Proofs.YtmkdbpdfonpfdaaDoor.Tok
open Go.RowKit Var Fld Frm Sha Hmc Rg

theorem now_last {keep : Int} {E : List Kl} (h : RtP keep E) : fnd E (now E) = some (lastK E) ∧ (lastK E).length = 32 := by
  have h1 := h.2.2.1
  obtain ⟨k, hk⟩ : ∃ k, E[E.length - 1]? = some k := ⟨_, List.getElem?_eq_getElem (by omega)⟩
  rw [now_at hk, lastK_at hk]
  exact ⟨fnd_at h hk, (h.2.2.2.2 _ _ hk).1⟩

set_option maxHeartbeats 3200000 in
set_option maxRecDepth 100000 in
theorem issue_any (keep : Int) (A : Option Addr) (n c : Nat) (K : List Kp) (t : T) (w : World) (h : KRow w w.heap.size A n K) (hs : Small n K) (hT : Lay w) :
    Calls Tryd.prog 9 #[.agg #[.int .i64 keep, .slice A n c], t.val] w (IssTo w (issue keep (ls K) t)) := by
  have H := Lib.hid h
  have HSM := Lib.hid hs
  have HLY := Lib.hid hT
  obtain ⟨w2, hw2⟩ : ∃ w2, (w.alloc (.cells #[.int .i64 keep, .slice A n c] 24)).alloc (.cells t.cells 26) = w2 := ⟨_, rfl⟩
  have hb2 : Below w.heap.size w w2 := by rw [← hw2]; exact ((Below.refl _ _).alloc (Nat.le_refl _) _).alloc (by simp) _
  have hs2 : w2.heap.size = w.heap.size + 1 + 1 := by rw [← hw2]; simp
  have HG0 : Hid (w2.heap[w.heap.size]? = some (.cells #[.int .i64 keep, .slice A n c] 24 (0, 0))) := by unfold Hid; rw [← hw2]; exact heap_alloc2_old w _ _
  have HT0 : Hid (w2.heap[w.heap.size + 1]? = some (.cells t.cells 26 (0, 0))) := by unfold Hid; rw [← hw2]; exact heap_alloc2_new w _ _
  have g0 : w2.cell? ⟨w.heap.size, 0, none⟩ = some (.int .i64 keep) := cell_of_blk HG0.out rfl
  have g1 : w2.cell? ⟨w.heap.size, 1, none⟩ = some (.slice A n c) := cell_of_blk HG0.out rfl
  have HB2 := Lib.hid hb2
  have HS2 := Lib.hid hs2
  have HN0 := Lib.hid (now_any keep A n c w.heap.size K w2 (h.below hb2) hb2.size (by have := hs.1; omega))
  obtain ⟨N, hN⟩ : ∃ N, N = now (ls K) := ⟨_, rfl⟩
  obtain ⟨r, hr⟩ : ∃ r, r = issue keep (ls K) t := ⟨_, rfl⟩
  have HNO : Hid (¬ (RtP keep (ls K) ∧ (t.at N).may) → r = ([], 2)) := fun hh => by rw [hr]; exact issue_no (by rwa [← hN])
  have HYES : Hid (RtP keep (ls K) ∧ (t.at N).may → r = (frame 2 (body (lastK (ls K)) (t.at N)), 0)) := fun hh => by rw [hr, hN]; exact issue_yes (by rwa [← hN])
  have HLAST : Hid (RtP keep (ls K) → fnd (ls K) N = some (lastK (ls K)) ∧ (lastK (ls K)).length = 32) := fun hh => by rw [hN]; exact now_last hh
  rw [← hr]
  rw [← hN] at HN0
  unfold T.val
  have eC : t.cells = #[.int .i64 t.tr, .int .i64 t.ac, .int .i64 t.st, .int .i64 t.is, .int .i64 t.un, .int .i64 t.ep] := rfl
  rw [eC] at hw2 HT0 ⊢
  have HW2 := Lib.hid hw2
  rw [← hw2] at g0 g1
  clear h hs hT hb2 hs2 hw2 hr hN eC
  go_enter Tryd.func9, Tryd.ntmps9
  go_wp2_with fail
  rw [HW2.out]
  refine HN0.out.mono ?_
  rintro e3 w3 ⟨rfl, hb3⟩
  have HG3 : Hid (w3.heap[w.heap.size]? = some (.cells #[.int .i64 keep, .slice A n c] 24 (0, 0))) := (hb3.block _ (by have := HS2.out; omega)).trans HG0.out
  have HT3 : Hid (w3.heap[w.heap.size + 1]? = some (.cells #[.int .i64 t.tr, .int .i64 t.ac, .int .i64 t.st, .int .i64 t.is, .int .i64 t.un, .int .i64 t.ep] 26 (0, 0))) := (hb3.block _ (by have := HS2.out; omega)).trans HT0.out
  have HB3 := Lib.hid (HB2.out.trans (hb3.mono HB2.out.size))
  have x5 : w3.cell? ⟨w.heap.size + 1, 5, none⟩ = some (.int .i64 t.ep) := cell_of_blk HT3.out rfl
  have xf : w3.frozen? ⟨w.heap.size + 1, 5, none⟩ = false := free_of_blk HT3.out
  obtain ⟨U, hU⟩ : ∃ U, U = t.at N := ⟨_, rfl⟩
  rw [← hU] at HNO HYES
  have hT4 : (w3.setCell ⟨w.heap.size + 1, 5, none⟩ (.int .i64 N)).heap[w.heap.size + 1]? = some (.cells U.cells 26 (0, 0)) := by rw [hU]; exact set_blk HT3.out
  have hE : U.ep = N := by rw [hU]; rfl
  obtain ⟨utr, uac, ust, uis, uun, uep⟩ := U
  obtain rfl : uep = N := hE
  have HT4 : Hid ((w3.setCell ⟨w.heap.size + 1, 5, none⟩ (.int .i64 uep)).heap[w.heap.size + 1]? = some (.cells #[.int .i64 utr, .int .i64 uac, .int .i64 ust, .int .i64 uis, .int .i64 uun, .int .i64 uep] 26 (0, 0))) := hT4
  have HG4 : Hid ((w3.setCell ⟨w.heap.size + 1, 5, none⟩ (.int .i64 uep)).heap[w.heap.size]? = some (.cells #[.int .i64 keep, .slice A n c] 24 (0, 0))) := (heap_setCell_other _ _ _ _ (by simp)).trans HG3.out
  have HB4 : Hid (Below w.heap.size w (w3.setCell ⟨w.heap.size + 1, 5, none⟩ (.int .i64 uep))) := HB3.out.setCell (by simp) _
  clear hb3 hU hT4 g0 g1 HN0 HB3 HW2 HT0 HG0
  have h0 : (w3.setCell ⟨w.heap.size + 1, 5, none⟩ (.int .i64 uep)).cell? ⟨w.heap.size, 0, none⟩ = some (.int .i64 keep) := cell_of_blk HG4.out rfl
  have h1 : (w3.setCell ⟨w.heap.size + 1, 5, none⟩ (.int .i64 uep)).cell? ⟨w.heap.size, 1, none⟩ = some (.slice A n c) := cell_of_blk HG4.out rfl
  have r0 : w3.cell? ⟨w.heap.size, 0, none⟩ = some (.int .i64 keep) := cell_of_blk HG3.out rfl
  have r1 : w3.cell? ⟨w.heap.size, 1, none⟩ = some (.slice A n c) := cell_of_blk HG3.out rfl
  have HRI := Lib.hid (right_any keep A n c w.heap.size K (w3.setCell ⟨w.heap.size + 1, 5, none⟩ (.int .i64 uep)) (H.out.below HB4.out) HB4.out.size (by have := HSM.out.1; omega))
  go_wp2_with fail
  refine HRI.out.mono ?_
  rintro e5 w5 ⟨rfl, hb5⟩
  have HB5 := Lib.hid (HB4.out.trans (hb5.mono HB4.out.size))
  have HG5 : Hid (w5.heap[w.heap.size]? = some (.cells #[.int .i64 keep, .slice A n c] 24 (0, 0))) := (hb5.block _ (Array.getElem?_eq_some_iff.1 HG4.out).1).trans HG4.out
  have HT5 : Hid (w5.heap[w.heap.size + 1]? = some (.cells #[.int .i64 utr, .int .i64 uac, .int .i64 ust, .int .i64 uis, .int .i64 uun, .int .i64 uep] 26 (0, 0))) := (hb5.block _ (Array.getElem?_eq_some_iff.1 HT4.out).1).trans HT4.out
  clear hb5 h0 h1 r0 r1 x5 xf HRI HB4 HG4 HT4 HG3 HT3
  cases hrt : rt keep (ls K) with
  | false =>
    have hrr : r = ([], 2) := HNO.out (fun hh => by rw [rt_yes hh.1] at hrt; cases hrt)
    have HRE := Lib.hid hrr
    clear hrt hrr
    go_wp2
    go_ret2
    rw [HRE.out]
    exact ⟨none, 0, 0, rfl, Row.none_, fun _ => rfl, Nat.le_refl _, Nat.zero_le _, HB5.out⟩
  | true =>
    have HRT := Lib.hid (rt_true.1 hrt)
    have HMY : Hid (Calls Tryd.prog 12 #[.agg #[.int .i64 utr, .int .i64 uac, .int .i64 ust, .int .i64 uis, .int .i64 uun, .int .i64 uep]] w5 fun x w' => x = .returned (.bool (decide (⟨utr, uac, ust, uis, uun, uep⟩ : T).may)) ∧ Below w5.heap.size w5 w') := may_any (⟨utr, uac, ust, uis, uun, uep⟩ : T) w5
    clear hrt
    have u0 : w5.cell? ⟨w.heap.size + 1, 0, none⟩ = some (.int .i64 utr) := cell_of_blk HT5.out rfl
    have u1 : w5.cell? ⟨w.heap.size + 1, 1, none⟩ = some (.int .i64 uac) := cell_of_blk HT5.out rfl
    have u2 : w5.cell? ⟨w.heap.size + 1, 2, none⟩ = some (.int .i64 ust) := cell_of_blk HT5.out rfl
    have u3 : w5.cell? ⟨w.heap.size + 1, 3, none⟩ = some (.int .i64 uis) := cell_of_blk HT5.out rfl
    have u4 : w5.cell? ⟨w.heap.size + 1, 4, none⟩ = some (.int .i64 uun) := cell_of_blk HT5.out rfl
    have u5 : w5.cell? ⟨w.heap.size + 1, 5, none⟩ = some (.int .i64 uep) := cell_of_blk HT5.out rfl
    go_wp2_with fail
    refine HMY.out.mono ?_
    rintro e6 w6 ⟨rfl, hb6⟩
    have HB6 := Lib.hid (HB5.out.trans (hb6.mono HB5.out.size))
    have HG6 : Hid (w6.heap[w.heap.size]? = some (.cells #[.int .i64 keep, .slice A n c] 24 (0, 0))) := (hb6.block _ (Array.getElem?_eq_some_iff.1 HG5.out).1).trans HG5.out
    have HT6 : Hid (w6.heap[w.heap.size + 1]? = some (.cells #[.int .i64 utr, .int .i64 uac, .int .i64 ust, .int .i64 uis, .int .i64 uun, .int .i64 uep] 26 (0, 0))) := (hb6.block _ (Array.getElem?_eq_some_iff.1 HT5.out).1).trans HT5.out
    clear hb6 u0 u1 u2 u3 u4 u5 HMY HG5 HT5 HB5
    by_cases hmy : (⟨utr, uac, ust, uis, uun, uep⟩ : T).may
    · rw [decide_eq_true hmy]
      obtain ⟨k, hk⟩ : ∃ k, k = lastK (ls K) := ⟨_, rfl⟩
      have hrr : r = (frame 2 (body k (⟨utr, uac, ust, uis, uun, uep⟩ : T)), 0) := by rw [hk]; exact HYES.out ⟨HRT.out, hmy⟩
      obtain ⟨hf, hkl⟩ := HLAST.out HRT.out
      rw [← hk] at hf hkl
      have HRE := Lib.hid hrr
      have HOK := Lib.hid hmy.ok
      have HKL := Lib.hid hkl
      have HKB := Lib.hid (fnd_byt H.out hf)
      have g0 : w6.cell? ⟨w.heap.size, 0, none⟩ = some (.int .i64 keep) := cell_of_blk HG6.out rfl
      have g1 : w6.cell? ⟨w.heap.size, 1, none⟩ = some (.slice A n c) := cell_of_blk HG6.out rfl
      have y5 : w6.cell? ⟨w.heap.size + 1, 5, none⟩ = some (.int .i64 uep) := cell_of_blk HT6.out rfl
      have hfi := find_any keep uep A n c w.heap.size K w6 (H.out.below HB6.out) HB6.out.size (by have := HSM.out.1; omega) HSM.out.2
      unfold FindTo at hfi
      rw [hf] at hfi
      have HFI := Lib.hid hfi
      clear hrr hk hf hkl hmy hfi HNO HYES HLAST
      go_wp2_with fail
      refine HFI.out.mono ?_
      rintro e7 w7 ⟨A7, n7, c7, rfl, hr7, hnil7, hnc7, hb7⟩
      simp only [Option.getD_some] at hr7
      have HR7 := Lib.hid hr7
      have HC7 := Lib.hid hnc7
      have HB7 := Lib.hid (HB6.out.trans (hb7.mono HB6.out.size))
      have HT7 : Hid (w7.heap[w.heap.size + 1]? = some (.cells #[.int .i64 utr, .int .i64 uac, .int .i64 ust, .int .i64 uis, .int .i64 uun, .int .i64 uep] 26 (0, 0))) := (hb7.block _ (Array.getElem?_eq_some_iff.1 HT6.out).1).trans HT6.out
      have HBD : Hid (Below w.heap.size w w7.drew) := HB7.out.drew
      have HTD : Hid (w7.drew.heap[w.heap.size + 1]? = some (.cells #[.int .i64 utr, .int .i64 uac, .int .i64 ust, .int .i64 uis, .int .i64 uun, .int .i64 uep] 26 (0, 0))) := HT7.out
      have aS : w7.drew.cell? ⟨w.heap.size + 1, 0, none⟩ = some (.int .i64 utr) ∧ w7.drew.cell? ⟨w.heap.size + 1, 1, none⟩ = some (.int .i64 uac) ∧ w7.drew.cell? ⟨w.heap.size + 1, 2, none⟩ = some (.int .i64 ust) ∧ w7.drew.cell? ⟨w.heap.size + 1, 3, none⟩ = some (.int .i64 uis) ∧ w7.drew.cell? ⟨w.heap.size + 1, 4, none⟩ = some (.int .i64 uun) ∧ w7.drew.cell? ⟨w.heap.size + 1, 5, none⟩ = some (.int .i64 uep) := ⟨cell_of_blk HTD.out rfl, cell_of_blk HTD.out rfl, cell_of_blk HTD.out rfl, cell_of_blk HTD.out rfl, cell_of_blk HTD.out rfl, cell_of_blk HTD.out rfl⟩
      have HTG : Hid (Calls Tryd.prog 29 #[.slice A7 n7 c7, .agg #[.int .i64 utr, .int .i64 uac, .int .i64 ust, .int .i64 uis, .int .i64 uun, .int .i64 uep]] w7.drew fun e w' => ∃ v, e = .returned v ∧ w'.ownsRow w7.drew.heap.size 5 1 v 32 ((tagT k (⟨utr, uac, ust, uis, uun, uep⟩ : T)).map (Value.int .u8)) ∧ Below w7.drew.heap.size w7.drew w') := tagged_any A7 n7 c7 k (⟨utr, uac, ust, uis, uun, uep⟩ : T) HOK.out w7.drew (HR7.out.below (Below.refl _ _).drew) HC7.out (by have h1 := HR7.out.len; have h2 := HKL.out; omega) HKB.out (HLY.out.below HBD.out HLY.out.tab.1)
      have HPT : Hid (∀ (wx : World) (Ax : Option Addr) (cx : Nat), Row .u8 wx wx.heap.size Ax 32 (tagT k (⟨utr, uac, ust, uis, uun, uep⟩ : T)) → (Ax = none → cx = 0) → Calls Tryd.prog 28 #[.agg #[.int .i64 utr, .int .i64 uac, .int .i64 ust, .int .i64 uis, .int .i64 uun, .int .i64 uep], .slice Ax 32 cx] wx fun e w' => ∃ v, e = .returned (.tuple #[v, .int .i64 0]) ∧ w'.ownsRow wx.heap.size 5 1 v (frame 2 (body k (⟨utr, uac, ust, uis, uun, uep⟩ : T))).length ((frame 2 (body k (⟨utr, uac, ust, uis, uun, uep⟩ : T))).map (Value.int .u8)) ∧ Below wx.heap.size wx w') := fun wx Ax cx h1 h2 => tput_any Ax cx k (⟨utr, uac, ust, uis, uun, uep⟩ : T) HOK.out wx h1 h2
      rw [show (some k).isSome = true from rfl]
      clear hr7 hnil7 hnc7 hb7 g0 g1 y5 HFI HR7 HC7
      go_wp2_with fail
      go_region_held3 (fun wx => wx.cell? ⟨w.heap.size + 1, 0, none⟩ = some (.int .i64 utr) ∧ wx.cell? ⟨w.heap.size + 1, 1, none⟩ = some (.int .i64 uac) ∧ wx.cell? ⟨w.heap.size + 1, 2, none⟩ = some (.int .i64 ust) ∧ wx.cell? ⟨w.heap.size + 1, 3, none⟩ = some (.int .i64 uis) ∧ wx.cell? ⟨w.heap.size + 1, 4, none⟩ = some (.int .i64 uun) ∧ wx.cell? ⟨w.heap.size + 1, 5, none⟩ = some (.int .i64 uep)) (first | (with_reducible exact aS) | (with_reducible exact a8) | (with_reducible exact a9)) (first
        | (go_at_call 29; (with_reducible refine HTG.out.mono ?_); go_loud (rintro e8 w8 ⟨v8, rfl, hown8, hb8⟩; obtain ⟨A8, c8, rfl, -, hnil8⟩ := own_slice hown8; have HR8 : Hid (Row .u8 w8 w8.heap.size A8 32 (tagT k (⟨utr, uac, ust, uis, uun, uep⟩ : T))) := Row.of_own hown8; have HN8 := Lib.hid hnil8; have HB8 := Lib.hid (HBD.out.trans (hb8.mono HBD.out.size)); have HT8 : Hid (w8.heap[w.heap.size + 1]? = some (.cells #[.int .i64 utr, .int .i64 uac, .int .i64 ust, .int .i64 uis, .int .i64 uun, .int .i64 uep] 26 (0, 0))) := (hb8.block _ (Array.getElem?_eq_some_iff.1 HTD.out).1).trans HTD.out; have a8 : w8.cell? ⟨w.heap.size + 1, 0, none⟩ = some (.int .i64 utr) ∧ w8.cell? ⟨w.heap.size + 1, 1, none⟩ = some (.int .i64 uac) ∧ w8.cell? ⟨w.heap.size + 1, 2, none⟩ = some (.int .i64 ust) ∧ w8.cell? ⟨w.heap.size + 1, 3, none⟩ = some (.int .i64 uis) ∧ w8.cell? ⟨w.heap.size + 1, 4, none⟩ = some (.int .i64 uun) ∧ w8.cell? ⟨w.heap.size + 1, 5, none⟩ = some (.int .i64 uep) := ⟨cell_of_blk HT8.out rfl, cell_of_blk HT8.out rfl, cell_of_blk HT8.out rfl, cell_of_blk HT8.out rfl, cell_of_blk HT8.out rfl, cell_of_blk HT8.out rfl⟩; clear hown8 hnil8 hb8))
        | (go_at_call 28; (with_reducible refine (HPT.out w8 A8 c8 HR8.out HN8.out).mono ?_); go_loud (rintro e9 w9 ⟨v9, rfl, hown9, hb9⟩; have HO9 := Lib.hid (own_low hown9 HB8.out.size); have HB9 := Lib.hid (HB8.out.trans (hb9.mono HB8.out.size)); have HT9 : Hid (w9.heap[w.heap.size + 1]? = some (.cells #[.int .i64 utr, .int .i64 uac, .int .i64 ust, .int .i64 uis, .int .i64 uun, .int .i64 uep] 26 (0, 0))) := (hb9.block _ (Array.getElem?_eq_some_iff.1 HT8.out).1).trans HT8.out; have a9 : w9.cell? ⟨w.heap.size + 1, 0, none⟩ = some (.int .i64 utr) ∧ w9.cell? ⟨w.heap.size + 1, 1, none⟩ = some (.int .i64 uac) ∧ w9.cell? ⟨w.heap.size + 1, 2, none⟩ = some (.int .i64 ust) ∧ w9.cell? ⟨w.heap.size + 1, 3, none⟩ = some (.int .i64 uis) ∧ w9.cell? ⟨w.heap.size + 1, 4, none⟩ = some (.int .i64 uun) ∧ w9.cell? ⟨w.heap.size + 1, 5, none⟩ = some (.int .i64 uep) := ⟨cell_of_blk HT9.out rfl, cell_of_blk HT9.out rfl, cell_of_blk HT9.out rfl, cell_of_blk HT9.out rfl, cell_of_blk HT9.out rfl, cell_of_blk HT9.out rfl⟩; clear hown9 hb9)))
      go_wp2
      go_ret2
      rw [HRE.out]
      exact issTo_own (r := (frame 2 (body k (⟨utr, uac, ust, uis, uun, uep⟩ : T)), 0)) HO9.out HB9.out
    · rw [decide_eq_false hmy]
      have hrr : r = ([], 2) := HNO.out (fun hh => hmy hh.2)
      have HRE := Lib.hid hrr
      clear hrr hmy
      go_wp2
      go_ret2
      rw [HRE.out]
      exact ⟨none, 0, 0, rfl, Row.none_, fun _ => rfl, Nat.le_refl _, Nat.zero_le _, HB6.out⟩
end Go.Proofs.YtmkdbpdfonpfdaaDoor.Tok

/- Layer 10 (token): the program's functions do what the laws' walks ask of them. -/
namespace Go.Proofs.YtmkdbpdfonpfdaaDoor.Tok
open Go.RowKit Slc Var Fld Frm Sha Hmc Rg

theorem may_ok : MayOk := fun t w _ => may_any t w
theorem fields_ok : FieldsOk := fun t w ht => fields_any t ht w
theorem issue_ok : IssueOk := fun keep A n c K t w _ h _ _ hs _ hT => issue_any keep A n c K t w h hs hT
theorem open_ok : OpenOk := fun A n c b w h hnil hb hc hcm hn _ => open_any A n c b w h hnil hb hc hcm hn
theorem verify_ok : VerifyOk := fun keep nw A A' n c n' c' K b w h _ _ hs _ _ h' hnil' hb hc' hcm' hn' hT => verify_any keep nw A A' n c n' c' K b w h hs h' hnil' hb hc' hcm' hn' hT
end Go.Proofs.YtmkdbpdfonpfdaaDoor.Tok

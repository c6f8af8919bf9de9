/- Lemmas that the proof stands on, in build order: TokH. -/
import Derived.Deep.QuietTactic
import Derived.BigQuiet
import Derived.RegionTactic
import Derived.Deep.RegionHeld3
import Derived.Test.YtppbpmmfcoblmaaDoorJ199702d1
import Derived.Test.YtppbpmmfcoblmaaDoorJ20e6aa53
import Derived.Test.YtppbpmmfcoblmaaDoorJ22758d9c
import Derived.Test.YtppbpmmfcoblmaaDoorJ7d4a34c
/- Layer 10 (token): the program's read, as a contract. -/
namespace Go.Proofs.YtppbpmmfcoblmaaDoor.Tok
open Go.RowKit Var Fld Frm Sha Hmc Rg

/-- The next number of a Reader. -/
theorem number_stp (g : Nat) (s : List Int × Nat) (most : Int) (w : World) (h : Rdr w g s.1 s.2) (h1 : -9223372036854775808 ≤ most) (h2 : most ≤ 9223372036854775807) :
    Calls Tryd.prog 70 #[.pointer (some ⟨g, 0, none⟩), .int .i64 most] w fun r w' => r = .returned (.int .i64 (rv1 s most)) ∧ Rdr w' g (rd1 s most).1 (rd1 s most).2 ∧ Only (fun k => k = g) w w' :=
  numberR g s.2 s.1 most w h h1 h2
theorem rd1_len (s : List Int × Nat) (most : Int) : (rd1 s most).1.length ≤ s.1.length := by
  unfold rd1 after
  split
  · exact Nat.le_refl _
  split
  · exact Nat.le_refl _
  · rw [List.length_drop]; omega
theorem s6_len (C : List Int) : (s6 C).1.length ≤ C.length := by
  have h1 := rd1_len (C, 0) 2147483648
  have h2 := rd1_len (s1 C) 2147483648
  have h3 := rd1_len (s2 C) 4095
  have h4 := rd1_len (s3 C) 1099511627776
  have h5 := rd1_len (s4 C) 1099511627776
  have h6 := rd1_len (s5 C) 1048576
  have e1 : (s1 C).1.length ≤ C.length := h1
  have e2 : (s2 C).1.length ≤ (s1 C).1.length := h2
  have e3 : (s3 C).1.length ≤ (s2 C).1.length := h3
  have e4 : (s4 C).1.length ≤ (s3 C).1.length := h4
  have e5 : (s5 C).1.length ≤ (s4 C).1.length := h5
  have e6 : (s6 C).1.length ≤ (s5 C).1.length := h6
  omega

theorem six_keep {w : World} {g G : Nat} (hg : g < G) {a0 a1 a2 a3 a4 a5 x0 x1 x2 x3 x4 x5 : Int} (h : w.cell? ⟨G, 0, none⟩ = some (.int .i64 x0) ∧ w.cell? ⟨G, 1, none⟩ = some (.int .i64 x1) ∧ w.cell? ⟨G, 2, none⟩ = some (.int .i64 x2) ∧ w.cell? ⟨G, 3, none⟩ = some (.int .i64 x3) ∧ w.cell? ⟨G, 4, none⟩ = some (.int .i64 x4) ∧ w.cell? ⟨G, 5, none⟩ = some (.int .i64 x5)) :
    ((((((w.setCell ⟨g, 0, none⟩ (.int .i64 a0)).setCell ⟨g, 1, none⟩ (.int .i64 a1)).setCell ⟨g, 2, none⟩ (.int .i64 a2)).setCell ⟨g, 3, none⟩ (.int .i64 a3)).setCell ⟨g, 4, none⟩ (.int .i64 a4)).setCell ⟨g, 5, none⟩ (.int .i64 a5)).cell? ⟨G, 0, none⟩ = some (.int .i64 x0) ∧ ((((((w.setCell ⟨g, 0, none⟩ (.int .i64 a0)).setCell ⟨g, 1, none⟩ (.int .i64 a1)).setCell ⟨g, 2, none⟩ (.int .i64 a2)).setCell ⟨g, 3, none⟩ (.int .i64 a3)).setCell ⟨g, 4, none⟩ (.int .i64 a4)).setCell ⟨g, 5, none⟩ (.int .i64 a5)).cell? ⟨G, 1, none⟩ = some (.int .i64 x1) ∧ ((((((w.setCell ⟨g, 0, none⟩ (.int .i64 a0)).setCell ⟨g, 1, none⟩ (.int .i64 a1)).setCell ⟨g, 2, none⟩ (.int .i64 a2)).setCell ⟨g, 3, none⟩ (.int .i64 a3)).setCell ⟨g, 4, none⟩ (.int .i64 a4)).setCell ⟨g, 5, none⟩ (.int .i64 a5)).cell? ⟨G, 2, none⟩ = some (.int .i64 x2) ∧ ((((((w.setCell ⟨g, 0, none⟩ (.int .i64 a0)).setCell ⟨g, 1, none⟩ (.int .i64 a1)).setCell ⟨g, 2, none⟩ (.int .i64 a2)).setCell ⟨g, 3, none⟩ (.int .i64 a3)).setCell ⟨g, 4, none⟩ (.int .i64 a4)).setCell ⟨g, 5, none⟩ (.int .i64 a5)).cell? ⟨G, 3, none⟩ = some (.int .i64 x3) ∧ ((((((w.setCell ⟨g, 0, none⟩ (.int .i64 a0)).setCell ⟨g, 1, none⟩ (.int .i64 a1)).setCell ⟨g, 2, none⟩ (.int .i64 a2)).setCell ⟨g, 3, none⟩ (.int .i64 a3)).setCell ⟨g, 4, none⟩ (.int .i64 a4)).setCell ⟨g, 5, none⟩ (.int .i64 a5)).cell? ⟨G, 4, none⟩ = some (.int .i64 x4) ∧ ((((((w.setCell ⟨g, 0, none⟩ (.int .i64 a0)).setCell ⟨g, 1, none⟩ (.int .i64 a1)).setCell ⟨g, 2, none⟩ (.int .i64 a2)).setCell ⟨g, 3, none⟩ (.int .i64 a3)).setCell ⟨g, 4, none⟩ (.int .i64 a4)).setCell ⟨g, 5, none⟩ (.int .i64 a5)).cell? ⟨G, 5, none⟩ = some (.int .i64 x5) := by
  refine ⟨?_, ?_, ?_, ?_, ?_, ?_⟩
  all_goals rw [World.cell?_setCell_other _ _ _ _ (by simp <;> omega), World.cell?_setCell_other _ _ _ _ (by simp <;> omega), World.cell?_setCell_other _ _ _ _ (by simp <;> omega), World.cell?_setCell_other _ _ _ _ (by simp <;> omega), World.cell?_setCell_other _ _ _ _ (by simp <;> omega), World.cell?_setCell_other _ _ _ _ (by simp <;> omega)]
  · exact h.1
  · exact h.2.1
  · exact h.2.2.1
  · exact h.2.2.2.1
  · exact h.2.2.2.2.1
  · exact h.2.2.2.2.2

/-- What read answers. -/
def ReadTo (C : List Int) (w : World) (x : Ending) (w' : World) : Prop :=
  ∃ A c, x = .returned (.tuple #[(tokOf C).val, .slice A (tagOf C).length c, .int .i64 (done (s7 C).1 (s7 C).2 : Int)]) ∧ Row .u8 w' w'.heap.size A (tagOf C).length (tagOf C) ∧ (A = none → c = 0) ∧ (tagOf C).length ≤ c ∧ (∀ b o, A = some ⟨b, o, none⟩ → w.heap.size ≤ b) ∧ Below w.heap.size w w'

set_option maxHeartbeats 3200000 in
set_option maxRecDepth 100000 in
theorem read_any (A : Option Addr) (n c : Nat) (C : List Int) (w : World) (h : Row .u8 w w.heap.size A n C) (hnil : A = none → c = 0) (hn : n ≤ 4398046511104) (hC : ∀ x ∈ C, 0 ≤ x ∧ x ≤ 255) :
    Calls Tryd.prog 54 #[.slice A n c] w (ReadTo C w) := by
  obtain ⟨w1, hw1⟩ : ∃ w1, w.alloc (.cells T.zero.cells 41) = w1 := ⟨_, rfl⟩
  have hs1 : w1.heap.size = w.heap.size + 1 := by rw [← hw1]; simp
  have hb1 : Below w.heap.size w w1 := by rw [← hw1]; exact (Below.refl _ _).alloc (Nat.le_refl _) _
  have hz1 : w1.heap[w.heap.size]? = some (.cells T.zero.cells 41 (0, 0)) := by rw [← hw1]; exact heap_alloc_new w _
  have HL : Hid (C.length ≤ 4398046511104) := by unfold Hid; rw [h.len]; exact hn
  have HRD := Lib.hid (readR A n c w.heap.size C w1 (h.below hb1) hb1.size hnil hn hC)
  have HS1 := Lib.hid hs1
  have HB1 := Lib.hid hb1
  have HZ1 := Lib.hid hz1
  have HW1 := Lib.hid hw1
  have I6 : Hid ((Tryd.prog.info? 41).map (·.size) = some T.zero.cells.size) := infoT
  clear h hnil hn hC hs1 hb1 hz1 hw1
  go_enter Tryd.func54, Tryd.ntmps54
  go_wp2_with fail
  refine Calls.mono (by have h1 := HRD.out; rw [← HW1.out] at h1; exact h1) ?_
  rintro e2 w2 ⟨g, rfl, hg2, hrd2, hb2⟩
  rw [HW1.out] at hg2 hb2
  have HG : Hid (w.heap.size < g) := by unfold Hid; have := HS1.out; omega
  have HR0 : Hid (Rdr w2 g (C, 0).1 (C, 0).2) := hrd2
  have HB2 := Lib.hid (HB1.out.trans (hb2.mono (by have := HS1.out; omega)))
  have HZ2 : Hid (w2.heap[w.heap.size]? = some (.cells T.zero.cells 41 (0, 0))) := (hb2.block _ (by have := HS1.out; omega)).trans HZ1.out
  clear hg2 hrd2 hb2 HRD
  go_wp2_with fail
  refine (number_stp g (C, 0) 2147483648 w2 HR0.out (by omega) (by omega)).mono ?_
  rintro e3 y0 ⟨rfl, hrd, ho⟩
  have HR1 : Hid (Rdr y0 g (s1 C).1 (s1 C).2) := hrd
  have HB3 : Hid (Below w.heap.size w y0) := HB2.out.trans (ho.below HB2.out.size (fun k hk => by have := HG.out; omega))
  have HZ3 : Hid (y0.heap[w.heap.size]? = some (.cells T.zero.cells 41 (0, 0))) := ho.at HZ2.out (by have := HG.out; omega)
  obtain ⟨x0, hx0⟩ : ∃ x, x = rv1 (C, 0) 2147483648 := ⟨_, rfl⟩
  rw [← hx0]
  have HX0 := Lib.hid hx0
  clear hrd ho hx0 HR0 HB2 HZ2
  go_wp2_with fail
  refine (number_stp g (s1 C) 2147483648 y0 HR1.out (by omega) (by omega)).mono ?_
  rintro e4 y1 ⟨rfl, hrd, ho⟩
  have HR2 : Hid (Rdr y1 g (s2 C).1 (s2 C).2) := hrd
  have HB4 : Hid (Below w.heap.size w y1) := HB3.out.trans (ho.below HB3.out.size (fun k hk => by have := HG.out; omega))
  have HZ4 : Hid (y1.heap[w.heap.size]? = some (.cells T.zero.cells 41 (0, 0))) := ho.at HZ3.out (by have := HG.out; omega)
  obtain ⟨x1, hx1⟩ : ∃ x, x = rv1 (s1 C) 2147483648 := ⟨_, rfl⟩
  rw [← hx1]
  have HX1 := Lib.hid hx1
  clear hrd ho hx1 HR1 HB3 HZ3
  go_wp2_with fail
  refine (number_stp g (s2 C) 4095 y1 HR2.out (by omega) (by omega)).mono ?_
  rintro e5 y2 ⟨rfl, hrd, ho⟩
  have HR3 : Hid (Rdr y2 g (s3 C).1 (s3 C).2) := hrd
  have HB5 : Hid (Below w.heap.size w y2) := HB4.out.trans (ho.below HB4.out.size (fun k hk => by have := HG.out; omega))
  have HZ5 : Hid (y2.heap[w.heap.size]? = some (.cells T.zero.cells 41 (0, 0))) := ho.at HZ4.out (by have := HG.out; omega)
  obtain ⟨x2, hx2⟩ : ∃ x, x = rv1 (s2 C) 4095 := ⟨_, rfl⟩
  rw [← hx2]
  have HX2 := Lib.hid hx2
  clear hrd ho hx2 HR2 HB4 HZ4
  go_wp2_with fail
  refine (number_stp g (s3 C) 1099511627776 y2 HR3.out (by omega) (by omega)).mono ?_
  rintro e6 y3 ⟨rfl, hrd, ho⟩
  have HR4 : Hid (Rdr y3 g (s4 C).1 (s4 C).2) := hrd
  have HB6 : Hid (Below w.heap.size w y3) := HB5.out.trans (ho.below HB5.out.size (fun k hk => by have := HG.out; omega))
  have HZ6 : Hid (y3.heap[w.heap.size]? = some (.cells T.zero.cells 41 (0, 0))) := ho.at HZ5.out (by have := HG.out; omega)
  obtain ⟨x3, hx3⟩ : ∃ x, x = rv1 (s3 C) 1099511627776 := ⟨_, rfl⟩
  rw [← hx3]
  have HX3 := Lib.hid hx3
  clear hrd ho hx3 HR3 HB5 HZ5
  go_wp2_with fail
  refine (number_stp g (s4 C) 1099511627776 y3 HR4.out (by omega) (by omega)).mono ?_
  rintro e7 y4 ⟨rfl, hrd, ho⟩
  have HR5 : Hid (Rdr y4 g (s5 C).1 (s5 C).2) := hrd
  have HB7 : Hid (Below w.heap.size w y4) := HB6.out.trans (ho.below HB6.out.size (fun k hk => by have := HG.out; omega))
  have HZ7 : Hid (y4.heap[w.heap.size]? = some (.cells T.zero.cells 41 (0, 0))) := ho.at HZ6.out (by have := HG.out; omega)
  obtain ⟨x4, hx4⟩ : ∃ x, x = rv1 (s4 C) 1099511627776 := ⟨_, rfl⟩
  rw [← hx4]
  have HX4 := Lib.hid hx4
  clear hrd ho hx4 HR4 HB6 HZ6
  go_wp2_with fail
  refine (number_stp g (s5 C) 1048576 y4 HR5.out (by omega) (by omega)).mono ?_
  rintro e8 y5 ⟨rfl, hrd, ho⟩
  have HR6 : Hid (Rdr y5 g (s6 C).1 (s6 C).2) := hrd
  have HB8 : Hid (Below w.heap.size w y5) := HB7.out.trans (ho.below HB7.out.size (fun k hk => by have := HG.out; omega))
  have HZ8 : Hid (y5.heap[w.heap.size]? = some (.cells T.zero.cells 41 (0, 0))) := ho.at HZ7.out (by have := HG.out; omega)
  obtain ⟨x5, hx5⟩ : ∃ x, x = rv1 (s5 C) 1048576 := ⟨_, rfl⟩
  rw [← hx5]
  have HX5 := Lib.hid hx5
  clear hrd ho hx5 HR5 HB7 HZ7
  have HU : Hid (tokOf C = ⟨x0, x1, x2, x3, x4, x5⟩) := by unfold Hid tokOf; rw [HX0.out, HX1.out, HX2.out, HX3.out, HX4.out, HX5.out]
  clear HX0 HX1 HX2 HX3 HX4 HX5
  obtain ⟨y6, hy6⟩ : ∃ y6, y5.alloc (.cells #[.int .i64 x0, .int .i64 x1, .int .i64 x2, .int .i64 x3, .int .i64 x4, .int .i64 x5] 41) = y6 := ⟨_, rfl⟩
  have hb6 : Below y5.heap.size y5 y6 := by rw [← hy6]; exact (Below.refl _ _).alloc (Nat.le_refl _) _
  have HT6 : Hid (y6.heap[y5.heap.size]? = some (.cells #[.int .i64 x0, .int .i64 x1, .int .i64 x2, .int .i64 x3, .int .i64 x4, .int .i64 x5] 41 (0, 0))) := by unfold Hid; rw [← hy6]; exact heap_alloc_new y5 _
  have HB9 : Hid (Below w.heap.size w y6) := HB8.out.trans (hb6.mono HB8.out.size)
  have HZ9 : Hid (y6.heap[w.heap.size]? = some (.cells T.zero.cells 41 (0, 0))) := (hb6.block _ (Array.getElem?_eq_some_iff.1 HZ8.out).1).trans HZ8.out
  have HGT : Hid (g < y5.heap.size) := HR6.out.lt
  have HR7 : Hid (Rdr y6 g (s6 C).1 (s6 C).2) := HR6.out.below hb6
  have HBY := Lib.hid (bytesR g (s6 C).2 (s6 C).1 32 y6 HR7.out (by omega) (by omega) (by have h1 := s6_len C; have h2 := HL.out; omega))
  have HY6 := Lib.hid hy6
  clear hb6 hy6 HB8 HZ8 HR6
  go_wp2_with fail
  refine Calls.mono (by have h1 := HBY.out; rw [← HY6.out] at h1; exact h1) ?_
  rintro e9 w9 ⟨v9, rfl, hown9, hrd9, ho9⟩
  rw [HY6.out] at hown9 ho9
  obtain ⟨A9, c9, rfl, hc9, hnil9⟩ := own_slice hown9
  obtain ⟨TG, hTG⟩ : ∃ TG, TG = tagOf C := ⟨_, rfl⟩
  have hown9' : w9.ownsRow y6.heap.size 5 1 (.slice A9 TG.length c9) TG.length (TG.map (Value.int .u8)) := by rw [hTG]; exact hown9
  have hc9' : TG.length ≤ c9 := by rw [hTG]; exact hc9
  have HR9 : Hid (Row .u8 w9 w9.heap.size A9 TG.length TG) := Row.of_own hown9'
  have HAD : Hid (∀ b o, A9 = some ⟨b, o, none⟩ → w.heap.size + 1 ≤ b) := fun b o e => by
    have h1 := own_addr hown9' b o e
    have h2 := HB9.out.size
    have h3 := (Array.getElem?_eq_some_iff.1 HZ9.out).1
    omega
  have HN9 := Lib.hid (And.intro hnil9 hc9')
  have HRE : Hid (Rdr w9 g (s7 C).1 (s7 C).2) := hrd9
  have HT9 : Hid (w9.heap[y5.heap.size]? = some (.cells #[.int .i64 x0, .int .i64 x1, .int .i64 x2, .int .i64 x3, .int .i64 x4, .int .i64 x5] 41 (0, 0))) := ho9.at HT6.out (by have := HGT.out; omega)
  have HB10 : Hid (Below w.heap.size w w9) := HB9.out.trans (ho9.below HB9.out.size (fun k hk => by have := HG.out; omega))
  have HZ10 : Hid (w9.heap[w.heap.size]? = some (.cells T.zero.cells 41 (0, 0))) := ho9.at HZ9.out (by have := HG.out; omega)
  have HNE : Hid (w.heap.size < y5.heap.size) := by unfold Hid; have := HG.out; have := HGT.out; omega
  have HTGE := Lib.hid hTG
  have u0 : w9.cell? ⟨y5.heap.size, 0, none⟩ = some (.int .i64 x0) := cell_of_blk HT9.out rfl
  have u1 : w9.cell? ⟨y5.heap.size, 1, none⟩ = some (.int .i64 x1) := cell_of_blk HT9.out rfl
  have u2 : w9.cell? ⟨y5.heap.size, 2, none⟩ = some (.int .i64 x2) := cell_of_blk HT9.out rfl
  have u3 : w9.cell? ⟨y5.heap.size, 3, none⟩ = some (.int .i64 x3) := cell_of_blk HT9.out rfl
  have u4 : w9.cell? ⟨y5.heap.size, 4, none⟩ = some (.int .i64 x4) := cell_of_blk HT9.out rfl
  have u5 : w9.cell? ⟨y5.heap.size, 5, none⟩ = some (.int .i64 x5) := cell_of_blk HT9.out rfl
  have HDN := Lib.hid (doneR g (s7 C).2 (s7 C).1 w9.drew (HRE.out.below (Below.refl _ _).drew))
  have HZD : Hid (w9.drew.heap[w.heap.size]? = some (.cells T.zero.cells 41 (0, 0))) := HZ10.out
  rw [show vals (s6 C).2 (nxl (s6 C).1 32) = TG from hTG.symm]
  clear hown9 hown9' hrd9 ho9 hc9 hc9' hnil9 HBY HB9 HZ9 HR7 HT6 hTG
  generalize y5.heap.size = G at *
  go_wp2_with fail
  have aS : w9.drew.cell? ⟨G, 0, none⟩ = some (.int .i64 x0) ∧ w9.drew.cell? ⟨G, 1, none⟩ = some (.int .i64 x1) ∧ w9.drew.cell? ⟨G, 2, none⟩ = some (.int .i64 x2) ∧ w9.drew.cell? ⟨G, 3, none⟩ = some (.int .i64 x3) ∧ w9.drew.cell? ⟨G, 4, none⟩ = some (.int .i64 x4) ∧ w9.drew.cell? ⟨G, 5, none⟩ = some (.int .i64 x5) := ⟨u0, u1, u2, u3, u4, u5⟩
  have hne := HNE.out
  have HDL : Hid (Calls Tryd.prog 72 #[.pointer (some ⟨g, 0, none⟩)] w9.drew fun r w' => r = .returned (.int .i64 (done (s7 C).1 (s7 C).2 : Int)) ∧ w'.heap = w9.heap ∧ Below w9.heap.size w9 w') := HDN.out.mono fun _ _ ⟨a, b⟩ => ⟨a, by subst b; exact ⟨rfl, (Below.refl _ _).drew⟩⟩
  clear u0 u1 u2 u3 u4 u5
  go_region_held3 (fun wx => wx.cell? ⟨G, 0, none⟩ = some (.int .i64 x0) ∧ wx.cell? ⟨G, 1, none⟩ = some (.int .i64 x1) ∧ wx.cell? ⟨G, 2, none⟩ = some (.int .i64 x2) ∧ wx.cell? ⟨G, 3, none⟩ = some (.int .i64 x3) ∧ wx.cell? ⟨G, 4, none⟩ = some (.int .i64 x4) ∧ wx.cell? ⟨G, 5, none⟩ = some (.int .i64 x5)) (first | (with_reducible exact aS) | (with_reducible exact a11) | (with_reducible exact six_keep hne a11)) (first | (go_at_call 72; (with_reducible refine HDL.out.mono ?_); go_loud (rintro e11 w11 ⟨rfl, hh11, hb11⟩; have HZ11 : Hid (w11.heap[w.heap.size]? = some (.cells T.zero.cells 41 (0, 0))) := (congrArg (fun h => h[w.heap.size]?) hh11).trans HZ10.out; have HT11 : Hid (w11.heap[G]? = some (.cells #[.int .i64 x0, .int .i64 x1, .int .i64 x2, .int .i64 x3, .int .i64 x4, .int .i64 x5] 41 (0, 0))) := (congrArg (fun h => h[G]?) hh11).trans HT9.out; have a11 : w11.cell? ⟨G, 0, none⟩ = some (.int .i64 x0) ∧ w11.cell? ⟨G, 1, none⟩ = some (.int .i64 x1) ∧ w11.cell? ⟨G, 2, none⟩ = some (.int .i64 x2) ∧ w11.cell? ⟨G, 3, none⟩ = some (.int .i64 x3) ∧ w11.cell? ⟨G, 4, none⟩ = some (.int .i64 x4) ∧ w11.cell? ⟨G, 5, none⟩ = some (.int .i64 x5) := ⟨cell_of_blk HT11.out rfl, cell_of_blk HT11.out rfl, cell_of_blk HT11.out rfl, cell_of_blk HT11.out rfl, cell_of_blk HT11.out rfl, cell_of_blk HT11.out rfl⟩; have HB11 := Lib.hid hb11; have HH11 := Lib.hid hh11; clear hh11 hb11; have p0 : w11.cell? ⟨w.heap.size, 0, none⟩ = some (.int .i64 0) := cell_of_blk HZ11.out rfl; have q0 : w11.frozen? ⟨w.heap.size, 0, none⟩ = false := free_of_blk HZ11.out; have p1 : w11.cell? ⟨w.heap.size, 1, none⟩ = some (.int .i64 0) := cell_of_blk HZ11.out rfl; have q1 : w11.frozen? ⟨w.heap.size, 1, none⟩ = false := free_of_blk HZ11.out; have p2 : w11.cell? ⟨w.heap.size, 2, none⟩ = some (.int .i64 0) := cell_of_blk HZ11.out rfl; have q2 : w11.frozen? ⟨w.heap.size, 2, none⟩ = false := free_of_blk HZ11.out; have p3 : w11.cell? ⟨w.heap.size, 3, none⟩ = some (.int .i64 0) := cell_of_blk HZ11.out rfl; have q3 : w11.frozen? ⟨w.heap.size, 3, none⟩ = false := free_of_blk HZ11.out; have p4 : w11.cell? ⟨w.heap.size, 4, none⟩ = some (.int .i64 0) := cell_of_blk HZ11.out rfl; have q4 : w11.frozen? ⟨w.heap.size, 4, none⟩ = false := free_of_blk HZ11.out; have p5 : w11.cell? ⟨w.heap.size, 5, none⟩ = some (.int .i64 0) := cell_of_blk HZ11.out rfl; have q5 : w11.frozen? ⟨w.heap.size, 5, none⟩ = false := free_of_blk HZ11.out)))
  have hset : ((((((w11.setCell ⟨w.heap.size, 0, none⟩ (.int .i64 x0)).setCell ⟨w.heap.size, 1, none⟩ (.int .i64 x1)).setCell ⟨w.heap.size, 2, none⟩ (.int .i64 x2)).setCell ⟨w.heap.size, 3, none⟩ (.int .i64 x3)).setCell ⟨w.heap.size, 4, none⟩ (.int .i64 x4)).setCell ⟨w.heap.size, 5, none⟩ (.int .i64 x5)).heap[w.heap.size]? = some (.cells #[.int .i64 x0, .int .i64 x1, .int .i64 x2, .int .i64 x3, .int .i64 x4, .int .i64 x5] 41 (0, 0)) := (set_blk (set_blk (set_blk (set_blk (set_blk (set_blk HZ11.out))))))
  have honl : Only (fun k => k = w.heap.size) w11 ((((((w11.setCell ⟨w.heap.size, 0, none⟩ (.int .i64 x0)).setCell ⟨w.heap.size, 1, none⟩ (.int .i64 x1)).setCell ⟨w.heap.size, 2, none⟩ (.int .i64 x2)).setCell ⟨w.heap.size, 3, none⟩ (.int .i64 x3)).setCell ⟨w.heap.size, 4, none⟩ (.int .i64 x4)).setCell ⟨w.heap.size, 5, none⟩ (.int .i64 x5)) := ((((((Only.setCell w11 ⟨w.heap.size, 0, none⟩ (.int .i64 x0)).trans (Only.setCell _ ⟨w.heap.size, 1, none⟩ (.int .i64 x1)) (fun _ _ h => h)).trans (Only.setCell _ ⟨w.heap.size, 2, none⟩ (.int .i64 x2)) (fun _ _ h => h)).trans (Only.setCell _ ⟨w.heap.size, 3, none⟩ (.int .i64 x3)) (fun _ _ h => h)).trans (Only.setCell _ ⟨w.heap.size, 4, none⟩ (.int .i64 x4)) (fun _ _ h => h)).trans (Only.setCell _ ⟨w.heap.size, 5, none⟩ (.int .i64 x5)) (fun _ _ h => h))
  have HSET := Lib.hid hset
  have HONL := Lib.hid honl
  clear hset honl a11 p0 p1 p2 p3 p4 p5 q0 q1 q2 q3 q4 q5
  generalize ((((((w11.setCell ⟨w.heap.size, 0, none⟩ (.int .i64 x0)).setCell ⟨w.heap.size, 1, none⟩ (.int .i64 x1)).setCell ⟨w.heap.size, 2, none⟩ (.int .i64 x2)).setCell ⟨w.heap.size, 3, none⟩ (.int .i64 x3)).setCell ⟨w.heap.size, 4, none⟩ (.int .i64 x4)).setCell ⟨w.heap.size, 5, none⟩ (.int .i64 x5)) = wf at *
  go_wp2
  refine bodyPost_ret (results_cell_tmps rfl _ _ w.heap.size #[.int .i64 x0, .int .i64 x1, .int .i64 x2, .int .i64 x3, .int .i64 x4, .int .i64 x5] rfl (run_loadVar_row _ _ 41 41 _ (0, 0) _ HSET.out Tryd.underlying41 rfl infoT)) rfl ?_
  have hb11 : Below w.heap.size w w11 := HB10.out.trans (HB11.out.mono HB10.out.size)
  have hr11 : Row .u8 w11 w11.heap.size A9 TG.length TG := (HR9.out.below HB11.out).more HB11.out.size
  refine ⟨A9, c9, ?_, ?_, HN9.out.1, ?_, fun b o e => by have := HAD.out b o e; omega, hb11.trans (HONL.out.below hb11.size (fun k hk => Nat.le_of_eq hk.symm))⟩
  · rw [HU.out, ← HTGE.out]
    rfl
  · rw [← HTGE.out]
    exact (HONL.out.row hr11 (Nat.le_refl _) (fun b o hb _ hm => by have := HAD.out b o hb; omega)).more HONL.out.size
  · rw [← HTGE.out]
    exact HN9.out.2
end Go.Proofs.YtppbpmmfcoblmaaDoor.Tok

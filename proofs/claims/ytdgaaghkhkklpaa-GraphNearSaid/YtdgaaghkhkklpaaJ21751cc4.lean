/- Lemmas that the proof stands on, in build order: GfLf GfL GfW. -/
import Derived.Test.YtdgaaghkhkklpaaJ14196a67
import Derived.Test.YtdgaaghkhkklpaaJ15070358
import Derived.Test.YtdgaaghkhkklpaaJ16400250
import Derived.Test.YtdgaaghkhkklpaaJ17b0d9f1
import Derived.Test.YtdgaaghkhkklpaaJ205a3754
import Derived.Test.YtdgaaghkhkklpaaJ21bd6f6
import Derived.Test.YtdgaaghkhkklpaaJ63e688c
/- Layer 15 (graph): the law's Few, as a contract. -/
namespace Go.Proofs.Ytdgaaghkhkklpaa.Gf
open Go.RowKit Rec Ints Ge

theorem few_any (N : Nt) (A A' : Option Addr) (n c m c' : Nat) (w : World) (h : NAt w w.heap.size N A n c A' m c') :
    Calls Try.prog 7 #[.agg #[.int .i64 N.ver, .slice A n c, .slice A' m c']] w fun e w' => e = .returned (.bool (decide (n ≤ 60) && decide (m ≤ 120))) ∧ Below w.heap.size w w' := by
  have HB := Lib.hid (Bx.start h)
  clear h
  by_cases h1 : n ≤ 60
  · have d1 : decide ((n : Int) ≤ 60) = true := decide_eq_true (by omega)
    have d1' : decide (n ≤ 60) = true := decide_eq_true h1
    by_cases h2 : m ≤ 120
    · have d2 : decide ((m : Int) ≤ 120) = true := decide_eq_true (by omega)
      have d2' : decide (m ≤ 120) = true := decide_eq_true h2
      rw [d1', d2']
      go_enter Try.func7, Try.ntmps7
      go_wp2
      go_ret
      exact ⟨rfl, HB.out.bel⟩
    · have d2 : decide ((m : Int) ≤ 120) = false := decide_eq_false (by omega)
      have d2' : decide (m ≤ 120) = false := decide_eq_false h2
      rw [d1', d2']
      go_enter Try.func7, Try.ntmps7
      go_wp2
      go_ret
      exact ⟨rfl, HB.out.bel⟩
  · have d1 : decide ((n : Int) ≤ 60) = false := decide_eq_false (by omega)
    have d1' : decide (n ≤ 60) = false := decide_eq_false h1
    rw [d1']
    go_enter Try.func7, Try.ntmps7
    go_wp2
    go_ret
    exact ⟨rfl, HB.out.bel⟩
end Go.Proofs.Ytdgaaghkhkklpaa.Gf

/- Layer 15 (graph): the laws' awake. -/
namespace Go.Proofs.Ytdgaaghkhkklpaa.Gf
open Go.RowKit Rec Ints Ge Var Fld Frm Nu

/-- The chapter's network. -/
def exN : Nt := ⟨1, [(0, 0), (0, 0), (0, 0)], [(0, 2, 1)]⟩
theorem ex_check : check exN = 0 := by
  refine check_0 (by decide) (by decide) ⟨fun i hi => ?_, fun i hi => ?_⟩
  · have hi' : i < 3 := hi
    match i, hi' with
    | 0, _ => exact ⟨_, rfl, by decide⟩
    | 1, _ => exact ⟨_, rfl, by decide⟩
    | 2, _ => exact ⟨_, rfl, by decide⟩
  · have hi' : i < 1 := hi
    match i, hi' with
    | 0, _ => exact ⟨_, rfl, by decide, by decide, by decide, by decide, by decide, fun h => absurd h (by omega)⟩
theorem ex_parts : partsE exN = [0, 1, 0] := by
  unfold partsE
  rw [if_pos ex_check]
  decide
theorem made_stops : (madeCells (Value.agg #[.int .i64 0, .int .i64 0]).cells (3 * 2)).toList = twoS.flat [(0, 0), (0, 0), (0, 0)] := by
  have e : twoS.flat [(0, 0), (0, 0), (0, 0)] = List.replicate 6 (Value.int .i64 0) := rfl
  rw [e]
  apply List.ext_getElem
  · simp [madeCells]
  · intro i h1 h2
    have hi : i < 6 := by simpa using h2
    rw [List.getElem_replicate]
    match i, hi with
    | 0, _ => simp [madeCells, Value.cells]
    | 1, _ => simp [madeCells, Value.cells]
    | 2, _ => simp [madeCells, Value.cells]
    | 3, _ => simp [madeCells, Value.cells]
    | 4, _ => simp [madeCells, Value.cells]
    | 5, _ => simp [madeCells, Value.cells]

set_option maxHeartbeats 800000 in
set_option maxRecDepth 100000 in
theorem awake_any (k : Oks) (w : World) : Calls Try.prog 6 #[] w fun e w' => e = .returned (.bool true) ∧ Below w.heap.size w w' := by
  obtain ⟨is, his, hsz0, hsz1, hsz2⟩ := info_of info_st
  go_enter Try.func6, Try.ntmps6
  go_wp2_with (at_make; go_loud (refine wpList_make_full _ rfl _ _ 22 rfl w.heap.size 56 is (.agg #[.int .i64 0, .int .i64 0]) 2 Try.underlying22 his hsz0 hsz1 _ _ _ _ 3 rfl rfl rfl rfl (by rw [hsz2]; omega) (by unfold maxLen; omega) (Nat.le_refl _) ?_); intro w2 hown2 hg2; rw [made_stops] at hown2; have HO2 := Lib.hid hown2; have HG2 := Lib.hid ((Below.refl w.heap.size w).grown hg2 (Nat.le_refl _) (fun j hj => by cases hj)); clear hown2 hg2)
  have HST : Hid (RRow twoS w2 w2.heap.size (some ⟨w.heap.size, 0, none⟩) 3 [(0, 0), (0, 0), (0, 0)]) := RRow.of_own (S := twoS) HO2.out
  have hb3 := (Below.refl w2.heap.size w2).alloc (Nat.le_refl _) (.cells #[.int .i64 0, .int .i64 2, .int .i64 1] 50)
  have HN3 : Hid (NAt (w2.alloc (.cells #[.int .i64 0, .int .i64 2, .int .i64 1] 50)) (w2.alloc (.cells #[.int .i64 0, .int .i64 2, .int .i64 1] 50)).heap.size exN (some ⟨w.heap.size, 0, none⟩) 3 3 (some ⟨w2.heap.size, 0, none⟩) 1 1) :=
    ⟨(HST.out.below hb3).more (by simp), RRow.of_blk (S := lkS) (l := [(0, 2, 1)]) (heap_alloc_new w2 _) (by simp) rfl, (fun h => by cases h), Nat.le_refl _, (by unfold maxLen; omega), (fun h => by cases h), Nat.le_refl _, (by unfold maxLen; omega)⟩
  have HB3 := Lib.hid (HG2.out.trans (hb3.mono HG2.out.size))
  have HBD : Hid (Bnd exN) := ⟨⟨by decide, by decide⟩, by unfold B64p B64; decide, by unfold B64; decide⟩
  clear HST hb3 HO2 HG2
  go_wp2_with fail
  generalize w2.alloc (.cells #[.int .i64 0, .int .i64 2, .int .i64 1] 50) = w3 at *
  refine (k.parts exN _ _ 3 3 1 1 w3 HN3.out HBD.out (by omega) (by omega)).mono ?_
  rw [ex_check, ex_parts]
  rintro e4 w4 ⟨v4, rfl, A4, n4, c4, rfl, hr4, -, -, -, hb4⟩
  have hn4 : 3 = n4 := hr4.len
  subst hn4
  have HR4 := Lib.hid hr4
  have HB4 := Lib.hid (HB3.out.trans (hb4.mono HB3.out.size))
  clear hr4 hb4 HN3 HB3
  have hb5 := (Below.refl w4.heap.size w4).alloc (Nat.le_refl _) (.cells #[.int .i64 0, .int .i64 1, .int .i64 0] 3)
  have HRX : Hid (RRow intS (w4.alloc (.cells #[.int .i64 0, .int .i64 1, .int .i64 0] 3)) (w4.alloc (.cells #[.int .i64 0, .int .i64 1, .int .i64 0] 3)).heap.size (some ⟨w4.heap.size, 0, none⟩) 3 [0, 1, 0]) := RRow.of_blk (S := intS) (l := [0, 1, 0]) (heap_alloc_new w4 _) (by simp) rfl
  have HR5 : Hid (RRow intS (w4.alloc (.cells #[.int .i64 0, .int .i64 1, .int .i64 0] 3)) w4.heap.size A4 3 [0, 1, 0]) := HR4.out.below hb5
  have HB5 := Lib.hid (HB4.out.trans (hb5.mono HB4.out.size))
  clear HR4 hb5 HB4
  go_wp2_with fail
  generalize w4.alloc (.cells #[.int .i64 0, .int .i64 1, .int .i64 0] 3) = w5 at *
  refine (isame_any A4 _ 3 3 c4 3 _ _ [0, 1, 0] [0, 1, 0] w5 (by omega) HR5.out HRX.out).mono ?_
  rw [show decide (([0, 1, 0] : List Int) = [0, 1, 0]) = true from rfl]
  rintro e6 w6 ⟨rfl, q6, rfl⟩
  go_wp2
  go_ret
  exact ⟨rfl, below_drewN HB5.out q6⟩
theorem tN_small (c : List Int) : (tN c).st.length ≤ 4096 ∧ (tN c).lk.length ≤ 16384 := ⟨by rw [tN_st]; exact (tK_le c).1, by rw [tN_lk]; exact (tM_le c).1⟩
theorem take_small (b : List Int) : (take b).1.st.length ≤ 4096 ∧ (take b).1.lk.length ≤ 16384 := by
  unfold take takeF
  repeat' split
  all_goals first
    | exact tN_small _
    | exact ⟨Nat.zero_le _, Nat.zero_le _⟩
theorem near_at {L : List L3} {s : Int} {j : Nat} : ∀ {n : Nat}, j < n → wt L s (j : Int) ≠ 0 → (nearK L s n)[(nearK L s j).length]? = some (s, (j : Int), wt L s (j : Int))
  | 0, h, _ => absurd h (by omega)
  | n + 1, h, hw => by
    rw [nearK]
    rcases Nat.lt_or_ge j n with h1 | h1
    · have ih := near_at h1 hw
      rw [List.getElem?_append_left (List.getElem?_eq_some_iff.1 ih).1]
      exact ih
    · obtain rfl : j = n := by omega
      rw [List.getElem?_append_right (Nat.le_refl _), Nat.sub_self, if_neg hw]
      rfl
theorem nearK_no {L : List L3} {s : Int} {j : Nat} (h : wt L s (j : Int) = 0) : nearK L s (j + 1) = nearK L s j := by rw [nearK, if_pos h, List.append_nil]
theorem nearK_yes {L : List L3} {s : Int} {j : Nat} (h : wt L s (j : Int) ≠ 0) : (nearK L s (j + 1)).length = (nearK L s j).length + 1 := by rw [nearK, if_neg h, List.length_append]; rfl
theorem partsE_yes {N : Nt} (h : check N = 0) : partsE N = nums (partsT N) := by unfold partsE; rw [if_pos h]
theorem partsE_no {N : Nt} (h : check N ≠ 0) : partsE N = [] := by unfold partsE; rw [if_neg h]
theorem putT_yes {N : Nt} (h : check N = 0) : putT N = frame 3 (cont N) := by unfold putT; rw [if_pos h]
theorem putT_no {N : Nt} (h : check N ≠ 0) : putT N = [] := by unfold putT; rw [if_neg h]
theorem Bx.up {w wr : World} {N : Nt} {A A' : Option Addr} {n c m c' : Nat} (h : Bx w N A n c A' m c' wr) : NAt wr wr.heap.size N A n c A' m c' := h.at_.more h.bel.size
end Go.Proofs.Ytdgaaghkhkklpaa.Gf

/- Layer 15 (graph): GraphBytes as a walk, out of what the program's functions must do. -/
namespace Go.Proofs.Ytdgaaghkhkklpaa.Gf
open Go.RowKit Rec Ints Ge Var Fld Frm Nu

set_option maxHeartbeats 3200000 in
set_option maxRecDepth 100000 in
theorem bytes_walk (k : Oks) (N : Nt) (A A' B0 : Option Addr) (n c m c' nb cb : Nat) (bs : List Int) (w : World) (h : NAt w w.heap.size N A n c A' m c') (hbd : Bnd N) (hb : Row .u8 w w.heap.size B0 nb bs) (hby : Byt bs) (hbn : B0 = none → cb = 0) (hbc : nb ≤ cb) (hbm : cb ≤ maxLen) :
    Calls Try.prog 3 #[.agg #[.int .i64 N.ver, .slice A n c, .slice A' m c'], .slice B0 nb cb] w fun e w' => e = .returned (.bool true) ∧ Below w.heap.size w w' := by
  have HBX := Lib.hid (Bx.start h)
  have HBD := Lib.hid hbd
  have hba : Below w.heap.size w (w.alloc (.cells #[.int .i64 N.ver, .slice A n c, .slice A' m c'] 25)) := (Below.refl _ _).alloc (Nat.le_refl _) _
  have HRB : Hid (Row .u8 (w.alloc (.cells #[.int .i64 N.ver, .slice A n c, .slice A' m c'] 25)) (w.alloc (.cells #[.int .i64 N.ver, .slice A n c, .slice A' m c'] 25)).heap.size B0 nb bs) := (hb.below hba).more hba.size
  have HCB := Lib.hid (And.intro hbn (And.intro hbc hbm))
  have HBY := Lib.hid hby
  clear h hbd hb hba hby hbn hbc hbm
  go_enter Try.func3, Try.ntmps3
  go_wp2_with fail
  generalize w.alloc (.cells #[.int .i64 N.ver, .slice A n c, .slice A' m c'] 25) = wa at *
  refine (awake_any k _).mono ?_
  rintro e1 w1 ⟨rfl, hb1⟩
  have HB1 := Lib.hid (HBX.out.below hb1)
  have HRB1 : Hid (Row .u8 w1 w1.heap.size B0 nb bs) := (HRB.out.below hb1).more hb1.size
  clear hb1 HBX HRB
  have z0 : w1.cell? ⟨w.heap.size, 0, none⟩ = some (.int .i64 N.ver) := cell_of_blk HB1.out.blk rfl
  have z1 : w1.cell? ⟨w.heap.size, 1, none⟩ = some (.slice A n c) := cell_of_blk HB1.out.blk rfl
  have z2 : w1.cell? ⟨w.heap.size, 2, none⟩ = some (.slice A' m c') := cell_of_blk HB1.out.blk rfl
  go_wp2_with fail
  refine (few_any N A A' n c m c' w1 HB1.out.up).mono ?_
  rintro e2 w2 ⟨rfl, hb2⟩
  have HB2 := Lib.hid (HB1.out.below hb2)
  have HRB2 : Hid (Row .u8 w2 w2.heap.size B0 nb bs) := (HRB1.out.below hb2).more hb2.size
  clear hb2 HB1 HRB1 z0 z1 z2
  cases hfew : (decide (n ≤ 60) && decide (m ≤ 120)) with
  | false =>
    go_wp2
    go_ret
    exact ⟨rfl, HB2.out.bel⟩
  | true =>
  have hn60 : n ≤ 60 := by simp only [Bool.and_eq_true, decide_eq_true_eq] at hfew; exact hfew.1
  have hm120 : m ≤ 120 := by simp only [Bool.and_eq_true, decide_eq_true_eq] at hfew; exact hfew.2
  clear hfew
  by_cases h2000 : 2000 < nb
  · have d0 : decide ((2000 : Int) < (nb : Int)) = true := decide_eq_true (by omega)
    have d0' : decide (2000 < nb) = true := decide_eq_true h2000
    go_wp2
    go_ret
    exact ⟨rfl, HB2.out.bel⟩
  have d0 : decide ((2000 : Int) < (nb : Int)) = false := decide_eq_false (by omega)
  have d0' : decide (2000 < nb) = false := decide_eq_false h2000
  have z0 : w2.cell? ⟨w.heap.size, 0, none⟩ = some (.int .i64 N.ver) := cell_of_blk HB2.out.blk rfl
  have z1 : w2.cell? ⟨w.heap.size, 1, none⟩ = some (.slice A n c) := cell_of_blk HB2.out.blk rfl
  have z2 : w2.cell? ⟨w.heap.size, 2, none⟩ = some (.slice A' m c') := cell_of_blk HB2.out.blk rfl
  go_wp2_with fail
  refine (k.put N A A' n c m c' w2 HB2.out.up HBD.out (by omega) (by omega)).mono ?_
  rintro e3 w3 ⟨v3, rfl, A3, n3, c3, rfl, hr3, hi3, hc3, hx3, hb3⟩
  have HB3 := Lib.hid (HB2.out.below hb3)
  have HRB3 : Hid (Row .u8 w3 w3.heap.size B0 nb bs) := (HRB2.out.below hb3).more hb3.size
  have HR3 := Lib.hid hr3
  clear hb3 HB2 HRB2 z0 z1 z2 hr3 hi3 hc3 hx3
  have z0 : w3.cell? ⟨w.heap.size, 0, none⟩ = some (.int .i64 N.ver) := cell_of_blk HB3.out.blk rfl
  have z1 : w3.cell? ⟨w.heap.size, 1, none⟩ = some (.slice A n c) := cell_of_blk HB3.out.blk rfl
  have z2 : w3.cell? ⟨w.heap.size, 2, none⟩ = some (.slice A' m c') := cell_of_blk HB3.out.blk rfl
  go_wp2_with fail
  refine (refcheck_any N A A' n c m c' w3 HB3.out.up (by omega) (by omega)).mono ?_
  rintro e4 w4 ⟨rfl, hb4⟩
  have HB4 := Lib.hid (HB3.out.below hb4)
  have HRB4 : Hid (Row .u8 w4 w4.heap.size B0 nb bs) := (HRB3.out.below hb4).more hb4.size
  have HR4 : Hid (Row .u8 w4 w4.heap.size A3 n3 (putT N)) := (HR3.out.below hb4).more hb4.size
  clear hb4 HB3 HRB3 HR3 z0 z1 z2
  have z0 : w4.cell? ⟨w.heap.size, 0, none⟩ = some (.int .i64 N.ver) := cell_of_blk HB4.out.blk rfl
  have z1 : w4.cell? ⟨w.heap.size, 1, none⟩ = some (.slice A n c) := cell_of_blk HB4.out.blk rfl
  have z2 : w4.cell? ⟨w.heap.size, 2, none⟩ = some (.slice A' m c') := cell_of_blk HB4.out.blk rfl
  go_wp2_with fail
  refine (k.check N A A' n c m c' w4 HB4.out.up HBD.out (by omega) (by omega)).mono ?_
  rintro e5 w5 ⟨rfl, hb5⟩
  have HB5 := Lib.hid (HB4.out.below hb5)
  have HRB5 : Hid (Row .u8 w5 w5.heap.size B0 nb bs) := (HRB4.out.below hb5).more hb5.size
  have HR5 : Hid (Row .u8 w5 w5.heap.size A3 n3 (putT N)) := (HR4.out.below hb5).more hb5.size
  clear hb5 HB4 HRB4 HR4 z0 z1 z2
  by_cases hck : check N = 0
  · have hpt := putT_yes hck
    have HR6 := HR5.out
    rw [hpt] at HR6
    have HR7 := Lib.hid HR6
    have HCK := Lib.hid hck
    rw [hck]
    have hn3 : n3 ≤ 4398046511104 := by
      have h1 := HR6.len
      have h2 := cont_len (valid_of hck)
      have h3 := frame_len 3 (cont N)
      have h4 : (put (cont N).length).length ≤ 10 := put_len10 (by omega)
      omega
    clear HR6 HR5 hpt hck
    have z0 : w5.cell? ⟨w.heap.size, 0, none⟩ = some (.int .i64 N.ver) := cell_of_blk HB5.out.blk rfl
    have z1 : w5.cell? ⟨w.heap.size, 1, none⟩ = some (.slice A n c) := cell_of_blk HB5.out.blk rfl
    have z2 : w5.cell? ⟨w.heap.size, 2, none⟩ = some (.slice A' m c') := cell_of_blk HB5.out.blk rfl
    go_wp2_with fail
    refine (refput_any N A A' n c m c' w5 HB5.out.up HCK.out).mono ?_
    rintro e6 w6 ⟨v6, rfl, A6, n6, c6, rfl, hr6, -, -, -, hb6⟩
    have HB6 := Lib.hid (HB5.out.below hb6)
    have HRB6 : Hid (Row .u8 w6 w6.heap.size B0 nb bs) := (HRB5.out.below hb6).more hb6.size
    have HR8 : Hid (Row .u8 w6 w6.heap.size A3 n3 (frame 3 (cont N))) := (HR7.out.below hb6).more hb6.size
    have HR9 := Lib.hid hr6
    have hn6 : n6 = n3 := by have a := hr6.len; have b := HR7.out.len; omega
    subst hn6
    clear hb6 HB5 HRB5 HR7 hr6 z0 z1 z2
    go_wp2_with fail
    refine (same_any A3 A6 n6 c3 n6 c6 _ _ _ _ w6 hn3 hn3 HR8.out HR9.out).mono ?_
    rw [decide_eq_true rfl]
    rintro e7 w7 ⟨rfl, q7, rfl⟩
    have HB7 := Lib.hid (HB6.out.below (below_drewN (Below.refl _ _) q7))
    have HRB7 : Hid (Row .u8 (w6.drewN q7) (w6.drewN q7).heap.size B0 nb bs) := HRB6.out.below (below_drewN (Below.refl _ _) q7)
    generalize w6.drewN q7 = w7 at *
    clear HB6 HRB6 HR8 HR9
    go_wp2_with fail
    refine (k.take B0 nb cb bs _ HRB7.out HBY.out HCB.out.1 HCB.out.2.1 HCB.out.2.2 (by omega)).mono ?_
    obtain ⟨X, hX⟩ : ∃ X, take bs = X := ⟨_, rfl⟩
    have hsm := take_small bs
    rw [hX] at hsm ⊢
    have HX := Lib.hid hX
    clear hX
    rintro e8 w8 ⟨B8, k8, d8, B8', m8, d8', rfl, hat8, hb8⟩
    have HB8 := Lib.hid (HB7.out.below hb8)
    have HRB8 : Hid (Row .u8 w8 w8.heap.size B0 nb bs) := (HRB7.out.below hb8).more hb8.size
    have hba8 := (Below.refl w8.heap.size w8).alloc (Nat.le_refl _) (.cells #[.int .i64 X.1.ver, .slice B8 k8 d8, .slice B8' m8 d8'] 25)
    have HB9 := Lib.hid (HB8.out.below hba8)
    have HRB9 := Lib.hid ((HRB8.out.below hba8).more hba8.size)
    have HAT9 := Lib.hid (hat8.up hba8)
    have HK9 := Lib.hid (heap_alloc_new w8 (.cells #[.int .i64 X.1.ver, .slice B8 k8 d8, .slice B8' m8 d8'] 25))
    have HK8 : Hid (k8 ≤ 4096) := by have := hat8.st.len; unfold Hid; omega
    have HM8 : Hid (m8 ≤ 16384) := by have := hat8.lk.len; unfold Hid; omega
    clear hb8 hba8 hat8 HB7 HRB7 HB8 HRB8
    go_wp2_with fail
    obtain ⟨g8, hg8⟩ : ∃ g, w8.heap.size = g := ⟨_, rfl⟩
    rw [hg8] at HK9 ⊢
    generalize w8.alloc (.cells #[.int .i64 X.1.ver, .slice B8 k8 d8, .slice B8' m8 d8'] 25) = w9 at *
    clear hg8
    refine (reftake_any B0 nb cb bs w9 HRB9.out HBY.out (by omega) HCB.out.2.1 HCB.out.2.2).mono ?_
    unfold TkTo
    rw [HX.out]
    rintro e10 w10 ⟨B10, k10, d10, B10', m10, d10', rfl, hat10, hb10⟩
    have hba10 := (Below.refl w10.heap.size w10).alloc (Nat.le_refl _) (.cells #[.int .i64 X.1.ver, .slice B10 k10 d10, .slice B10' m10 d10'] 25)
    have HB11 := Lib.hid ((HB9.out.below hb10).below hba10)
    have HAT11 := Lib.hid ((HAT9.out.up hb10).up hba10)
    have HAT12 := Lib.hid (hat10.up hba10)
    have HK11 := Lib.hid ((hba10.block _ (by have := hb10.size; have := (Array.getElem?_eq_some_iff.1 HK9.out).1; omega)).trans ((hb10.block _ (Array.getElem?_eq_some_iff.1 HK9.out).1).trans HK9.out))
    have HK12 := Lib.hid (heap_alloc_new w10 (.cells #[.int .i64 X.1.ver, .slice B10 k10 d10, .slice B10' m10 d10'] 25))
    clear hb10 hba10 hat10 HB9 HRB9 HAT9 HK9
    go_upto_region 11 with fail
    obtain ⟨g10, hg10⟩ : ∃ g, w10.heap.size = g := ⟨_, rfl⟩
    rw [hg10] at HK12 ⊢
    generalize w10.alloc (.cells #[.int .i64 X.1.ver, .slice B10 k10 d10, .slice B10' m10 d10'] 25) = w11 at *
    clear hg10
    have x0 : w11.cell? ⟨g8, 0, none⟩ = some (.int .i64 X.1.ver) := cell_of_blk HK11.out rfl
    have x1 : w11.cell? ⟨g8, 1, none⟩ = some (.slice B8 k8 d8) := cell_of_blk HK11.out rfl
    have x2 : w11.cell? ⟨g8, 2, none⟩ = some (.slice B8' m8 d8') := cell_of_blk HK11.out rfl
    have y0 : w11.cell? ⟨g10, 0, none⟩ = some (.int .i64 X.1.ver) := cell_of_blk HK12.out rfl
    have y1 : w11.cell? ⟨g10, 1, none⟩ = some (.slice B10 k10 d10) := cell_of_blk HK12.out rfl
    have y2 : w11.cell? ⟨g10, 2, none⟩ = some (.slice B10' m10 d10') := cell_of_blk HK12.out rfl
    go_wp2_with fail
    refine (refsame_yes X.1 B8 B8' B10 B10' k8 d8 m8 d8' k10 d10 m10 d10' _ _ w11 HAT11.out HAT12.out (Nat.le_refl _) (Nat.le_refl _) (by have := HK8.out; omega) (by have := HM8.out; omega)).mono ?_
    rintro e12 w12 ⟨rfl, hb12⟩
    go_wp2
    go_ret
    exact ⟨rfl, HB11.out.bel.trans (hb12.mono HB11.out.bel.size)⟩
  · obtain ⟨ck, hck'⟩ : ∃ ck, check N = ck := ⟨_, rfl⟩
    have hpt := putT_no hck
    have hlen := HR5.out.len
    rw [hpt] at hlen
    have hn3 : 0 = n3 := hlen
    subst hn3
    rw [hck'] at hck ⊢
    have f1 : ((ck : Int) == 0) = false := beq_eq_false_iff_ne.2 (by omega)
    have f1' : ((ck : Int) != 0) = true := bne_iff_ne.2 (by omega)
    have HB7 := HB5
    have HRB7 := HRB5
    clear hck hck' hpt hlen HR5 HB5 HRB5
    generalize w5 = w7 at *
    go_wp2_with fail
    refine (k.take B0 nb cb bs _ HRB7.out HBY.out HCB.out.1 HCB.out.2.1 HCB.out.2.2 (by omega)).mono ?_
    obtain ⟨X, hX⟩ : ∃ X, take bs = X := ⟨_, rfl⟩
    have hsm := take_small bs
    rw [hX] at hsm ⊢
    have HX := Lib.hid hX
    clear hX
    rintro e8 w8 ⟨B8, k8, d8, B8', m8, d8', rfl, hat8, hb8⟩
    have HB8 := Lib.hid (HB7.out.below hb8)
    have HRB8 : Hid (Row .u8 w8 w8.heap.size B0 nb bs) := (HRB7.out.below hb8).more hb8.size
    have hba8 := (Below.refl w8.heap.size w8).alloc (Nat.le_refl _) (.cells #[.int .i64 X.1.ver, .slice B8 k8 d8, .slice B8' m8 d8'] 25)
    have HB9 := Lib.hid (HB8.out.below hba8)
    have HRB9 := Lib.hid ((HRB8.out.below hba8).more hba8.size)
    have HAT9 := Lib.hid (hat8.up hba8)
    have HK9 := Lib.hid (heap_alloc_new w8 (.cells #[.int .i64 X.1.ver, .slice B8 k8 d8, .slice B8' m8 d8'] 25))
    have HK8 : Hid (k8 ≤ 4096) := by have := hat8.st.len; unfold Hid; omega
    have HM8 : Hid (m8 ≤ 16384) := by have := hat8.lk.len; unfold Hid; omega
    clear hb8 hba8 hat8 HB7 HRB7 HB8 HRB8
    go_wp2_with fail
    obtain ⟨g8, hg8⟩ : ∃ g, w8.heap.size = g := ⟨_, rfl⟩
    rw [hg8] at HK9 ⊢
    generalize w8.alloc (.cells #[.int .i64 X.1.ver, .slice B8 k8 d8, .slice B8' m8 d8'] 25) = w9 at *
    clear hg8
    refine (reftake_any B0 nb cb bs w9 HRB9.out HBY.out (by omega) HCB.out.2.1 HCB.out.2.2).mono ?_
    unfold TkTo
    rw [HX.out]
    rintro e10 w10 ⟨B10, k10, d10, B10', m10, d10', rfl, hat10, hb10⟩
    have hba10 := (Below.refl w10.heap.size w10).alloc (Nat.le_refl _) (.cells #[.int .i64 X.1.ver, .slice B10 k10 d10, .slice B10' m10 d10'] 25)
    have HB11 := Lib.hid ((HB9.out.below hb10).below hba10)
    have HAT11 := Lib.hid ((HAT9.out.up hb10).up hba10)
    have HAT12 := Lib.hid (hat10.up hba10)
    have HK11 := Lib.hid ((hba10.block _ (by have := hb10.size; have := (Array.getElem?_eq_some_iff.1 HK9.out).1; omega)).trans ((hb10.block _ (Array.getElem?_eq_some_iff.1 HK9.out).1).trans HK9.out))
    have HK12 := Lib.hid (heap_alloc_new w10 (.cells #[.int .i64 X.1.ver, .slice B10 k10 d10, .slice B10' m10 d10'] 25))
    clear hb10 hba10 hat10 HB9 HRB9 HAT9 HK9
    go_upto_region 11 with fail
    obtain ⟨g10, hg10⟩ : ∃ g, w10.heap.size = g := ⟨_, rfl⟩
    rw [hg10] at HK12 ⊢
    generalize w10.alloc (.cells #[.int .i64 X.1.ver, .slice B10 k10 d10, .slice B10' m10 d10'] 25) = w11 at *
    clear hg10
    have x0 : w11.cell? ⟨g8, 0, none⟩ = some (.int .i64 X.1.ver) := cell_of_blk HK11.out rfl
    have x1 : w11.cell? ⟨g8, 1, none⟩ = some (.slice B8 k8 d8) := cell_of_blk HK11.out rfl
    have x2 : w11.cell? ⟨g8, 2, none⟩ = some (.slice B8' m8 d8') := cell_of_blk HK11.out rfl
    have y0 : w11.cell? ⟨g10, 0, none⟩ = some (.int .i64 X.1.ver) := cell_of_blk HK12.out rfl
    have y1 : w11.cell? ⟨g10, 1, none⟩ = some (.slice B10 k10 d10) := cell_of_blk HK12.out rfl
    have y2 : w11.cell? ⟨g10, 2, none⟩ = some (.slice B10' m10 d10') := cell_of_blk HK12.out rfl
    go_wp2_with fail
    refine (refsame_yes X.1 B8 B8' B10 B10' k8 d8 m8 d8' k10 d10 m10 d10' _ _ w11 HAT11.out HAT12.out (Nat.le_refl _) (Nat.le_refl _) (by have := HK8.out; omega) (by have := HM8.out; omega)).mono ?_
    rintro e12 w12 ⟨rfl, hb12⟩
    go_wp2
    go_ret
    exact ⟨rfl, HB11.out.bel.trans (hb12.mono HB11.out.bel.size)⟩
end Go.Proofs.Ytdgaaghkhkklpaa.Gf

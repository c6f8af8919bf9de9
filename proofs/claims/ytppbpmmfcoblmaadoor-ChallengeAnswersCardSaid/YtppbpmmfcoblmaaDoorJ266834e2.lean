/- Lemmas that the proof stands on, in build order: ShaH. -/
import Derived.Deep.QuietTactic
import Derived.BigQuiet
import Derived.Test.YtppbpmmfcoblmaaDoorJ25bc339c
/- Layer 7 (sha): the program's through (the rounds on a block), as a contract. -/
namespace Go.Proofs.YtppbpmmfcoblmaaDoor.Sha
open Go.RowKit

attribute [local go_sem] wi_xor wi_and wi_or wi_add wi_shr3 wi_shr10 wi_com

/-- Beyond the blocks of the package's two tables. -/
def Glo : Nat := max 0 1
theorem Glo.con {B : Nat} (h : Glo < B) : 1 < B := Nat.lt_of_le_of_lt (by decide +kernel) h
theorem Glo.ini {B : Nat} (h : Glo < B) : 0 < B := Nat.lt_of_le_of_lt (by decide +kernel) h
/-- The program's table of constants lies in its block. -/
def Tab (w : World) : Prop := Glo < w.heap.size ∧ ∀ j, j < 64 → w.cell? ⟨1, j, none⟩ = some (.int .u32 (wi (wat ks j)))
theorem Tab.below {w w' : World} {B : Nat} (h : Tab w) (hb : Below B w w') (hB : Glo < B) : Tab w' :=
  ⟨Nat.lt_of_lt_of_le h.1 hb.size, fun j hj => (hb.cell (p := ⟨1, j, none⟩) (Glo.con hB)).trans (h.2 j hj)⟩

/-- While a block goes through the rounds: G the words' block, S the schedule's. -/
structure Thr (w : World) (G S : Nat) (ws cur : List Wd) (w' : World) : Prop where
  inp : w'.heap[G]? = some (.cells (wv cur).toArray 143 (0, 0))
  res : w'.heap[G + 1 + 1]? = some (.cells (wv (List.replicate 8 0)).toArray 143 (0, 0))
  sch : w'.heap[S]? = some (.cells (wv ws).toArray 150 (0, 0))
  bel : Below G w w'
  tab : Tab w'
  c8 : cur.length = 8
  c64 : ws.length = 64
  far : G + 1 + 1 < S
theorem Thr.drew {w w' : World} {G S q : Nat} {ws cur : List Wd} (h : Thr w G S ws cur w') : Thr w G S ws cur (w'.drewN q) :=
  ⟨h.inp, h.res, h.sch, ⟨h.bel.os, h.bel.tape, h.bel.output, h.bel.size, h.bel.block⟩, h.tab, h.c8, h.c64, h.far⟩
theorem Thr.word {w w' : World} {G S : Nat} {ws cur : List Wd} (h : Thr w G S ws cur w') {j : Nat} (hj : j < 8) : w'.cell? ⟨G, j, none⟩ = some (.int .u32 (wi (wat cur j))) ∧ w'.frozen? ⟨G, j, none⟩ = false := by
  have := h.c8
  exact ⟨cell_of_blk h.inp (by rw [List.getElem?_toArray]; exact wv_at (by omega)), free_of_blk h.inp⟩
theorem Thr.sched {w w' : World} {G S : Nat} {ws cur : List Wd} (h : Thr w G S ws cur w') {j : Nat} (hj : j < 64) : w'.cell? ⟨S, j, none⟩ = some (.int .u32 (wi (wat ws j))) := by
  have := h.c64
  exact cell_of_blk h.sch (by rw [List.getElem?_toArray]; exact wv_at (by omega))
theorem Thr.store {w w' : World} {G S i : Nat} {ws cur : List Wd} (h : Thr w G S ws cur w') (hG : Glo < G) (x : Wd) : Thr w G S ws (cur.set i x) (w'.setCell ⟨G, i, none⟩ (.int .u32 (wi x))) := by
  have hf := h.far
  refine ⟨?_, ?_, ?_, h.bel.setCell (Nat.le_refl _) _, ?_, by rw [List.length_set]; exact h.c8, h.c64, h.far⟩
  · rw [set_blk h.inp]
    simp [wv, List.map_set]
  · rw [heap_setCell_other _ _ _ _ (by simp; omega)]; exact h.res
  · rw [heap_setCell_other _ _ _ _ (by simp; omega)]; exact h.sch
  · exact h.tab.below ((Below.refl G w').setCell (Nat.le_refl _) _) hG

/-- The words while v is added to h: i of them are done. -/
def part (h v : List Wd) (i : Nat) : List Wd := adds h v i ++ h.drop i
theorem part_set {h v : List Wd} {i : Nat} (hh : h.length = 8) (hi : i < 8) : (part h v i).set i (wat h i + wat v i) = part h v (i + 1) := by
  have hd : h.drop i = wat h i :: h.drop (i + 1) := by
    rw [List.drop_eq_getElem_cons (by omega)]
    simp [wat, List.getD, List.getElem?_eq_getElem (show i < h.length by omega)]
  unfold part
  rw [hd]
  have hl : i = (adds h v i).length := (adds_len h v i).symm
  conv => lhs; rw [List.set_append_right _ _ (by omega)]
  simp [adds, adds_len]
theorem part_wat {h v : List Wd} {i : Nat} : wat (part h v i) i = wat h i := by
  unfold part wat
  simp only [List.getD]
  rw [List.getElem?_append_right (by rw [adds_len]; exact Nat.le_refl _), adds_len]
  simp
theorem part_end {h v : List Wd} (hh : h.length = 8) : part h v 8 = adds h v 8 := by
  unfold part
  rw [List.drop_of_length_le (by omega), List.append_nil]
theorem part_len {h v : List Wd} {i : Nat} (hh : h.length = 8) (hi : i ≤ 8) : (part h v i).length = 8 := by
  unfold part
  rw [List.length_append, adds_len, List.length_drop]
  omega

set_option maxRecDepth 100000 in
theorem index8 (V : List Wd) (i : Nat) (hi : i < 8) (w : World) : (Instr.index 143 (.agg #[.int .u32 (wi (wat V 0)), .int .u32 (wi (wat V 1)), .int .u32 (wi (wat V 2)), .int .u32 (wi (wat V 3)), .int .u32 (wi (wat V 4)), .int .u32 (wi (wat V 5)), .int .u32 (wi (wat V 6)), .int .u32 (wi (wat V 7))]) (.int .i64 (i : Int))).run Tryd.prog w = .ok (.int .u32 (wi (wat V i))) w := by
  have e : ∀ (a b c d e f g h : Value) (w : World), a.oneCell' = true → True := fun _ _ _ _ _ _ _ _ _ _ => trivial
  clear e
  obtain rfl | rfl | rfl | rfl | rfl | rfl | rfl | rfl : i = 0 ∨ i = 1 ∨ i = 2 ∨ i = 3 ∨ i = 4 ∨ i = 5 ∨ i = 6 ∨ i = 7 := by omega
  all_goals rfl

theorem wv_one (l : List Wd) : (wv l).toArray.all (·.oneCell') = true := all_oneCell_toArray (fun v hv => by
  unfold wv at hv
  obtain ⟨x, _, rfl⟩ := List.mem_map.1 hv
  rfl)
theorem e64 : (Tryd.prog.info? 150).map (·.size) = some 64 := by kernel_rfl
theorem e8 : (Tryd.prog.info? 143).map (·.size) = some 8 := by kernel_rfl
theorem e64b : (Tryd.prog.info? 135).map (·.size) = some 64 := by kernel_rfl
theorem info64 {l : List Wd} (hl : l.length = 64) : (Tryd.prog.info? 150).map (·.size) = some (wv l).toArray.size := by
  rw [List.size_toArray, wv_len, hl]; exact e64
theorem info8w {l : List Wd} (hl : l.length = 8) : (Tryd.prog.info? 143).map (·.size) = some (wv l).toArray.size := by
  rw [List.size_toArray, wv_len, hl]; exact e8
theorem info64b {l : List Int} (hl : l.length = 64) : (Tryd.prog.info? 135).map (·.size) = some (bv l).toArray.size := by
  have : (bv l).toArray.size = 64 := by simpa [bv] using hl
  rw [this]; exact e64b

/-- Behind the schedule's call. -/
theorem thr_start (z : Array Value) {w w1 : World} {h ws : List Wd} {L : List Int} (hh : h.length = 8) (hw : ws.length = 64) (hT : Tab w)
    (hb : Below (((w.alloc (.cells (wv h).toArray 143)).alloc (.cells (bv L).toArray 135)).alloc (.cells (wv (List.replicate 8 0)).toArray 143)).heap.size (((w.alloc (.cells (wv h).toArray 143)).alloc (.cells (bv L).toArray 135)).alloc (.cells (wv (List.replicate 8 0)).toArray 143)) w1) :
    Thr w w.heap.size w1.heap.size ws h ((w1.alloc (.cells z 150)).setRow w1.heap.size (wv ws).toArray) := by
  have hsz := hb.size
  simp only [World.size_alloc] at hsz
  have hg : w.heap.size < (((w.alloc (.cells (wv h).toArray 143)).alloc (.cells (bv L).toArray 135)).alloc (.cells (wv (List.replicate 8 0)).toArray 143)).heap.size := by simp; omega
  have hg2 : w.heap.size + 1 + 1 < (((w.alloc (.cells (wv h).toArray 143)).alloc (.cells (bv L).toArray 135)).alloc (.cells (wv (List.replicate 8 0)).toArray 143)).heap.size := by simp
  have b0 : Below w.heap.size w w1 := ((((Below.refl _ w).alloc (Nat.le_refl _) _).alloc (by simp) _).alloc (by simp; omega) _).trans (hb.mono (by simp; omega))
  have b1 : Below w.heap.size w (w1.alloc (.cells z 150)) := b0.alloc (by omega) _
  have b2 := below_setRow b1 (show w.heap.size ≤ w1.heap.size by omega) (wv ws).toArray
  refine ⟨?_, ?_, ?_, b2, hT.below b2 hT.1, hh, hw, by omega⟩
  · rw [setRow_other _ _ _ _ (by omega), heap_alloc_old _ _ (by omega), hb.block _ hg, heap_alloc_old _ _ (by simp; omega)]
    exact heap_alloc2_old w _ _
  · rw [setRow_other _ _ _ _ (by omega), heap_alloc_old _ _ (by omega), hb.block _ hg2]
    exact heap3 w _ _ _
  · exact setRow_heap _ _ _ _ _ _ (heap_alloc_new _ _)

set_option maxHeartbeats 3200000 in
set_option maxRecDepth 100000 in
theorem through_any (h : List Wd) (L : List Int) (hh : h.length = 8) (hL : L.length = 64) (hb : ∀ x ∈ L, 0 ≤ x ∧ x ≤ 255) (w : World) (ht : Tab w) :
    Calls Tryd.prog 107 #[.agg (wv h).toArray, .agg (bv L).toArray] w fun e w' => e = .returned (.agg (wv (adds h (rounds ks (sched 48 (words L 0 16)) h 64) 8)).toArray) ∧ Below w.heap.size w w' := by
  have HL := Lib.hid hL
  have HB := Lib.hid hb
  have HH := Lib.hid hh
  have HT := Lib.hid ht
  clear hL hb hh ht
  have HI := Lib.hid (info64b HL.out)
  go_enter Tryd.func107, Tryd.ntmps107
  go_wp2_with (first
    | (with_reducible refine wpList_load_row rfl 135 (.tmp 3) rfl (w.heap.size + 1) rfl 135 (bv L).toArray (0, 0) _ (by rw [heap_alloc_old _ _ (by simp)]; exact heap_alloc2_new w _ _) Tryd.underlying135 rfl HI.out ?_))
  refine (schedule_any L HL.out HB.out _).mono ?_
  rintro e1 w1 ⟨rfl, hb1⟩
  have hws : (sched 48 (words L 0 16)).length = 64 := by rw [sched_len, words_len]
  obtain ⟨ws, hW⟩ : ∃ ws, sched 48 (words L 0 16) = ws := ⟨_, rfl⟩
  rw [hW] at hws
  rw [hW]
  have HWE := Lib.hid hW
  have HX := Lib.hid (thr_start #[.int .u32 0, .int .u32 0, .int .u32 0, .int .u32 0, .int .u32 0, .int .u32 0, .int .u32 0, .int .u32 0, .int .u32 0, .int .u32 0, .int .u32 0, .int .u32 0, .int .u32 0, .int .u32 0, .int .u32 0, .int .u32 0, .int .u32 0, .int .u32 0, .int .u32 0, .int .u32 0, .int .u32 0, .int .u32 0, .int .u32 0, .int .u32 0, .int .u32 0, .int .u32 0, .int .u32 0, .int .u32 0, .int .u32 0, .int .u32 0, .int .u32 0, .int .u32 0, .int .u32 0, .int .u32 0, .int .u32 0, .int .u32 0, .int .u32 0, .int .u32 0, .int .u32 0, .int .u32 0, .int .u32 0, .int .u32 0, .int .u32 0, .int .u32 0, .int .u32 0, .int .u32 0, .int .u32 0, .int .u32 0, .int .u32 0, .int .u32 0, .int .u32 0, .int .u32 0, .int .u32 0, .int .u32 0, .int .u32 0, .int .u32 0, .int .u32 0, .int .u32 0, .int .u32 0, .int .u32 0, .int .u32 0, .int .u32 0, .int .u32 0, .int .u32 0] HH.out hws HT.out hb1)
  have HI2 := Lib.hid (info64 hws)
  have HSZ : Hid ((#[.int .u32 0, .int .u32 0, .int .u32 0, .int .u32 0, .int .u32 0, .int .u32 0, .int .u32 0, .int .u32 0, .int .u32 0, .int .u32 0, .int .u32 0, .int .u32 0, .int .u32 0, .int .u32 0, .int .u32 0, .int .u32 0, .int .u32 0, .int .u32 0, .int .u32 0, .int .u32 0, .int .u32 0, .int .u32 0, .int .u32 0, .int .u32 0, .int .u32 0, .int .u32 0, .int .u32 0, .int .u32 0, .int .u32 0, .int .u32 0, .int .u32 0, .int .u32 0, .int .u32 0, .int .u32 0, .int .u32 0, .int .u32 0, .int .u32 0, .int .u32 0, .int .u32 0, .int .u32 0, .int .u32 0, .int .u32 0, .int .u32 0, .int .u32 0, .int .u32 0, .int .u32 0, .int .u32 0, .int .u32 0, .int .u32 0, .int .u32 0, .int .u32 0, .int .u32 0, .int .u32 0, .int .u32 0, .int .u32 0, .int .u32 0, .int .u32 0, .int .u32 0, .int .u32 0, .int .u32 0, .int .u32 0, .int .u32 0, .int .u32 0, .int .u32 0] : Array Value).size = (wv ws).toArray.size) := by
    unfold Hid
    have e : (wv ws).toArray.size = 64 := by rw [List.size_toArray, wv_len, hws]
    rw [e]
    rfl
  clear hb1 hW hws HI
  go_wp2_with (first
    | (with_reducible refine wpList_store_row rfl 150 (.tmp 5) (.tmp 20) rfl w1.heap.size (wv ws).toArray rfl rfl 150 _ (heap_alloc_new _ _) HI2.out HSZ.out (wv_one _) ?_))
  generalize (w1.alloc (.cells #[.int .u32 0, .int .u32 0, .int .u32 0, .int .u32 0, .int .u32 0, .int .u32 0, .int .u32 0, .int .u32 0, .int .u32 0, .int .u32 0, .int .u32 0, .int .u32 0, .int .u32 0, .int .u32 0, .int .u32 0, .int .u32 0, .int .u32 0, .int .u32 0, .int .u32 0, .int .u32 0, .int .u32 0, .int .u32 0, .int .u32 0, .int .u32 0, .int .u32 0, .int .u32 0, .int .u32 0, .int .u32 0, .int .u32 0, .int .u32 0, .int .u32 0, .int .u32 0, .int .u32 0, .int .u32 0, .int .u32 0, .int .u32 0, .int .u32 0, .int .u32 0, .int .u32 0, .int .u32 0, .int .u32 0, .int .u32 0, .int .u32 0, .int .u32 0, .int .u32 0, .int .u32 0, .int .u32 0, .int .u32 0, .int .u32 0, .int .u32 0, .int .u32 0, .int .u32 0, .int .u32 0, .int .u32 0, .int .u32 0, .int .u32 0, .int .u32 0, .int .u32 0, .int .u32 0, .int .u32 0, .int .u32 0, .int .u32 0, .int .u32 0, .int .u32 0] 150)).setRow w1.heap.size (wv ws).toArray = wz at HX ⊢
  have k0 := (HX.out.word (j := 0) (by omega)).1
  have k1 := (HX.out.word (j := 1) (by omega)).1
  have k2 := (HX.out.word (j := 2) (by omega)).1
  have k3 := (HX.out.word (j := 3) (by omega)).1
  go_wp2_with fail
  go_quiet (fail)
  have HX1 := Lib.hid (HX.out.drew (q := nq))
  clear k0 k1 k2 k3 HX
  generalize wz.drewN nq = wy at HX1 ⊢
  have k0 := (HX1.out.word (j := 4) (by omega)).1
  have k1 := (HX1.out.word (j := 5) (by omega)).1
  have k2 := (HX1.out.word (j := 6) (by omega)).1
  have k3 := (HX1.out.word (j := 7) (by omega)).1
  go_wp2_with fail
  go_quiet (fail)
  have HX := Lib.hid (HX1.out.drew (q := nq))
  clear k0 k1 k2 k3 HX1
  generalize wy.drewN nq = wz at HX ⊢
  have HG1 := Lib.hid HT.out.1
  go_wp2_with fail
  go_loopw [6, 7, 8, 9, 10, 11, 12, 13, 37] (fun a b c d e f g h_ i wr => ∃ t : Nat, t ≤ 64 ∧ i = .int .i64 (t : Int) ∧ a = .int .u32 (wi (wat (rounds ks ws h t) 0)) ∧ b = .int .u32 (wi (wat (rounds ks ws h t) 1)) ∧ c = .int .u32 (wi (wat (rounds ks ws h t) 2)) ∧ d = .int .u32 (wi (wat (rounds ks ws h t) 3)) ∧ e = .int .u32 (wi (wat (rounds ks ws h t) 4)) ∧ f = .int .u32 (wi (wat (rounds ks ws h t) 5)) ∧ g = .int .u32 (wi (wat (rounds ks ws h t) 6)) ∧ h_ = .int .u32 (wi (wat (rounds ks ws h t) 7)) ∧ Hid (Thr w w.heap.size w1.heap.size ws h wr)) (fun _ _ _ _ _ _ _ _ i _ => 64 - (intOf i).toNat)
  case atStart => exact ⟨0, Nat.zero_le _, rfl, rfl, rfl, rfl, rfl, rfl, rfl, rfl, rfl, HX⟩
  case round =>
    obtain ⟨t, ht, rfl, rfl, rfl, rfl, rfl, rfl, rfl, rfl, rfl, HR⟩ := hrel
    by_cases hlt : t < 64
    · have kc := HR.out.tab.2 t hlt
      have kw := HR.out.sched hlt
      have hnx : rounds ks ws h (t + 1) = round (rounds ks ws h t) (wat ks t) (wat ws t) := rfl
      obtain ⟨V, hV⟩ : ∃ V, rounds ks ws h t = V := ⟨_, rfl⟩
      rw [hV] at hnx
      obtain ⟨kd, hkd⟩ : ∃ kd, wat ks t = kd := ⟨_, rfl⟩
      obtain ⟨wd, hwd⟩ : ∃ wd, wat ws t = wd := ⟨_, rfl⟩
      rw [hkd] at kc hnx
      rw [hwd] at kw hnx
      rw [hV]
      have HNX := Lib.hid hnx
      have h64 : (t : Int) < 64 := by omega
      clear hnx hV hkd hwd
      go_wp2_with fail
      go_quiet ((go_at_call 109; exact Calls.quiet_of_same (right_z _ _ (by decide) (by decide) _)))
      have HR1 := Lib.hid (HR.out.drew (q := nq))
      clear HR kc kw h64
      generalize wr.drewN nq = wx at HR1 ⊢
      go_wp2_with (go_at_call 109; with_reducible refine (right_z _ _ (by decide) (by decide) _).mono ?_; rintro e9 w9 ⟨rfl, rfl⟩)
      go_roundw
      case rel =>
        refine ⟨t + 1, by omega, by go_num, ?_⟩
        rw [HNX.out, cho_or, maj_or, ← BitVec.add_assoc]
        exact ⟨rfl, rfl, rfl, rfl, rfl, rfl, rfl, rfl, HR1⟩
      case measure => simp [intOf]; omega
    · obtain rfl : t = 64 := by omega
      obtain ⟨V, hV⟩ : ∃ V, rounds ks ws h 64 = V := ⟨_, rfl⟩
      rw [hV]
      have HV := Lib.hid hV
      have HP : Hid (Thr w w.heap.size w1.heap.size ws (part h V 0) wr) := by
        have e : part h V 0 = h := by simp [part, adds]
        rw [e]; exact HR.out
      clear hV HR HX hlt
      go_wp2_with fail
      go_loopw [17, 18, 109] (fun _ _ i wq => ∃ t : Nat, t ≤ 8 ∧ i = .int .i64 (t : Int) ∧ Hid (Thr w w.heap.size w1.heap.size ws (part h V t) wq)) (fun _ _ i _ => 8 - (intOf i).toNat)
      case atStart => exact ⟨0, Nat.zero_le _, rfl, HP⟩
      case round =>
        obtain ⟨t, ht, rfl, HS⟩ := hrel
        by_cases hlt : t < 8
        · have hix := index8 V t hlt
          obtain ⟨k0, k1⟩ := HS.out.word hlt
          rw [part_wat] at k0
          have hst := (HS.out.store (i := t) HG1.out (wat h t + wat V t))
          rw [part_set HH.out hlt] at hst
          have HST := Lib.hid hst
          have h8 : (t : Int) < 8 := by omega
          clear hst HS
          go_wp2
          go_roundw
          case rel => first | exact ⟨t + 1, by omega, by go_num, HST⟩ | ((repeat apply Exists.intro); exact ⟨⟨t + 1, by omega, by go_num, HST⟩, rfl⟩)
          case measure => simp [intOf]; omega
        · obtain rfl : t = 8 := by omega
          have hc := HS.out.inp
          rw [part_end HH.out] at hc
          have h8 : (adds h V 8).length = 8 := adds_len _ _ _
          have HC := Lib.hid hc
          have HI8 := Lib.hid (info8w h8)
          have HRS := Lib.hid HS.out.res
          have HBE := Lib.hid HS.out.bel
          have HSZ : Hid ((wv (List.replicate 8 0)).toArray.size = (wv (adds h V 8)).toArray.size) := by
            have e : (wv (adds h V 8)).toArray.size = 8 := by rw [List.size_toArray, wv_len, h8]
            rw [e]
            rfl
          clear hc h8 HS ht hlt
          go_wp2_with (first
            | (with_reducible refine wpList_load_row rfl 143 (.tmp 2) rfl w.heap.size rfl 143 (wv (adds h V 8)).toArray (0, 0) _ HC.out Tryd.underlying143 rfl HI8.out ?_)
            | (with_reducible refine wpList_store_row rfl 143 (.tmp 4) (.tmp 120) rfl (w.heap.size + 1 + 1) (wv (adds h V 8)).toArray rfl rfl 143 _ HRS.out HI8.out HSZ.out (wv_one _) ?_))
          refine bodyPost_ret (results_cell_row (g := w.heap.size + 1 + 1) rfl _ _ _ _ _ _ rfl (setRow_heap _ _ _ _ _ _ HRS.out) Tryd.underlying143 rfl HI8.out) rfl ⟨by rw [HWE.out, HV.out], ?_⟩
          exact below_setRow HBE.out (by omega) _
end Go.Proofs.YtppbpmmfcoblmaaDoor.Sha

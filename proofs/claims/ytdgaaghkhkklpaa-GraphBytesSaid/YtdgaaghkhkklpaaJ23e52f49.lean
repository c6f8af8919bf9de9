/- Lemmas that the proof stands on, in build order: GfY Shut. -/
import Derived.WalkKit
import Derived.ProofKit
import Derived.OpenShut
import Derived.Carry
import Derived.JoinedCond
import Derived.Test.YtdgaaghkhkklpaaJ14943df
import Derived.Test.YtdgaaghkhkklpaaJ21751cc4
/- Layer 15 (graph): GraphBack as a walk, out of what the program's functions must do. -/
namespace Go.Proofs.Ytdgaaghkhkklpaa.Gf
open Go.RowKit Rec Ints Ge Var Fld Frm Nu

theorem take_mem {α : Type} {L : List α} {r : Nat} {x : α} (h : L[r]? = some x) (y : α) : (y ∈ L.take (r + 1)) ↔ (y ∈ L.take r ∨ x = y) := by
  rw [List.take_add_one, h]
  simp only [Option.toList_some, List.mem_append, List.mem_singleton]
  exact ⟨fun h => h.imp id Eq.symm, fun h => h.imp id Eq.symm⟩
theorem cnt_le (L : List L3) (n : Nat) : ∀ k, cnt L n k ≤ k * n
  | 0 => by simp [cnt]
  | k + 1 => by
    have h1 := cnt_le L n k
    have h2 := nearK_le L (k : Int) n
    rw [cnt, Nat.add_mul, Nat.one_mul]
    omega
/-- What the loops keep. -/
structure Gb (w : World) (N : Nt) (A : Option Addr) (n c : Nat) (A' : Option Addr) (m c' : Nat) (Ap : Option Addr) (P : List Int) (wr : World) : Prop where
  bx : Bx w N A n c A' m c' wr
  pr : RRow intS wr wr.heap.size Ap n P
theorem Gb.below {w w1 w2 : World} {N : Nt} {A A' Ap : Option Addr} {n c m c' : Nat} {P : List Int} (h : Gb w N A n c A' m c' Ap P w1) (hb : Below w1.heap.size w1 w2) : Gb w N A n c A' m c' Ap P w2 := ⟨h.bx.below hb, (h.pr.below hb).more hb.size⟩
theorem up_row {w w' : World} {A : Option Addr} {n : Nat} {l : List L3} (h : RRow lkS w w.heap.size A n l) (hb : Below w.heap.size w w') : RRow lkS w' w'.heap.size A n l := (h.below hb).more hb.size

set_option maxHeartbeats 3200000 in
set_option maxRecDepth 100000 in
theorem back_walk (k : Oks) (N : Nt) (A A' : Option Addr) (n c m c' : Nat) (w : World) (h : NAt w w.heap.size N A n c A' m c') (hbd : Bnd N) :
    Calls Try.prog 5 #[.agg #[.int .i64 N.ver, .slice A n c, .slice A' m c']] w fun e w' => e = .returned (.bool true) ∧ Below w.heap.size w w' := by
  have HBX := Lib.hid (Bx.start h)
  have HBD := Lib.hid hbd
  have HLS : Hid (N.st.length = n) := h.st.len
  have HLL : Hid (N.lk.length = m) := h.lk.len
  clear h hbd
  go_enter Try.func5, Try.ntmps5
  go_wp2_with fail
  generalize w.alloc (.cells #[.int .i64 N.ver, .slice A n c, .slice A' m c'] 25) = wa at *
  refine (awake_any k _).mono ?_
  rintro e1 w1 ⟨rfl, hb1⟩
  have HB1 := Lib.hid (HBX.out.below hb1)
  clear hb1 HBX
  have z0 : w1.cell? ⟨w.heap.size, 0, none⟩ = some (.int .i64 N.ver) := cell_of_blk HB1.out.blk rfl
  have z1 : w1.cell? ⟨w.heap.size, 1, none⟩ = some (.slice A n c) := cell_of_blk HB1.out.blk rfl
  have z2 : w1.cell? ⟨w.heap.size, 2, none⟩ = some (.slice A' m c') := cell_of_blk HB1.out.blk rfl
  go_wp2_with fail
  refine (few_any N A A' n c m c' w1 HB1.out.up).mono ?_
  rintro e2 w2 ⟨rfl, hb2⟩
  have HB2 := Lib.hid (HB1.out.below hb2)
  clear hb2 HB1 z0 z1 z2
  cases hfew : (decide (n ≤ 60) && decide (m ≤ 120)) with
  | false =>
    go_wp2
    go_ret
    exact ⟨rfl, HB2.out.bel⟩
  | true =>
  have hn60 : n ≤ 60 := by simp only [Bool.and_eq_true, decide_eq_true_eq] at hfew; exact hfew.1
  have hm120 : m ≤ 120 := by simp only [Bool.and_eq_true, decide_eq_true_eq] at hfew; exact hfew.2
  clear hfew
  have z0 : w2.cell? ⟨w.heap.size, 0, none⟩ = some (.int .i64 N.ver) := cell_of_blk HB2.out.blk rfl
  have z1 : w2.cell? ⟨w.heap.size, 1, none⟩ = some (.slice A n c) := cell_of_blk HB2.out.blk rfl
  have z2 : w2.cell? ⟨w.heap.size, 2, none⟩ = some (.slice A' m c') := cell_of_blk HB2.out.blk rfl
  go_wp2_with fail
  refine (k.put N A A' n c m c' w2 HB2.out.up HBD.out (by omega) (by omega)).mono ?_
  rintro e3 w3 ⟨v3, rfl, A3, n3, c3, rfl, hr3, hi3, hc3, hx3, hb3⟩
  have HB3 := Lib.hid (HB2.out.below hb3)
  have HR3 := Lib.hid hr3
  have HC3 := Lib.hid (And.intro hi3 (And.intro hc3 hx3))
  clear hb3 HB2 hr3 hi3 hc3 hx3 z0 z1 z2
  have z0 : w3.cell? ⟨w.heap.size, 0, none⟩ = some (.int .i64 N.ver) := cell_of_blk HB3.out.blk rfl
  have z1 : w3.cell? ⟨w.heap.size, 1, none⟩ = some (.slice A n c) := cell_of_blk HB3.out.blk rfl
  have z2 : w3.cell? ⟨w.heap.size, 2, none⟩ = some (.slice A' m c') := cell_of_blk HB3.out.blk rfl
  by_cases hck : ¬ check N = 0
  · obtain ⟨ck, hck'⟩ : ∃ ck, check N = ck := ⟨_, rfl⟩
    have hlen := HR3.out.len
    rw [putT_no hck] at hlen
    have hn3 : 0 = n3 := hlen
    subst hn3
    have HCK := Lib.hid hck'
    rw [hck'] at hck ⊢
    have f1 : ((ck : Int) == 0) = false := beq_eq_false_iff_ne.2 (by omega)
    have f1' : ((ck : Int) != 0) = true := bne_iff_ne.2 (by omega)
    clear hck hck' hlen HR3
    go_wp2_with fail
    refine (k.check N A A' n c m c' w3 HB3.out.up HBD.out (by omega) (by omega)).mono ?_
    rw [HCK.out]
    rintro e4 w4 ⟨rfl, hb4⟩
    go_wp2
    go_ret
    exact ⟨by simp, HB3.out.bel.trans (hb4.mono HB3.out.bel.size)⟩
  have hck := Classical.not_not.1 hck
  have hv := valid_of hck
  have hr3 := HR3.out
  rw [putT_yes hck] at hr3
  have HR4 := Lib.hid hr3
  have HTK := Lib.hid (take_put hck)
  have HCK := Lib.hid hck
  have HPE := Lib.hid (partsE_yes hck)
  have hn3 : n3 ≤ 4398046511104 := by
    have h1 := hr3.len
    have h2 := cont_len hv
    have h3 := frame_len 3 (cont N)
    have h4 : (put (cont N).length).length ≤ 10 := put_len10 (by omega)
    omega
  have HFB : Hid (Byt (frame 3 (cont N))) := frame_byt (by omega) (cont_byt N)
  obtain ⟨P, hP⟩ : ∃ P : Nat → Nat, Gh.pturns (nlk N.lk) N.st.length id = P := ⟨_, rfl⟩
  have HPA : Hid (∀ v, v < n → (partsT N)[v]? = some (P v)) := fun v hv => by rw [← hP]; exact parts_at (by rw [HLS.out]; exact hv)
  have HPS : Hid (∀ v, v < n → P v ≤ v ∧ P (P v) = P v) := fun v hvn => by rw [← hP]; exact parts_self hv (by rw [HLS.out]; exact hvn)
  have HPN : Hid (∀ a b : Nat, a < n → b < n → wt N.lk (a : Int) (b : Int) ≠ 0 → P b = P a) := fun a b ha hb hw => by rw [← hP]; exact parts_near hv hw (by rw [HLS.out]; exact ha) (by rw [HLS.out]; exact hb)
  have HALL : Hid (cnt N.lk n n = 2 * m) := by have h1 := cnt_all hv; rw [HLS.out, HLL.out] at h1; exact h1
  clear hr3 hv HR3 hP
  rw [hck]
  clear hck
  go_wp2_with fail
  refine (k.take A3 n3 c3 (frame 3 (cont N)) w3 HR4.out HFB.out HC3.out.1 HC3.out.2.1 HC3.out.2.2 hn3).mono ?_
  rw [HTK.out]
  rintro e4 w4 ⟨B4, k4, d4, B4', m4, d4', rfl, hat4, hb4⟩
  have hba4 := (Below.refl w4.heap.size w4).alloc (Nat.le_refl _) (.cells #[.int .i64 N.ver, .slice B4 k4 d4, .slice B4' m4 d4'] 25)
  have HB5 := Lib.hid ((HB3.out.below hb4).below hba4)
  have HAT5 := Lib.hid (hat4.up hba4)
  have HK5 := Lib.hid (heap_alloc_new w4 (.cells #[.int .i64 N.ver, .slice B4 k4 d4, .slice B4' m4 d4'] 25))
  clear hb4 hba4 hat4 HB3 HR4 HC3 z0 z1 z2
  have z0 : w4.cell? ⟨w.heap.size, 0, none⟩ = w4.cell? ⟨w.heap.size, 0, none⟩ := rfl
  clear z0
  go_upto_region 9 with fail
  obtain ⟨g4, hg4⟩ : ∃ g, w4.heap.size = g := ⟨_, rfl⟩
  rw [hg4] at HK5 ⊢
  generalize w4.alloc (.cells #[.int .i64 N.ver, .slice B4 k4 d4, .slice B4' m4 d4'] 25) = w5 at *
  clear hg4
  have z0 : w5.cell? ⟨w.heap.size, 0, none⟩ = some (.int .i64 N.ver) := cell_of_blk HB5.out.blk rfl
  have z1 : w5.cell? ⟨w.heap.size, 1, none⟩ = some (.slice A n c) := cell_of_blk HB5.out.blk rfl
  have z2 : w5.cell? ⟨w.heap.size, 2, none⟩ = some (.slice A' m c') := cell_of_blk HB5.out.blk rfl
  go_wp2_with fail
  refine (k.parts N A A' n c m c' w5 HB5.out.up HBD.out (by omega) (by omega)).mono ?_
  rw [HCK.out, HPE.out]
  rintro e6 w6 ⟨v6, rfl, A6, n6, c6, rfl, hr6, -, -, -, hb6⟩
  have hn6 : n6 = n := by have h1 := hr6.len; rw [nums_len, parts_len, HLS.out] at h1; exact h1.symm
  subst hn6
  have HG6 : Hid (Gb w N A n6 c A' m c' A6 (nums (partsT N)) w6) := ⟨HB5.out.below hb6, hr6⟩
  have HAT6 := Lib.hid (HAT5.out.up hb6)
  have HK6 := Lib.hid ((hb6.block _ (Array.getElem?_eq_some_iff.1 HK5.out).1).trans HK5.out)
  clear hb6 hr6 HB5 HAT5 HK5 z0 z1 z2
  have z0 : w6.cell? ⟨w.heap.size, 0, none⟩ = some (.int .i64 N.ver) := cell_of_blk HG6.out.bx.blk rfl
  have z1 : w6.cell? ⟨w.heap.size, 1, none⟩ = some (.slice A n6 c) := cell_of_blk HG6.out.bx.blk rfl
  have z2 : w6.cell? ⟨w.heap.size, 2, none⟩ = some (.slice A' m c') := cell_of_blk HG6.out.bx.blk rfl
  have y0 : w6.cell? ⟨g4, 0, none⟩ = some (.int .i64 N.ver) := cell_of_blk HK6.out rfl
  have y1 : w6.cell? ⟨g4, 1, none⟩ = some (.slice B4 k4 d4) := cell_of_blk HK6.out rfl
  have y2 : w6.cell? ⟨g4, 2, none⟩ = some (.slice B4' m4 d4') := cell_of_blk HK6.out rfl
  go_wp2_with fail
  refine (refsame_yes N A A' B4 B4' n6 c m c' k4 d4 m4 d4' _ _ w6 HG6.out.bx.up HAT6.out (Nat.le_refl _) (Nat.le_refl _) (by omega) (by omega)).mono ?_
  rintro e7 w7 ⟨rfl, hb7⟩
  have HG7 := Lib.hid (HG6.out.below hb7)
  clear hb7 HG6 HAT6 HK6 y0 y1 y2 z0 z1 z2
  have z1 : w7.cell? ⟨w.heap.size, 1, none⟩ = some (.slice A n6 c) := cell_of_blk HG7.out.bx.blk rfl
  have HC0 : Hid (cnt N.lk n6 0 = 0) := by unfold Hid; rfl
  go_wp2
  clear z1
  go_loopw [9, 13, 70] (fun av _ iv wr => ∃ i : Nat, i ≤ n6 ∧ iv = .int .i64 (i : Int) ∧ av = .int .i64 ((cnt N.lk n6 i : Nat) : Int) ∧ Hid (Gb w N A n6 c A' m c' A6 (nums (partsT N)) wr)) (fun _ _ iv _ => n6 - (intOf iv).toNat)
  case atStart => exact ⟨0, Nat.zero_le _, rfl, by rw [HC0.out]; rfl, HG7⟩
  case round =>
    clear HG7 HC0
    obtain ⟨i, hi, rfl, rfl, HG⟩ := hrel
    by_cases hlt : i < n6
    · obtain ⟨pb, po, px, rfl, _, hpx, cp⟩ := int_at HG.out.pr hlt
      obtain ⟨pi, hpi, rfl⟩ := nums_at hpx
      have hpi' : pi = P i := by have h1 := HPA.out i hlt; rw [hpi] at h1; injection h1
      have hps := HPS.out i hlt
      rw [← hpi'] at hps
      obtain ⟨b2, o2, x2, e2, _, hx2, cpp⟩ := int_at HG.out.pr (show pi < n6 by omega)
      injection e2 with e2
      injection e2 with e2 e3
      subst e2 e3
      obtain ⟨pp, hpp, rfl⟩ := nums_at hx2
      have hpp' : pp = pi := by have h1 := HPA.out pi (by omega); rw [hpp, hps.2] at h1; injection h1
      subst hpp'
      have d1 : decide ((i : Int) < (pp : Int)) = false := decide_eq_false (by omega)
      have d1' : decide (i < pp) = false := decide_eq_false (by omega)
      have g1 : (0 : Int) ≤ (pp : Int) := by omega
      have g2 : (pp : Int) < (n6 : Int) := by omega
      have HPI := Lib.hid hpi'
      have hcl := cnt_le N.lk n6 i
      have hcl2 : cnt N.lk n6 i ≤ 3600 := Nat.le_trans hcl (Nat.mul_le_mul (by omega) (by omega) : i * n6 ≤ 60 * 60)
      clear hpx hpi hx2 hpp hps hpi' hcl
      go_wp2
      go_quiet (fail)
      have HG1 := Lib.hid (HG.out.below (below_drewN (Below.refl _ _) nq))
      generalize wr.drewN nq = wq at *
      clear HG cp cpp
      have z0 : wq.cell? ⟨w.heap.size, 0, none⟩ = some (.int .i64 N.ver) := cell_of_blk HG1.out.bx.blk rfl
      have z1 : wq.cell? ⟨w.heap.size, 1, none⟩ = some (.slice A n6 c) := cell_of_blk HG1.out.bx.blk rfl
      have z2 : wq.cell? ⟨w.heap.size, 2, none⟩ = some (.slice A' m c') := cell_of_blk HG1.out.bx.blk rfl
      go_wp2_with fail
      refine (k.near N A A' n6 c m c' (i : Int) wq HG1.out.bx.up HBD.out HCK.out ⟨by omega, by omega⟩).mono ?_
      rintro e8 w8 ⟨v8, rfl, A8, n8, c8, rfl, hr8, -, -, -, hb8⟩
      have HG2 := Lib.hid (HG1.out.below hb8)
      unfold nearL at hr8
      rw [HLS.out] at hr8
      have HLN : Hid ((nearK N.lk (i : Int) n6).length = n8) := hr8.len
      have hn8 : n8 ≤ 60 := by have := nearK_le N.lk (i : Int) n6; have := HLN.out; omega
      have HR8 := Lib.hid hr8
      obtain ⟨c0, hc0⟩ : ∃ c0, cnt N.lk n6 i = c0 := ⟨_, rfl⟩
      have HC1 : Hid (cnt N.lk n6 (i + 1) = c0 + n8) := by unfold Hid; rw [cnt, hc0, HLN.out]
      rw [hc0] at hcl2 ⊢
      clear hb8 HG1 hr8 z0 z1 z2 hc0
      go_wp2
      go_loopw [9, 13, 97] (fun av _ qv wr => ∃ q : Nat, q ≤ n8 ∧ qv = .int .i64 (q : Int) ∧ av = .int .i64 ((c0 + q : Nat) : Int) ∧ Hid (Gb w N A n6 c A' m c' (some ⟨pb, po, none⟩) (nums (partsT N)) wr) ∧ Hid (RRow lkS wr wr.heap.size A8 n8 (nearK N.lk (i : Int) n6))) (fun _ _ qv _ => n8 - (intOf qv).toNat)
      case atStart => exact ⟨0, Nat.zero_le _, rfl, by rfl, HG2, HR8⟩
      case round =>
        clear HG2 HR8
        obtain ⟨q, hq, rfl, rfl, HG, HR⟩ := hrel
        by_cases hqn : q < n8
        · obtain ⟨b, o, p, rfl, _, hp, l0, l1, l2⟩ := lk_at HR.out hqn
          obtain ⟨j, hjn, hwj, rfl⟩ := mem_nearK.1 (List.mem_of_getElem? hp)
          obtain ⟨W, hW⟩ : ∃ W, wt N.lk (i : Int) (j : Int) = W := ⟨_, rfl⟩
          have HPJ : Hid (P j = pp) := by rw [HPI.out]; exact HPN.out i j hlt hjn hwj
          have HMEM : Hid (((j : Int), (i : Int), W) ∈ nearK N.lk (j : Int) n6) := mem_nearK.2 ⟨i, hlt, by rw [wt_sym]; exact hwj, by rw [wt_sym, hW]⟩
          have HWJ : Hid (wt N.lk (j : Int) (i : Int) = W) := by rw [wt_sym]; exact hW
          rw [hW] at l2
          simp only at l0 l1
          have hba := (Below.refl wr.heap.size wr).alloc (Nat.le_refl _) (.cells #[.int .i64 (i : Int), .int .i64 (j : Int), .int .i64 W] 50)
          have HGA := Lib.hid (HG.out.below hba)
          have HRA := Lib.hid (up_row HR.out hba)
          have HKA := Lib.hid (heap_alloc_new wr (.cells #[.int .i64 (i : Int), .int .i64 (j : Int), .int .i64 W] 50))
          have ea : IntKind.i64.wrap (((c0 + q : Nat) : Int) + 1) = ((c0 + (q + 1) : Nat) : Int) := (IntWalk.i64_in _ ⟨by omega, by omega⟩).trans (by omega)
          have HEA := Lib.hid (show (((c0 + q : Nat) : Int) + 1) = ((c0 + (q + 1) : Nat) : Int) by omega)
          clear hp hwj hW hba HG HR
          go_upto_region 21 with fail
          obtain ⟨gl, hgl⟩ : ∃ gl, wr.heap.size = gl := ⟨_, rfl⟩
          rw [hgl] at HKA ⊢
          generalize wr.alloc (.cells #[.int .i64 (i : Int), .int .i64 (j : Int), .int .i64 W] 50) = wB at *
          clear hgl l0 l1 l2
          have l1 : wB.cell? ⟨gl, 1, none⟩ = some (.int .i64 (j : Int)) := cell_of_blk HKA.out rfl
          have z0 : wB.cell? ⟨w.heap.size, 0, none⟩ = some (.int .i64 N.ver) := cell_of_blk HGA.out.bx.blk rfl
          have z1 : wB.cell? ⟨w.heap.size, 1, none⟩ = some (.slice A n6 c) := cell_of_blk HGA.out.bx.blk rfl
          have z2 : wB.cell? ⟨w.heap.size, 2, none⟩ = some (.slice A' m c') := cell_of_blk HGA.out.bx.blk rfl
          go_wp2_with fail
          refine (k.near N A A' n6 c m c' (j : Int) wB HGA.out.bx.up HBD.out HCK.out ⟨by omega, by omega⟩).mono ?_
          rintro e9 w9 ⟨v9, rfl, A9, n9, c9, rfl, hr9, -, -, -, hb9⟩
          have HG9 := Lib.hid (HGA.out.below hb9)
          have HRB := Lib.hid (up_row HRA.out hb9)
          have HKB := Lib.hid ((hb9.block _ (Array.getElem?_eq_some_iff.1 HKA.out).1).trans HKA.out)
          unfold nearL at hr9
          rw [HLS.out] at hr9
          have HLN9 : Hid ((nearK N.lk (j : Int) n6).length = n9) := hr9.len
          have hn9 : n9 ≤ 60 := by have := nearK_le N.lk (j : Int) n6; have := HLN9.out; omega
          have HR9 := Lib.hid hr9
          have HF0 : Hid (false = decide (((j : Int), (i : Int), W) ∈ (nearK N.lk (j : Int) n6).take 0)) := by unfold Hid; simp
          clear hb9 hr9 HGA HRA HKA l1 z0 z1 z2
          go_wp2
          go_loopw [13, 108] (fun bv rv wr => ∃ (r : Nat) (f : Bool), r ≤ n9 ∧ rv = .int .i64 (r : Int) ∧ bv = .bool f ∧ Hid (f = decide (((j : Int), (i : Int), W) ∈ (nearK N.lk (j : Int) n6).take r)) ∧ Hid (Gb w N A n6 c A' m c' (some ⟨pb, po, none⟩) (nums (partsT N)) wr) ∧ Hid (RRow lkS wr wr.heap.size (some ⟨b, o, none⟩) n8 (nearK N.lk (i : Int) n6)) ∧ Hid (RRow lkS wr wr.heap.size A9 n9 (nearK N.lk (j : Int) n6)) ∧ Hid (wr.heap[gl]? = some (.cells #[.int .i64 (i : Int), .int .i64 (j : Int), .int .i64 W] 50 (0, 0)))) (fun _ rv _ => n9 - (intOf rv).toNat)
          case atStart => exact ⟨0, false, Nat.zero_le _, rfl, rfl, HF0, HG9, HRB, HR9, HKB⟩
          case round =>
            clear HF0 HG9 HRB HR9 HKB
            obtain ⟨r, f, hr, rfl, rfl, HF, HG, HR, HS, HK⟩ := hrel
            by_cases hrn : r < n9
            · obtain ⟨b9, o9, p9, rfl, _, hp9, k0, k1, k2⟩ := lk_at HS.out hrn
              obtain ⟨x, hxn, hwx, rfl⟩ := mem_nearK.1 (List.mem_of_getElem? hp9)
              have HTI := Lib.hid (take_mem hp9 ((j : Int), (i : Int), W))
              obtain ⟨X, hX⟩ : ∃ X, wt N.lk (j : Int) (x : Int) = X := ⟨_, rfl⟩
              rw [hX] at k2 HTI
              simp only at k0 k1
              have hba := (Below.refl wr.heap.size wr).alloc (Nat.le_refl _) (.cells #[.int .i64 (j : Int), .int .i64 (x : Int), .int .i64 X] 50)
              have HGA := Lib.hid (HG.out.below hba)
              have HRA := Lib.hid (up_row HR.out hba)
              have HSA := Lib.hid (up_row HS.out hba)
              have HKA := Lib.hid ((hba.block _ (Array.getElem?_eq_some_iff.1 HK.out).1).trans HK.out)
              have HKN := Lib.hid (heap_alloc_new wr (.cells #[.int .i64 (j : Int), .int .i64 (x : Int), .int .i64 X] 50))
              clear hp9 hwx hba HG HR HS HK
              cases f with
              | true =>
                have HF2 : Hid (true = decide (((j : Int), (i : Int), W) ∈ (nearK N.lk (j : Int) n6).take (r + 1))) := (decide_eq_true (HTI.out.2 (.inl (of_decide_eq_true HF.out.symm)))).symm
                clear hX
                go_wp2
                go_roundw
                case rel => exact ⟨r + 1, true, by omega, by go_num, rfl, HF2, HGA, HRA, HSA, HKA⟩
                case measure => simp [intOf]; omega
              | false =>
                go_upto_region 26 with fail
                obtain ⟨gk, hgk⟩ : ∃ gk, wr.heap.size = gk := ⟨_, rfl⟩
                rw [hgk] at HKN ⊢
                generalize wr.alloc (.cells #[.int .i64 (j : Int), .int .i64 (x : Int), .int .i64 X] 50) = wC at *
                clear hgk k0 k1 k2
                have l1 : wC.cell? ⟨gl, 1, none⟩ = some (.int .i64 (j : Int)) := cell_of_blk HKA.out rfl
                have l2 : wC.cell? ⟨gl, 2, none⟩ = some (.int .i64 W) := cell_of_blk HKA.out rfl
                have k0 : wC.cell? ⟨gk, 0, none⟩ = some (.int .i64 (j : Int)) := cell_of_blk HKN.out rfl
                have k1 : wC.cell? ⟨gk, 1, none⟩ = some (.int .i64 (x : Int)) := cell_of_blk HKN.out rfl
                have k2 : wC.cell? ⟨gk, 2, none⟩ = some (.int .i64 X) := cell_of_blk HKN.out rfl
                by_cases hxi : x = i
                · subst hxi
                  have hXW : X = W := by rw [← hX, HWJ.out]
                  subst hXW
                  have HF2 : Hid (true = decide (((j : Int), (x : Int), X) ∈ (nearK N.lk (j : Int) n6).take (r + 1))) := (decide_eq_true (HTI.out.2 (.inr rfl))).symm
                  clear hX
                  go_wp2
                  go_roundw
                  case rel => exact ⟨r + 1, true, by omega, by go_num, by simp, HF2, HGA, HRA, HSA, HKA⟩
                  case measure => simp [intOf]; omega
                · have f9 : ((x : Int) == (i : Int)) = false := beq_eq_false_iff_ne.2 (by omega)
                  have HF2 : Hid (false = decide (((j : Int), (i : Int), W) ∈ (nearK N.lk (j : Int) n6).take (r + 1))) := (decide_eq_false fun h => (HTI.out.1 h).elim (of_decide_eq_false HF.out.symm) (fun e => by injection e with e1 e2; injection e2 with e3 e4; exact hxi (by omega))).symm
                  clear hX hxi
                  go_wp2
                  go_roundw
                  case rel => exact ⟨r + 1, false, by omega, by go_num, by simp, HF2, HGA, HRA, HSA, HKA⟩
                  case measure => simp [intOf]; omega
            · have hf : f = true := by
                rw [HF.out]
                refine decide_eq_true ?_
                rw [List.take_of_length_le (by have := HLN9.out; omega)]
                exact HMEM.out
              subst hf
              have l0 : wr.cell? ⟨gl, 0, none⟩ = some (.int .i64 (i : Int)) := cell_of_blk HK.out rfl
              have l1 : wr.cell? ⟨gl, 1, none⟩ = some (.int .i64 (j : Int)) := cell_of_blk HK.out rfl
              obtain ⟨b3, o3, x3, e3, _, hx3, cj⟩ := int_at HG.out.pr hjn
              injection e3 with e3
              injection e3 with e3 e4
              subst e3 e4
              obtain ⟨pj, hpj, rfl⟩ := nums_at hx3
              have hpj' : pj = pp := by have h1 := HPA.out j hjn; rw [hpj, HPJ.out] at h1; injection h1
              subst hpj'
              obtain ⟨b3, o3, x3, e3, _, hx3, ci⟩ := int_at HG.out.pr hlt
              injection e3 with e3
              injection e3 with e3 e4
              subst e3 e4
              obtain ⟨pi, hpi, rfl⟩ := nums_at hx3
              have hpi' : pi = pj := by have h1 := HPA.out i hlt; rw [hpi, ← HPI.out] at h1; injection h1
              subst hpi'
              have g3 : (0 : Int) ≤ (j : Int) := by omega
              have g4 : (j : Int) < (n6 : Int) := by omega
              have g5 : (0 : Int) ≤ (i : Int) := by omega
              have g6 : (i : Int) < (n6 : Int) := by omega
              clear HF hx3 hpj hpi
              go_wp2
              go_quiet (fail)
              go_wp2
              go_roundw
              case rel => exact ⟨q + 1, by omega, by go_num, by first | rfl | (rw [HEA.out]) | (simp; omega), HG.out.below (below_drewN (Below.refl _ _) _), HR.out.drewN _⟩
              case measure => simp [intOf]; omega
        · have hqe : q = n8 := by omega
          subst hqe
          go_wp2
          go_roundw
          case rel => exact ⟨i + 1, by omega, by go_num, by rw [HC1.out], HG⟩
          case measure => simp [intOf]; omega
    · have hin : i = n6 := by omega
      subst hin
      rw [HALL.out]
      have z2 : wr.cell? ⟨w.heap.size, 2, none⟩ = some (.slice A' m c') := cell_of_blk HG.out.bx.blk rfl
      have e5 : IntKind.i64.wrap (2 * (m : Int)) = 2 * (m : Int) := IntWalk.i64_in _ ⟨by omega, by omega⟩
      go_wp2
      go_ret
      exact ⟨by simp, HG.out.bx.bel⟩
end Go.Proofs.Ytdgaaghkhkklpaa.Gf

/- The last step of a law's row, over any program: a call that returned true and left all old memory as it was meets 'true; the input reads as it did'. -/
namespace Go.Proofs.Ytdgaaghkhkklpaa
open Go.ChangeShapes Go.WideShapes Go.ChangeAt Go.RowKit

section
variable {H : Type} {enc : TypeId × Value → H} {P : Program} {W W' : World}

theorem trodAll_stays (hl : laidOutB P = true) (hb : Below W.heap.size W W') : ∀ {ts : List TypeId} {vs : List Value} {ds : List (DataW H)} {ps : List MemPlace},
    ts.all (fun t => P.readableRec t && decide (t < P.types.size)) = true → DataW.TrodAll enc P W 0 (fun _ => true) true ts vs ds ps → (∀ x ∈ ps, x.block < W.heap.size) →
    DataW.TrodAll enc P W' 0 (fun b => decide (b < W.heap.size)) true ts vs ds ps
  | [], _, _, _, _, h, _ => by
    obtain ⟨rfl, rfl, rfl⟩ := trodAll_nil h
    exact trodAll_mk0
  | t :: ts, _, _, _, ht, h, hp => by
    obtain ⟨v, vs, d, ds, a, b, rfl, rfl, rfl, h1, h2⟩ := trodAll_cons h
    simp only [List.all_cons, Bool.and_eq_true, decide_eq_true_eq] at ht
    exact trodAll_cons_mk (Below.trod hl ht.1.1 ht.1.2 h1 hb (fun x hx => hp x (List.mem_append_left _ hx)))
      (trodAll_stays hl hb (by simpa using ht.2) h2 (fun x hx => hp x (List.mem_append_right _ hx)))

/-- A law's post: true came back, old memory is as it was. -/
theorem law_post {f : Func} {s : ChangeSpec} {tb : TypeId} {args : Array Value} {ds : List (DataW H)} {before : List MemPlace}
    (hl : laidOutB P = true) (hts : f.params.toList.all (fun t => P.readableRec t && decide (t < P.types.size)) = true) (hr : f.resultTypes = #[tb]) (htb : P.underlying tb = some .bool) (hv : s.vars = [])
    (hW : DataW.Whole enc P f.params.toList s.vars false W args.toList ds [] before) (hfn : s.fn H ds = { results := [.lit (.bool true)], args := ds }) (hb : Below W.heap.size W W') :
    s.post enc P f false true false false W args (.bool true) W' := by
  have hW' := hW
  obtain ⟨p, q, hA, hV, rfl, _, _⟩ := hW
  rw [hv] at hV
  obtain ⟨_, rfl⟩ := trodVars_none hV
  refine ⟨ds, [], p ++ [], [], p, [], hW', ?_, ?_, ?_, hb.frame _, fun h => by cases h⟩
  · rw [List.append_nil, hfn, hr]
    exact trodAll_cons_mk (shut_bool htb _) trodAll_mk0
  · rw [List.append_nil, hfn]
    exact trodAll_stays hl hb hts hA (fun x hx => hW'.lt x (List.mem_append_left _ hx))
  · rw [List.append_nil, hfn, hv]
    rfl
end

/-- What opening a slice of integers gives, as 'Row'. -/
theorem row_of_open {k : IntKind} {w : World} {a : Addr} {len : Nat} {zs : List Int} (hl : len ≤ zs.length) (hc : ∀ i, i < zs.length → w.cell? (a.add i) = some (.int k (zs.getD i 0))) : Row k w w.heap.size (some a) len (zs.take len) := by
  refine ⟨by simp; omega, fun hn => ?_⟩
  obtain ⟨b, o, rfl, hcell⟩ := ints_at hc (by omega)
  refine ⟨b, o, rfl, World.block_lt_of_cell? w _ (hcell 0 (by omega)), fun j hj => ?_⟩
  rw [hcell j (by omega)]
  simp [List.getD, hj]
end Go.Proofs.Ytdgaaghkhkklpaa

/- Lemmas that the proof stands on, in build order: TokU ShaR. -/
import Derived.Test.YtppbpmmfcoblmaaDoorJ23e41dcc
import Derived.Test.YtppbpmmfcoblmaaDoorJ94b8122
/- Layer 10 (token): the program's Open, as a contract. -/
namespace Go.Proofs.YtppbpmmfcoblmaaDoor.Tok
open Go.RowKit Var Fld Frm Sha Hmc Rg

theorem row_setRow {k : IntKind} {w : World} {B n g : Nat} {A : Option Addr} {xs : List Int} (h : Row k w B A n xs) (cs : Array Value) (hA : ∀ b o, A = some ⟨b, o, none⟩ → b ≠ g) : Row k (w.setRow g cs) B A n xs := by
  refine ⟨h.1, fun h0 => ?_⟩
  obtain ⟨b, o, e, h1, h2⟩ := h.2 h0
  exact ⟨b, o, e, h1, fun j hj => (World.cell?_of_block (w := w) (setRow_other w _ _ _ (hA b o e))).trans (h2 j hj)⟩

set_option maxHeartbeats 3200000 in
set_option maxRecDepth 100000 in
theorem open_any (A : Option Addr) (n c : Nat) (b : List Int) (w : World) (h : Row .u8 w w.heap.size A n b) (hnil : A = none → c = 0) (hb : Byt b) (hc : n ≤ c) (hcm : c ≤ maxLen) (hn : n ≤ 4398046511104) :
    Calls Tryd.prog 19 #[.slice A n c] w (OpenTo w (opn b)) := by
  obtain ⟨w1, hw1⟩ : ∃ w1, w.alloc (.cells T.zero.cells 41) = w1 := ⟨_, rfl⟩
  have hs1 : w1.heap.size = w.heap.size + 1 := by rw [← hw1]; simp
  have hb1 : Below w.heap.size w w1 := by rw [← hw1]; exact (Below.refl _ _).alloc (Nat.le_refl _) _
  have hz1 : w1.heap[w.heap.size]? = some (.cells T.zero.cells 41 (0, 0)) := by rw [← hw1]; exact heap_alloc_new w _
  have HW := Lib.hid (whole_any 2 A n c b w1 ((h.below hb1).more hb1.size) hnil hb hn hc hcm)
  have HCB := Lib.hid (wholly_byt (k := 2) hb)
  have HCL : Hid ((wholly 2 b).1.length ≤ 1048576) := wholly_len 2 b
  have HB1 := Lib.hid hb1
  have HS1 := Lib.hid hs1
  have HZ1 := Lib.hid hz1
  have HW1 := Lib.hid hw1
  obtain ⟨r, hr⟩ : ∃ r, r = opn b := ⟨_, rfl⟩
  rw [← hr]
  unfold opn at hr
  obtain ⟨q, hq⟩ : ∃ q, q = wholly 2 b := ⟨_, rfl⟩
  rw [← hq] at hr HW HCB HCL
  obtain ⟨C, er⟩ := q
  have HR := Lib.hid hr
  have I6 : Hid ((Tryd.prog.info? 41).map (·.size) = some T.zero.cells.size) := infoT
  clear h hnil hb hc hcm hn hb1 hs1 hz1 hw1 hr hq
  go_enter Tryd.func19, Tryd.ntmps19
  go_wp2_with fail
  refine Calls.mono (by have h1 := HW.out; rw [← HW1.out] at h1; exact h1) ?_
  rintro e2 w2 ⟨v2, rfl, hown2, hb2⟩
  rw [HW1.out] at hown2 hb2
  obtain ⟨A2, c2, rfl, hc2, hnil2⟩ := own_slice hown2
  simp only at hown2 hc2 hnil2 HCB HCL
  have HR2 : Hid (Row .u8 w2 w2.heap.size A2 C.length C) := Row.of_own hown2
  have HN2 := Lib.hid hnil2
  have HB2 := Lib.hid (HB1.out.trans (hb2.mono HB1.out.size))
  have HZ2 : Hid (w2.heap[w.heap.size]? = some (.cells T.zero.cells 41 (0, 0))) := (hb2.block _ (by have := HS1.out; omega)).trans HZ1.out
  have HLT : Hid (w.heap.size < w2.heap.size) := (Array.getElem?_eq_some_iff.1 HZ2.out).1
  clear hown2 hc2 hnil2 hb2 HW
  by_cases her : er = 0
  · subst her
    have HRD := Lib.hid (read_any A2 C.length c2 C w2 HR2.out HN2.out (by have := HCL.out; omega) HCB.out)
    obtain ⟨U, hU⟩ : ∃ U, U = tokOf C := ⟨_, rfl⟩
    obtain ⟨TG, hTG⟩ : ∃ TG, TG = tagOf C := ⟨_, rfl⟩
    obtain ⟨dn, hdn⟩ : ∃ dn, dn = done (s7 C).1 (s7 C).2 := ⟨_, rfl⟩
    have hr := HR.out
    unfold ReadTo at HRD
    try simp only at hr
    rw [← hU, ← hTG, ← hdn] at HRD hr
    obtain ⟨x0, x1, x2, x3, x4, x5⟩ := U
    have HRR := Lib.hid hr
    have IC : Hid ((Tryd.prog.info? 41).map (·.size) = some (#[.int .i64 x0, .int .i64 x1, .int .i64 x2, .int .i64 x3, .int .i64 x4, .int .i64 x5] : Array Value).size) := infoT
    have SC : Hid (T.zero.cells.size = (#[.int .i64 x0, .int .i64 x1, .int .i64 x2, .int .i64 x3, .int .i64 x4, .int .i64 x5] : Array Value).size) := rfl
    clear hU hTG hdn hr HR
    go_wp2_with fail
    refine HRD.out.mono ?_
    rintro e3 w3 ⟨A3, c3, rfl, hr3, hnil3, hc3, had3, hb3⟩
    have HR3 := Lib.hid hr3
    have HN3 := Lib.hid (And.intro hnil3 hc3)
    have HAD3 : Hid (∀ b o, A3 = some ⟨b, o, none⟩ → b ≠ w.heap.size) := fun b o e => by have h1 := had3 b o e; have h2 := HLT.out; omega
    have HB3 := Lib.hid (HB2.out.trans (hb3.mono HB2.out.size))
    have HZ3 : Hid (w3.heap[w.heap.size]? = some (.cells T.zero.cells 41 (0, 0))) := (hb3.block _ HLT.out).trans HZ2.out
    have HT4 : Hid ((w3.setRow w.heap.size #[.int .i64 x0, .int .i64 x1, .int .i64 x2, .int .i64 x3, .int .i64 x4, .int .i64 x5]).heap[w.heap.size]? = some (.cells #[.int .i64 x0, .int .i64 x1, .int .i64 x2, .int .i64 x3, .int .i64 x4, .int .i64 x5] 41 (0, 0))) := setRow_heap _ _ _ _ _ _ HZ3.out
    have HB4 : Hid (Below w.heap.size w (w3.setRow w.heap.size #[.int .i64 x0, .int .i64 x1, .int .i64 x2, .int .i64 x3, .int .i64 x4, .int .i64 x5])) := below_setRow HB3.out (Nat.le_refl _) _
    have HR4 : Hid (Row .u8 (w3.setRow w.heap.size #[.int .i64 x0, .int .i64 x1, .int .i64 x2, .int .i64 x3, .int .i64 x4, .int .i64 x5]) (w3.setRow w.heap.size #[.int .i64 x0, .int .i64 x1, .int .i64 x2, .int .i64 x3, .int .i64 x4, .int .i64 x5]).heap.size A3 TG.length TG) := by unfold Hid; rw [size_setRow]; exact row_setRow HR3.out _ HAD3.out
    clear hr3 hnil3 hc3 had3 hb3 HRD
    unfold T.val T.cells
    obtain ⟨w4, hw4⟩ : ∃ w4, w3.setRow w.heap.size #[.int .i64 x0, .int .i64 x1, .int .i64 x2, .int .i64 x3, .int .i64 x4, .int .i64 x5] = w4 := ⟨_, rfl⟩
    rw [hw4] at HT4 HB4 HR4
    have HW4 := Lib.hid hw4
    clear hw4
    by_cases hd0 : dn = 0
    · have hdn0 : ((dn : Int) != 0) = false := by rw [hd0]; rfl
      have HD0 := Lib.hid hd0
      have u0 := cell_of_blk (j := 0) HT4.out rfl
      have u1 := cell_of_blk (j := 1) HT4.out rfl
      have u2 := cell_of_blk (j := 2) HT4.out rfl
      have u3 := cell_of_blk (j := 3) HT4.out rfl
      have u4 := cell_of_blk (j := 4) HT4.out rfl
      have u5 := cell_of_blk (j := 5) HT4.out rfl
      have HMY : Hid (Calls Tryd.prog 49 #[.agg #[.int .i64 x0, .int .i64 x1, .int .i64 x2, .int .i64 x3, .int .i64 x4, .int .i64 x5]] w4 fun x w' => x = .returned (.bool (decide (⟨x0, x1, x2, x3, x4, x5⟩ : T).may)) ∧ Below w4.heap.size w4 w') := may_any (⟨x0, x1, x2, x3, x4, x5⟩ : T) w4
      clear hd0
      go_wp2_with (first
        | ((with_reducible show wpList _ _ _ _ _ _); (refine wpList_store_row rfl 41 (.tmp 2) (.tmp 18) rfl w.heap.size #[.int .i64 x0, .int .i64 x1, .int .i64 x2, .int .i64 x3, .int .i64 x4, .int .i64 x5] rfl rfl 41 _ HZ3.out IC.out SC.out (cellsT (⟨x0, x1, x2, x3, x4, x5⟩ : T)) ?_); (rw [HW4.out]))
        )
      refine HMY.out.mono ?_
      rintro e5 w5 ⟨rfl, hb5⟩
      have HT5 : Hid (w5.heap[w.heap.size]? = some (.cells #[.int .i64 x0, .int .i64 x1, .int .i64 x2, .int .i64 x3, .int .i64 x4, .int .i64 x5] 41 (0, 0))) := (hb5.block _ (Array.getElem?_eq_some_iff.1 HT4.out).1).trans HT4.out
      have HB5 := Lib.hid (HB4.out.trans (hb5.mono HB4.out.size))
      have HR5 := Lib.hid ((HR4.out.below hb5).more hb5.size)
      clear hb5 u0 u1 u2 u3 u4 u5
      by_cases hmy : (⟨x0, x1, x2, x3, x4, x5⟩ : T).may
      · rw [decide_eq_true hmy]
        by_cases hl : TG.length = 32
        · have hl1 : ((TG.length : Int) != 32) = false := by rw [hl]; rfl
          have hrr : r = ((⟨x0, x1, x2, x3, x4, x5⟩ : T), TG, 0) := by have h1 := HRR.out; unfold opnF at h1; rw [if_neg (by simp), if_neg (by rw [HD0.out]; simp), if_pos ⟨hmy, hl⟩] at h1; exact h1
          have HRE := Lib.hid hrr
          have HHL := Lib.hid hl
          clear hl hmy hrr
          go_wp2_with (first
            | ((with_reducible show wpList _ _ _ _ _ _); (refine wpList_load_row rfl 41 (.tmp 2) rfl w.heap.size rfl 41 #[.int .i64 x0, .int .i64 x1, .int .i64 x2, .int .i64 x3, .int .i64 x4, .int .i64 x5] (0, 0) _ HT5.out Tryd.underlying41 rfl IC.out ?_))
            | ((with_reducible show wpList _ _ _ _ _ _); (refine wpList_store_row rfl 41 (.tmp 2) (.tmp 34) rfl w.heap.size #[.int .i64 x0, .int .i64 x1, .int .i64 x2, .int .i64 x3, .int .i64 x4, .int .i64 x5] rfl rfl 41 _ HT5.out IC.out rfl (cellsT (⟨x0, x1, x2, x3, x4, x5⟩ : T)) ?_)))
          refine bodyPost_ret (results_cell_tmps rfl _ _ w.heap.size #[.int .i64 x0, .int .i64 x1, .int .i64 x2, .int .i64 x3, .int .i64 x4, .int .i64 x5] rfl (run_loadVar_row _ _ 41 41 _ (0, 0) _ (setRow_heap _ _ _ _ _ _ HT5.out) Tryd.underlying41 rfl infoT)) rfl ?_
          rw [HRE.out]
          refine ⟨A3, TG.length, c3, rfl, ?_, HN3.out.1, HN3.out.2, below_setRow HB5.out (Nat.le_refl _) _⟩
          rw [size_setRow]
          exact row_setRow HR5.out _ HAD3.out
        · have hl1 : ((TG.length : Int) != 32) = true := bne_iff_ne.2 (by omega)
          have hrr : r = (T.zero, [], 2) := by have h1 := HRR.out; unfold opnF at h1; rw [if_neg (by simp), if_neg (by rw [HD0.out]; simp), if_neg (fun hh => hl hh.2)] at h1; exact h1
          have HRE := Lib.hid hrr
          have HHL := Lib.hid hl
          clear hl hmy hrr
          go_wp2_with (first
            | ((with_reducible show wpList _ _ _ _ _ _); (refine wpList_store_row rfl 41 (.tmp 2) (.tmp 33) rfl w.heap.size T.zero.cells rfl rfl 41 _ HT5.out I6.out rfl (cellsT _) ?_)))
          refine bodyPost_ret (results_cell_tmps rfl _ _ w.heap.size T.zero.cells rfl (run_loadVar_row _ _ 41 41 _ (0, 0) _ (setRow_heap _ _ _ _ _ _ HT5.out) Tryd.underlying41 rfl I6.out)) rfl ?_
          rw [HRE.out]
          exact ⟨none, 0, 0, rfl, Row.none_, fun _ => rfl, Nat.le_refl _, below_setRow HB5.out (Nat.le_refl _) _⟩
      · rw [decide_eq_false hmy]
        have hrr : r = (T.zero, [], 2) := by have h1 := HRR.out; unfold opnF at h1; rw [if_neg (by simp), if_neg (by rw [HD0.out]; simp), if_neg (fun hh => hmy hh.1)] at h1; exact h1
        have HRE := Lib.hid hrr
        clear hmy hrr
        go_wp2_with (first
          | ((with_reducible show wpList _ _ _ _ _ _); (refine wpList_store_row rfl 41 (.tmp 2) (.tmp 33) rfl w.heap.size T.zero.cells rfl rfl 41 _ HT5.out I6.out rfl (cellsT _) ?_)))
        refine bodyPost_ret (results_cell_tmps rfl _ _ w.heap.size T.zero.cells rfl (run_loadVar_row _ _ 41 41 _ (0, 0) _ (setRow_heap _ _ _ _ _ _ HT5.out) Tryd.underlying41 rfl I6.out)) rfl ?_
        rw [HRE.out]
        exact ⟨none, 0, 0, rfl, Row.none_, fun _ => rfl, Nat.le_refl _, below_setRow HB5.out (Nat.le_refl _) _⟩
    · have hdn0 : ((dn : Int) != 0) = true := bne_iff_ne.2 (by omega)
      have hrr : r = (T.zero, [], dn) := by have h1 := HRR.out; unfold opnF at h1; rw [if_neg (by simp), if_pos hd0] at h1; exact h1
      have HRE := Lib.hid hrr
      clear hd0 hrr
      go_wp2_with (first
        | ((with_reducible show wpList _ _ _ _ _ _); (refine wpList_store_row rfl 41 (.tmp 2) (.tmp 18) rfl w.heap.size #[.int .i64 x0, .int .i64 x1, .int .i64 x2, .int .i64 x3, .int .i64 x4, .int .i64 x5] rfl rfl 41 _ HZ3.out IC.out SC.out (cellsT (⟨x0, x1, x2, x3, x4, x5⟩ : T)) ?_); (rw [HW4.out]))
        | ((with_reducible show wpList _ _ _ _ _ _); (refine wpList_store_row rfl 41 (.tmp 2) (.tmp 23) rfl w.heap.size T.zero.cells rfl rfl 41 _ HT4.out I6.out rfl (cellsT _) ?_)))
      refine bodyPost_ret (results_cell_tmps rfl _ _ w.heap.size T.zero.cells rfl (run_loadVar_row _ _ 41 41 _ (0, 0) _ (setRow_heap _ _ _ _ _ _ HT4.out) Tryd.underlying41 rfl I6.out)) rfl ?_
      rw [HRE.out]
      exact ⟨none, 0, 0, rfl, Row.none_, fun _ => rfl, Nat.le_refl _, below_setRow HB4.out (Nat.le_refl _) _⟩
  · have hd : ((er : Int) != 0) = true := bne_iff_ne.2 (by omega)
    have hrr : r = (T.zero, [], er) := by have h1 := HR.out; unfold opnF at h1; rw [if_pos her] at h1; exact h1
    have HRE := Lib.hid hrr
    clear hrr her
    go_wp2_with (first
      | ((with_reducible show wpList _ _ _ _ _ _); (refine wpList_store_row rfl 41 (.tmp 2) (.tmp 13) rfl w.heap.size T.zero.cells rfl rfl 41 _ HZ2.out I6.out rfl (cellsT _) ?_)))
    refine bodyPost_ret (results_cell_tmps rfl _ _ w.heap.size T.zero.cells rfl (run_loadVar_row _ _ 41 41 _ (0, 0) _ (setRow_heap _ _ _ _ _ _ HZ2.out) Tryd.underlying41 rfl I6.out)) rfl ?_
    rw [HRE.out]
    exact ⟨none, 0, 0, rfl, Row.none_, fun _ => rfl, Nat.le_refl _, below_setRow HB2.out (Nat.le_refl _) _⟩
end Go.Proofs.YtppbpmmfcoblmaaDoor.Tok

/- Layer 7 (sha): the program's right, as a contract; the small functions in the program's spelling. -/
namespace Go.Proofs.YtppbpmmfcoblmaaDoor.Sha
open Go.RowKit

theorem cho_or (e f g : Wd) : (e &&& f) ||| (~~~e &&& g) = cho e f g := by
  unfold cho
  ext i hi
  simp only [BitVec.getElem_or, BitVec.getElem_and, BitVec.getElem_xor, BitVec.getElem_not]
  cases e[i] <;> cases f[i] <;> cases g[i] <;> rfl
theorem maj_or (a b c : Wd) : (a &&& b) ||| (a &&& c) ||| (b &&& c) = maj a b c := by
  unfold maj
  ext i hi
  simp only [BitVec.getElem_or, BitVec.getElem_and, BitVec.getElem_xor]
  cases a[i] <;> cases b[i] <;> cases c[i] <;> rfl

set_option maxHeartbeats 800000 in
set_option maxRecDepth 100000 in
theorem rotl_any (a : Wd) (n : Nat) (h1 : 0 < n) (h2 : n < 32) (w : World) : Calls Tryd.prog 110 #[.int .u32 (wi a), .int .i64 (-(n : Int))] w fun e w' => e = .returned (.int .u32 (wi (rot a n))) ∧ w' = w := by
  have hw : bits .and .u64 (IntKind.u64.wrap (-(n : Int))) 31 = 32 - (n : Int) := by
    have : ∀ n : Fin 32, 0 < n.val → bits .and .u64 (IntKind.u64.wrap (-(n.val : Int))) 31 = 32 - (n.val : Int) := by decide +kernel
    exact this ⟨n, h2⟩ h1
  have hw2 : IntKind.u64.wrap (32 - (32 - (n : Int))) = (n : Int) := by rw [IntWalk.u64_in _ ⟨by omega, by omega⟩]; omega
  have i1 : (0 : Int) ≤ (n : Int) := by omega
  have i2 : (0 : Int) ≤ 32 - (n : Int) := by omega
  go_enter Tryd.func110, Tryd.ntmps110
  go_wp2
  go_ret
  refine ⟨?_, rfl⟩
  show Ending.returned (.int .u32 (bits .or .u32 (wi a * 2 ^ (32 - n) % 4294967296) (wi a / 2 ^ n))) = _
  rw [wi_shr, wi_shl, wi_or, BitVec.or_comm]
  rfl

set_option maxHeartbeats 800000 in
set_option maxRecDepth 100000 in
theorem right_any (a : Wd) (n : Nat) (h1 : 0 < n) (h2 : n < 32) (w : World) : Calls Tryd.prog 109 #[.int .u32 (wi a), .int .i64 (n : Int)] w fun e w' => e = .returned (.int .u32 (wi (rot a n))) ∧ w' = w := by
  go_enter Tryd.func109, Tryd.ntmps109
  go_wp2_with fail
  refine (rotl_any a n h1 h2 _).mono ?_
  rintro e w' ⟨rfl, rfl⟩
  go_wp2
  go_ret
  exact ⟨rfl, rfl⟩
/-- The same, by the number as it stands. -/
theorem right_z (a : Wd) (z : Int) (h1 : 0 < z) (h2 : z < 32) (w : World) : Calls Tryd.prog 109 #[.int .u32 (wi a), .int .i64 z] w fun e w' => e = .returned (.int .u32 (wi (rot a z.toNat))) ∧ w' = w := by
  obtain ⟨n, rfl⟩ := Int.eq_ofNat_of_zero_le (show 0 ≤ z by omega)
  exact right_any a n (by omega) (by omega) w
end Go.Proofs.YtppbpmmfcoblmaaDoor.Sha

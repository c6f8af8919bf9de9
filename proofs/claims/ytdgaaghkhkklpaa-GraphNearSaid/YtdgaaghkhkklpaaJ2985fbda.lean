/- Lemmas that the proof stands on, in build order: GfB. -/
import Derived.Test.YtdgaaghkhkklpaaJ14196a67
import Derived.Test.YtdgaaghkhkklpaaJ15070358
import Derived.Test.YtdgaaghkhkklpaaJ28c1113c
import Derived.Test.YtdgaaghkhkklpaaJ9975adb
/- Layer 15 (graph): the landed program's Put, as a contract. -/
namespace Go.Proofs.Ytdgaaghkhkklpaa.Gf
open Go.RowKit Rec Ints Ge Var Fld Frm

/-- Under way: the network's block, the Writer. -/
structure PSt (w : World) (N : Nt) (A : Option Addr) (n c : Nat) (A' : Option Addr) (m c' g : Nat) (v : Value) (X : List Int) (wr : World) : Prop where
  bx : Bx w N A n c A' m c' wr
  wr : Wr wr g g v X.length X
  lo : w.heap.size < g
section
variable {w w1 w2 : World} {N : Nt} {A A' : Option Addr} {n c m c' g q : Nat} {v v' : Value} {X ys : List Int} {cs : Array Value} {t : TypeId}
theorem PSt.alloc (h : PSt w N A n c A' m c' g v X w1) (o : Obj) : PSt w N A n c A' m c' g v X (w1.alloc o) :=
  ⟨h.bx.below ((Below.refl _ _).alloc (Nat.le_refl _) _), h.wr.below ((Below.refl _ _).alloc (Nat.le_refl _) _), h.lo⟩
theorem PSt.num (h : PSt w N A n c A' m c' g v X w1) (hw : Wr w2 g g v' (X.length + ys.length) (X ++ ys)) (hm : Mv w1 w2 g v v') : PSt w N A n c A' m c' g v' (X ++ ys) w2 :=
  ⟨h.bx.belowN ((h.wr.below_of hm).mono (by have := h.lo; omega)), by rw [List.length_append]; exact hw, h.lo⟩
theorem PSt.start (h : Bx w N A n c A' m c' w1) : PSt w N A n c A' m c' w1.heap.size (.slice none 0 0) [] (w1.alloc (.cells #[.slice none 0 0] 53)) :=
  ⟨h.below ((Below.refl _ _).alloc (Nat.le_refl _) _), ⟨heap_alloc_new w1 _, World.ownsRow_nil _ _ _ _, by simp [Value.ownBlock], Nat.le_refl _⟩, h.lt⟩
/-- A block of one's own beside the Writer. -/
structure Qb (q : Nat) (cs : Array Value) (t : TypeId) (g : Nat) (v : Value) (wr : World) : Prop where
  blk : wr.heap[q]? = some (.cells cs t (0, 0))
  ne : q ≠ g
  no : v.ownBlock ≠ some q
theorem Qb.start (h : PSt w N A n c A' m c' g v X w1) (cs : Array Value) (t : TypeId) : Qb w1.heap.size cs t g v (w1.alloc (.cells cs t)) :=
  ⟨heap_alloc_new w1 _, by have := h.wr.lt; omega, fun h1 => by have := (h.wr.own.lt _ h1).2; omega⟩
theorem Qb.num (h : Qb q cs t g v w1) (hm : Mv w1 w2 g v v') : Qb q cs t g v' w2 :=
  ⟨hm.only.at h.blk (fun h1 => h1.elim h.ne h.no), h.ne, fun h1 => (hm.new _ h1).elim h.no (fun h2 => by have := (Array.getElem?_eq_some_iff.1 h.blk).1; omega)⟩
end

set_option maxHeartbeats 3200000 in
set_option maxRecDepth 100000 in
theorem put_any (N : Nt) (A A' : Option Addr) (n c m c' : Nat) (w : World) (h : NAt w w.heap.size N A n c A' m c') (hn : n ≤ 1048576) (hm : m ≤ 1048576) :
    Calls Try.prog 8 #[.agg #[.int .i64 N.ver, .slice A n c, .slice A' m c']] w fun e w' => ∃ v, e = .returned (.tuple #[v, .int .i64 ((check N : Nat) : Int)]) ∧ ByTo w.heap.size w (putT N) v w' := by
  have HB := Lib.hid (Bx.start h)
  have hb1 := HB.out.lt
  have HN1 : Hid (NAt (w.alloc (.cells #[.int .i64 N.ver, .slice A n c, .slice A' m c'] 25)) (w.alloc (.cells #[.int .i64 N.ver, .slice A n c, .slice A' m c'] 25)).heap.size N A n c A' m c') := HB.out.at_.more (Nat.le_of_lt hb1)
  have HV := Lib.hid (fun (w1 : World) (hw : NAt w1 w1.heap.size N A n c A' m c') => check_any N A A' n c m c' w1 hw hn hm)
  by_cases hc : check N = 0
  case neg =>
    have HC := Lib.hid hc
    have HP : Hid (putT N = []) := by unfold Hid putT; rw [if_neg hc]
    have he : (((check N : Nat) : Int) != 0) = true := by
      rcases check_le (N := N) with h0 | h0 | h0
      · exact absurd h0 HC.out
      · rw [h0]; rfl
      · rw [h0]; rfl
    obtain ⟨ce, hce⟩ : ∃ ce : Int, ((check N : Nat) : Int) = ce := ⟨_, rfl⟩
    rw [hce] at HV he ⊢
    clear h hb1 hce hc
    go_enter Try.func8, Try.ntmps8
    go_wp2_with fail
    refine (HV.out _ HN1.out).mono ?_
    rintro e3 w3 ⟨rfl, hb3⟩
    have HB3 := Lib.hid (HB.out.bel.trans (hb3.mono HB.out.bel.size))
    clear hb3
    go_wp2
    go_ret2
    refine ⟨_, rfl, none, 0, 0, rfl, ?_, fun _ => rfl, Nat.le_refl _, Nat.zero_le _, HB3.out⟩
    rw [HP.out]
    exact Row.of_own (base := w3.heap.size) (e := 5) (World.ownsRow_nil _ _ _ _)
  case pos =>
    have hv := valid_of hc
    have HOC := Lib.hid (okC_of hv)
    have HOL := Lib.hid (okL_of hv)
    have HCL := Lib.hid (cont_len hv)
    have HPT : Hid (putT N = frame 3 (cont N)) := by unfold Hid putT; rw [if_pos hc]
    have hv1 := hv.v1
    have hv2 := hv.v2
    have hns := hv.ns
    have hnl := hv.nl
    rw [hc] at HV ⊢
    clear hv hc
    obtain ⟨ver, st, lk⟩ := N
    have hls : st.length = n := h.st.len
    have hll : lk.length = m := h.lk.len
    simp only at HB HN1 HV HOC HOL hv1 hv2 hns hnl ⊢
    have HCQ : Hid (cont ⟨ver, st, lk⟩ = num ver ++ (num (n : Int) ++ (encS st ++ (num (m : Int) ++ encL lk)))) := by unfold Hid cont; simp only; rw [hls, hll]
    rw [hls] at hns
    rw [hll] at hnl
    have HLS := Lib.hid hls
    have HLL := Lib.hid hll
    clear h hls hll hb1
    go_enter Try.func8, Try.ntmps8
    go_wp2_with fail
    refine (HV.out _ HN1.out).mono ?_
    rintro e3 w3 ⟨rfl, hb3⟩
    have HBA := Lib.hid (HB.out.below hb3)
    clear hb3 HB HN1
    generalize w.alloc (.cells #[.int .i64 ver, .slice A n c, .slice A' m c'] 25) = wZ at *
    have z0 : w3.cell? ⟨w.heap.size, 0, none⟩ = some (.int .i64 ver) := cell_of_blk HBA.out.blk rfl
    have HP0 := Lib.hid (PSt.start HBA.out)
    have y0 : (w3.alloc (.cells #[.slice none 0 0] 53)).cell? ⟨w.heap.size, 0, none⟩ = some (.int .i64 ver) := cell_of_blk HP0.out.bx.blk rfl
    obtain ⟨g, hg⟩ : ∃ g, w3.heap.size = g := ⟨_, rfl⟩
    rw [hg] at HP0
    go_wp2_with fail
    try rw [hg]
    generalize w3.alloc (.cells #[.slice none 0 0] 53) = w4 at HP0 y0 ⊢
    clear z0 hg
    refine (number_any g g _ _ _ ver _ HP0.out.wr (by omega) (by simp)).mono ?_
    rintro e5 w5 ⟨rfl, v5, hw5, hm5⟩
    have HP5 := Lib.hid (HP0.out.num hw5 hm5)
    have z1 : w5.cell? ⟨w.heap.size, 1, none⟩ = some (.slice A n c) := cell_of_blk HP5.out.bx.blk rfl
    have HL5 : Hid (([] ++ num ver : List Int).length ≤ 10) := num_len (by omega)
    clear hw5 hm5 y0 HP0
    go_wp2_with fail
    refine (number_any g g _ _ _ ((n : Int)) _ HP5.out.wr (by omega) (by have := HL5.out; omega)).mono ?_
    rintro e6 w6 ⟨rfl, v6, hw6, hm6⟩
    have HP6 := Lib.hid (HP5.out.num hw6 hm6)
    clear hw6 hm6 z1
    have HS0 : Hid (([] ++ num ver) ++ num (n : Int) = (num ver ++ num (n : Int)) ++ encS (st.take 0)) := by unfold Hid; rw [List.take_zero, encS, List.append_nil, List.nil_append]
    have HL6 : Hid ((([] ++ num ver) ++ num (n : Int) : List Int).length ≤ 20 + 20 * 0) := by
      have h1 := HL5.out
      have h2 : (num (n : Int)).length ≤ 10 := num_len (by omega)
      unfold Hid
      rw [List.length_append]
      omega
    have z1 : w6.cell? ⟨w.heap.size, 1, none⟩ = some (.slice A n c) := cell_of_blk HP6.out.bx.blk rfl
    clear HP5 HL5
    go_wp2
    go_loopw [7, 25] (fun _ i wr => ∃ (k : Nat) (v : Value) (X : List Int), k ≤ n ∧ i = .int .i64 (k : Int) ∧ Hid (X = (num ver ++ num (n : Int)) ++ encS (st.take k)) ∧ Hid (X.length ≤ 20 + 20 * k) ∧ Hid (PSt w ⟨ver, st, lk⟩ A n c A' m c' g v X wr)) (fun _ i _ => n - (intOf i).toNat)
    case atStart => exact ⟨0, _, _, Nat.zero_le _, rfl, HS0, HL6, HP6⟩
    case round =>
      clear HS0 HL6 HP6 z1
      obtain ⟨k, v7, X0, hk, rfl, HXQ, HXL0, HP0⟩ := hrel
      by_cases hlt : k < n
      · obtain ⟨b, o, p, rfl, hbb, hp, c0, c1⟩ := two_at HP0.out.bx.at_.st hlt
        obtain ⟨px, py⟩ := p
        simp only at c0 c1 hp
        have hpo := HOC.out _ (List.mem_of_getElem? hp)
        have hpx : px ≤ 9223372036854775807 := by have := hpo.1; simp only at this; omega
        have hpy : py ≤ 9223372036854775807 := by have := hpo.2; simp only at this; omega
        have HP := Lib.hid hp
        have HPA := Lib.hid (HP0.out.alloc (.cells #[.int .i64 px, .int .i64 py] 56))
        have HQA := Lib.hid (Qb.start HP0.out #[.int .i64 px, .int .i64 py] 56)
        clear hp hpo HP0
        have q0 : (wr.alloc (.cells #[.int .i64 px, .int .i64 py] 56)).cell? ⟨wr.heap.size, 0, none⟩ = some (.int .i64 px) := cell_of_blk HQA.out.blk rfl
        go_wp2_with fail
        obtain ⟨q, hq⟩ : ∃ q, wr.heap.size = q := ⟨_, rfl⟩
        rw [hq] at HQA ⊢
        generalize wr.alloc (.cells #[.int .i64 px, .int .i64 py] 56) = wB at HPA HQA ⊢
        clear c0 c1 q0 hq
        refine (number_any g g _ _ _ (px) _ HPA.out.wr (hpx) (by have := HXL0.out; omega)).mono ?_
        rintro e8 w8 ⟨rfl, v8, hw8, hm8⟩
        have HPx8 := Lib.hid (HPA.out.num hw8 hm8)
        obtain ⟨X8, hX8⟩ : ∃ X, X = X0 ++ num (px) := ⟨_, rfl⟩
        rw [← hX8] at HPx8
        have HXL8 : Hid (X8.length ≤ 30 + 20 * k) := by have h1 := HXL0.out; have h2 : (num (px)).length ≤ 10 := num_len (hpx); unfold Hid; rw [hX8, List.length_append]; omega
        have HX8 := Lib.hid hX8
        have HQ8 := Lib.hid (HQA.out.num hm8)
        clear hw8 hm8 hX8 HPA HQA
        have q1 : w8.cell? ⟨q, 1, none⟩ = some (.int .i64 py) := cell_of_blk HQ8.out.blk rfl
        go_wp2_with fail
        refine (number_any g g _ _ _ (py) _ HPx8.out.wr (hpy) (by have := HXL8.out; omega)).mono ?_
        rintro e9 w9 ⟨rfl, v9, hw9, hm9⟩
        have HPx9 := Lib.hid (HPx8.out.num hw9 hm9)
        obtain ⟨X9, hX9⟩ : ∃ X, X = X8 ++ num (py) := ⟨_, rfl⟩
        rw [← hX9] at HPx9
        have HXL9 : Hid (X9.length ≤ 20 + 20 * (k + 1)) := by have h1 := HXL8.out; have h2 : (num (py)).length ≤ 10 := num_len (hpy); unfold Hid; rw [hX9, List.length_append]; omega
        have HX9 := Lib.hid hX9
        have HQ9 := Lib.hid (HQ8.out.num hm9)
        clear hw9 hm9 hX9 HPx8 HQ8
        have HSN : Hid (X9 = (num ver ++ num (n : Int)) ++ encS (st.take (k + 1))) := by
          unfold Hid
          rw [HX9.out, HX8.out, HXQ.out, List.take_add_one, HP.out]
          simp only [Option.toList_some]
          rw [encS_snoc]
          simp only [List.append_assoc]
        clear q1
        go_wp2
        go_roundw
        case rel => exact ⟨k + 1, _, _, by omega, by go_num, HSN, HXL9, HPx9⟩
        case measure => simp [intOf]; omega
      · have hkn : k = n := by omega
        subst hkn
        have HSN : Hid (X0 = (num ver ++ num (k : Int)) ++ encS st) := by unfold Hid; rw [HXQ.out, List.take_of_length_le (by have := HLS.out; omega)]
        have z2 : wr.cell? ⟨w.heap.size, 2, none⟩ = some (.slice A' m c') := cell_of_blk HP0.out.bx.blk rfl
        clear HXQ
        go_wp2_with fail
        clear z2
        refine (number_any g g _ _ _ ((m : Int)) _ HP0.out.wr (by omega) (by have := HXL0.out; omega)).mono ?_
        rintro e10 w10 ⟨rfl, v10, hw10, hm10⟩
        have HPx10 := Lib.hid (HP0.out.num hw10 hm10)
        obtain ⟨X10, hX10⟩ : ∃ X, X = X0 ++ num ((m : Int)) := ⟨_, rfl⟩
        rw [← hX10] at HPx10
        have HXL10 : Hid (X10.length ≤ 30 + 20 * k) := by have h1 := HXL0.out; have h2 : (num ((m : Int))).length ≤ 10 := num_len (by omega); unfold Hid; rw [hX10, List.length_append]; omega
        have HX10 := Lib.hid hX10
        clear hw10 hm10 hX10 HP0
        have HS2 : Hid (X10 = X10 ++ encL (lk.take 0)) := by unfold Hid; rw [List.take_zero, encL, List.append_nil]
        have HL2 : Hid (X10.length ≤ 30 + 20 * k + 30 * 0) := HXL10.out
        have z2 : w10.cell? ⟨w.heap.size, 2, none⟩ = some (.slice A' m c') := cell_of_blk HPx10.out.bx.blk rfl
        go_wp2
        go_loopw [9, 43] (fun _ i wr => ∃ (j : Nat) (v : Value) (X : List Int), j ≤ m ∧ i = .int .i64 (j : Int) ∧ Hid (X = X10 ++ encL (lk.take j)) ∧ Hid (X.length ≤ 30 + 20 * k + 30 * j) ∧ Hid (PSt w ⟨ver, st, lk⟩ A k c A' m c' g v X wr)) (fun _ i _ => m - (intOf i).toNat)
        case atStart => exact ⟨0, _, _, Nat.zero_le _, rfl, HS2, HL2, HPx10⟩
        case round =>
          clear HS2 HL2 HPx10 z2 hlt hk
          obtain ⟨j, v11, X0', hj, rfl, HXQ, HXL0', HP0⟩ := hrel
          by_cases hlt : j < m
          · obtain ⟨b, o, p, rfl, hbb, hp, c0, c1, c2⟩ := lk_at HP0.out.bx.at_.lk hlt
            obtain ⟨la, lb, lw⟩ := p
            simp only at c0 c1 c2 hp
            have hpo := HOL.out _ (List.mem_of_getElem? hp)
            have hpa : la ≤ 9223372036854775807 := by have := hpo.1; simp only at this; omega
            have hpb : lb ≤ 9223372036854775807 := by have := hpo.2.1; simp only at this; omega
            have hpw : lw ≤ 9223372036854775807 := by have := hpo.2.2; simp only at this; omega
            have HP := Lib.hid hp
            have HPA := Lib.hid (HP0.out.alloc (.cells #[.int .i64 la, .int .i64 lb, .int .i64 lw] 50))
            have HQA := Lib.hid (Qb.start HP0.out #[.int .i64 la, .int .i64 lb, .int .i64 lw] 50)
            clear hp hpo HP0
            have q0 : (wr.alloc (.cells #[.int .i64 la, .int .i64 lb, .int .i64 lw] 50)).cell? ⟨wr.heap.size, 0, none⟩ = some (.int .i64 la) := cell_of_blk HQA.out.blk rfl
            go_wp2_with fail
            obtain ⟨q, hq⟩ : ∃ q, wr.heap.size = q := ⟨_, rfl⟩
            rw [hq] at HQA ⊢
            generalize wr.alloc (.cells #[.int .i64 la, .int .i64 lb, .int .i64 lw] 50) = wB at HPA HQA ⊢
            clear c0 c1 c2 q0 hq
            refine (number_any g g _ _ _ (la) _ HPA.out.wr (hpa) (by have := HXL0'.out; omega)).mono ?_
            rintro e12 w12 ⟨rfl, v12, hw12, hm12⟩
            have HPx12 := Lib.hid (HPA.out.num hw12 hm12)
            obtain ⟨X12, hX12⟩ : ∃ X, X = X0' ++ num (la) := ⟨_, rfl⟩
            rw [← hX12] at HPx12
            have HXL12 : Hid (X12.length ≤ 40 + 20 * k + 30 * j) := by have h1 := HXL0'.out; have h2 : (num (la)).length ≤ 10 := num_len (hpa); unfold Hid; rw [hX12, List.length_append]; omega
            have HX12 := Lib.hid hX12
            have HQ12 := Lib.hid (HQA.out.num hm12)
            clear hw12 hm12 hX12 HPA HQA
            have q1 : w12.cell? ⟨q, 1, none⟩ = some (.int .i64 lb) := cell_of_blk HQ12.out.blk rfl
            go_wp2_with fail
            refine (number_any g g _ _ _ (lb) _ HPx12.out.wr (hpb) (by have := HXL12.out; omega)).mono ?_
            rintro e13 w13 ⟨rfl, v13, hw13, hm13⟩
            have HPx13 := Lib.hid (HPx12.out.num hw13 hm13)
            obtain ⟨X13, hX13⟩ : ∃ X, X = X12 ++ num (lb) := ⟨_, rfl⟩
            rw [← hX13] at HPx13
            have HXL13 : Hid (X13.length ≤ 50 + 20 * k + 30 * j) := by have h1 := HXL12.out; have h2 : (num (lb)).length ≤ 10 := num_len (hpb); unfold Hid; rw [hX13, List.length_append]; omega
            have HX13 := Lib.hid hX13
            have HQ13 := Lib.hid (HQ12.out.num hm13)
            clear hw13 hm13 hX13 HPx12 HQ12
            clear q1
            have q2 : w13.cell? ⟨q, 2, none⟩ = some (.int .i64 lw) := cell_of_blk HQ13.out.blk rfl
            go_wp2_with fail
            refine (number_any g g _ _ _ (lw) _ HPx13.out.wr (hpw) (by have := HXL13.out; omega)).mono ?_
            rintro e14 w14 ⟨rfl, v14, hw14, hm14⟩
            have HPx14 := Lib.hid (HPx13.out.num hw14 hm14)
            obtain ⟨X14, hX14⟩ : ∃ X, X = X13 ++ num (lw) := ⟨_, rfl⟩
            rw [← hX14] at HPx14
            have HXL14 : Hid (X14.length ≤ 30 + 20 * k + 30 * (j + 1)) := by have h1 := HXL13.out; have h2 : (num (lw)).length ≤ 10 := num_len (hpw); unfold Hid; rw [hX14, List.length_append]; omega
            have HX14 := Lib.hid hX14
            have HQ14 := Lib.hid (HQ13.out.num hm14)
            clear hw14 hm14 hX14 HPx13 HQ13
            have HSX : Hid (X14 = X10 ++ encL (lk.take (j + 1))) := by
              unfold Hid
              rw [HX14.out, HX13.out, HX12.out, HXQ.out, List.take_add_one, HP.out]
              simp only [Option.toList_some]
              rw [encL_snoc]
              simp only [List.append_assoc]
            clear q2
            go_wp2
            go_roundw
            case rel => exact ⟨j + 1, _, _, by omega, by go_num, HSX, HXL14, HPx14⟩
            case measure => simp [intOf]; omega
          · have HXE : Hid (X0' = cont ⟨ver, st, lk⟩) := by
              unfold Hid
              rw [HXQ.out, HX10.out, HSN.out, HCQ.out, List.take_of_length_le (by have := HLL.out; omega)]
              simp only [List.append_assoc]
            have HBY : Hid (Byt X0') := by unfold Hid; rw [HXE.out]; exact cont_byt _
            have HXC : Hid (X0'.length ≤ 1048576) := by unfold Hid; rw [HXE.out]; exact HCL.out
            clear HXQ
            go_wp2_with fail
            refine (out_any g g _ _ _ _ HP0.out.wr (by have := HXC.out; omega)).mono ?_
            rintro e15 w15 ⟨v15, rfl, hown15, hb15⟩
            have HB15 := Lib.hid (HP0.out.bx.bel.trans (hb15.mono HP0.out.bx.bel.size))
            obtain ⟨A15, c15, rfl, -, hnil15⟩ := own_slice hown15
            have HR15 := Lib.hid (Row.of_own hown15)
            have HN15 := Lib.hid hnil15
            clear hown15 hb15 hnil15
            go_wp2_with fail
            refine (Frm.put_any 3 ⟨by omega, by omega⟩ A15 X0'.length c15 X0' w15 HR15.out HN15.out HBY.out HXC.out).mono ?_
            rintro e20 w20 ⟨v20, rfl, hp20⟩
            obtain ⟨hown20, hb20⟩ := hp20
            obtain ⟨A20, c20, rfl, hc20, hnil20⟩ := own_slice hown20
            have hm20 : c20 ≤ maxLen := by
              obtain ⟨A21, c21, e21, -, -, h21⟩ := ownr_slice hown20
              injection e21 with e1 e2 e3
              subst e3
              exact h21
            have HRE : Hid (Row .u8 w20 w20.heap.size A20 (frame 3 X0').length (frame 3 X0')) := Row.of_own hown20
            have HBE := Lib.hid (HB15.out.trans (hb20.mono HB15.out.size))
            have HEND := Lib.hid (And.intro hnil20 (And.intro hc20 hm20))
            clear hown20 hb20 hnil20 hc20 hm20
            go_wp2
            go_ret2
            exact ⟨_, rfl, A20, _, c20, rfl, by rw [HPT.out, ← HXE.out]; exact HRE.out, HEND.out.1, HEND.out.2.1, HEND.out.2.2, HBE.out⟩
end Go.Proofs.Ytdgaaghkhkklpaa.Gf

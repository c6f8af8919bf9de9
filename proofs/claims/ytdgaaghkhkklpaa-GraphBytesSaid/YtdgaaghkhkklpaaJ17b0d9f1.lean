/- Lemmas that the proof stands on, in build order: GfR. -/
import Derived.Test.YtdgaaghkhkklpaaJ16400250
/- Layer 15 (graph): the reference's Parts, as a contract. -/
namespace Go.Proofs.Ytdgaaghkhkklpaa.Gf
open Go.RowKit Rec Ints Ge

set_option maxHeartbeats 3200000 in
set_option maxRecDepth 100000 in
theorem refparts_any (N : Nt) (A A' : Option Addr) (n c m c' : Nat) (w : World) (h : NAt w w.heap.size N A n c A' m c') (hc : check N = 0) :
    Calls Try.prog 18 #[.agg #[.int .i64 N.ver, .slice A n c, .slice A' m c']] w fun e w' => ∃ v, e = .returned v ∧ InTo w.heap.size w (nums (partsT N)) v w' := by
  obtain ⟨i0, hi, hz0, hz1, hz2⟩ := info_of info_int
  have hv := valid_of hc
  have HB := Lib.hid (Bx.start h)
  have hls : N.st.length = n := h.st.len
  have hll : N.lk.length = m := h.lk.len
  have hn9 := hv.ns
  have hm9 := hv.nl
  rw [hls] at hn9
  rw [hll] at hm9
  have HLA : Hid (∀ l ∈ N.lk, 0 ≤ l.1 ∧ l.1 < l.2.1 ∧ l.2.1 < (n : Int)) := fun l hl => by have := link_at hv hl; rw [hls] at this; omega
  have HLS := Lib.hid hls
  have HLL := Lib.hid hll
  have HSA : Hid ((w.alloc (.cells #[.int .i64 N.ver, .slice A n c, .slice A' m c'] 25)).heap.size = w.heap.size + 1) := by unfold Hid; simp
  clear h hc hv hls hll
  go_enter Try.func18, Try.ntmps18
  go_wp2
  generalize w.alloc (.cells #[.int .i64 N.ver, .slice A n c, .slice A' m c'] 25) = wA at *
  go_loopw [3, 4] (fun v i wr => ∃ k : Nat, k ≤ n ∧ i = .int .i64 (k : Int) ∧ Hid (wr.ownsRow (w.heap.size + 1) 3 1 v k (intS.flat (nums (List.range k)))) ∧ Hid (Bx w N A n c A' m c' wr)) (fun _ i _ => n - (intOf i).toNat)
  case atStart => exact ⟨0, Nat.zero_le _, rfl, World.ownsRow_nil _ _ _ _, HB⟩
  case round =>
    clear HB HSA
    obtain ⟨k, hk, rfl, HO, HB⟩ := hrel
    have z1 : wr.cell? ⟨w.heap.size, 1, none⟩ = some (.slice A n c) := cell_of_blk HB.out.blk rfl
    by_cases hlt : k < n
    · have hbs := HB.out.lt
      obtain ⟨Av, cv, rfl, -⟩ := ownr_slice HO.out
      have HDO := Lib.hid (ownr_alloc HO.out (.cells #[.int .i64 (k : Int)] 3))
      have HNEW := Lib.hid (new_int wr (k : Int) 3)
      have HBA := Lib.hid (HB.out.below ((Below.refl wr.heap.size wr).alloc (Nat.le_refl _) (.cells #[.int .i64 (k : Int)] 3)))
      have HNN : Hid (nums (List.range (k + 1)) = nums (List.range k) ++ [(k : Int)]) := by unfold Hid; rw [List.range_succ, nums_cat]; rfl
      go_wp2_with (at_builtin; go_loud (refine push_rec intS rfl (.tmp 15) (.tmp 17) 42 rfl (w.heap.size + 1) 3 i0 (.int .i64 0) 8 Try.underlying42 hi hz0 rfl hz1 hz2 _ k (nums (List.range k)) rfl HDO.out ⟨wr.heap.size, 0, none⟩ (k : Int) rfl HNEW.out (by omega) (by omega) (by simp; omega) ?_); intro v2 w2 hown2 _ hb2; have HO2 := Lib.hid hown2; have HB2 := Lib.hid (HBA.out.belowP hb2); clear hown2 hb2)
      go_wp2
      go_roundw
      case rel => exact ⟨k + 1, by omega, by go_num, by unfold Hid; rw [HNN.out]; exact HO2.out, HB2⟩
      case measure => simp [intOf]; omega
    obtain rfl : k = n := by omega
    rcases Nat.eq_zero_or_pos k with hz | hpos
    · subst hz
      have HE : Hid (nums (partsT N) = []) := List.eq_nil_of_length_eq_zero (by rw [nums_len, parts_len]; exact HLS.out)
      go_wp2
      go_loopw [5] (fun i wr => i = .int .i64 0 ∧ Hid (wr.ownsRow (w.heap.size + 1) 3 1 u3 0 (intS.flat (nums (List.range 0)))) ∧ Hid (Bx w N A 0 c A' m c' wr)) (fun _ _ => 0)
      case atStart => exact ⟨rfl, HO, HB⟩
      case round =>
        clear HO HB z1
        obtain ⟨rfl, HO, HB⟩ := hrel
        have z1 : wr.cell? ⟨w.heap.size, 1, none⟩ = some (.slice A 0 c) := cell_of_blk HB.out.blk rfl
        go_wp2
        go_ret
        refine ⟨_, rfl, InTo.of_own (n := 0) (e := 3) ?_ HB.out.bel⟩
        rw [HE.out]
        exact ownr_base HO.out (by omega)
    · obtain ⟨g, cap, rfl⟩ : ∃ g cap, u3 = .slice (some ⟨g, 0, none⟩) k cap := by
        rcases HO.out.2 with ⟨rfl, h0⟩ | ⟨g, cap, cur, rfl, -⟩
        · omega
        · exact ⟨g, cap, rfl⟩
      have HP0 : Hid (Pp w N A k c A' m c' g cap (List.range k) wr) := ⟨HB.out, HO.out, List.length_range⟩
      have HF0 : Hid (rdF (List.range k) = Gh.pturns (nlk N.lk) 0 id) := rdF_range k
      clear HO HB hlt
      go_wp2
      clear z1
      go_loopw [5] (fun i wr => ∃ (t : Nat) (xs : List Nat), t ≤ k ∧ i = .int .i64 (t : Int) ∧ Hid (rdF xs = Gh.pturns (nlk N.lk) t id) ∧ Hid (Pp w N A k c A' m c' g cap xs wr)) (fun i _ => k - (intOf i).toNat)
      case atStart => exact ⟨0, _, Nat.zero_le _, rfl, HF0, HP0⟩
      case round =>
        clear HF0 HP0
        obtain ⟨t, xs, ht, rfl, HF, HP⟩ := hrel
        have z1 : wr.cell? ⟨w.heap.size, 1, none⟩ = some (.slice A k c) := cell_of_blk HP.out.bx.blk rfl
        by_cases hlt : t < k
        · have HF0 : Hid (rdF xs = ((nlk N.lk).take 0).foldl Gh.plk (Gh.pturns (nlk N.lk) t id)) := HF.out
          go_wp2
          clear z1
          go_loopw [6] (fun i wr => ∃ (j : Nat) (xs : List Nat), j ≤ m ∧ i = .int .i64 (j : Int) ∧ Hid (rdF xs = ((nlk N.lk).take j).foldl Gh.plk (Gh.pturns (nlk N.lk) t id)) ∧ Hid (Pp w N A k c A' m c' g cap xs wr)) (fun i _ => m - (intOf i).toNat)
          case atStart => exact ⟨0, xs, Nat.zero_le _, rfl, HF0, HP⟩
          case round =>
            clear HF0 HP HF
            clear xs
            obtain ⟨j, xs, hj, rfl, HF, HP⟩ := hrel
            have z2 : wr.cell? ⟨w.heap.size, 2, none⟩ = some (.slice A' m c') := cell_of_blk HP.out.bx.blk rfl
            by_cases hlj : j < m
            · obtain ⟨bb, o, p, rfl, hbb, hp, c0, c1, c2⟩ := lk_at HP.out.bx.at_.lk hlj
              have hla := HLA.out _ (List.mem_of_getElem? hp)
              have hfm := fold_more hp (Gh.pturns (nlk N.lk) t id)
              obtain ⟨la, lb, lw⟩ := p
              simp only at c0 c1 c2 hla hfm
              obtain ⟨a, rfl⟩ : ∃ a : Nat, la = (a : Int) := ⟨la.toNat, by omega⟩
              obtain ⟨b, rfl⟩ : ∃ b : Nat, lb = (b : Int) := ⟨lb.toNat, by omega⟩
              rw [← HF.out, Int.toNat_natCast, Int.toNat_natCast] at hfm
              have HFM := Lib.hid hfm
              have HPA := Lib.hid (HP.out.alloc (.cells #[.int .i64 (a : Int), .int .i64 (b : Int), .int .i64 lw] 50))
              have HKA := Lib.hid (heap_alloc_new wr (.cells #[.int .i64 (a : Int), .int .i64 (b : Int), .int .i64 lw] 50))
              have hglt := HP.out.lt
              have hak : a < k := by omega
              have hbk : b < k := by omega
              have hne : a ≠ b := by omega
              have hxl := HP.out.len
              clear hp hfm HP HF hla
              go_wp2
              obtain ⟨gl, hgl⟩ : ∃ gl, wr.heap.size = gl := ⟨_, rfl⟩
              rw [hgl] at HKA hglt ⊢
              generalize wr.alloc (.cells #[.int .i64 (a : Int), .int .i64 (b : Int), .int .i64 lw] 50) = wB at *
              clear hgl c0 c1 c2 z2
              have l0 : wB.cell? ⟨gl, 0, none⟩ = some (.int .i64 (a : Int)) := cell_of_blk HKA.out rfl
              have l1 : wB.cell? ⟨gl, 1, none⟩ = some (.int .i64 (b : Int)) := cell_of_blk HKA.out rfl
              have ga := HPA.out.cell hak
              have gb := HPA.out.cell hbk
              have a1 : (0 : Int) ≤ (a : Int) := by omega
              have a2 : (a : Int) < (k : Int) := by omega
              have b1 : (0 : Int) ≤ (b : Int) := by omega
              have b2 : (b : Int) < (k : Int) := by omega
              obtain ⟨xa, hxa⟩ : ∃ xa, rdF xs a = xa := ⟨_, rfl⟩
              obtain ⟨xb, hxb⟩ : ∃ xb, rdF xs b = xb := ⟨_, rfl⟩
              rw [hxa] at ga
              rw [hxb] at gb
              by_cases hx : xa < xb
              · have d1 : decide ((xa : Int) < (xb : Int)) = true := decide_eq_true (by omega)
                have d1' : decide (xa < xb) = true := decide_eq_true hx
                have HFN : Hid (rdF (xs.set b xa) = ((nlk N.lk).take (j + 1)).foldl Gh.plk (Gh.pturns (nlk N.lk) t id)) := by
                  unfold Hid
                  rw [HFM.out, plk_1 (by omega) hne (by rw [hxa, hxb]; exact hx), hxa]
                clear HFM
                go_quiet (fail)
                have HPB := Lib.hid (HPA.out.drewN nq)
                have HKB : Hid ((wB.drewN nq).heap[gl]? = some (.cells #[.int .i64 (a : Int), .int .i64 (b : Int), .int .i64 lw] 50 (0, 0))) := HKA.out
                generalize wB.drewN nq = wC at *
                clear l0 l1 ga gb HPA HKA
                have l0 : wC.cell? ⟨gl, 0, none⟩ = some (.int .i64 (a : Int)) := cell_of_blk HKB.out rfl
                have l1 : wC.cell? ⟨gl, 1, none⟩ = some (.int .i64 (b : Int)) := cell_of_blk HKB.out rfl
                have ga := HPB.out.cell hak
                have gb := HPB.out.cell hbk
                rw [hxa] at ga
                rw [hxb] at gb
                go_wp2
                go_still_tail 9, (by kernel_rfl)
                change wpList _ _ _ _ _ wC.drew
                have HPC : Hid (Pp w N A k c (some ⟨bb, o, none⟩) m c' g cap xs wC.drew) := ⟨HPB.out.bx.below ((Below.refl _ _).drew), HPB.out.own, HPB.out.len⟩
                have HKC : Hid (wC.drew.heap[gl]? = some (.cells #[.int .i64 (a : Int), .int .i64 (b : Int), .int .i64 lw] 50 (0, 0))) := HKB.out
                generalize wC.drew = wD at *
                clear l0 l1 ga gb HPB HKB
                have gb := HPC.out.cell hbk
                have fb := HPC.out.free b
                have HPD := Lib.hid (HPC.out.set b xa)
                have HKD := Lib.hid ((Only.setCell wD ⟨g, b, none⟩ (.int .i64 (xa : Int))).at HKC.out (show ¬ gl = g by omega))
                clear HPC HKC
                go_wp2
                generalize wD.setCell ⟨g, b, none⟩ (.int .i64 (xa : Int)) = wE at *
                clear gb fb
                have l0 : wE.cell? ⟨gl, 0, none⟩ = some (.int .i64 (a : Int)) := cell_of_blk HKD.out rfl
                have l1 : wE.cell? ⟨gl, 1, none⟩ = some (.int .i64 (b : Int)) := cell_of_blk HKD.out rfl
                have ga := HPD.out.cell hak
                have gb := HPD.out.cell hbk
                rw [rdF_set (by omega)] at ga gb
                simp only [if_true] at gb
                simp only [if_neg hne, hxa] at ga
                have d2 : decide ((xa : Int) < (xa : Int)) = false := decide_eq_false (by omega)
                have d2' : decide (xa < xa) = false := decide_eq_false (by omega)
                go_quiet (fail)
                go_wp2
                go_roundw
                case rel => exact ⟨j + 1, xs.set b xa, by omega, by go_num, HFN, HPD.out.drewN _⟩
                case measure => simp [intOf]; omega
              have d1 : decide ((xa : Int) < (xb : Int)) = false := decide_eq_false (by omega)
              have d1' : decide (xa < xb) = false := decide_eq_false hx
              go_quiet (fail)
              have HPB := Lib.hid (HPA.out.drewN nq)
              have HKB : Hid ((wB.drewN nq).heap[gl]? = some (.cells #[.int .i64 (a : Int), .int .i64 (b : Int), .int .i64 lw] 50 (0, 0))) := HKA.out
              generalize wB.drewN nq = wC at *
              clear l0 l1 ga gb HPA HKA
              have l0 : wC.cell? ⟨gl, 0, none⟩ = some (.int .i64 (a : Int)) := cell_of_blk HKB.out rfl
              have l1 : wC.cell? ⟨gl, 1, none⟩ = some (.int .i64 (b : Int)) := cell_of_blk HKB.out rfl
              have ga := HPB.out.cell hak
              have gb := HPB.out.cell hbk
              rw [hxa] at ga
              rw [hxb] at gb
              by_cases hy : xb < xa
              · have d2 : decide ((xb : Int) < (xa : Int)) = true := decide_eq_true (by omega)
                have d2' : decide (xb < xa) = true := decide_eq_true hy
                have HFN : Hid (rdF (xs.set a xb) = ((nlk N.lk).take (j + 1)).foldl Gh.plk (Gh.pturns (nlk N.lk) t id)) := by
                  unfold Hid
                  rw [HFM.out, plk_2 (by omega) (by rw [hxa, hxb]; exact hx) (by rw [hxa, hxb]; exact hy), hxb]
                clear HFM
                go_wp2
                go_quiet (fail)
                have HPC := Lib.hid (HPB.out.drewN nq)
                have HKC : Hid ((wC.drewN nq).heap[gl]? = some (.cells #[.int .i64 (a : Int), .int .i64 (b : Int), .int .i64 lw] 50 (0, 0))) := HKB.out
                generalize wC.drewN nq = wD at *
                clear l0 l1 ga gb HPB HKB
                have l0 : wD.cell? ⟨gl, 0, none⟩ = some (.int .i64 (a : Int)) := cell_of_blk HKC.out rfl
                have l1 : wD.cell? ⟨gl, 1, none⟩ = some (.int .i64 (b : Int)) := cell_of_blk HKC.out rfl
                have ga := HPC.out.cell hak
                have gb := HPC.out.cell hbk
                rw [hxa] at ga
                rw [hxb] at gb
                go_wp2
                go_still_tail 9, (by kernel_rfl)
                change wpList _ _ _ _ _ wD.drew
                have HPD : Hid (Pp w N A k c (some ⟨bb, o, none⟩) m c' g cap xs wD.drew) := ⟨HPC.out.bx.below ((Below.refl _ _).drew), HPC.out.own, HPC.out.len⟩
                generalize wD.drew = wE at *
                clear l0 l1 ga gb HPC HKC
                have ga := HPD.out.cell hak
                have fa := HPD.out.free a
                have HPE := Lib.hid (HPD.out.set a xb)
                clear HPD
                go_wp2
                go_roundw
                case rel => exact ⟨j + 1, xs.set a xb, by omega, by go_num, HFN, HPE⟩
                case measure => simp [intOf]; omega
              have d2 : decide ((xb : Int) < (xa : Int)) = false := decide_eq_false (by omega)
              have d2' : decide (xb < xa) = false := decide_eq_false hy
              have HFN : Hid (rdF xs = ((nlk N.lk).take (j + 1)).foldl Gh.plk (Gh.pturns (nlk N.lk) t id)) := by
                unfold Hid
                rw [HFM.out, plk_3 (by rw [hxa, hxb]; exact hx) (by rw [hxa, hxb]; exact hy)]
              clear HFM
              go_wp2
              go_quiet (fail)
              go_wp2
              go_roundw
              case rel => exact ⟨j + 1, xs, by omega, by go_num, HFN, HPB.out.drewN _⟩
              case measure => simp [intOf]; omega
            · have HFN : Hid (rdF xs = Gh.pturns (nlk N.lk) (t + 1) id) := by
                have h1 := HF.out
                rw [show j = m by omega, fold_all HLL.out] at h1
                exact h1
              go_wp2
              go_roundw
              case rel => exact ⟨t + 1, xs, by omega, by go_num, HFN, HP⟩
              case measure => simp [intOf]; omega
        · have HE : Hid (xs = partsT N) := parts_rd (by rw [HLS.out]; exact HP.out.len) (by rw [HF.out, HLS.out, show t = k by omega])
          go_wp2
          go_ret
          refine ⟨_, rfl, InTo.of_own (n := k) (e := 3) ?_ HP.out.bx.bel⟩
          rw [← HE.out]
          exact ownr_base HP.out.own (by omega)
end Go.Proofs.Ytdgaaghkhkklpaa.Gf

/- Layer 5 (sample): the reference's Put, as a contract. -/
import Derived.Test.YtefnpibikebmdaaSmpP
import Derived.RegionTactic
import Derived.Deep.RegionHeld3
namespace Go.Proofs.Ytefnpibikebmdaa.Smp
open Go.RowKit Var Fld

/-- 'append(out, ys...)' as a step of a region that draws: out is nil or one's own, ys reads as a row that is not nil; told with the block in which the row lies behind it. -/
theorem step_cat {P : Program} {ops : Array Oper} {o : Oper} {a : Act} {K : Act → World → Prop} {Q : Exit → Act → World → Prop} {E : Prop} {w : World} (hgd : o.guard = none) (s x : Operand) (t : TypeId)
    (ho : o.op = .call { callee := .builtin .append, args := #[s, x], argTypes := #[t, t] })
    (base : Nat) (e : TypeId) (i : TypeInfo) (k : IntKind) (bytes : Nat) (ht : P.underlying t = some (.slice e)) (hi : P.info? e = some i) (hz : i.zero = some (.int k 0)) (hsize : i.size = 1) (hby : i.bytes = bytes)
    (v : Value) (n : Nat) (xs : List Int) (hs : a.eval s = v) (hown : w.ownsRow base e 1 v n (xs.map (Value.int k))) (B : Nat) (ad : Addr) (m c : Nat) (ys : List Int) (hx : a.eval x = .slice (some ad) m c) (hr : Row k w B (some ad) m ys)
    (hn : n + m ≤ 4398046511104) (hb8 : bytes ≤ 8) (hbase : base ≤ w.heap.size)
    (h : ∀ v' w', w'.ownsRow base e 1 v' (n + m) ((xs ++ ys).map (Value.int k)) → w.grownBy w' v.ownBlock → (v'.ownBlock = v.ownBlock ∨ v'.ownBlock = some w.heap.size) → K (a.put o.dst v') w') :
    if Region.wanted o (yielded ops a.tmps) = true then Oper.wp P o a w K Q else E := by
  have hw : Region.wanted o (yielded ops a.tmps) = true := by simp [Region.wanted, hgd]
  rw [if_pos hw]
  have hnews : ∀ j u, (ys.map (Value.int k))[j]? = some u → w.cell? (ad.add j) = some u := by
    intro j u hj
    have hjl : j < ys.length := by
      have := (List.getElem?_eq_some_iff.1 hj).1
      simpa using this
    have hl := hr.1
    obtain ⟨b, o, he, _, hc⟩ := hr.cell_at (show j < m by omega)
    injection he with he
    subst he
    have hadd : (⟨b, o, none⟩ : Addr).add j = ⟨b, o + j, none⟩ := by unfold Addr.add; split <;> simp_all
    rw [hadd, hc]
    simp only [List.getElem?_map, List.getElem?_eq_getElem hjl, Option.map_some, Option.some.injEq] at hj
    subst hj
    simp [List.getD, hjl]
  have h1 : ∀ u ∈ ys.map (Value.int k), u.oneCell' = true := by
    intro u hu
    obtain ⟨y, _, rfl⟩ := List.mem_map.1 hu
    rfl
  have hl : (ys.map (Value.int k)).length = m * 1 := by simp [hr.1]
  have h63 : n + m ≤ maxLen := by unfold maxLen; omega
  have hbb : (n + m) * bytes ≤ 140737488355328 := by have := Nat.mul_le_mul hn hb8; omega
  obtain ⟨v', w', hrun, h2, h3, _⟩ := run_append_own (P := P) w base t o.type e i (.int k 0) 1 bytes ht hi hz hsize hby rfl (by omega) v n _ hown ad m c _ hl hnews h1 h63 hbb hbase
  have h5 := append_lies (P := P) w base t o.type e i (.int k 0) 1 bytes ht hi hz hsize hby v n _ hown ad m c _ hl hnews h1 h63 hbb v' w' hrun
  unfold Oper.wp execOp
  simp only [ho, resolve, invoke, builtin, Sem.run_bind, Sem.run_pure, Result.andThen_ok, List.map_toArray, List.map_cons, List.map_nil, hs, hx, hrun]
  exact h v' w' (by simpa using h2) h3 h5

/-- The reference on its way: the last sample's block, the bytes so far. -/
structure RSt (w0 w : World) (g : Nat) (a : S) (bs : List Int) (v : Value) : Prop where
  own : w.ownsRow w0.heap.size 5 1 v bs.length (bs.map (Value.int .u8))
  las : w.heap[g]? = some (.cells a.cells 32 (0, 0))
  ne : v.ownBlock ≠ some g
  low : w0.heap.size ≤ g
  bel : Below w0.heap.size w0 w

section
variable {w0 w w1 : World} {g : Nat} {a : S} {bs ys : List Int} {v v1 : Value}
theorem RSt.below (h : RSt w0 w g a bs v) (hb : Below w.heap.size w w1) : RSt w0 w1 g a bs v :=
  ⟨own_below h.own hb, (hb.block _ (Array.getElem?_eq_some_iff.1 h.las).1).trans h.las, h.ne, h.low, h.bel.trans (hb.mono h.bel.size)⟩
theorem RSt.drew (h : RSt w0 w g a bs v) : RSt w0 w.drew g a bs v := h.below ((Below.refl _ _).drew)
theorem RSt.set {s : S} (h : RSt w0 w g a bs v) (hq : w1.heap[g]? = some (.cells s.cells 32 (0, 0))) (hO : Only (fun i => i = g) w w1) : RSt w0 w1 g s bs v :=
  ⟨hO.own h.own (fun i hi e => h.ne (by rw [hi, e])), hq, h.ne, h.low, h.bel.trans (hO.below h.bel.size (fun i hi => by rw [hi]; exact h.low))⟩
theorem RSt.app (h : RSt w0 w g a bs v) {m : Nat} (hm : ys.length = m) (ho : w1.ownsRow w0.heap.size 5 1 v1 (bs.length + m) ((bs ++ ys).map (Value.int .u8))) (hg : w.grownBy w1 v.ownBlock) (hl : v1.ownBlock = v.ownBlock ∨ v1.ownBlock = some w.heap.size) : RSt w0 w1 g a (bs ++ ys) v1 := by
  refine ⟨by rw [List.length_append, hm]; exact ho, (hg.block _ (Array.getElem?_eq_some_iff.1 h.las).1 (fun e => h.ne e.symm)).trans h.las, ?_, h.low, h.bel.trans ((Below.refl _ _).grown hg h.bel.size (fun j hj => (h.own.lt j hj).1))⟩
  rcases hl with e | e
  · rw [e]; exact h.ne
  · rw [e]
    intro h2
    injection h2 with h2
    have := (Array.getElem?_eq_some_iff.1 h.las).1
    omega
end

set_option maxHeartbeats 3200000 in
set_option maxRecDepth 100000 in
theorem refput_any (A : Option Addr) (n c : Nat) (ss : List S) (w : World) (h : SRow w w.heap.size A n ss) (hn : n ≤ 4398046511104) :
    Calls Try.prog 8 #[.slice A n c] w (PutTo ss w) := by
  obtain ⟨i0, hi, hz0, hz1, hz2⟩ := info_parts info_u8
  have H := Lib.hid h
  have HN := Lib.hid hn
  have HL := Lib.hid h.len
  clear h
  go_enter Try.func8, Try.ntmps8
  by_cases hbig : 2048 < n
  · have he : putE ss = 3 := by unfold putE; rw [HL.out, if_pos hbig]
    go_wp2
    go_ret2
    exact putTo_no (k := 3) he (by omega) (Below.refl _ _)
  · go_wp2
    go_loopw [4, 6] (fun vo i wr => ∃ k : Nat, k ≤ n ∧ i = .int .i64 (k : Int) ∧ Hid (good (ss.take k) = true) ∧ Hid (RSt w wr w.heap.size (las (ss.take k)) (enc (ss.take k)) vo)) (fun _ i _ => n - (intOf i).toNat)
    case atStart => exact ⟨0, Nat.zero_le _, rfl, rfl, ⟨World.ownsRow_nil _ _ _ _, heap_alloc_new w _, by simp [Value.ownBlock], Nat.le_refl _, (Below.refl _ _).alloc (Nat.le_refl _) _⟩⟩
    case round =>
      obtain ⟨k, hk, rfl, HG, HT⟩ := hrel
      by_cases hlt : k < n
      · obtain ⟨b, o, s, rfl, hbl, hs, hok, c0, c1, c2⟩ := (H.out.below HT.out.bel).at hlt
        have HS := Lib.hid hs
        have hkw : IntKind.i64.wrap ((k : Int) + 1) = (k : Int) + 1 := IntWalk.i64_in _ ⟨by omega, by omega⟩
        have hbl' : b < wr.heap.size := Nat.lt_of_lt_of_le hbl HT.out.bel.size
        have hgl : w.heap.size < wr.heap.size := (Array.getElem?_eq_some_iff.1 HT.out.las).1
        obtain ⟨a, ha⟩ : ∃ a, las (ss.take k) = a := ⟨_, rfl⟩
        have HLA := Lib.hid ha
        have hgla := HT.out.las
        rw [ha] at hgla
        have HGL := Lib.hid hgla
        obtain ⟨⟨p0, p1, p2⟩, -⟩ := three HGL.out
        obtain ⟨ι, hne, W, j0, h0, hW, hC⟩ := fam_of wr
        have d0 : ∀ i, (W i).cell? ⟨b, o + k * 3, none⟩ = some (.int .i64 s.t) := fun i => ((hW i).cell (p := ⟨b, o + k * 3, none⟩) hbl').trans c0
        have d1 : ∀ i, (W i).cell? ⟨b, o + k * 3 + 1, none⟩ = some (.int .i64 s.x) := fun i => ((hW i).cell (p := ⟨b, o + k * 3 + 1, none⟩) hbl').trans c1
        have d2 : ∀ i, (W i).cell? ⟨b, o + k * 3 + 2, none⟩ = some (.int .i64 s.y) := fun i => ((hW i).cell (p := ⟨b, o + k * 3 + 2, none⟩) hbl').trans c2
        have d3 : ∀ i, (W i).cell? ⟨w.heap.size, 0, none⟩ = some (.int .i64 a.t) := fun i => ((hW i).cell (p := ⟨w.heap.size, 0, none⟩) hgl).trans p0
        have HWW : ∀ i, Hid (Below wr.heap.size wr (W i)) := fun i => hW i
        have HF : Hid (∀ i, Calls Try.prog 11 #[.agg #[.int .i64 s.t, .int .i64 s.x, .int .i64 s.y]] (W i) fun e w' => e = .returned (.bool (may s)) ∧ Below (W i).heap.size (W i) w') := by
          intro i
          refine (refmay_any s (W i)).mono ?_
          rintro e w' ⟨rfl, rfl⟩
          exact ⟨rfl, (Below.refl _ _).alloc (Nat.le_refl _) _⟩
        have H0 := Lib.hid h0
        have HC := Lib.hid hC
        clear h0 hW hC hs hgla ha c0 c1 c2 p0 p1 p2 hok
        cases hms : may s with
        | false =>
          have hokp : okp (ss.take k) s = false := by unfold okp; rw [hms]; rfl
          have he : putE ss = 2 := by unfold putE; rw [HL.out, if_neg hbig, good_no HS.out hokp]; simp
          rw [hms] at HF
          go_wp2_with fail
          refine wp_region_fam W j0 (by kernel_rfl) (by kernel_rfl) H0.out ?_
          repeat (go_big_quiet_step ((go_at_call 11; exact fam_call HC.out (HF.out _))))
          refine wpQuiet_nil ?_
          rintro _ ⟨i, rfl⟩
          go_wp2
          go_ret2
          exact putTo_no (k := 2) he (by omega) (HT.out.bel.trans ((HWW i).out.mono HT.out.bel.size))
        | true =>
          rw [hms] at HF
          have HMS := Lib.hid hms
          clear hms
          by_cases hbad : k ≠ 0 ∧ s.t ≤ a.t
          · have hk0 : 0 < k := by omega
            have hd : decide (s.t ≤ a.t) = true := decide_eq_true hbad.2
            have hokp : okp (ss.take k) s = false := by
              unfold okp
              rw [HMS.out, HLA.out, List.length_take, HL.out, decide_eq_false (show ¬ min k n = 0 by omega), decide_eq_false (show ¬ a.t < s.t by omega)]
              rfl
            have he : putE ss = 2 := by unfold putE; rw [HL.out, if_neg hbig, good_no HS.out hokp]; simp
            go_wp2_with fail
            refine wp_region_fam W j0 (by kernel_rfl) (by kernel_rfl) H0.out ?_
            repeat (go_big_quiet_step ((go_at_call 11; exact fam_call HC.out (HF.out _))))
            refine wpQuiet_nil ?_
            rintro _ ⟨i, rfl⟩
            go_wp2
            go_ret2
            exact putTo_no (k := 2) he (by omega) (HT.out.bel.trans ((HWW i).out.mono HT.out.bel.size))
          · have hokp : okp (ss.take k) s = true := by
              unfold okp
              rw [HMS.out, HLA.out, List.length_take, HL.out]
              by_cases h0 : k = 0
              · simp [h0]
              · simp; omega
            have HOKP := Lib.hid hokp
            have HWP := fun i => Lib.hid (HT.out.below (HWW i).out)
            have hz : w.cell? ⟨b, o + k * 3, none⟩ = some (.int .i64 s.t) ∧ w.cell? ⟨b, o + k * 3 + 1, none⟩ = some (.int .i64 s.x) ∧ w.cell? ⟨b, o + k * 3 + 2, none⟩ = some (.int .i64 s.y) := by
              obtain ⟨b', o', s', e1, -, e2, -, q0, q1, q2⟩ := H.out.at hlt
              injection e1 with e1
              injection e1 with e1 e3
              subst e1 e3
              rw [HS.out] at e2
              injection e2 with e2
              subst e2
              exact ⟨q0, q1, q2⟩
            have HZ := Lib.hid hz
            have hmay : ∀ u ∈ ss.take k, may u = true := fun u hu => good_may HG.out hu
            have hnear := near (las_may hmay) HMS.out
            have hlen := enc_len (l := ss.take k) hmay k
            rw [List.take_take, Nat.min_self] at hlen
            have henc : enc (ss.take (k + 1)) = enc (ss.take k) ++ num (s.t - a.t) ++ sgn (s.x - a.x) ++ sgn (s.y - a.y) := by
              rw [enc_next HS.out, HLA.out]; unfold one; simp only [List.append_assoc]
            have HENC := Lib.hid henc
            rw [HLA.out] at hnear
            obtain ⟨⟨n1, n2⟩, ⟨n3, n4⟩, n5, n6⟩ := hnear
            obtain ⟨dt, hdt⟩ : ∃ dt, s.t - a.t = dt := ⟨_, rfl⟩
            obtain ⟨dx, hdx⟩ : ∃ dx, s.x - a.x = dx := ⟨_, rfl⟩
            obtain ⟨dy, hdy⟩ : ∃ dy, s.y - a.y = dy := ⟨_, rfl⟩
            have w1 : IntKind.i64.wrap (s.t - a.t) = dt := (IntWalk.i64_in _ ⟨by omega, by omega⟩).trans hdt
            have w2 : IntKind.i64.wrap (s.x - a.x) = dx := (IntWalk.i64_in _ ⟨by omega, by omega⟩).trans hdx
            have w3 : IntKind.i64.wrap (s.y - a.y) = dy := (IntWalk.i64_in _ ⟨by omega, by omega⟩).trans hdy
            rw [hdt, hdx, hdy] at HENC
            rw [hdt] at n1 n2
            rw [hdx] at n3 n4
            rw [hdy] at n5 n6
            have HD : Hid ((-1099511627776 ≤ dt ∧ dt ≤ 1099511627776) ∧ (-67108864 ≤ dx ∧ dx ≤ 67108864) ∧ (-67108864 ≤ dy ∧ dy ≤ 67108864)) := ⟨⟨n1, n2⟩, ⟨n3, n4⟩, n5, n6⟩
            have HLEN := Lib.hid hlen
            clear hz hmay hlen henc hdt hdx hdy n1 n2 n3 n4 n5 n6 hokp
            by_cases h0 : k = 0
            case' pos =>
              have hd0 : decide (0 < k) = false := decide_eq_false (by omega)
              clear hbad h0
              go_wp2_with fail
              refine wp_region_fam W j0 (by kernel_rfl) (by kernel_rfl) H0.out ?_
              repeat (go_big_quiet_step ((go_at_call 11; exact fam_call HC.out (HF.out _))))
              refine wpQuiet_nil ?_
              rintro _ ⟨i, rfl⟩
              go_wp2_with fail
            case' neg =>
              have hk0 : 0 < k := by omega
              have hd : decide (s.t ≤ a.t) = false := decide_eq_false (by omega)
              clear hbad h0
              go_wp2_with fail
              refine wp_region_fam W j0 (by kernel_rfl) (by kernel_rfl) H0.out ?_
              repeat (go_big_quiet_step ((go_at_call 11; exact fam_call HC.out (HF.out _))))
              refine wpQuiet_nil ?_
              rintro _ ⟨i, rfl⟩
              go_wp2_with fail
            all_goals
              have HX := HWP i
              rw [HLA.out] at HX
              clear d0 d1 d2 d3 HWP HF H0 HC
              have HSZ := Lib.hid (HWW i).out.size
              generalize W i = wA at HX HSZ ⊢
              clear HWW
              have HXD1 := Lib.hid HX.out.drew
              have p1 := (HX.out.drew.bel.cell (p := ⟨b, o + k * 3, none⟩) hbl).trans HZ.out.1
              have q1 := (three HX.out.drew.las).1.1
              go_region_held3 (fun wx => wx.cell? ⟨b, o + k * 3, none⟩ = some (.int .i64 s.t) ∧ wx.cell? ⟨w.heap.size, 0, none⟩ = some (.int .i64 a.t)) (first | exact ⟨p1, q1⟩ | exact ⟨pc1, qc1⟩ | exact ⟨pa1, qa1⟩) (first
                | (go_at_call 17; refine (refnumber_any dt (by have := HD.out; omega) _).mono ?_; rintro e5 w5 ⟨v5, rfl, hown5, hb5⟩; obtain ⟨A5, c5, rfl, -⟩ := own_nil hown5; obtain ⟨g5, rfl, -⟩ := own_at hown5 (put_pos _); have HO1 := Lib.hid hown5; have HC1 := Lib.hid (HXD1.out.below hb5); have pc1 := (HC1.out.bel.cell (p := ⟨b, o + k * 3, none⟩) hbl).trans HZ.out.1; have qc1 := (three HC1.out.las).1.1; clear hown5 hb5)
                | (refine step_cat rfl (.tmp 37) (.tmp 46) 24 rfl w.heap.size 5 i0 .u8 1 Try.underlying24 hi hz0 hz1 hz2 _ _ _ rfl HC1.out.own _ _ _ _ _ rfl (Row.of_own HO1.out) (by have := HLEN.out; have := HD.out; have := HN.out; have l1 := num_len (k := dt) (by omega); omega) (by omega) HC1.out.bel.size ?_; intro v6 w6 hown6 hg6 hl6; have HX1 := Lib.hid (HC1.out.app rfl hown6 hg6 hl6); have pa1 := (HX1.out.bel.cell (p := ⟨b, o + k * 3, none⟩) hbl).trans HZ.out.1; have qa1 := (three HX1.out.las).1.1; clear hown6 hg6 hl6))
              go_wp2_with fail
              clear HC1 HO1 HXD1
              have HXD2 := Lib.hid HX1.out.drew
              have p2 := (HX1.out.drew.bel.cell (p := ⟨b, o + k * 3 + 1, none⟩) hbl).trans HZ.out.2.1
              have q2 := (three HX1.out.drew.las).1.2.1
              go_region_held3 (fun wx => wx.cell? ⟨b, o + k * 3 + 1, none⟩ = some (.int .i64 s.x) ∧ wx.cell? ⟨w.heap.size, 1, none⟩ = some (.int .i64 a.x)) (first | exact ⟨p2, q2⟩ | exact ⟨pc2, qc2⟩ | exact ⟨pa2, qa2⟩) (first
                | (go_at_call 18; refine (refsigned_any dx (by have := HD.out; omega) (by have := HD.out; omega) _).mono ?_; rintro e5 w7 ⟨v7, rfl, hown5, hb5⟩; obtain ⟨A5, c5, rfl, -⟩ := own_nil hown5; obtain ⟨g5, rfl, -⟩ := own_at hown5 (put_pos _); have HO2 := Lib.hid hown5; have HC2 := Lib.hid (HXD2.out.below hb5); have pc2 := (HC2.out.bel.cell (p := ⟨b, o + k * 3 + 1, none⟩) hbl).trans HZ.out.2.1; have qc2 := (three HC2.out.las).1.2.1; clear hown5 hb5)
                | (refine step_cat rfl (.tmp 48) (.tmp 57) 24 rfl w.heap.size 5 i0 .u8 1 Try.underlying24 hi hz0 hz1 hz2 _ _ _ rfl HC2.out.own _ _ _ _ _ rfl (Row.of_own HO2.out) (by have := HLEN.out; have := HD.out; have := HN.out; simp only [List.length_append]; have l1 := num_len (k := dt) (by omega); have l2 := sgn_len (k := dx) (by omega) (by omega); omega) (by omega) HC2.out.bel.size ?_; intro v8 w8 hown6 hg6 hl6; have HX2 := Lib.hid (HC2.out.app rfl hown6 hg6 hl6); have pa2 := (HX2.out.bel.cell (p := ⟨b, o + k * 3 + 1, none⟩) hbl).trans HZ.out.2.1; have qa2 := (three HX2.out.las).1.2.1; clear hown6 hg6 hl6))
              go_wp2_with fail
              clear HC2 HO2 HXD2
              have HXD3 := Lib.hid HX2.out.drew
              have p3 := (HX2.out.drew.bel.cell (p := ⟨b, o + k * 3 + 2, none⟩) hbl).trans HZ.out.2.2
              have q3 := (three HX2.out.drew.las).1.2.2
              go_region_held3 (fun wx => wx.cell? ⟨b, o + k * 3 + 2, none⟩ = some (.int .i64 s.y) ∧ wx.cell? ⟨w.heap.size, 2, none⟩ = some (.int .i64 a.y)) (first | exact ⟨p3, q3⟩ | exact ⟨pc3, qc3⟩ | exact ⟨pa3, qa3⟩) (first
                | (go_at_call 18; refine (refsigned_any dy (by have := HD.out; omega) (by have := HD.out; omega) _).mono ?_; rintro e5 w9 ⟨v9, rfl, hown5, hb5⟩; obtain ⟨A5, c5, rfl, -⟩ := own_nil hown5; obtain ⟨g5, rfl, -⟩ := own_at hown5 (put_pos _); have HO3 := Lib.hid hown5; have HC3 := Lib.hid (HXD3.out.below hb5); have pc3 := (HC3.out.bel.cell (p := ⟨b, o + k * 3 + 2, none⟩) hbl).trans HZ.out.2.2; have qc3 := (three HC3.out.las).1.2.2; clear hown5 hb5)
                | (refine step_cat rfl (.tmp 59) (.tmp 68) 24 rfl w.heap.size 5 i0 .u8 1 Try.underlying24 hi hz0 hz1 hz2 _ _ _ rfl HC3.out.own _ _ _ _ _ rfl (Row.of_own HO3.out) (by have := HLEN.out; have := HD.out; have := HN.out; simp only [List.length_append]; have l1 := num_len (k := dt) (by omega); have l2 := sgn_len (k := dx) (by omega) (by omega); have l3 := sgn_len (k := dy) (by omega) (by omega); omega) (by omega) HC3.out.bel.size ?_; intro v10 w10 hown6 hg6 hl6; have HX3 := Lib.hid (HC3.out.app rfl hown6 hg6 hl6); have pa3 := (HX3.out.bel.cell (p := ⟨b, o + k * 3 + 2, none⟩) hbl).trans HZ.out.2.2; have qa3 := (three HX3.out.las).1.2.2; clear hown6 hg6 hl6))
              have x0 := (HX3.out.bel.cell (p := ⟨b, o + k * 3, none⟩) hbl).trans HZ.out.1
              have x1 := (HX3.out.bel.cell (p := ⟨b, o + k * 3 + 1, none⟩) hbl).trans HZ.out.2.1
              have x2 := (HX3.out.bel.cell (p := ⟨b, o + k * 3 + 2, none⟩) hbl).trans HZ.out.2.2
              obtain ⟨⟨y0, y1, y2⟩, f0, f1, f2⟩ := three HX3.out.las
              obtain ⟨⟨g1, e1⟩, ⟨g2, e2⟩, hq, hO⟩ := sets (s := s) HX3.out.las
              have HX4 := Lib.hid (HX3.out.set hq hO)
              rw [← HENC.out] at HX4
              clear hq hO HC3 HO3 HXD3
              go_wp2
              go_roundw
              case' rel =>
                refine ⟨k + 1, by omega, by go_num, good_take HG.out HS.out HOKP.out, ?_⟩
                unfold Hid
                rw [las_take HS.out]
                exact HX4.out
              case' measure => simp [intOf]; omega
      · have hkn : k = n := by omega
        have hg : good ss = true := by have := HG.out; rwa [List.take_of_length_le (by rw [HL.out]; omega)] at this
        have HG1 := Lib.hid hg
        go_wp2
        go_ret2
        have he : putE ss = 0 := by unfold putE; rw [HL.out, if_neg hbig, if_pos HG1.out]
        refine ⟨_, by rw [he]; rfl, ?_, HT.out.bel⟩
        rw [putB_ok he]
        have := HT.out.own
        rwa [List.take_of_length_le (by rw [HL.out]; omega)] at this
end Go.Proofs.Ytefnpibikebmdaa.Smp

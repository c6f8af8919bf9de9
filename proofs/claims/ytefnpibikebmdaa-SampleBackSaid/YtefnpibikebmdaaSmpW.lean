/- Layer 5 (sample): written, as a contract: the bytes of samples that are in sequence. -/
import Derived.Test.YtefnpibikebmdaaSmpI
namespace Go.Proofs.Ytefnpibikebmdaa.Smp
open Go.RowKit Var Fld

attribute [local go_sem] Oper.semAt_some

/-- Between two rounds: the Writer, the loop's record. -/
structure WSt (w0 W : World) (rec : LoopState → Option Code → Loop) (l D g : Nat) (ss : List S) (k : Nat) (v : Value) : Prop where
  wr : Wr W w0.heap.size g v (enc (ss.take k)).length (enc (ss.take k))
  loop : W.heap[l]? = some (.loop (rec .ready none))
  dfr : W.heap[D]? = some (.deferred (some []))
  bel : Below w0.heap.size w0 W

theorem own_base {w : World} {base base' n : Nat} {e : TypeId} {v : Value} {xs : List Value} (h : w.ownsRow base e 1 v n xs) (hb : base' ≤ base) : w.ownsRow base' e 1 v n xs := by
  refine ⟨h.1, ?_⟩
  rcases h.2 with h0 | ⟨g, cap, cur, rfl, h1, rest⟩
  · exact .inl h0
  · exact .inr ⟨g, cap, cur, rfl, Nat.le_trans hb h1, rest⟩

theorem not_mine {w : World} {base n l : Nat} {e : TypeId} {v : Value} {xs : List Value} {o : Obj} (h : w.ownsRow base e 1 v n xs) (hl : w.heap[l]? = some o) (ho : o.isCells = false) : v.ownBlock ≠ some l := by
  intro hv
  rcases h.2 with ⟨rfl, _⟩ | ⟨g, cap, cur, rfl, _, hg, _⟩
  · simp [Value.ownBlock] at hv
  · simp [Value.ownBlock] at hv
    subst hv
    rw [hg] at hl
    cases hl
    cases ho

theorem WSt.only {w0 W W' : World} {rec : LoopState → Option Code → Loop} {l D g k : Nat} {ss : List S} {v : Value} {M : Nat → Prop} (h : WSt w0 W rec l D g ss k v) (ho : Only M W W') (h1 : ¬ M g) (h2 : ∀ i, v.ownBlock = some i → ¬ M i) (h3 : ¬ M l) (h4 : ¬ M D) (h5 : ∀ i, i < w0.heap.size → ¬ M i) : WSt w0 W' rec l D g ss k v :=
  ⟨⟨ho.at h.wr.blk h1, ho.own h.wr.own h2, h.wr.ne, h.wr.low⟩, ho.at h.loop h3, ho.at h.dfr h4, h.bel.trans (ho.below h.bel.size (fun i hi => by
    apply Decidable.byContradiction
    intro hn
    exact h5 i (by omega) hi))⟩

set_option maxHeartbeats 1600000 in
set_option maxRecDepth 100000 in
theorem written_any (A : Option Addr) (n c : Nat) (ss : List S) (w : World) (h : SRow w w.heap.size A n ss) (hmay : ∀ s ∈ ss, may s = true) (hn : n ≤ 2048) :
    Calls Try.prog 16 #[.slice A n c] w fun e w' => ∃ v, e = .returned v ∧ w'.ownsRow w.heap.size 5 1 v (enc ss).length ((enc ss).map (Value.int .u8)) ∧ Below w.heap.size w w' := by
  have H := Lib.hid h
  have HMAY := Lib.hid hmay
  have HL := Lib.hid h.len
  have HE := Lib.hid (enc_len hmay)
  have hw0 : Wr (w.alloc (.cells #[.slice none 0 0] 60)) w.heap.size w.heap.size (.slice none 0 0) 0 [] :=
    ⟨heap_alloc_new w _, World.ownsRow_nil _ _ _ _, by simp [Value.ownBlock], Nat.le_refl _⟩
  have HW0 := Lib.hid hw0
  clear h hmay hw0
  refine (callsIn_wide (n := 9)).1 ?_
  refine callsIn_of_wp_marks Try.func16 rfl trivial ?_
  simp only [Try.ntmps16, List.size_toArray, List.length_cons, List.length_nil, Nat.reduceAdd, Nat.reduceSub, Array.replicate_succ, Array.replicate_zero, List.push_toArray, List.append_toArray, List.nil_append, List.cons_append]
  gi_wp2_with (refine ⟨trivial, ?_⟩; gi_at_call 26; refine (callsIn_wide.2 (steps_any _ _ _ _)).mono ?_; rintro e w' ⟨rfl, rfl⟩)
  have hbx : ((w.alloc (.cells #[.slice none 0 0] 60)).alloc (.cells #[.slice A n c] 22)).cell? ⟨w.heap.size + 1, 0, none⟩ = some (.slice A n c) := by
    have := cell_of_one (heap_alloc_new (w.alloc (.cells #[.slice none 0 0] 60)) (.cells #[.slice A n c] 22))
    rwa [World.size_alloc] at this
  have hb2 : Below w.heap.size w ((w.alloc (.cells #[.slice none 0 0] 60)).alloc (.cells #[.slice A n c] 22)) := ((Below.refl _ w).alloc (Nat.le_refl _) _).alloc (by simp) _
  have hw2 := HW0.out.below ((Below.refl _ _).alloc (Nat.le_refl _) (.cells #[.slice A n c] 22))
  have hs2 : ((w.alloc (.cells #[.slice none 0 0] 60)).alloc (.cells #[.slice A n c] 22)).heap.size = w.heap.size + 2 := by simp
  generalize ((w.alloc (.cells #[.slice none 0 0] 60)).alloc (.cells #[.slice A n c] 22)) = w2 at hbx hb2 hw2 hs2 ⊢
  refine range_on (gf := 37) (lb := #[.pointer (some ⟨w.heap.size + 1, 0, none⟩)]) rfl (enters_of Try.func37 (by kernel_rfl) rfl) ?_
  intro fn rec W1 hrec hl hd hs1 hb1
  rw [hs2] at hl hd hs1 hb1 ⊢
  have hcell1 : W1.cell? ⟨w.heap.size + 1, 0, none⟩ = some (.slice A n c) := (hb1.cell (p := ⟨w.heap.size + 1, 0, none⟩) (by show w.heap.size + 1 < w.heap.size + 2; omega)).trans hbx
  have hst : WSt w W1 rec (w.heap.size + 2 + 1) (w.heap.size + 2) w.heap.size ss 0 (.slice none 0 0) :=
    ⟨by simpa [enc, encF] using hw2.below (by rw [hs2]; exact hb1), hl, hd, hb2.trans (hb1.mono (by omega))⟩
  refine (steps_run 7 (w.heap.size + 2 + 1) (w.heap.size + 1) w.heap.size A n c ss (fun k W => ∃ v, W1.heap.size ≤ W.heap.size ∧ v.ownBlock ≠ some W1.heap.size ∧ WSt w W rec (w.heap.size + 2 + 1) (w.heap.size + 2) w.heap.size ss k v) W1 (by omega) HMAY.out hcell1
    (fun k W ⟨v, _, _, hv⟩ => H.out.below hv.bel) (fun k W W' ⟨v, hsz, hne, hv⟩ hO => ⟨v, Nat.le_trans hsz hO.size, hne, hv.only hO (by omega) (fun i hi e => hne (by rw [hi, e])) (by omega) (by omega) (fun i hi => by omega)⟩) (fun k W ⟨v, hsz, _⟩ => hsz) ?round ⟨_, Nat.le_refl _, by simp [Value.ownBlock], hst⟩).mono ?done
  case done =>
    rintro e W2 ⟨hv, v, hsz, hne, hst2⟩
    refine ⟨hv, .inl ⟨hst2.loop, ?_⟩⟩
    have hlen : (enc ss).length ≤ 61440 := by have := HE.out n; rw [List.take_of_length_le (by rw [HL.out]; exact Nat.le_refl _)] at this; omega
    have hO3 := Only.putObj W2 (w.heap.size + 2 + 1) (.loop (rec .exhausted none))
    have hne3 := not_mine hst2.wr.own hst2.loop rfl
    have hw3 : Wr (W2.putObj (w.heap.size + 2 + 1) (.loop (rec .exhausted none))) w.heap.size w.heap.size v (enc ss).length (enc ss) := by
      have h1 := hst2.wr
      rw [List.take_of_length_le (by rw [HL.out]; exact Nat.le_refl _)] at h1
      exact ⟨hO3.at h1.blk (by omega), hO3.own h1.own (fun i hi e => hne3 (by rw [hi, e])), h1.ne, h1.low⟩
    have hd3 : (W2.putObj (w.heap.size + 2 + 1) (.loop (rec .exhausted none))).heap[w.heap.size + 2]? = some (.deferred (some [])) := hO3.at hst2.dfr (by omega)
    have hb3 : Below w.heap.size w (W2.putObj (w.heap.size + 2 + 1) (.loop (rec .exhausted none))) := hst2.bel.trans (hO3.below hst2.bel.size (fun i hi => by omega))
    have HW3 := Lib.hid hw3
    have HD3 := Lib.hid hd3
    have HB3 := Lib.hid hb3
    clear hO3 hne3 hw3 hd3 hb3 hst2 hst hw2 hb2 hb1 hl hd hcell1 hbx hrec hne
    generalize W2.putObj (w.heap.size + 2 + 1) (.loop (rec .exhausted none)) = W3 at HW3 HD3 HB3 ⊢
    gi_wp2_with (refine ⟨trivial, ?_⟩; gi_at_call 29; refine (callsIn_wide.2 (out_any w.heap.size w.heap.size _ v _ _ HW3.out (by omega))).mono ?_; rintro e4 W4 ⟨v4, rfl, hown4, hb4⟩)
    have hd4 : W4.heap[w.heap.size + 2]? = some (.deferred (some [])) := (hb4.block _ (Array.getElem?_eq_some_iff.1 HD3.out).1).trans HD3.out
    refine ⟨by simp, .inl ⟨_, _, rfl, run_takeDeferred hd4, ?_⟩⟩
    refine ⟨_, results_tmp rfl _ _ _, v4, rfl, ?_, ?_⟩
    · have hO5 := Only.putObj W4 (w.heap.size + 2) (.deferred none)
      exact own_base (hO5.own hown4 (fun i hi e => not_mine hown4 hd4 rfl (by rw [hi, e]))) HB3.out.size
    · exact (HB3.out.trans (hb4.mono HB3.out.size)).trans ((Only.putObj W4 (w.heap.size + 2) (.deferred none)).below (Nat.le_trans HB3.out.size hb4.size) (fun i hi => by omega))
  case round =>
    rintro k s W o hs ⟨v, hsz, hne, hst2⟩ hlt
    have hst3 : WSt w (W.alloc o) rec (w.heap.size + 2 + 1) (w.heap.size + 2) w.heap.size ss k v := hst2.only (Only.alloc (M := fun _ => False) W o) (fun h => h) (fun _ _ h => h) (fun h => h) (fun h => h) (fun _ _ h => h)
    have hms := HMAY.out s (List.mem_of_getElem? hs)
    have hla := las_may (l := ss.take k) (fun u hu => HMAY.out u (List.mem_of_mem_take hu))
    obtain ⟨⟨n1, n2⟩, ⟨n3, n4⟩, n5, n6⟩ := near hla hms
    have hkn : k < n := by have := (List.getElem?_eq_some_iff.1 hs).1; have := HL.out; omega
    have hek := HE.out k
    have henc : enc (ss.take (k + 1)) = enc (ss.take k) ++ num (s.t - (las (ss.take k)).t) ++ sgn (s.x - (las (ss.take k)).x) ++ sgn (s.y - (las (ss.take k)).y) := by
      rw [enc_next hs]; unfold one; simp only [List.append_assoc]
    have HENC := Lib.hid henc
    have l1 := num_len (k := s.t - (las (ss.take k)).t) (by omega)
    have l2 := sgn_len (k := s.x - (las (ss.take k)).x) (by omega) (by omega)
    refine round_on hrec hst3.loop rfl ?_
    unfold stepV
    obtain ⟨dt, hdt⟩ : ∃ dt, s.t - (las (ss.take k)).t = dt := ⟨_, rfl⟩
    obtain ⟨dx, hdx⟩ : ∃ dx, s.x - (las (ss.take k)).x = dx := ⟨_, rfl⟩
    obtain ⟨dy, hdy⟩ : ∃ dy, s.y - (las (ss.take k)).y = dy := ⟨_, rfl⟩
    rw [hdt, hdx, hdy] at HENC
    rw [hdt] at n1 n2 l1
    rw [hdx] at n3 n4 l2
    rw [hdy] at n5 n6
    rw [hdt, hdx, hdy]
    clear henc hdt hdx hdy hms hla hs
    have HS3 := Lib.hid hst3
    have HV2 := Lib.hid hst2.wr.own
    clear hst3 hst2 hst hw2 hb2 hb1 hl hd hcell1 hbx hrec
    have hszo : (W.alloc o).heap.size = W.heap.size + 1 := by simp
    have HWo : Hid (∀ M, Only M (W.alloc o) (W.alloc o)) := fun M => Only.refl M _
    generalize W.alloc o = Wo at HS3 hszo HWo ⊢
    gi_wp2
    have hA := Below.refl Wo.heap.size Wo |>.alloc (Nat.le_refl _) (.cells #[.int .i64 dt, .int .i64 dx, .int .i64 dy] 52)
    have hSA : WSt w (Wo.alloc (.cells #[.int .i64 dt, .int .i64 dx, .int .i64 dy] 52)) rec (w.heap.size + 2 + 1) (w.heap.size + 2) w.heap.size ss k v := HS3.out.only (Only.alloc (M := fun _ => False) Wo _) (fun h => h) (fun _ _ h => h) (fun h => h) (fun h => h) (fun _ _ h => h)
    refine ⟨hSA.loop, ?_⟩
    have hnl := not_mine hSA.wr.own hSA.loop rfl
    have hP := Only.putObj (Wo.alloc (.cells #[.int .i64 dt, .int .i64 dx, .int .i64 dy] 52)) (w.heap.size + 2 + 1) (.loop (rec .busy none))
    have hbusy : ((Wo.alloc (.cells #[.int .i64 dt, .int .i64 dx, .int .i64 dy] 52)).putObj (w.heap.size + 2 + 1) (.loop (rec .busy none))).heap[w.heap.size + 2 + 1]? = some (.loop (rec .busy none)) := World.putObj_heap_same (by rw [World.size_alloc]; omega)
    have hstp : ((Wo.alloc (.cells #[.int .i64 dt, .int .i64 dx, .int .i64 dy] 52)).putObj (w.heap.size + 2 + 1) (.loop (rec .busy none))).heap[W.heap.size + 1]? = some (.cells #[.int .i64 dt, .int .i64 dx, .int .i64 dy] 52 (0, 0)) := by
      have := heap_alloc_new Wo (.cells #[.int .i64 dt, .int .i64 dx, .int .i64 dy] 52)
      rw [hszo] at this
      exact hP.at this (by omega)
    have hwb : Wr ((Wo.alloc (.cells #[.int .i64 dt, .int .i64 dx, .int .i64 dy] 52)).putObj (w.heap.size + 2 + 1) (.loop (rec .busy none))) w.heap.size w.heap.size v (enc (ss.take k)).length (enc (ss.take k)) :=
      ⟨hP.at hSA.wr.blk (by omega), hP.own hSA.wr.own (fun i hi e => hnl (by rw [hi, e])), hSA.wr.ne, hSA.wr.low⟩
    have hdb := hP.at hSA.dfr (by omega)
    have hbb : Below w.heap.size w ((Wo.alloc (.cells #[.int .i64 dt, .int .i64 dx, .int .i64 dy] 52)).putObj (w.heap.size + 2 + 1) (.loop (rec .busy none))) := hSA.bel.trans (hP.below hSA.bel.size (fun i hi => by omega))
    have hOb : Only (fun i => i = w.heap.size ∨ v.ownBlock = some i ∨ i = w.heap.size + 2 + 1) Wo ((Wo.alloc (.cells #[.int .i64 dt, .int .i64 dx, .int .i64 dy] 52)).putObj (w.heap.size + 2 + 1) (.loop (rec .busy none))) := (Only.alloc Wo _).trans hP (fun i _ h => .inr (.inr h))
    have hvlt : ∀ i, v.ownBlock = some i → i < W.heap.size := fun i hi => by
      rcases HV2.out.2 with ⟨rfl, _⟩ | ⟨gg, cap, cur, rfl, _, hg, _⟩
      · simp [Value.ownBlock] at hi
      · simp [Value.ownBlock] at hi
        subst hi
        exact (Array.getElem?_eq_some_iff.1 hg).1
    have HBUSY := Lib.hid hbusy
    have HSTP := Lib.hid hstp
    have HWB := Lib.hid hwb
    have HDB := Lib.hid hdb
    have HBB := Lib.hid hbb
    have HOB := Lib.hid hOb
    have HNL := Lib.hid hnl
    have HVLT := Lib.hid hvlt
    clear hbusy hstp hwb hdb hbb hOb hP hSA hA hnl hvlt HWo HW0
    generalize ((Wo.alloc (.cells #[.int .i64 dt, .int .i64 dx, .int .i64 dy] 52)).putObj (w.heap.size + 2 + 1) (.loop (rec .busy none))) = Wb at HBUSY HSTP HWB HDB HBB HOB ⊢
    have c0 : Wb.cell? ⟨W.heap.size + 1, 0, none⟩ = some (.int .i64 dt) := cell_of_blk HSTP.out rfl
    have hg0 : w.heap.size < W.heap.size + 1 := by omega
    have hvne : v.ownBlock ≠ some (W.heap.size + 1) := fun h => by have := HVLT.out _ h; omega
    have HVNE := Lib.hid hvne
    clear hvne
    gi_wp2_with fail
    refine ⟨trivial, ?_⟩
    refine (CallsIn.inRound _ (callsIn_wide.2 (number_any w.heap.size w.heap.size _ v _ dt _ HWB.out (by omega) (by omega)))).mono ?_
    rintro e5 W5 ⟨rfl, v5, hw5, hm5⟩
    have HW5 := Lib.hid hw5
    have HM5 := Lib.hid hm5
    have HT5 := Lib.hid (hm5.only.at HSTP.out (fun h => h.elim (fun h => by omega) HVNE.out))
    have c1 : W5.cell? ⟨W.heap.size + 1, 1, none⟩ = some (.int .i64 dx) := cell_of_blk HT5.out rfl
    have hbl : W.heap.size + 1 < Wb.heap.size := (Array.getElem?_eq_some_iff.1 HSTP.out).1
    have hvne5 : v5.ownBlock ≠ some (W.heap.size + 1) := fun h => (hm5.new _ h).elim HVNE.out (fun h => by omega)
    have HVNE5 := Lib.hid hvne5
    clear hw5 hm5 hvne5 c0
    gi_wp2_with fail
    refine ⟨trivial, ?_⟩
    refine (CallsIn.inRound _ (callsIn_wide.2 (signed_any w.heap.size w.heap.size _ v5 _ dx _ HW5.out (by omega) (by omega) (by omega)))).mono ?_
    rintro e6 W6 ⟨rfl, v6, hw6, hm6⟩
    have HW6 := Lib.hid hw6
    have HT6 := Lib.hid (hm6.only.at HT5.out (fun h => h.elim (fun h => by omega) HVNE5.out))
    have HM6 := Lib.hid (HM5.out.trans hm6)
    have c2 : W6.cell? ⟨W.heap.size + 1, 2, none⟩ = some (.int .i64 dy) := cell_of_blk HT6.out rfl
    clear hw6 hm6 c1
    gi_wp2_with fail
    refine ⟨trivial, ?_⟩
    refine (CallsIn.inRound _ (callsIn_wide.2 (signed_any w.heap.size w.heap.size _ v6 _ dy _ HW6.out (by omega) (by omega) (by omega)))).mono ?_
    rintro e7 W7 ⟨rfl, v7, hw7, hm7⟩
    have HW7 := Lib.hid hw7
    have HM7 := Lib.hid (HM6.out.trans hm7)
    clear hw7 hm7 c2
    gi_wp2
    have hO7 := HM7.out.only
    have hb7 := hO7.at HBUSY.out (fun h => h.elim (fun h => by omega) HNL.out)
    have hd7 := hO7.at HDB.out (fun h => h.elim (fun h => by omega) (fun h => not_mine HWB.out.own HDB.out rfl h))
    have hnl7 := not_mine HW7.out.own hb7 rfl
    have hP7 := Only.putObj W7 (w.heap.size + 2 + 1) (.loop (rec .ready none))
    refine ⟨hb7, rfl, ⟨v7, ?_, ?_, ⟨⟨hP7.at HW7.out.blk (by omega), ?_, HW7.out.ne, HW7.out.low⟩, World.putObj_heap_same (Array.getElem?_eq_some_iff.1 hb7).1, hP7.at hd7 (by omega), ?_⟩⟩, _, (HOB.out.trans hO7 (fun i _ h => h.elim .inl (fun h => .inr (.inl h)))).trans hP7 (fun i _ h => .inr (.inr h)), ?_, ?_⟩
    · have := HOB.out.size
      have := hO7.size
      have := hP7.size
      omega
    · intro h
      exact (HM7.out.new _ h).elim hne (fun h => by omega)
    · have := HW7.out.own
      have e1 : (enc (ss.take k)).length + (num dt).length + (sgn dx).length + (sgn dy).length = (enc (ss.take (k + 1))).length := by rw [HENC.out]; simp only [List.length_append]
      rw [e1, ← HENC.out] at this
      exact hP7.own this (fun i hi e => hnl7 (by rw [hi, e]))
    · refine HBB.out.trans ((hO7.below HBB.out.size ?_).trans (hP7.below (Nat.le_trans HBB.out.size hO7.size) (fun i hi => by omega)))
      rintro i (rfl | hi)
      · exact Nat.le_refl _
      · exact (HWB.out.own.lt i hi).1
    · rintro (h | h | h)
      · omega
      · have := HVLT.out _ h; omega
      · omega
    · rintro (h | h | h)
      · omega
      · exact hne h
      · omega
end Go.Proofs.Ytefnpibikebmdaa.Smp

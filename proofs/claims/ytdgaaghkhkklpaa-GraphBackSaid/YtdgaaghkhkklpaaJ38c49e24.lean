/- Lemmas that the proof stands on, in build order: GfI MixR. -/
import Derived.Laws.CopyOwn
import Derived.OrdersIn
import Derived.RangeFuncCalls
import Derived.Test.YtdgaaghkhkklpaaJ26ddb19d
import Derived.Test.YtdgaaghkhkklpaaJ377753ae
/- Layer 15 (graph), the landed program: Near, as a contract. -/
namespace Go.Proofs.Ytdgaaghkhkklpaa.Gf
open Go.RowKit Rec Ints Ge

attribute [local go_sem] Oper.semAt_some

theorem not_own {w : World} {base n l size : Nat} {e : TypeId} {v : Value} {xs : List Value} {o : Obj} (h : w.ownsRow base e size v n xs) (hl : w.heap[l]? = some o) (ho : o.isCells = false) : v.ownBlock ≠ some l := by
  intro hv
  rcases h.2 with ⟨rfl, _⟩ | ⟨g, cap, cur, rfl, _, hg, _⟩
  · simp [Value.ownBlock] at hv
  · simp [Value.ownBlock] at hv
    subst hv
    rw [hg] at hl
    cases hl
    cases ho
/-- The links of one stop among the first k. -/
def got (L : List L3) (s : Int) (k : Nat) : List L3 := ((wys L).take k).filter fun l => decide (l.1 = s)
theorem got_next {L : List L3} {k : Nat} {l : L3} (s : Int) (h : (wys L)[k]? = some l) : got L s (k + 1) = got L s k ++ (if l.1 = s then [l] else []) := by
  unfold got
  rw [List.take_add_one, h, List.filter_append]
  congr 1
  by_cases hf : l.1 = s <;> simp [hf]
theorem got_len (L : List L3) (s : Int) (k : Nat) : (got L s k).length ≤ k := Nat.le_trans (List.length_filter_le _ _) (by rw [List.length_take]; omega)
theorem got_all {L : List L3} {s : Int} {k : Nat} (h : (wys L).length ≤ k) : got L s k = pick s L := by unfold got pick; rw [List.take_of_length_le h]
theorem alloc_old_at {i : Nat} {ob : Obj} (w : World) (o : Obj) (h : w.heap[i]? = some ob) : (w.alloc o).heap[i]? = some ob := (Below.heap_alloc w o i (Array.getElem?_eq_some_iff.1 h).1).trans h
/-- Between two rounds: what was found lies in a slice of its own, behind a pointer. -/
structure NSt (w : World) (A' : Option Addr) (m : Nat) (L : List L3) (s : Int) (rec : LoopState → Option Code → Loop) (l D base : Nat) (v : Value) (k : Nat) (W : World) : Prop where
  bel : Below w.heap.size w W
  row : RRow lkS W w.heap.size A' m L
  stop : W.heap[w.heap.size + 1]? = some (.cells #[.int .i64 s] 3 (0, 0))
  out : W.heap[w.heap.size + 2]? = some (.cells #[v] 23 (0, 0))
  own : W.ownsRow base 50 3 v (got L s k).length (lkS.flat (got L s k))
  loop : W.heap[l]? = some (.loop (rec .ready none))
  dfr : W.heap[D]? = some (.deferred (some []))
theorem NSt.keep {w W W' : World} {A' : Option Addr} {m l D base k : Nat} {L : List L3} {s : Int} {rec : LoopState → Option Code → Loop} {v : Value} {M : Nat → Prop} (h : NSt w A' m L s rec l D base v k W) (ho : Only M W W') (h1 : ¬ M (w.heap.size + 1)) (h2 : ¬ M (w.heap.size + 2)) (h3 : ¬ M l) (h4 : ¬ M D) (h5 : ∀ i, v.ownBlock = some i → ¬ M i) (h6 : ∀ i, i < w.heap.size → ¬ M i) : NSt w A' m L s rec l D base v k W' := by
  have hb : Below w.heap.size W W' := ho.below h.bel.size (fun i hi => by
    apply Decidable.byContradiction
    intro hn
    exact h6 i (by omega) hi)
  exact ⟨h.bel.trans hb, h.row.below hb, ho.at h.stop h1, ho.at h.out h2, ownr_only h.own ho h5, ho.at h.loop h3, ho.at h.dfr h4⟩
theorem NSt.alloc {w W : World} {A' : Option Addr} {m l D base k : Nat} {L : List L3} {s : Int} {rec : LoopState → Option Code → Loop} {v : Value} (h : NSt w A' m L s rec l D base v k W) (o : Obj) : NSt w A' m L s rec l D base v k (W.alloc o) :=
  h.keep (Only.alloc (M := fun _ => False) W o) (fun h => h) (fun h => h) (fun h => h) (fun h => h) (fun _ _ h => h) (fun _ _ h => h)

set_option maxHeartbeats 1600000 in
set_option maxRecDepth 100000 in
theorem near_any (N : Nt) (A A' : Option Addr) (n c m c' : Nat) (s : Int) (w : World) (h : NAt w w.heap.size N A n c A' m c') (hc : check N = 0) :
    Calls Try.prog 19 #[.agg #[.int .i64 N.ver, .slice A n c, .slice A' m c'], .int .i64 s] w fun e w' => ∃ v, e = .returned v ∧ LkTo w.heap.size w (nearL N s) v w' := by
  have hv := valid_of hc
  have HNP := Lib.hid (near_pick hv s)
  obtain ⟨ver, st, L⟩ := N
  have hll : L.length = m := h.lk.len
  have hm9 : m ≤ 16384 := by have := hv.nl; simp only at this; omega
  have HRW : Hid (RRow lkS w w.heap.size A' m L) := h.lk
  have HWL : Hid ((wys L).length = 2 * m) := by unfold Hid; rw [wys_len, hll]
  simp only at HNP ⊢
  clear h hv hc hll
  refine (callsIn_wide (n := 9)).1 ?_
  refine callsIn_of_wp_marks Try.func19 rfl trivial ?_
  simp only [Try.ntmps19, List.size_toArray, List.length_cons, List.length_nil, Nat.reduceAdd, Nat.reduceSub, Array.replicate_succ, Array.replicate_zero, List.push_toArray, List.append_toArray, List.nil_append, List.cons_append]
  gi_wp2_with (refine ⟨trivial, ?_⟩; gi_at_call 39; refine (callsIn_wide.2 (ways_any _ _ _ _ _ _ _ _)).mono ?_; rintro e w' ⟨rfl, rfl⟩)
  obtain ⟨i0, hi, hz0, hz1, hz2⟩ := info_of info_lk
  have hb4 : Below w.heap.size w ((((w.alloc (.cells #[.int .i64 ver, .slice A n c, .slice A' m c'] 25)).alloc (.cells #[.int .i64 s] 3)).alloc (.cells #[.slice none 0 0] 23)).alloc (.cells #[.int .i64 ver, .slice A n c, .slice A' m c'] 25)) := ((((Below.refl _ w).alloc (Nat.le_refl _) _).alloc (by simp) _).alloc (by simp <;> omega) _).alloc (by simp <;> omega) _
  have hs4 : ((((w.alloc (.cells #[.int .i64 ver, .slice A n c, .slice A' m c'] 25)).alloc (.cells #[.int .i64 s] 3)).alloc (.cells #[.slice none 0 0] 23)).alloc (.cells #[.int .i64 ver, .slice A n c, .slice A' m c'] 25)).heap.size = w.heap.size + 4 := by simp
  have hk1 : ((((w.alloc (.cells #[.int .i64 ver, .slice A n c, .slice A' m c'] 25)).alloc (.cells #[.int .i64 s] 3)).alloc (.cells #[.slice none 0 0] 23)).alloc (.cells #[.int .i64 ver, .slice A n c, .slice A' m c'] 25)).heap[w.heap.size + 1]? = some (.cells #[.int .i64 s] 3 (0, 0)) := by
    have h1 := heap_alloc_new (w.alloc (.cells #[.int .i64 ver, .slice A n c, .slice A' m c'] 25)) (.cells #[.int .i64 s] 3)
    rw [World.size_alloc] at h1
    exact (Below.heap_alloc _ _ _ (by simp <;> omega)).trans ((Below.heap_alloc _ _ _ (by simp)).trans h1)
  have hk2 : ((((w.alloc (.cells #[.int .i64 ver, .slice A n c, .slice A' m c'] 25)).alloc (.cells #[.int .i64 s] 3)).alloc (.cells #[.slice none 0 0] 23)).alloc (.cells #[.int .i64 ver, .slice A n c, .slice A' m c'] 25)).heap[w.heap.size + 2]? = some (.cells #[.slice none 0 0] 23 (0, 0)) := by
    have h1 := heap_alloc_new ((w.alloc (.cells #[.int .i64 ver, .slice A n c, .slice A' m c'] 25)).alloc (.cells #[.int .i64 s] 3)) (.cells #[.slice none 0 0] 23)
    rw [World.size_alloc, World.size_alloc] at h1
    exact (Below.heap_alloc _ _ _ (by simp)).trans h1
  have hk3 : ((((w.alloc (.cells #[.int .i64 ver, .slice A n c, .slice A' m c'] 25)).alloc (.cells #[.int .i64 s] 3)).alloc (.cells #[.slice none 0 0] 23)).alloc (.cells #[.int .i64 ver, .slice A n c, .slice A' m c'] 25)).heap[w.heap.size + 3]? = some (.cells #[.int .i64 ver, .slice A n c, .slice A' m c'] 25 (0, 0)) := by
    have h1 := heap_alloc_new (((w.alloc (.cells #[.int .i64 ver, .slice A n c, .slice A' m c'] 25)).alloc (.cells #[.int .i64 s] 3)).alloc (.cells #[.slice none 0 0] 23)) (.cells #[.int .i64 ver, .slice A n c, .slice A' m c'] 25)
    rw [World.size_alloc, World.size_alloc, World.size_alloc] at h1
    exact h1
  generalize ((((w.alloc (.cells #[.int .i64 ver, .slice A n c, .slice A' m c'] 25)).alloc (.cells #[.int .i64 s] 3)).alloc (.cells #[.slice none 0 0] 23)).alloc (.cells #[.int .i64 ver, .slice A n c, .slice A' m c'] 25)) = w4 at hb4 hs4 hk1 hk2 hk3 ⊢
  try simp only [World.size_alloc]
  refine range_on (gf := 61) (lb := #[.pointer (some ⟨w.heap.size + 3, 0, none⟩)]) rfl (enters_of Try.func61 (by kernel_rfl) rfl) ?_
  intro fn rec W1 hrec hl hd hs1 hb1
  rw [hs4] at hl hd hs1 hb1 ⊢
  obtain ⟨B, hB⟩ : ∃ B, W1.heap.size = B := ⟨_, rfl⟩
  have hB6 : w.heap.size + 6 ≤ B := by omega
  have hst : NSt w A' m L s rec (w.heap.size + 4 + 1) (w.heap.size + 4) B (.slice none 0 0) 0 W1 :=
    ⟨hb4.trans (hb1.mono (by omega)), HRW.out.below (hb4.trans (hb1.mono (by omega))), (hb1.block _ (by omega)).trans hk1, (hb1.block _ (by omega)).trans hk2, World.ownsRow_nil _ _ _ _, hl, hd⟩
  have hbox1 := (hb1.block _ (show w.heap.size + 3 < w.heap.size + 4 by omega)).trans hk3
  refine (ways_run (σ := Value) 7 (w.heap.size + 4 + 1) (w.heap.size + 3) w.heap.size ver A A' n c m c' L
    (fun v k W => Hid (B ≤ W.heap.size ∧ NSt w A' m L s rec (w.heap.size + 4 + 1) (w.heap.size + 4) B v k W)) (fun v W q => B ≤ q ∧ q ≤ W.heap.size ∧ v.ownBlock ≠ some q) W1 (by omega) hbox1
    (fun v k W hJ => hJ.out.2.row) (fun v k W o hJ => ⟨⟨by have := hJ.out.1; rw [World.size_alloc]; omega, hJ.out.2.alloc o⟩, hJ.out.1, by rw [World.size_alloc]; omega, fun h => by have := (hJ.out.2.own.lt _ h).2; omega⟩)
    (fun v k W hJ => ⟨hJ.out.1, Nat.le_refl _, fun h => by have := (hJ.out.2.own.lt _ h).2; omega⟩) ?round _ ⟨by omega, hst⟩).mono ?done
  case done =>
    rintro e W2 ⟨hv, v, hJ2⟩
    obtain ⟨hsz, hst2⟩ := hJ2.out
    refine ⟨hv, .inl ⟨hst2.loop, ?_⟩⟩
    have hown2 := hst2.own
    rw [got_all (by rw [HWL.out]; exact Nat.le_refl _)] at hown2
    have hO3 := Only.putObj W2 (w.heap.size + 4 + 1) (.loop (rec .exhausted none))
    have hne3 := not_own hst2.own hst2.loop rfl
    have HOW3 : Hid ((W2.putObj (w.heap.size + 4 + 1) (.loop (rec .exhausted none))).ownsRow B 50 3 v (pick s L).length (lkS.flat (pick s L))) := ownr_only hown2 hO3 (fun i hi e => hne3 (by rw [hi, e]))
    have HD3 : Hid ((W2.putObj (w.heap.size + 4 + 1) (.loop (rec .exhausted none))).heap[w.heap.size + 4]? = some (.deferred (some []))) := hO3.at hst2.dfr (by omega)
    have hout3 := hO3.at hst2.out (show ¬ w.heap.size + 2 = w.heap.size + 4 + 1 by omega)
    have HB3 : Hid (Below w.heap.size w (W2.putObj (w.heap.size + 4 + 1) (.loop (rec .exhausted none)))) := hst2.bel.trans (hO3.below hst2.bel.size (fun i hi => by omega))
    have m2 : (W2.putObj (w.heap.size + 4 + 1) (.loop (rec .exhausted none))).cell? ⟨w.heap.size + 2, 0, none⟩ = some v := cell_of_blk hout3 rfl
    obtain ⟨A3, c3, rfl, -⟩ := ownr_slice hown2
    clear hO3 hne3 hout3 hst2 hst hb4 hb1 hl hd hbox1 hrec hown2 hk1 hk2 hk3
    generalize W2.putObj (w.heap.size + 4 + 1) (.loop (rec .exhausted none)) = W3 at HOW3 HD3 HB3 m2 ⊢
    gi_wp2
    refine ⟨by simp, .inl ⟨_, _, rfl, run_takeDeferred HD3.out, ?_⟩⟩
    have hO5 := Only.putObj W3 (w.heap.size + 4) (.deferred none)
    refine ⟨_, results_tmp rfl _ _ _, _, rfl, ?_⟩
    rw [← HNP.out]
    exact LkTo.of_own (ownr_base (ownr_only HOW3.out hO5 (fun i hi e => not_own HOW3.out HD3.out rfl (by have e' : i = _ := e; rw [← e']; exact hi))) (by omega)) (HB3.out.trans (hO5.below HB3.out.size (fun i hi => by omega)))
  case round =>
    rintro v k x W q hs hJ2 ⟨hq1, hq2, hq3⟩
    obtain ⟨hsz, hst2⟩ := hJ2.out
    clear hJ2
    have hkm : k < 2 * m := by have := (List.getElem?_eq_some_iff.1 hs).1; have := HWL.out; omega
    have HFN := Lib.hid (got_next s hs)
    have hfl := got_len L s k
    refine round_on hrec hst2.loop rfl ?_
    obtain ⟨a, b, g⟩ := x
    unfold lkV
    simp only
    have hHQ : ∀ o, W.heap[q]? = some o → q < W.heap.size := fun o h => (Array.getElem?_eq_some_iff.1 h).1
    have HST := Lib.hid hst2
    have hg0 : W.heap.size < (W.alloc (.cells #[.int .i64 a, .int .i64 b, .int .i64 g] 50)).heap.size := by simp
    clear hs hst hst2 hb4 hb1 hl hd hbox1 hrec hk1 hk2 hk3 hB hs1 hs4
    gi_wp2
    have hSA := HST.out.alloc (.cells #[.int .i64 a, .int .i64 b, .int .i64 g] 50)
    have hbx := heap_alloc_new W (.cells #[.int .i64 a, .int .i64 b, .int .i64 g] 50)
    refine ⟨hSA.loop, ?_⟩
    have hnl := not_own hSA.own hSA.loop rfl
    have hP := Only.putObj (W.alloc (.cells #[.int .i64 a, .int .i64 b, .int .i64 g] 50)) (w.heap.size + 4 + 1) (.loop (rec .busy none))
    have hbusy : ((W.alloc (.cells #[.int .i64 a, .int .i64 b, .int .i64 g] 50)).putObj (w.heap.size + 4 + 1) (.loop (rec .busy none))).heap[w.heap.size + 4 + 1]? = some (.loop (rec .busy none)) := World.putObj_heap_same (by rw [World.size_alloc]; omega)
    have hbx2 := hP.at hbx (show ¬ W.heap.size = w.heap.size + 4 + 1 by omega)
    have hstop := hP.at hSA.stop (by omega)
    have hout := hP.at hSA.out (by omega)
    have hdfr := hP.at hSA.dfr (by omega)
    have hown := ownr_only hSA.own hP (fun i hi e => hnl (by rw [hi, e]))
    have hbel : Below w.heap.size w ((W.alloc (.cells #[.int .i64 a, .int .i64 b, .int .i64 g] 50)).putObj (w.heap.size + 4 + 1) (.loop (rec .busy none))) := hSA.bel.trans (hP.below hSA.bel.size (fun i hi => by omega))
    have hvlt : ∀ i, v.ownBlock = some i → B ≤ i ∧ i < W.heap.size := fun i hi => HST.out.own.lt i hi
    have hOq : Only (fun i => i = w.heap.size + 4 + 1) W ((W.alloc (.cells #[.int .i64 a, .int .i64 b, .int .i64 g] 50)).putObj (w.heap.size + 4 + 1) (.loop (rec .busy none))) := (Only.alloc W _).trans hP (fun _ _ h => h)
    have HBUSY := Lib.hid hbusy
    have HBX2 := Lib.hid hbx2
    have HSTOP := Lib.hid hstop
    have HOUT := Lib.hid hout
    have HDFR := Lib.hid hdfr
    have HOWN := Lib.hid hown
    have HBEL := Lib.hid hbel
    have HVLT := Lib.hid hvlt
    have HOQ := Lib.hid hOq
    obtain ⟨A1, c1, rfl, -⟩ := ownr_slice hown
    clear hSA hbx hbusy hbx2 hstop hout hdfr hown hbel hvlt hOq hP hnl
    generalize ((W.alloc (.cells #[.int .i64 a, .int .i64 b, .int .i64 g] 50)).putObj (w.heap.size + 4 + 1) (.loop (rec .busy none))) = Wb at HBUSY HBX2 HSTOP HOUT HDFR HOWN HBEL HOQ ⊢
    have c0 : Wb.cell? ⟨W.heap.size, 0, none⟩ = some (.int .i64 a) := cell_of_blk HBX2.out rfl
    have cs : Wb.cell? ⟨w.heap.size + 1, 0, none⟩ = some (.int .i64 s) := cell_of_blk HSTOP.out rfl
    cases hd : (a == s) with
    | false =>
      have hne : ¬ a = s := beq_eq_false_iff_ne.1 hd
      have hP7 := Only.putObj Wb (w.heap.size + 4 + 1) (.loop (rec .ready none))
      have hlr : (Wb.putObj (w.heap.size + 4 + 1) (.loop (rec .ready none))).heap[w.heap.size + 4 + 1]? = some (.loop (rec .ready none)) := World.putObj_heap_same (Array.getElem?_eq_some_iff.1 HBUSY.out).1
      have hnl := not_own HOWN.out HBUSY.out rfl
      have hOO := HOQ.out.trans hP7 (fun _ _ h => h)
      have HFIN : Hid (Wb.heap[w.heap.size + 4 + 1]? = some (.loop (rec .busy none)) ∧ (∃ x', Hid (B ≤ (Wb.putObj (w.heap.size + 4 + 1) (.loop (rec .ready none))).heap.size ∧ NSt w A' m L s rec (w.heap.size + 4 + 1) (w.heap.size + 4) B x' (k + 1) (Wb.putObj (w.heap.size + 4 + 1) (.loop (rec .ready none))))) ∧ ∀ o, W.heap[q]? = some o → (Wb.putObj (w.heap.size + 4 + 1) (.loop (rec .ready none))).heap[q]? = some o) := by
        refine ⟨HBUSY.out, ⟨_, ⟨by have := hOO.size; omega, HBEL.out.trans (hP7.below HBEL.out.size (fun i hi => by omega)), HRW.out.below (HBEL.out.trans (hP7.below HBEL.out.size (fun i hi => by omega))), hP7.at HSTOP.out (by omega), hP7.at HOUT.out (by omega), ?_, hlr, hP7.at HDFR.out (by omega)⟩⟩, fun o ho => hOO.at ho (by have := hHQ o ho; omega)⟩
        have h1 := ownr_only HOWN.out hP7 (fun i hi e => hnl (by rw [hi, e]))
        rw [HFN.out, if_neg hne, List.append_nil]
        exact h1
      clear hP7 hlr hnl hOO
      gi_wp2
      exact ⟨HFIN.out.1, rfl, HFIN.out.2⟩
    | true =>
      have hae : s = a := (beq_iff_eq.1 hd).symm
      subst hae
      have y1 : Wb.cell? ⟨W.heap.size, 0 + 1, none⟩ = some (.int .i64 b) := cell_of_blk HBX2.out rfl
      have y2 : Wb.cell? ⟨W.heap.size, 0 + 2, none⟩ = some (.int .i64 g) := cell_of_blk HBX2.out rfl
      have co : Wb.cell? ⟨w.heap.size + 2, 0, none⟩ = some (.slice A1 (got L s k).length c1) := cell_of_blk HOUT.out rfl
      have HDO := Lib.hid (ownr_alloc HOWN.out (.cells #[.int .i64 s, .int .i64 b, .int .i64 g] 50))
      have HNEW := Lib.hid (new_lk Wb (s, b, g) 50)
      have HOUT1 := Lib.hid (alloc_old_at Wb (.cells #[.int .i64 s, .int .i64 b, .int .i64 g] 50) HOUT.out)
      have hszb : B ≤ Wb.heap.size := by have := HOQ.out.size; omega
      gi_wp2_with (gi_at_builtin; go_loud (refine wpListIn_append_own _ rfl (.tmp 14) (.tmp 16) 23 rfl B 50 i0 (.agg #[.int .i64 0, .int .i64 0, .int .i64 0]) 3 24 Try.underlying23 hi hz0 hz1 hz2 rfl (by decide) _ (got L s k).length (lkS.flat (got L s k)) rfl HDO.out ⟨Wb.heap.size, 0, none⟩ 1 1 [.int .i64 s, .int .i64 b, .int .i64 g] rfl rfl HNEW.out (lkS.one (s, b, g)) (by unfold maxLen; omega) (by omega) (by simp <;> omega) ?_); intro v1 wA hown1 hgrow _; obtain ⟨A2, c2', rfl, -⟩ := ownr_slice hown1; have hA2 := (Only.of_grown hgrow).at HOUT1.out (fun h => by have := (HVLT.out _ h).1; omega); have n2 : wA.cell? ⟨w.heap.size + 2, 0, none⟩ = some (.slice A1 (got L s k).length c1) := cell_of_blk hA2 rfl; have n3 : wA.frozen? ⟨w.heap.size + 2, 0, none⟩ = false := free_of_blk hA2; have HA2 := Lib.hid hA2; have HO1 := Lib.hid hown1; have HGR := Lib.hid hgrow; clear hown1 hgrow hA2)
      have hO1 := Only.of_grown HGR.out
      have hOA : Only (fun i => (Value.slice A1 (got L s k).length c1).ownBlock = some i) Wb wA := (Only.alloc Wb (.cells #[.int .i64 s, .int .i64 b, .int .i64 g] 50)).trans hO1 (fun _ _ h => h)
      have hOS := Only.setCell wA ⟨w.heap.size + 2, 0, none⟩ (.slice A2 ((got L s k).length + 1) c2')
      have hOW : Only (fun i => (Value.slice A1 (got L s k).length c1).ownBlock = some i ∨ i = w.heap.size + 2) Wb (wA.setCell ⟨w.heap.size + 2, 0, none⟩ (.slice A2 ((got L s k).length + 1) c2')) := (hOA.mono (fun _ h => .inl h)).trans hOS (fun _ _ h => .inr h)
      have hset := set_blk (j := 0) (u := .slice A2 ((got L s k).length + 1) c2') HA2.out
      have hlo : ∀ i, i < B → i ≠ w.heap.size + 2 → ¬ ((Value.slice A1 (got L s k).length c1).ownBlock = some i ∨ i = w.heap.size + 2) := fun i hi hne h => h.elim (fun h => by have := (HVLT.out _ h).1; omega) hne
      have hownF := ownr_only HO1.out hOS (fun i hi h => by have := (HO1.out.lt _ hi).1; have h : i = w.heap.size + 2 := h; omega)
      have HWF : Hid (Wb.heap.size ≤ (wA.setCell ⟨w.heap.size + 2, 0, none⟩ (.slice A2 ((got L s k).length + 1) c2')).heap.size) := hOW.size
      have HOW := Lib.hid hOW
      have HSET := Lib.hid hset
      have HLO := Lib.hid hlo
      have HOF := Lib.hid hownF
      clear hO1 hOA hOS hOW hset hlo hownF
      gi_wp2
      generalize (wA.setCell ⟨w.heap.size + 2, 0, none⟩ (.slice A2 ((got L s k).length + 1) c2')) = wF at *
      have hbF := HOW.out.at HBUSY.out (HLO.out _ (by omega) (by omega))
      have hP7 := Only.putObj wF (w.heap.size + 4 + 1) (.loop (rec .ready none))
      have hlr : (wF.putObj (w.heap.size + 4 + 1) (.loop (rec .ready none))).heap[w.heap.size + 4 + 1]? = some (.loop (rec .ready none)) := World.putObj_heap_same (Array.getElem?_eq_some_iff.1 hbF).1
      have hnl := not_own HOF.out hbF rfl
      have hbl := HBEL.out.trans (HOW.out.below HBEL.out.size (fun i hi => hi.elim (fun h => by have := (HVLT.out _ h).1; omega) (fun h => by omega)))
      have hbl2 := hbl.trans (hP7.below hbl.size (fun i hi => by omega))
      refine ⟨hbF, rfl, ⟨_, ⟨?_, hbl2, HRW.out.below hbl2, hP7.at (HOW.out.at HSTOP.out (HLO.out _ (by omega) (by omega))) (by omega), hP7.at HSET.out (by omega), ?_, hlr, hP7.at (HOW.out.at HDFR.out (HLO.out _ (by omega) (by omega))) (by omega)⟩⟩, ?_⟩
      · have := hP7.size; have := HWF.out; omega
      · have h1 := ownr_only HOF.out hP7 (fun i hi e => hnl (by rw [hi, e]))
        rw [HFN.out, if_pos trivial, List.length_append, flat_snoc]
        exact h1
      · intro o ho
        have hql := hHQ o ho
        refine hP7.at (HOW.out.at (HOQ.out.at ho (show ¬ q = w.heap.size + 4 + 1 by omega)) ?_) (show ¬ q = w.heap.size + 4 + 1 by omega)
        exact fun h => h.elim hq3 (fun h => by omega)
end Go.Proofs.Ytdgaaghkhkklpaa.Gf

/- A region that draws its order, inside a round of a range over a function: Mix's walk in the text's order serves there too. Over any program. -/
namespace Go.Proofs.Ytdgaaghkhkklpaa.Mix
open Go.RowKit

section
variable {P : Program} {S : World → Prop} {Q : Exit → Act → World → Prop}
theorem anyH_lex {a : Act} {w : World} {l : List Oper} (hB : lexOK l.toArray = true) (hS : S w) (h : wpLex P l.toArray S Q l a w) : wpAnyH P .any l.toArray Q S l.toArray.size (Array.replicate l.toArray.size false) a w := by
  refine any_of_lex (ok_of hB) _ (List.range' 0 l.length) _ a _ (by simp) List.pairwise_lt_range' (by simp) (fun j => ?_) (fun i o ho hi => ?_) hS (lex_nums l 0 a _ (fun j => ?_) h)
  · simp only [List.mem_range'_1]
    by_cases hj : j < l.length
    · simp [hj]
    · simp [hj]
  · by_cases hj : i < l.length
    · simp [hj] at hi
    · simp [hj] at hi
  · by_cases hj : j < l.length
    · simp [hj]
    · simp [hj]
/-- It ends as it should. -/
def Ends (Q : Exit → Act → World → Prop) (e : Exit) (a : Act) (w : World) : Prop := e = .normal ∧ Q .normal a w
theorem ends_out : ¬ LetsOut (Ends Q) := fun h => by
  obtain ⟨_, _, h⟩ := h
  cases h.1
theorem oper_in {o : Oper} {a : Act} {w : World} {K K' : Act → World → Prop} {l n : Nat} (hd : ∀ c, o.op ≠ .defer c) (hK : ∀ a w, K a w → K' a w) (h : o.wp P a w K (Ends Q)) : o.wpIn (Fence.wide.inRound l) n P a w K' Q := by
  unfold Oper.wp at h
  unfold Oper.wpIn
  refine ⟨fun _ _ => trivial, ?_⟩
  rw [Oper.semAt_eq _ _ _ hd]
  generalize (execOp a.eval o).run P w = r at h ⊢
  cases r with
  | ok x w' =>
    cases x <;> simp only [Oper.upon, Oper.uponIn] at h ⊢ <;>
      first
        | exact hK _ _ h
        | exact ⟨fun h => by simp [Fence.wide] at h, CallsIn.inRound _ (callsIn_wide.2 (Calls.mono h (fun e w'' he => by cases e <;> first | exact hK _ _ he | exact absurd he.1 (by simp) | exact absurd he ends_out)))⟩
        | exact ⟨fun h => by simp [Fence.wide] at h, fun c cs _ => let ⟨v, w', r, s⟩ := h c cs; ⟨v, w', hK _ _ r, stepsIn_wide.2 s⟩⟩
  | halt x w' =>
    cases x <;> simp only [Oper.upon, Oper.uponIn] at h ⊢ <;> first | exact h | exact absurd h.1 (by simp)
theorem any_in {md : Region.Mode} {ops : Array Oper} {l n : Nat} (hd : ∀ (i : Nat) (o : Oper), ops[i]? = some o → ∀ c, o.op ≠ .defer c) : ∀ (fuel : Nat) (listed : Array Bool) (a : Act) (w : World), wpAny P md ops (Ends Q) fuel listed a w → wpAnyIn (Fence.wide.inRound l) n P md ops Q fuel listed a w
  | 0, _, _, _, h => ⟨h.1, h.2.2⟩
  | fuel + 1, listed, a, w, h => ⟨fun hr => (h.1 hr).2, fun i hi => by
      have h1 := h.2 i hi
      unfold wpOp at h1
      unfold wpOpIn
      cases ho : ops[i]? with
      | none =>
        rw [ho] at h1
        exact any_in hd fuel _ a w h1
      | some o =>
        rw [ho] at h1
        simp only at h1 ⊢
        split at h1
        · rename_i hw
          rw [if_pos hw]
          exact oper_in (hd i o ho) (fun a w => any_in hd fuel _ a w) (h1.resolve_right (fun h => ends_out h.2))
        · rename_i hw
          rw [if_neg hw]
          exact ⟨fun _ _ => trivial, any_in hd fuel _ _ _ h1⟩⟩
/-- No operation of it is deferred. -/
def noDefer : Op → Bool
  | .defer _ => false
  | _ => true
/-- **The rule.** -/
theorem wpIn_region_lex {id ln n : Nat} {a : Act} {w : World} {l : List Oper} (S : World → Prop) (hm : P.follows .mixedOrders = true) (hB : lexOK l.toArray = true) (hd : l.all (fun o => noDefer o.op) = true) (hS : S w.drew) (h : wpLex P l.toArray S (Ends Q) l a w.drew) :
    (Code.region id l.toArray true).wpIn (Fence.wide.inRound ln) n P Q a w := by
  refine wpIn_region_any hm (any_in (fun i o ho c e => ?_) _ _ _ _ (wpAny_of_held _ _ _ _ (anyH_lex hB hS h)))
  have h1 := List.all_eq_true.1 hd o (by simpa using Array.mem_of_getElem? ho)
  rw [e] at h1
  cases h1
theorem lex_ends {ops : Array Oper} {a : Act} {w : World} (h : Q .normal a w) : wpLex P ops S (Ends Q) [] a w := by
  unfold wpLex
  exact ⟨rfl, h⟩
end
end Go.Proofs.Ytdgaaghkhkklpaa.Mix

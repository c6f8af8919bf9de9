/- Lemmas that the proof stands on, in build order: SmpW Fam SmpF SmpP SmpQ Slc CrcT CrcW CrcR FrmW Same. -/
import Derived.WalkKit
import Derived.Deep.QuietTactic
import Derived.BigQuiet
import Derived.RegionTactic
import Derived.Deep.RegionHeld3
import Derived.Test.YtmpihllcmdgapaaProg
import Derived.KernelRfl
import Derived.WalkMore
import Derived.Lib.Walk
import Derived.Lib.SliceRun
import Derived.Lib.AppendZerosOnto
import Derived.Laws.BytesArg
import Derived.Lib.Bytes
import Derived.Deep.WholeRow
import Derived.Laws.ResultCell
import Derived.Test.YtmpihllcmdgapaaJ13351f8
import Derived.Test.YtmpihllcmdgapaaJ2b065c4
/- Layer 5 (sample): written, as a contract: the bytes of samples that are in sequence. -/
namespace Go.Proofs.Ytmpihllcmdgapaa.Smp
open Go.RowKit Var Fld

attribute [local go_sem] Oper.semAt_some

/-- Between two rounds: the Writer, the loop's record. -/
structure WSt (w0 W : World) (rec : LoopState → Option Code → Loop) (l D g : Nat) (ss : List S) (k : Nat) (v : Value) : Prop where
  wr : Wr W w0.heap.size g v (enc (ss.take k)).length (enc (ss.take k))
  loop : W.heap[l]? = some (.loop (rec .ready none))
  dfr : W.heap[D]? = some (.deferred (some []))
  bel : Below w0.heap.size w0 W

theorem own_base {w : World} {base base' n : Nat} {e : TypeId} {v : Value} {xs : List Value} (h : w.ownsRow base e 1 v n xs) (hb : base' ≤ base) : w.ownsRow base' e 1 v n xs := by
  refine ⟨h.1, ?_⟩
  rcases h.2 with h0 | ⟨g, cap, cur, rfl, h1, rest⟩
  · exact .inl h0
  · exact .inr ⟨g, cap, cur, rfl, Nat.le_trans hb h1, rest⟩

theorem not_mine {w : World} {base n l : Nat} {e : TypeId} {v : Value} {xs : List Value} {o : Obj} (h : w.ownsRow base e 1 v n xs) (hl : w.heap[l]? = some o) (ho : o.isCells = false) : v.ownBlock ≠ some l := by
  intro hv
  rcases h.2 with ⟨rfl, _⟩ | ⟨g, cap, cur, rfl, _, hg, _⟩
  · simp [Value.ownBlock] at hv
  · simp [Value.ownBlock] at hv
    subst hv
    rw [hg] at hl
    cases hl
    cases ho

theorem WSt.only {w0 W W' : World} {rec : LoopState → Option Code → Loop} {l D g k : Nat} {ss : List S} {v : Value} {M : Nat → Prop} (h : WSt w0 W rec l D g ss k v) (ho : Only M W W') (h1 : ¬ M g) (h2 : ∀ i, v.ownBlock = some i → ¬ M i) (h3 : ¬ M l) (h4 : ¬ M D) (h5 : ∀ i, i < w0.heap.size → ¬ M i) : WSt w0 W' rec l D g ss k v :=
  ⟨⟨ho.at h.wr.blk h1, ho.own h.wr.own h2, h.wr.ne, h.wr.low⟩, ho.at h.loop h3, ho.at h.dfr h4, h.bel.trans (ho.below h.bel.size (fun i hi => by
    apply Decidable.byContradiction
    intro hn
    exact h5 i (by omega) hi))⟩

set_option maxHeartbeats 1600000 in
set_option maxRecDepth 100000 in
theorem written_any (A : Option Addr) (n c : Nat) (ss : List S) (w : World) (h : SRow w w.heap.size A n ss) (hmay : ∀ s ∈ ss, may s = true) (hn : n ≤ 2048) :
    Calls Try.prog 41 #[.slice A n c] w fun e w' => ∃ v, e = .returned v ∧ w'.ownsRow w.heap.size 5 1 v (enc ss).length ((enc ss).map (Value.int .u8)) ∧ Below w.heap.size w w' := by
  have H := Lib.hid h
  have HMAY := Lib.hid hmay
  have HL := Lib.hid h.len
  have HE := Lib.hid (enc_len hmay)
  have hw0 : Wr (w.alloc (.cells #[.slice none 0 0] 73)) w.heap.size w.heap.size (.slice none 0 0) 0 [] :=
    ⟨heap_alloc_new w _, World.ownsRow_nil _ _ _ _, by simp [Value.ownBlock], Nat.le_refl _⟩
  have HW0 := Lib.hid hw0
  clear h hmay hw0
  refine (callsIn_wide (n := 9)).1 ?_
  refine callsIn_of_wp_marks Try.func41 rfl trivial ?_
  simp only [Try.ntmps41, List.size_toArray, List.length_cons, List.length_nil, Nat.reduceAdd, Nat.reduceSub, Array.replicate_succ, Array.replicate_zero, List.push_toArray, List.append_toArray, List.nil_append, List.cons_append]
  gi_wp2_with (refine ⟨trivial, ?_⟩; gi_at_call 61; refine (callsIn_wide.2 (steps_any _ _ _ _)).mono ?_; rintro e w' ⟨rfl, rfl⟩)
  have hbx : ((w.alloc (.cells #[.slice none 0 0] 73)).alloc (.cells #[.slice A n c] 22)).cell? ⟨w.heap.size + 1, 0, none⟩ = some (.slice A n c) := by
    have := cell_of_one (heap_alloc_new (w.alloc (.cells #[.slice none 0 0] 73)) (.cells #[.slice A n c] 22))
    rwa [World.size_alloc] at this
  have hb2 : Below w.heap.size w ((w.alloc (.cells #[.slice none 0 0] 73)).alloc (.cells #[.slice A n c] 22)) := ((Below.refl _ w).alloc (Nat.le_refl _) _).alloc (by simp) _
  have hw2 := HW0.out.below ((Below.refl _ _).alloc (Nat.le_refl _) (.cells #[.slice A n c] 22))
  have hs2 : ((w.alloc (.cells #[.slice none 0 0] 73)).alloc (.cells #[.slice A n c] 22)).heap.size = w.heap.size + 2 := by simp
  generalize ((w.alloc (.cells #[.slice none 0 0] 73)).alloc (.cells #[.slice A n c] 22)) = w2 at hbx hb2 hw2 hs2 ⊢
  refine range_on (gf := 74) (lb := #[.pointer (some ⟨w.heap.size + 1, 0, none⟩)]) rfl (enters_of Try.func74 (by kernel_rfl) rfl) ?_
  intro fn rec W1 hrec hl hd hs1 hb1
  rw [hs2] at hl hd hs1 hb1 ⊢
  have hcell1 : W1.cell? ⟨w.heap.size + 1, 0, none⟩ = some (.slice A n c) := (hb1.cell (p := ⟨w.heap.size + 1, 0, none⟩) (by show w.heap.size + 1 < w.heap.size + 2; omega)).trans hbx
  have hst : WSt w W1 rec (w.heap.size + 2 + 1) (w.heap.size + 2) w.heap.size ss 0 (.slice none 0 0) :=
    ⟨by simpa [enc, encF] using hw2.below (by rw [hs2]; exact hb1), hl, hd, hb2.trans (hb1.mono (by omega))⟩
  refine (steps_run 7 (w.heap.size + 2 + 1) (w.heap.size + 1) w.heap.size A n c ss (fun k W => ∃ v, W1.heap.size ≤ W.heap.size ∧ v.ownBlock ≠ some W1.heap.size ∧ WSt w W rec (w.heap.size + 2 + 1) (w.heap.size + 2) w.heap.size ss k v) W1 (by omega) HMAY.out hcell1
    (fun k W ⟨v, _, _, hv⟩ => H.out.below hv.bel) (fun k W W' ⟨v, hsz, hne, hv⟩ hO => ⟨v, Nat.le_trans hsz hO.size, hne, hv.only hO (by omega) (fun i hi e => hne (by rw [hi, e])) (by omega) (by omega) (fun i hi => by omega)⟩) (fun k W ⟨v, hsz, _⟩ => hsz) ?round ⟨_, Nat.le_refl _, by simp [Value.ownBlock], hst⟩).mono ?done
  case done =>
    rintro e W2 ⟨hv, v, hsz, hne, hst2⟩
    refine ⟨hv, .inl ⟨hst2.loop, ?_⟩⟩
    have hlen : (enc ss).length ≤ 61440 := by have := HE.out n; rw [List.take_of_length_le (by rw [HL.out]; exact Nat.le_refl _)] at this; omega
    have hO3 := Only.putObj W2 (w.heap.size + 2 + 1) (.loop (rec .exhausted none))
    have hne3 := not_mine hst2.wr.own hst2.loop rfl
    have hw3 : Wr (W2.putObj (w.heap.size + 2 + 1) (.loop (rec .exhausted none))) w.heap.size w.heap.size v (enc ss).length (enc ss) := by
      have h1 := hst2.wr
      rw [List.take_of_length_le (by rw [HL.out]; exact Nat.le_refl _)] at h1
      exact ⟨hO3.at h1.blk (by omega), hO3.own h1.own (fun i hi e => hne3 (by rw [hi, e])), h1.ne, h1.low⟩
    have hd3 : (W2.putObj (w.heap.size + 2 + 1) (.loop (rec .exhausted none))).heap[w.heap.size + 2]? = some (.deferred (some [])) := hO3.at hst2.dfr (by omega)
    have hb3 : Below w.heap.size w (W2.putObj (w.heap.size + 2 + 1) (.loop (rec .exhausted none))) := hst2.bel.trans (hO3.below hst2.bel.size (fun i hi => by omega))
    have HW3 := Lib.hid hw3
    have HD3 := Lib.hid hd3
    have HB3 := Lib.hid hb3
    clear hO3 hne3 hw3 hd3 hb3 hst2 hst hw2 hb2 hb1 hl hd hcell1 hbx hrec hne
    generalize W2.putObj (w.heap.size + 2 + 1) (.loop (rec .exhausted none)) = W3 at HW3 HD3 HB3 ⊢
    gi_wp2_with (refine ⟨trivial, ?_⟩; gi_at_call 46; refine (callsIn_wide.2 (out_any w.heap.size w.heap.size _ v _ _ HW3.out (by omega))).mono ?_; rintro e4 W4 ⟨v4, rfl, hown4, hb4⟩)
    have hd4 : W4.heap[w.heap.size + 2]? = some (.deferred (some [])) := (hb4.block _ (Array.getElem?_eq_some_iff.1 HD3.out).1).trans HD3.out
    refine ⟨by simp, .inl ⟨_, _, rfl, run_takeDeferred hd4, ?_⟩⟩
    refine ⟨_, results_tmp rfl _ _ _, v4, rfl, ?_, ?_⟩
    · have hO5 := Only.putObj W4 (w.heap.size + 2) (.deferred none)
      exact own_base (hO5.own hown4 (fun i hi e => not_mine hown4 hd4 rfl (by rw [hi, e]))) HB3.out.size
    · exact (HB3.out.trans (hb4.mono HB3.out.size)).trans ((Only.putObj W4 (w.heap.size + 2) (.deferred none)).below (Nat.le_trans HB3.out.size hb4.size) (fun i hi => by omega))
  case round =>
    rintro k s W o hs ⟨v, hsz, hne, hst2⟩ hlt
    have hst3 : WSt w (W.alloc o) rec (w.heap.size + 2 + 1) (w.heap.size + 2) w.heap.size ss k v := hst2.only (Only.alloc (M := fun _ => False) W o) (fun h => h) (fun _ _ h => h) (fun h => h) (fun h => h) (fun _ _ h => h)
    have hms := HMAY.out s (List.mem_of_getElem? hs)
    have hla := las_may (l := ss.take k) (fun u hu => HMAY.out u (List.mem_of_mem_take hu))
    obtain ⟨⟨n1, n2⟩, ⟨n3, n4⟩, n5, n6⟩ := near hla hms
    have hkn : k < n := by have := (List.getElem?_eq_some_iff.1 hs).1; have := HL.out; omega
    have hek := HE.out k
    have henc : enc (ss.take (k + 1)) = enc (ss.take k) ++ num (s.t - (las (ss.take k)).t) ++ sgn (s.x - (las (ss.take k)).x) ++ sgn (s.y - (las (ss.take k)).y) := by
      rw [enc_next hs]; unfold one; simp only [List.append_assoc]
    have HENC := Lib.hid henc
    have l1 := num_len (k := s.t - (las (ss.take k)).t) (by omega)
    have l2 := sgn_len (k := s.x - (las (ss.take k)).x) (by omega) (by omega)
    refine round_on hrec hst3.loop rfl ?_
    unfold stepV
    obtain ⟨dt, hdt⟩ : ∃ dt, s.t - (las (ss.take k)).t = dt := ⟨_, rfl⟩
    obtain ⟨dx, hdx⟩ : ∃ dx, s.x - (las (ss.take k)).x = dx := ⟨_, rfl⟩
    obtain ⟨dy, hdy⟩ : ∃ dy, s.y - (las (ss.take k)).y = dy := ⟨_, rfl⟩
    rw [hdt, hdx, hdy] at HENC
    rw [hdt] at n1 n2 l1
    rw [hdx] at n3 n4 l2
    rw [hdy] at n5 n6
    rw [hdt, hdx, hdy]
    clear henc hdt hdx hdy hms hla hs
    have HS3 := Lib.hid hst3
    have HV2 := Lib.hid hst2.wr.own
    clear hst3 hst2 hst hw2 hb2 hb1 hl hd hcell1 hbx hrec
    have hszo : (W.alloc o).heap.size = W.heap.size + 1 := by simp
    have HWo : Hid (∀ M, Only M (W.alloc o) (W.alloc o)) := fun M => Only.refl M _
    generalize W.alloc o = Wo at HS3 hszo HWo ⊢
    gi_wp2
    have hA := Below.refl Wo.heap.size Wo |>.alloc (Nat.le_refl _) (.cells #[.int .i64 dt, .int .i64 dx, .int .i64 dy] 91)
    have hSA : WSt w (Wo.alloc (.cells #[.int .i64 dt, .int .i64 dx, .int .i64 dy] 91)) rec (w.heap.size + 2 + 1) (w.heap.size + 2) w.heap.size ss k v := HS3.out.only (Only.alloc (M := fun _ => False) Wo _) (fun h => h) (fun _ _ h => h) (fun h => h) (fun h => h) (fun _ _ h => h)
    refine ⟨hSA.loop, ?_⟩
    have hnl := not_mine hSA.wr.own hSA.loop rfl
    have hP := Only.putObj (Wo.alloc (.cells #[.int .i64 dt, .int .i64 dx, .int .i64 dy] 91)) (w.heap.size + 2 + 1) (.loop (rec .busy none))
    have hbusy : ((Wo.alloc (.cells #[.int .i64 dt, .int .i64 dx, .int .i64 dy] 91)).putObj (w.heap.size + 2 + 1) (.loop (rec .busy none))).heap[w.heap.size + 2 + 1]? = some (.loop (rec .busy none)) := World.putObj_heap_same (by rw [World.size_alloc]; omega)
    have hstp : ((Wo.alloc (.cells #[.int .i64 dt, .int .i64 dx, .int .i64 dy] 91)).putObj (w.heap.size + 2 + 1) (.loop (rec .busy none))).heap[W.heap.size + 1]? = some (.cells #[.int .i64 dt, .int .i64 dx, .int .i64 dy] 91 (0, 0)) := by
      have := heap_alloc_new Wo (.cells #[.int .i64 dt, .int .i64 dx, .int .i64 dy] 91)
      rw [hszo] at this
      exact hP.at this (by omega)
    have hwb : Wr ((Wo.alloc (.cells #[.int .i64 dt, .int .i64 dx, .int .i64 dy] 91)).putObj (w.heap.size + 2 + 1) (.loop (rec .busy none))) w.heap.size w.heap.size v (enc (ss.take k)).length (enc (ss.take k)) :=
      ⟨hP.at hSA.wr.blk (by omega), hP.own hSA.wr.own (fun i hi e => hnl (by rw [hi, e])), hSA.wr.ne, hSA.wr.low⟩
    have hdb := hP.at hSA.dfr (by omega)
    have hbb : Below w.heap.size w ((Wo.alloc (.cells #[.int .i64 dt, .int .i64 dx, .int .i64 dy] 91)).putObj (w.heap.size + 2 + 1) (.loop (rec .busy none))) := hSA.bel.trans (hP.below hSA.bel.size (fun i hi => by omega))
    have hOb : Only (fun i => i = w.heap.size ∨ v.ownBlock = some i ∨ i = w.heap.size + 2 + 1) Wo ((Wo.alloc (.cells #[.int .i64 dt, .int .i64 dx, .int .i64 dy] 91)).putObj (w.heap.size + 2 + 1) (.loop (rec .busy none))) := (Only.alloc Wo _).trans hP (fun i _ h => .inr (.inr h))
    have hvlt : ∀ i, v.ownBlock = some i → i < W.heap.size := fun i hi => by
      rcases HV2.out.2 with ⟨rfl, _⟩ | ⟨gg, cap, cur, rfl, _, hg, _⟩
      · simp [Value.ownBlock] at hi
      · simp [Value.ownBlock] at hi
        subst hi
        exact (Array.getElem?_eq_some_iff.1 hg).1
    have HBUSY := Lib.hid hbusy
    have HSTP := Lib.hid hstp
    have HWB := Lib.hid hwb
    have HDB := Lib.hid hdb
    have HBB := Lib.hid hbb
    have HOB := Lib.hid hOb
    have HNL := Lib.hid hnl
    have HVLT := Lib.hid hvlt
    clear hbusy hstp hwb hdb hbb hOb hP hSA hA hnl hvlt HWo HW0
    generalize ((Wo.alloc (.cells #[.int .i64 dt, .int .i64 dx, .int .i64 dy] 91)).putObj (w.heap.size + 2 + 1) (.loop (rec .busy none))) = Wb at HBUSY HSTP HWB HDB HBB HOB ⊢
    have c0 : Wb.cell? ⟨W.heap.size + 1, 0, none⟩ = some (.int .i64 dt) := cell_of_blk HSTP.out rfl
    have hg0 : w.heap.size < W.heap.size + 1 := by omega
    have hvne : v.ownBlock ≠ some (W.heap.size + 1) := fun h => by have := HVLT.out _ h; omega
    have HVNE := Lib.hid hvne
    clear hvne
    gi_wp2_with fail
    refine ⟨trivial, ?_⟩
    refine (CallsIn.inRound _ (callsIn_wide.2 (number_any w.heap.size w.heap.size _ v _ dt _ HWB.out (by omega) (by omega)))).mono ?_
    rintro e5 W5 ⟨rfl, v5, hw5, hm5⟩
    have HW5 := Lib.hid hw5
    have HM5 := Lib.hid hm5
    have HT5 := Lib.hid (hm5.only.at HSTP.out (fun h => h.elim (fun h => by omega) HVNE.out))
    have c1 : W5.cell? ⟨W.heap.size + 1, 1, none⟩ = some (.int .i64 dx) := cell_of_blk HT5.out rfl
    have hbl : W.heap.size + 1 < Wb.heap.size := (Array.getElem?_eq_some_iff.1 HSTP.out).1
    have hvne5 : v5.ownBlock ≠ some (W.heap.size + 1) := fun h => (hm5.new _ h).elim HVNE.out (fun h => by omega)
    have HVNE5 := Lib.hid hvne5
    clear hw5 hm5 hvne5 c0
    gi_wp2_with fail
    refine ⟨trivial, ?_⟩
    refine (CallsIn.inRound _ (callsIn_wide.2 (signed_any w.heap.size w.heap.size _ v5 _ dx _ HW5.out (by omega) (by omega) (by omega)))).mono ?_
    rintro e6 W6 ⟨rfl, v6, hw6, hm6⟩
    have HW6 := Lib.hid hw6
    have HT6 := Lib.hid (hm6.only.at HT5.out (fun h => h.elim (fun h => by omega) HVNE5.out))
    have HM6 := Lib.hid (HM5.out.trans hm6)
    have c2 : W6.cell? ⟨W.heap.size + 1, 2, none⟩ = some (.int .i64 dy) := cell_of_blk HT6.out rfl
    clear hw6 hm6 c1
    gi_wp2_with fail
    refine ⟨trivial, ?_⟩
    refine (CallsIn.inRound _ (callsIn_wide.2 (signed_any w.heap.size w.heap.size _ v6 _ dy _ HW6.out (by omega) (by omega) (by omega)))).mono ?_
    rintro e7 W7 ⟨rfl, v7, hw7, hm7⟩
    have HW7 := Lib.hid hw7
    have HM7 := Lib.hid (HM6.out.trans hm7)
    clear hw7 hm7 c2
    gi_wp2
    have hO7 := HM7.out.only
    have hb7 := hO7.at HBUSY.out (fun h => h.elim (fun h => by omega) HNL.out)
    have hd7 := hO7.at HDB.out (fun h => h.elim (fun h => by omega) (fun h => not_mine HWB.out.own HDB.out rfl h))
    have hnl7 := not_mine HW7.out.own hb7 rfl
    have hP7 := Only.putObj W7 (w.heap.size + 2 + 1) (.loop (rec .ready none))
    refine ⟨hb7, rfl, ⟨v7, ?_, ?_, ⟨⟨hP7.at HW7.out.blk (by omega), ?_, HW7.out.ne, HW7.out.low⟩, World.putObj_heap_same (Array.getElem?_eq_some_iff.1 hb7).1, hP7.at hd7 (by omega), ?_⟩⟩, _, (HOB.out.trans hO7 (fun i _ h => h.elim .inl (fun h => .inr (.inl h)))).trans hP7 (fun i _ h => .inr (.inr h)), ?_, ?_⟩
    · have := HOB.out.size
      have := hO7.size
      have := hP7.size
      omega
    · intro h
      exact (HM7.out.new _ h).elim hne (fun h => by omega)
    · have := HW7.out.own
      have e1 : (enc (ss.take k)).length + (num dt).length + (sgn dx).length + (sgn dy).length = (enc (ss.take (k + 1))).length := by rw [HENC.out]; simp only [List.length_append]
      rw [e1, ← HENC.out] at this
      exact hP7.own this (fun i hi e => hnl7 (by rw [hi, e]))
    · refine HBB.out.trans ((hO7.below HBB.out.size ?_).trans (hP7.below (Nat.le_trans HBB.out.size hO7.size) (fun i hi => by omega)))
      rintro i (rfl | hi)
      · exact Nat.le_refl _
      · exact (HWB.out.own.lt i hi).1
    · rintro (h | h | h)
      · omega
      · have := HVLT.out _ h; omega
      · omega
    · rintro (h | h | h)
      · omega
      · exact hne h
      · omega
end Go.Proofs.Ytmpihllcmdgapaa.Smp

/- A region that draws its order and whose calls make new memory, over any program: one walk in the text's order, in a family of worlds that keep all that lay. -/
namespace Go.Proofs.Ytmpihllcmdgapaa
open Go.RowKit

theorem wp_region_fam {P : Program} {ι : Type} (W : ι → World) (i0 : ι) {id : Nat} {Q : Exit → Act → World → Prop} {a : Act} {w : World} {l : List Oper} (hm : P.follows .mixedOrders = true) (hB : Region.lexB .any l.toArray = true) (h0 : w.drew = W i0)
    (h : wpQuiet P l.toArray (fun w' => ∃ i, w' = W i) (fun a' => ∀ w', (∃ i, w' = W i) → Q .normal a' w') l a) : (Code.region id l.toArray true).wp P Q a w :=
  wp_region_quiet (C := fun w' => ∃ i, w' = W i) hm hB ⟨i0, h0⟩ (by simpa using h)

/-- All worlds in which what lay in w lies as it lay. -/
theorem fam_of (w : World) : ∃ (ι : Type) (_ : Nonempty ι) (W : ι → World) (i0 : ι), w.drew = W i0 ∧ (∀ i, Below w.heap.size w (W i)) ∧ (∀ i w', Below (W i).heap.size (W i) w' → ∃ j, w' = W j) :=
  ⟨{ x : World // Below w.heap.size w x }, ⟨⟨w, Below.refl _ _⟩⟩, fun i => i.1, ⟨w.drew, (Below.refl _ _).drew⟩, rfl, fun i => i.2, fun i w' h => ⟨⟨w', i.2.trans (h.mono i.2.size)⟩, rfl⟩⟩

/-- A callee in such a family: it hands back one value, and leaves what lay. -/
theorem fam_call {P : Program} {ι : Type} {W : ι → World} {f : FuncId} {args : Array Value} {v : Value} {i : ι} (hW : ∀ i w', Below (W i).heap.size (W i) w' → ∃ j, w' = W j)
    (h : Calls P f args (W i) fun e w' => e = .returned v ∧ Below (W i).heap.size (W i) w') : Calls P f args (W i) fun e w' => e = .returned v ∧ ∃ j, w' = W j :=
  h.mono fun _ _ ⟨a, b⟩ => ⟨a, hW _ _ b⟩
end Go.Proofs.Ytmpihllcmdgapaa

/- Layer 5 (sample): follows, as a contract. -/
namespace Go.Proofs.Ytmpihllcmdgapaa.Smp
open Go.RowKit Var Fld

/-- May, told by what it leaves. -/
theorem may_on (s : S) (w : World) : Calls Try.prog 60 #[.agg #[.int .i64 s.t, .int .i64 s.x, .int .i64 s.y]] w fun e w' => e = .returned (.bool (may s)) ∧ Below w.heap.size w w' := by
  refine (may_any s w).mono ?_
  rintro e w' ⟨rfl, rfl⟩
  exact ⟨rfl, (Below.refl _ _).alloc (Nat.le_refl _) _⟩

theorem refmay_on (s : S) (w : World) : Calls Try.prog 37 #[.agg #[.int .i64 s.t, .int .i64 s.x, .int .i64 s.y]] w fun e w' => e = .returned (.bool (may s)) ∧ Below w.heap.size w w' := by
  refine (refmay_any s w).mono ?_
  rintro e w' ⟨rfl, rfl⟩
  exact ⟨rfl, (Below.refl _ _).alloc (Nat.le_refl _) _⟩

set_option maxHeartbeats 1600000 in
set_option maxRecDepth 100000 in
theorem follows_any (A : Option Addr) (n c : Nat) (ss : List S) (s : S) (w : World) (h : SRow w w.heap.size A n ss) (hn : n ≤ 4398046511104) :
    Calls Try.prog 40 #[.slice A n c, s.val] w fun e w' => e = .returned (.bool (okp ss s)) ∧ Below w.heap.size w w' := by
  have H := Lib.hid h
  have eS : s.val = .agg #[.int .i64 s.t, .int .i64 s.x, .int .i64 s.y] := rfl
  have eC : s.cells = #[.int .i64 s.t, .int .i64 s.x, .int .i64 s.y] := rfl
  have HM := Lib.hid (fun w => may_on s w)
  obtain ⟨b0, b1, b2⟩ := boxed w s 38
  rw [eC] at b0 b1 b2
  have HB := Lib.hid ((Below.refl w.heap.size w).alloc (Nat.le_refl _) (.cells #[.int .i64 s.t, .int .i64 s.x, .int .i64 s.y] 38))
  have HS : Hid (w.heap.size < (w.alloc (.cells #[.int .i64 s.t, .int .i64 s.x, .int .i64 s.y] 38)).heap.size) := by unfold Hid; simp
  obtain ⟨ι, hne, W, i0, h0, hW, hC⟩ := fam_of (w.alloc (.cells #[.int .i64 s.t, .int .i64 s.x, .int .i64 s.y] 38))
  have d0 : ∀ i, (W i).cell? ⟨w.heap.size, 0, none⟩ = some (.int .i64 s.t) := fun i => ((hW i).cell (p := ⟨w.heap.size, 0, none⟩) HS.out).trans b0
  have d1 : ∀ i, (W i).cell? ⟨w.heap.size, 1, none⟩ = some (.int .i64 s.x) := fun i => ((hW i).cell (p := ⟨w.heap.size, 1, none⟩) HS.out).trans b1
  have d2 : ∀ i, (W i).cell? ⟨w.heap.size, 2, none⟩ = some (.int .i64 s.y) := fun i => ((hW i).cell (p := ⟨w.heap.size, 2, none⟩) HS.out).trans b2
  have HWW : ∀ i, Hid (Below w.heap.size w (W i)) := fun i => HB.out.trans ((hW i).mono HB.out.size)
  have H0 := Lib.hid h0
  have HC := Lib.hid hC
  clear h eC b0 b1 b2 h0 hW hC
  rw [eS]
  clear eS
  cases hm : may s with
  | false =>
    have e0 : okp ss s = false := by unfold okp; rw [hm]; rfl
    rw [e0]
    rw [hm] at HM
    go_enter Try.func40, Try.ntmps40
    go_wp2_with fail
    refine wp_region_fam W i0 (by kernel_rfl) (by kernel_rfl) H0.out ?_
    repeat (go_big_quiet_step ((go_at_call 60; exact fam_call HC.out (HM.out _))))
    refine wpQuiet_nil ?_
    rintro _ ⟨i, rfl⟩
    go_wp2
    go_ret
    exact ⟨rfl, (HWW i).out⟩
  | true =>
    rw [hm] at HM
    rcases Nat.eq_zero_or_pos n with hn0 | hn0
    · subst hn0
      have e0 : okp ss s = true := by unfold okp; rw [hm, H.out.len]; simp
      rw [e0]
      go_enter Try.func40, Try.ntmps40
      go_wp2_with fail
      refine wp_region_fam W i0 (by kernel_rfl) (by kernel_rfl) H0.out ?_
      repeat (go_big_quiet_step ((go_at_call 60; exact fam_call HC.out (HM.out _))))
      refine wpQuiet_nil ?_
      rintro _ ⟨i, rfl⟩
      go_wp2
      go_ret
      exact ⟨rfl, (HWW i).out⟩
    · obtain ⟨b, o, u, rfl, hbl, hu, -, hcell, -, -⟩ := H.out.at (show n - 1 < n by omega)
      have hl : las ss = u := by
        have := las_take hu
        rwa [show n - 1 + 1 = n by omega, List.take_of_length_le (by rw [H.out.len]; exact Nat.le_refl _)] at this
      have e0 : okp ss s = decide (u.t < s.t) := by
        unfold okp
        rw [hm, hl, H.out.len, decide_eq_false (show ¬ n = 0 by omega)]
        simp
      rw [e0]
      have hne0 : ((n : Int) == 0) = false := beq_eq_false_iff_ne.2 (by omega)
      have hw : IntKind.i64.wrap ((n : Int) - 1) = (n : Int) - 1 := IntWalk.i64_in _ ⟨by omega, by omega⟩
      have hc : ∀ i, (W i).cell? ⟨b, o + (n - 1) * 3, none⟩ = some (.int .i64 u.t) := fun i => ((HWW i).out.cell (p := ⟨b, o + (n - 1) * 3, none⟩) hbl).trans hcell
      have i1 : (0 : Int) ≤ (n : Int) - 1 := by omega
      have i2 : (n : Int) - 1 < n := by omega
      clear hcell hu hl
      go_enter Try.func40, Try.ntmps40
      go_wp2_with fail
      refine wp_region_fam W i0 (by kernel_rfl) (by kernel_rfl) H0.out ?_
      repeat (go_big_quiet_step ((go_at_call 60; exact fam_call HC.out (HM.out _))))
      refine wpQuiet_nil ?_
      rintro _ ⟨i, rfl⟩
      go_wp2
      go_ret
      exact ⟨rfl, (HWW i).out⟩
end Go.Proofs.Ytmpihllcmdgapaa.Smp

/- Layer 5 (sample): Put, as a contract. -/
namespace Go.Proofs.Ytmpihllcmdgapaa.Smp
open Go.RowKit Var Fld

theorem good_take {l : List S} {k : Nat} {s : S} (h : good (l.take k) = true) (hk : l[k]? = some s) (hs : okp (l.take k) s = true) : good (l.take (k + 1)) = true := by
  rw [List.take_add_one, hk]
  exact good_snoc h hs

/-- What Put leaves. -/
def PutTo (ss : List S) (w : World) (e : Ending) (w' : World) : Prop :=
  ∃ v, e = .returned (.tuple #[v, .int .i64 (putE ss : Int)]) ∧ w'.ownsRow w.heap.size 5 1 v (putB ss).length ((putB ss).map (Value.int .u8)) ∧ Below w.heap.size w w'

theorem putTo_no {ss : List S} {w w' : World} {k : Nat} (he : putE ss = k) (hk : k ≠ 0) (hb : Below w.heap.size w w') : PutTo ss w (.returned (.tuple #[.slice none 0 0, .int .i64 (k : Int)])) w' := by
  subst he
  have : putB ss = [] := by unfold putB; rw [if_neg hk]
  refine ⟨_, rfl, ?_, hb⟩
  rw [this]
  exact World.ownsRow_nil _ _ _ _

set_option maxHeartbeats 1600000 in
set_option maxRecDepth 100000 in
theorem put_any (A : Option Addr) (n c : Nat) (ss : List S) (w : World) (h : SRow w w.heap.size A n ss) (hnc : n ≤ c) (hn : n ≤ 4398046511104) :
    Calls Try.prog 19 #[.slice A n c] w (PutTo ss w) := by
  have H := Lib.hid h
  have HN := Lib.hid hn
  have HL := Lib.hid h.len
  clear h
  go_enter Try.func19, Try.ntmps19
  by_cases hbig : 2048 < n
  · have he : putE ss = 3 := by unfold putE; rw [HL.out, if_pos hbig]
    go_wp2
    go_ret2
    exact putTo_no (k := 3) he (by omega) (Below.refl _ _)
  · go_wp2
    go_loopw [11] (fun i wr => ∃ k : Nat, k ≤ n ∧ i = .int .i64 (k : Int) ∧ Hid (good (ss.take k) = true) ∧ Hid (Below w.heap.size w wr)) (fun i _ => n - (intOf i).toNat)
    case atStart => exact ⟨0, Nat.zero_le _, rfl, rfl, Below.refl _ _⟩
    case round =>
      obtain ⟨k, hk, rfl, HG, HB⟩ := hrel
      by_cases hlt : k < n
      · obtain ⟨b, o, s, rfl, hbl, hs, hok, c0, c1, c2⟩ := (H.out.below HB.out).at hlt
        have HS := Lib.hid hs
        have hkw : IntKind.i64.wrap ((k : Int) + 1) = (k : Int) + 1 := IntWalk.i64_in _ ⟨by omega, by omega⟩
        have hkc : (k : Int) ≤ c := by omega
        obtain ⟨b0, b1, b2⟩ := boxed wr s 38
        have eC : s.cells = #[.int .i64 s.t, .int .i64 s.x, .int .i64 s.y] := rfl
        rw [eC] at b0 b1 b2
        have HB1 := Lib.hid (HB.out.alloc HB.out.size (.cells #[.int .i64 s.t, .int .i64 s.x, .int .i64 s.y] 38))
        have hsz1 : wr.heap.size < (wr.alloc (.cells #[.int .i64 s.t, .int .i64 s.x, .int .i64 s.y] 38)).heap.size := by simp
        have HSZ1 := Lib.hid hsz1
        clear hs eC hsz1
        go_wp2_with fail
        obtain ⟨fb, hfb⟩ : ∃ fb, wr.heap.size = fb := ⟨_, rfl⟩
        rw [hfb] at b0 b1 b2 HSZ1
        generalize wr.alloc (.cells #[.int .i64 s.t, .int .i64 s.x, .int .i64 s.y] 38) = wA at b0 b1 b2 HB1 HSZ1 ⊢
        rw [hfb]
        obtain ⟨ι, hne, W, i0, h0, hW, hC⟩ := fam_of wA
        have d0 : ∀ i, (W i).cell? ⟨fb, 0, none⟩ = some (.int .i64 s.t) := fun i => ((hW i).cell (p := ⟨fb, 0, none⟩) HSZ1.out).trans b0
        have d1 : ∀ i, (W i).cell? ⟨fb, 1, none⟩ = some (.int .i64 s.x) := fun i => ((hW i).cell (p := ⟨fb, 1, none⟩) HSZ1.out).trans b1
        have d2 : ∀ i, (W i).cell? ⟨fb, 2, none⟩ = some (.int .i64 s.y) := fun i => ((hW i).cell (p := ⟨fb, 2, none⟩) HSZ1.out).trans b2
        have HWW : ∀ i, Hid (Below w.heap.size w (W i)) := fun i => HB1.out.trans ((hW i).mono HB1.out.size)
        have HF : Hid (∀ i, Calls Try.prog 40 #[.slice (some ⟨b, o, none⟩) k c, .agg #[.int .i64 s.t, .int .i64 s.x, .int .i64 s.y]] (W i) fun e w' => e = .returned (.bool (okp (ss.take k) s)) ∧ Below (W i).heap.size (W i) w') :=
          fun i => follows_any (some ⟨b, o, none⟩) k c (ss.take k) s (W i) (((H.out.below (HWW i).out).take hk).more (HWW i).out.size) (by omega)
        have H0 := Lib.hid h0
        have HC := Lib.hid hC
        clear b0 b1 b2 h0 hW hC
        cases hokp : okp (ss.take k) s with
        | true =>
          rw [hokp] at HF
          refine wp_region_fam W i0 (by kernel_rfl) (by kernel_rfl) H0.out ?_
          repeat (go_big_quiet_step ((go_at_call 40; exact fam_call HC.out (HF.out _))))
          refine wpQuiet_nil ?_
          rintro _ ⟨i, rfl⟩
          go_wp2
          go_roundw
          case rel => exact ⟨k + 1, by omega, by go_num, good_take HG.out HS.out hokp, (HWW i).out⟩
          case measure => simp [intOf]; omega
        | false =>
          rw [hokp] at HF
          refine wp_region_fam W i0 (by kernel_rfl) (by kernel_rfl) H0.out ?_
          repeat (go_big_quiet_step ((go_at_call 40; exact fam_call HC.out (HF.out _))))
          refine wpQuiet_nil ?_
          rintro _ ⟨i, rfl⟩
          have he : putE ss = 2 := by unfold putE; rw [HL.out, if_neg hbig, good_no HS.out hokp]; simp
          go_wp2
          go_ret2
          exact putTo_no (k := 2) he (by omega) (HWW i).out
      · have hkn : k = n := by omega
        have hg : good ss = true := by have := HG.out; rwa [List.take_of_length_le (by rw [HL.out]; omega)] at this
        have HG1 := Lib.hid hg
        go_wp2_with fail
        refine (written_any A n c ss wr ((H.out.below HB.out).more HB.out.size) (fun s hs => good_may HG1.out hs) (by omega)).mono ?_
        rintro e w1 ⟨v, rfl, hown, hb1⟩
        have HO := Lib.hid hown
        have HB1 := Lib.hid hb1
        clear hown hb1
        go_wp2
        go_ret2
        have he : putE ss = 0 := by unfold putE; rw [HL.out, if_neg hbig, if_pos HG1.out]
        refine ⟨v, by rw [he]; rfl, ?_, HB.out.trans (HB1.out.mono HB.out.size)⟩
        rw [putB_ok he]
        exact own_base HO.out HB.out.size
end Go.Proofs.Ytmpihllcmdgapaa.Smp

/- Layer 5 (sample): the reference's Put, as a contract. -/
namespace Go.Proofs.Ytmpihllcmdgapaa.Smp
open Go.RowKit Var Fld

/-- 'append(out, ys...)' as a step of a region that draws: out is nil or one's own, ys reads as a row that is not nil; told with the block in which the row lies behind it. -/
theorem step_cat {P : Program} {ops : Array Oper} {o : Oper} {a : Act} {K : Act → World → Prop} {Q : Exit → Act → World → Prop} {E : Prop} {w : World} (hgd : o.guard = none) (s x : Operand) (t : TypeId)
    (ho : o.op = .call { callee := .builtin .append, args := #[s, x], argTypes := #[t, t] })
    (base : Nat) (e : TypeId) (i : TypeInfo) (k : IntKind) (bytes : Nat) (ht : P.underlying t = some (.slice e)) (hi : P.info? e = some i) (hz : i.zero = some (.int k 0)) (hsize : i.size = 1) (hby : i.bytes = bytes)
    (v : Value) (n : Nat) (xs : List Int) (hs : a.eval s = v) (hown : w.ownsRow base e 1 v n (xs.map (Value.int k))) (B : Nat) (ad : Addr) (m c : Nat) (ys : List Int) (hx : a.eval x = .slice (some ad) m c) (hr : Row k w B (some ad) m ys)
    (hn : n + m ≤ 4398046511104) (hb8 : bytes ≤ 8) (hbase : base ≤ w.heap.size)
    (h : ∀ v' w', w'.ownsRow base e 1 v' (n + m) ((xs ++ ys).map (Value.int k)) → w.grownBy w' v.ownBlock → (v'.ownBlock = v.ownBlock ∨ v'.ownBlock = some w.heap.size) → K (a.put o.dst v') w') :
    if Region.wanted o (yielded ops a.tmps) = true then Oper.wp P o a w K Q else E := by
  have hw : Region.wanted o (yielded ops a.tmps) = true := by simp [Region.wanted, hgd]
  rw [if_pos hw]
  have hnews : ∀ j u, (ys.map (Value.int k))[j]? = some u → w.cell? (ad.add j) = some u := by
    intro j u hj
    have hjl : j < ys.length := by
      have := (List.getElem?_eq_some_iff.1 hj).1
      simpa using this
    have hl := hr.1
    obtain ⟨b, o, he, _, hc⟩ := hr.cell_at (show j < m by omega)
    injection he with he
    subst he
    have hadd : (⟨b, o, none⟩ : Addr).add j = ⟨b, o + j, none⟩ := by unfold Addr.add; split <;> simp_all
    rw [hadd, hc]
    simp only [List.getElem?_map, List.getElem?_eq_getElem hjl, Option.map_some, Option.some.injEq] at hj
    subst hj
    simp [List.getD, hjl]
  have h1 : ∀ u ∈ ys.map (Value.int k), u.oneCell' = true := by
    intro u hu
    obtain ⟨y, _, rfl⟩ := List.mem_map.1 hu
    rfl
  have hl : (ys.map (Value.int k)).length = m * 1 := by simp [hr.1]
  have h63 : n + m ≤ maxLen := by unfold maxLen; omega
  have hbb : (n + m) * bytes ≤ 140737488355328 := by have := Nat.mul_le_mul hn hb8; omega
  obtain ⟨v', w', hrun, h2, h3, _⟩ := run_append_own (P := P) w base t o.type e i (.int k 0) 1 bytes ht hi hz hsize hby rfl (by omega) v n _ hown ad m c _ hl hnews h1 h63 hbb hbase
  have h5 := append_lies (P := P) w base t o.type e i (.int k 0) 1 bytes ht hi hz hsize hby v n _ hown ad m c _ hl hnews h1 h63 hbb v' w' hrun
  unfold Oper.wp execOp
  simp only [ho, resolve, invoke, builtin, Sem.run_bind, Sem.run_pure, Result.andThen_ok, List.map_toArray, List.map_cons, List.map_nil, hs, hx, hrun]
  exact h v' w' (by simpa using h2) h3 h5

/-- The reference on its way: the last sample's block, the bytes so far. -/
structure RSt (w0 w : World) (g : Nat) (a : S) (bs : List Int) (v : Value) : Prop where
  own : w.ownsRow w0.heap.size 5 1 v bs.length (bs.map (Value.int .u8))
  las : w.heap[g]? = some (.cells a.cells 38 (0, 0))
  ne : v.ownBlock ≠ some g
  low : w0.heap.size ≤ g
  bel : Below w0.heap.size w0 w

section
variable {w0 w w1 : World} {g : Nat} {a : S} {bs ys : List Int} {v v1 : Value}
theorem RSt.below (h : RSt w0 w g a bs v) (hb : Below w.heap.size w w1) : RSt w0 w1 g a bs v :=
  ⟨own_below h.own hb, (hb.block _ (Array.getElem?_eq_some_iff.1 h.las).1).trans h.las, h.ne, h.low, h.bel.trans (hb.mono h.bel.size)⟩
theorem RSt.drew (h : RSt w0 w g a bs v) : RSt w0 w.drew g a bs v := h.below ((Below.refl _ _).drew)
theorem RSt.set {s : S} (h : RSt w0 w g a bs v) (hq : w1.heap[g]? = some (.cells s.cells 38 (0, 0))) (hO : Only (fun i => i = g) w w1) : RSt w0 w1 g s bs v :=
  ⟨hO.own h.own (fun i hi e => h.ne (by rw [hi, e])), hq, h.ne, h.low, h.bel.trans (hO.below h.bel.size (fun i hi => by rw [hi]; exact h.low))⟩
theorem RSt.app (h : RSt w0 w g a bs v) {m : Nat} (hm : ys.length = m) (ho : w1.ownsRow w0.heap.size 5 1 v1 (bs.length + m) ((bs ++ ys).map (Value.int .u8))) (hg : w.grownBy w1 v.ownBlock) (hl : v1.ownBlock = v.ownBlock ∨ v1.ownBlock = some w.heap.size) : RSt w0 w1 g a (bs ++ ys) v1 := by
  refine ⟨by rw [List.length_append, hm]; exact ho, (hg.block _ (Array.getElem?_eq_some_iff.1 h.las).1 (fun e => h.ne e.symm)).trans h.las, ?_, h.low, h.bel.trans ((Below.refl _ _).grown hg h.bel.size (fun j hj => (h.own.lt j hj).1))⟩
  rcases hl with e | e
  · rw [e]; exact h.ne
  · rw [e]
    intro h2
    injection h2 with h2
    have := (Array.getElem?_eq_some_iff.1 h.las).1
    omega
end

set_option maxHeartbeats 3200000 in
set_option maxRecDepth 100000 in
theorem refput_any (A : Option Addr) (n c : Nat) (ss : List S) (w : World) (h : SRow w w.heap.size A n ss) (hn : n ≤ 4398046511104) :
    Calls Try.prog 23 #[.slice A n c] w (PutTo ss w) := by
  obtain ⟨i0, hi, hz0, hz1, hz2⟩ := info_parts info_u8
  have H := Lib.hid h
  have HN := Lib.hid hn
  have HL := Lib.hid h.len
  clear h
  go_enter Try.func23, Try.ntmps23
  by_cases hbig : 2048 < n
  · have he : putE ss = 3 := by unfold putE; rw [HL.out, if_pos hbig]
    go_wp2
    go_ret2
    exact putTo_no (k := 3) he (by omega) (Below.refl _ _)
  · go_wp2
    go_loopw [4, 6] (fun vo i wr => ∃ k : Nat, k ≤ n ∧ i = .int .i64 (k : Int) ∧ Hid (good (ss.take k) = true) ∧ Hid (RSt w wr w.heap.size (las (ss.take k)) (enc (ss.take k)) vo)) (fun _ i _ => n - (intOf i).toNat)
    case atStart => exact ⟨0, Nat.zero_le _, rfl, rfl, ⟨World.ownsRow_nil _ _ _ _, heap_alloc_new w _, by simp [Value.ownBlock], Nat.le_refl _, (Below.refl _ _).alloc (Nat.le_refl _) _⟩⟩
    case round =>
      obtain ⟨k, hk, rfl, HG, HT⟩ := hrel
      by_cases hlt : k < n
      · obtain ⟨b, o, s, rfl, hbl, hs, hok, c0, c1, c2⟩ := (H.out.below HT.out.bel).at hlt
        have HS := Lib.hid hs
        have hkw : IntKind.i64.wrap ((k : Int) + 1) = (k : Int) + 1 := IntWalk.i64_in _ ⟨by omega, by omega⟩
        have hbl' : b < wr.heap.size := Nat.lt_of_lt_of_le hbl HT.out.bel.size
        have hgl : w.heap.size < wr.heap.size := (Array.getElem?_eq_some_iff.1 HT.out.las).1
        obtain ⟨a, ha⟩ : ∃ a, las (ss.take k) = a := ⟨_, rfl⟩
        have HLA := Lib.hid ha
        have hgla := HT.out.las
        rw [ha] at hgla
        have HGL := Lib.hid hgla
        obtain ⟨⟨p0, p1, p2⟩, -⟩ := three HGL.out
        obtain ⟨ι, hne, W, j0, h0, hW, hC⟩ := fam_of wr
        have d0 : ∀ i, (W i).cell? ⟨b, o + k * 3, none⟩ = some (.int .i64 s.t) := fun i => ((hW i).cell (p := ⟨b, o + k * 3, none⟩) hbl').trans c0
        have d1 : ∀ i, (W i).cell? ⟨b, o + k * 3 + 1, none⟩ = some (.int .i64 s.x) := fun i => ((hW i).cell (p := ⟨b, o + k * 3 + 1, none⟩) hbl').trans c1
        have d2 : ∀ i, (W i).cell? ⟨b, o + k * 3 + 2, none⟩ = some (.int .i64 s.y) := fun i => ((hW i).cell (p := ⟨b, o + k * 3 + 2, none⟩) hbl').trans c2
        have d3 : ∀ i, (W i).cell? ⟨w.heap.size, 0, none⟩ = some (.int .i64 a.t) := fun i => ((hW i).cell (p := ⟨w.heap.size, 0, none⟩) hgl).trans p0
        have HWW : ∀ i, Hid (Below wr.heap.size wr (W i)) := fun i => hW i
        have HF : Hid (∀ i, Calls Try.prog 37 #[.agg #[.int .i64 s.t, .int .i64 s.x, .int .i64 s.y]] (W i) fun e w' => e = .returned (.bool (may s)) ∧ Below (W i).heap.size (W i) w') := by
          intro i
          refine (refmay_any s (W i)).mono ?_
          rintro e w' ⟨rfl, rfl⟩
          exact ⟨rfl, (Below.refl _ _).alloc (Nat.le_refl _) _⟩
        have H0 := Lib.hid h0
        have HC := Lib.hid hC
        clear h0 hW hC hs hgla ha c0 c1 c2 p0 p1 p2 hok
        cases hms : may s with
        | false =>
          have hokp : okp (ss.take k) s = false := by unfold okp; rw [hms]; rfl
          have he : putE ss = 2 := by unfold putE; rw [HL.out, if_neg hbig, good_no HS.out hokp]; simp
          rw [hms] at HF
          go_wp2_with fail
          refine wp_region_fam W j0 (by kernel_rfl) (by kernel_rfl) H0.out ?_
          repeat (go_big_quiet_step ((go_at_call 37; exact fam_call HC.out (HF.out _))))
          refine wpQuiet_nil ?_
          rintro _ ⟨i, rfl⟩
          go_wp2
          go_ret2
          exact putTo_no (k := 2) he (by omega) (HT.out.bel.trans ((HWW i).out.mono HT.out.bel.size))
        | true =>
          rw [hms] at HF
          have HMS := Lib.hid hms
          clear hms
          by_cases hbad : k ≠ 0 ∧ s.t ≤ a.t
          · have hk0 : 0 < k := by omega
            have hd : decide (s.t ≤ a.t) = true := decide_eq_true hbad.2
            have hokp : okp (ss.take k) s = false := by
              unfold okp
              rw [HMS.out, HLA.out, List.length_take, HL.out, decide_eq_false (show ¬ min k n = 0 by omega), decide_eq_false (show ¬ a.t < s.t by omega)]
              rfl
            have he : putE ss = 2 := by unfold putE; rw [HL.out, if_neg hbig, good_no HS.out hokp]; simp
            go_wp2_with fail
            refine wp_region_fam W j0 (by kernel_rfl) (by kernel_rfl) H0.out ?_
            repeat (go_big_quiet_step ((go_at_call 37; exact fam_call HC.out (HF.out _))))
            refine wpQuiet_nil ?_
            rintro _ ⟨i, rfl⟩
            go_wp2
            go_ret2
            exact putTo_no (k := 2) he (by omega) (HT.out.bel.trans ((HWW i).out.mono HT.out.bel.size))
          · have hokp : okp (ss.take k) s = true := by
              unfold okp
              rw [HMS.out, HLA.out, List.length_take, HL.out]
              by_cases h0 : k = 0
              · simp [h0]
              · simp; omega
            have HOKP := Lib.hid hokp
            have HWP := fun i => Lib.hid (HT.out.below (HWW i).out)
            have hz : w.cell? ⟨b, o + k * 3, none⟩ = some (.int .i64 s.t) ∧ w.cell? ⟨b, o + k * 3 + 1, none⟩ = some (.int .i64 s.x) ∧ w.cell? ⟨b, o + k * 3 + 2, none⟩ = some (.int .i64 s.y) := by
              obtain ⟨b', o', s', e1, -, e2, -, q0, q1, q2⟩ := H.out.at hlt
              injection e1 with e1
              injection e1 with e1 e3
              subst e1 e3
              rw [HS.out] at e2
              injection e2 with e2
              subst e2
              exact ⟨q0, q1, q2⟩
            have HZ := Lib.hid hz
            have hmay : ∀ u ∈ ss.take k, may u = true := fun u hu => good_may HG.out hu
            have hnear := near (las_may hmay) HMS.out
            have hlen := enc_len (l := ss.take k) hmay k
            rw [List.take_take, Nat.min_self] at hlen
            have henc : enc (ss.take (k + 1)) = enc (ss.take k) ++ num (s.t - a.t) ++ sgn (s.x - a.x) ++ sgn (s.y - a.y) := by
              rw [enc_next HS.out, HLA.out]; unfold one; simp only [List.append_assoc]
            have HENC := Lib.hid henc
            rw [HLA.out] at hnear
            obtain ⟨⟨n1, n2⟩, ⟨n3, n4⟩, n5, n6⟩ := hnear
            obtain ⟨dt, hdt⟩ : ∃ dt, s.t - a.t = dt := ⟨_, rfl⟩
            obtain ⟨dx, hdx⟩ : ∃ dx, s.x - a.x = dx := ⟨_, rfl⟩
            obtain ⟨dy, hdy⟩ : ∃ dy, s.y - a.y = dy := ⟨_, rfl⟩
            have w1 : IntKind.i64.wrap (s.t - a.t) = dt := (IntWalk.i64_in _ ⟨by omega, by omega⟩).trans hdt
            have w2 : IntKind.i64.wrap (s.x - a.x) = dx := (IntWalk.i64_in _ ⟨by omega, by omega⟩).trans hdx
            have w3 : IntKind.i64.wrap (s.y - a.y) = dy := (IntWalk.i64_in _ ⟨by omega, by omega⟩).trans hdy
            rw [hdt, hdx, hdy] at HENC
            rw [hdt] at n1 n2
            rw [hdx] at n3 n4
            rw [hdy] at n5 n6
            have HD : Hid ((-1099511627776 ≤ dt ∧ dt ≤ 1099511627776) ∧ (-67108864 ≤ dx ∧ dx ≤ 67108864) ∧ (-67108864 ≤ dy ∧ dy ≤ 67108864)) := ⟨⟨n1, n2⟩, ⟨n3, n4⟩, n5, n6⟩
            have HLEN := Lib.hid hlen
            clear hz hmay hlen henc hdt hdx hdy n1 n2 n3 n4 n5 n6 hokp
            by_cases h0 : k = 0
            case' pos =>
              have hd0 : decide (0 < k) = false := decide_eq_false (by omega)
              clear hbad h0
              go_wp2_with fail
              refine wp_region_fam W j0 (by kernel_rfl) (by kernel_rfl) H0.out ?_
              repeat (go_big_quiet_step ((go_at_call 37; exact fam_call HC.out (HF.out _))))
              refine wpQuiet_nil ?_
              rintro _ ⟨i, rfl⟩
              go_wp2_with fail
            case' neg =>
              have hk0 : 0 < k := by omega
              have hd : decide (s.t ≤ a.t) = false := decide_eq_false (by omega)
              clear hbad h0
              go_wp2_with fail
              refine wp_region_fam W j0 (by kernel_rfl) (by kernel_rfl) H0.out ?_
              repeat (go_big_quiet_step ((go_at_call 37; exact fam_call HC.out (HF.out _))))
              refine wpQuiet_nil ?_
              rintro _ ⟨i, rfl⟩
              go_wp2_with fail
            all_goals
              have HX := HWP i
              rw [HLA.out] at HX
              clear d0 d1 d2 d3 HWP HF H0 HC
              have HSZ := Lib.hid (HWW i).out.size
              generalize W i = wA at HX HSZ ⊢
              clear HWW
              have HXD1 := Lib.hid HX.out.drew
              have p1 := (HX.out.drew.bel.cell (p := ⟨b, o + k * 3, none⟩) hbl).trans HZ.out.1
              have q1 := (three HX.out.drew.las).1.1
              go_region_held3 (fun wx => wx.cell? ⟨b, o + k * 3, none⟩ = some (.int .i64 s.t) ∧ wx.cell? ⟨w.heap.size, 0, none⟩ = some (.int .i64 a.t)) (first | exact ⟨p1, q1⟩ | exact ⟨pc1, qc1⟩ | exact ⟨pa1, qa1⟩) (first
                | (go_at_call 25; refine (refnumber_any dt (by have := HD.out; omega) _).mono ?_; rintro e5 w5 ⟨v5, rfl, hown5, hb5⟩; obtain ⟨A5, c5, rfl, -⟩ := own_nil hown5; obtain ⟨g5, rfl, -⟩ := own_at hown5 (put_pos _); have HO1 := Lib.hid hown5; have HC1 := Lib.hid (HXD1.out.below hb5); have pc1 := (HC1.out.bel.cell (p := ⟨b, o + k * 3, none⟩) hbl).trans HZ.out.1; have qc1 := (three HC1.out.las).1.1; clear hown5 hb5)
                | (refine step_cat rfl (.tmp 37) (.tmp 46) 23 rfl w.heap.size 5 i0 .u8 1 Try.underlying23 hi hz0 hz1 hz2 _ _ _ rfl HC1.out.own _ _ _ _ _ rfl (Row.of_own HO1.out) (by have := HLEN.out; have := HD.out; have := HN.out; have l1 := num_len (k := dt) (by omega); omega) (by omega) HC1.out.bel.size ?_; intro v6 w6 hown6 hg6 hl6; have HX1 := Lib.hid (HC1.out.app rfl hown6 hg6 hl6); have pa1 := (HX1.out.bel.cell (p := ⟨b, o + k * 3, none⟩) hbl).trans HZ.out.1; have qa1 := (three HX1.out.las).1.1; clear hown6 hg6 hl6))
              go_wp2_with fail
              clear HC1 HO1 HXD1
              have HXD2 := Lib.hid HX1.out.drew
              have p2 := (HX1.out.drew.bel.cell (p := ⟨b, o + k * 3 + 1, none⟩) hbl).trans HZ.out.2.1
              have q2 := (three HX1.out.drew.las).1.2.1
              go_region_held3 (fun wx => wx.cell? ⟨b, o + k * 3 + 1, none⟩ = some (.int .i64 s.x) ∧ wx.cell? ⟨w.heap.size, 1, none⟩ = some (.int .i64 a.x)) (first | exact ⟨p2, q2⟩ | exact ⟨pc2, qc2⟩ | exact ⟨pa2, qa2⟩) (first
                | (go_at_call 47; refine (refsigned_any dx (by have := HD.out; omega) (by have := HD.out; omega) _).mono ?_; rintro e5 w7 ⟨v7, rfl, hown5, hb5⟩; obtain ⟨A5, c5, rfl, -⟩ := own_nil hown5; obtain ⟨g5, rfl, -⟩ := own_at hown5 (put_pos _); have HO2 := Lib.hid hown5; have HC2 := Lib.hid (HXD2.out.below hb5); have pc2 := (HC2.out.bel.cell (p := ⟨b, o + k * 3 + 1, none⟩) hbl).trans HZ.out.2.1; have qc2 := (three HC2.out.las).1.2.1; clear hown5 hb5)
                | (refine step_cat rfl (.tmp 48) (.tmp 57) 23 rfl w.heap.size 5 i0 .u8 1 Try.underlying23 hi hz0 hz1 hz2 _ _ _ rfl HC2.out.own _ _ _ _ _ rfl (Row.of_own HO2.out) (by have := HLEN.out; have := HD.out; have := HN.out; simp only [List.length_append]; have l1 := num_len (k := dt) (by omega); have l2 := sgn_len (k := dx) (by omega) (by omega); omega) (by omega) HC2.out.bel.size ?_; intro v8 w8 hown6 hg6 hl6; have HX2 := Lib.hid (HC2.out.app rfl hown6 hg6 hl6); have pa2 := (HX2.out.bel.cell (p := ⟨b, o + k * 3 + 1, none⟩) hbl).trans HZ.out.2.1; have qa2 := (three HX2.out.las).1.2.1; clear hown6 hg6 hl6))
              go_wp2_with fail
              clear HC2 HO2 HXD2
              have HXD3 := Lib.hid HX2.out.drew
              have p3 := (HX2.out.drew.bel.cell (p := ⟨b, o + k * 3 + 2, none⟩) hbl).trans HZ.out.2.2
              have q3 := (three HX2.out.drew.las).1.2.2
              go_region_held3 (fun wx => wx.cell? ⟨b, o + k * 3 + 2, none⟩ = some (.int .i64 s.y) ∧ wx.cell? ⟨w.heap.size, 2, none⟩ = some (.int .i64 a.y)) (first | exact ⟨p3, q3⟩ | exact ⟨pc3, qc3⟩ | exact ⟨pa3, qa3⟩) (first
                | (go_at_call 47; refine (refsigned_any dy (by have := HD.out; omega) (by have := HD.out; omega) _).mono ?_; rintro e5 w9 ⟨v9, rfl, hown5, hb5⟩; obtain ⟨A5, c5, rfl, -⟩ := own_nil hown5; obtain ⟨g5, rfl, -⟩ := own_at hown5 (put_pos _); have HO3 := Lib.hid hown5; have HC3 := Lib.hid (HXD3.out.below hb5); have pc3 := (HC3.out.bel.cell (p := ⟨b, o + k * 3 + 2, none⟩) hbl).trans HZ.out.2.2; have qc3 := (three HC3.out.las).1.2.2; clear hown5 hb5)
                | (refine step_cat rfl (.tmp 59) (.tmp 68) 23 rfl w.heap.size 5 i0 .u8 1 Try.underlying23 hi hz0 hz1 hz2 _ _ _ rfl HC3.out.own _ _ _ _ _ rfl (Row.of_own HO3.out) (by have := HLEN.out; have := HD.out; have := HN.out; simp only [List.length_append]; have l1 := num_len (k := dt) (by omega); have l2 := sgn_len (k := dx) (by omega) (by omega); have l3 := sgn_len (k := dy) (by omega) (by omega); omega) (by omega) HC3.out.bel.size ?_; intro v10 w10 hown6 hg6 hl6; have HX3 := Lib.hid (HC3.out.app rfl hown6 hg6 hl6); have pa3 := (HX3.out.bel.cell (p := ⟨b, o + k * 3 + 2, none⟩) hbl).trans HZ.out.2.2; have qa3 := (three HX3.out.las).1.2.2; clear hown6 hg6 hl6))
              have x0 := (HX3.out.bel.cell (p := ⟨b, o + k * 3, none⟩) hbl).trans HZ.out.1
              have x1 := (HX3.out.bel.cell (p := ⟨b, o + k * 3 + 1, none⟩) hbl).trans HZ.out.2.1
              have x2 := (HX3.out.bel.cell (p := ⟨b, o + k * 3 + 2, none⟩) hbl).trans HZ.out.2.2
              obtain ⟨⟨y0, y1, y2⟩, f0, f1, f2⟩ := three HX3.out.las
              obtain ⟨⟨g1, e1⟩, ⟨g2, e2⟩, hq, hO⟩ := sets (s := s) HX3.out.las
              have HX4 := Lib.hid (HX3.out.set hq hO)
              rw [← HENC.out] at HX4
              clear hq hO HC3 HO3 HXD3
              go_wp2
              go_roundw
              case' rel =>
                refine ⟨k + 1, by omega, by go_num, good_take HG.out HS.out HOKP.out, ?_⟩
                unfold Hid
                rw [las_take HS.out]
                exact HX4.out
              case' measure => simp [intOf]; omega
      · have hkn : k = n := by omega
        have hg : good ss = true := by have := HG.out; rwa [List.take_of_length_le (by rw [HL.out]; omega)] at this
        have HG1 := Lib.hid hg
        go_wp2
        go_ret2
        have he : putE ss = 0 := by unfold putE; rw [HL.out, if_neg hbig, if_pos HG1.out]
        refine ⟨_, by rw [he]; rfl, ?_, HT.out.bel⟩
        rw [putB_ok he]
        have := HT.out.own
        rwa [List.take_of_length_le (by rw [HL.out]; omega)] at this
end Go.Proofs.Ytmpihllcmdgapaa.Smp

/- Calls into Go's library on slices of bytes, as contracts over the program: slices.Grow of nil, slices.Concat, slices.Clone, bytes.Equal. -/
namespace Go.Proofs.Ytmpihllcmdgapaa.Slc
open Go.RowKit

theorem info_u8 : (Try.prog.info? 5).map (fun i => (i.zero, i.size, i.bytes)) = some (some (.int .u8 0), 1, 1) := by kernel_rfl

set_option maxHeartbeats 800000 in
set_option maxRecDepth 100000 in
/-- slices.Grow of nil: no elements, room for n. -/
theorem grow_nil (n : Nat) (hn : n ≤ 4398046511104) (w : World) :
    Calls Try.prog 44 #[.slice none 0 0, .int .i64 (n : Int)] w fun e w' =>
      ∃ v, e = .returned v ∧ w'.ownsRow w.heap.size 5 1 v 0 (([] : List Int).map (Value.int .u8)) ∧ Below w.heap.size w w' := by
  obtain ⟨i0, hi, hz0, hz1, hz2⟩ := info_parts info_u8
  by_cases h0 : n = 0
  · subst h0
    go_enter Try.func44, Try.ntmps44
    go_wp2
    go_ret
    exact ⟨_, rfl, World.ownsRow_nil _ _ _ _, Below.refl _ _⟩
  · have hold : (Builtin.firstCells i0.size 0 (.slice none 0 0)).run Try.prog w.drew = .ok ([] : List Value).toArray w.drew := run_firstCells_none w.drew i0.size 0 0 0
    have hrz : ∀ ty, (Builtin.append_ #[23, 3] ty #[.slice none 0 0, .int .i64 (n : Int)]).run Try.prog w = _ := fun ty =>
      Lib.run_append_grow_zeros w 23 3 ty 5 i0 (.int .u8 0) .i64 .i64 Try.underlying23 Try.underlying3 hi hz0 none 0 0 [] hold n (by omega) (by omega) (by omega) (by omega) (by rw [hz2]; omega) (growslice_fits (by omega) (by rw [hz2]; omega))
    have hge := grownCap_ge w (0 + n) 0 5
    have hle := grownCap_le_maxLen w (0 + n) 0 5 (by unfold maxLen; omega)
    generalize grownCap w (0 + n) 0 5 = G at *
    have hle' : G ≤ 9223372036854775807 := by unfold maxLen at hle; omega
    go_enter Try.func44, Try.ntmps44
    go_wp2_with (at_builtin; refine Lib.wpList_append_run _ rfl _ _ _ _ rfl _ _ rfl rfl _ _ (hrz _) ?_)
    go_ret
    refine ⟨_, rfl, ⟨rfl, .inr ⟨w.heap.size, G, _, rfl, Nat.le_refl _, Array.getElem?_push_size, Nat.zero_le _, hle, ?_, by simp⟩⟩, (Below.refl w.heap.size w).drew.alloc (Nat.le_refl _) _⟩
    simp [size_zeroCells]
    omega

/-- A slice of bytes among others: where it lies, its length, its capacity, what it reads as. -/
structure Part where
  A : Option Addr
  n : Nat
  c : Nat
  xs : List Int
def Part.v (p : Part) : Value := .slice p.A p.n p.c
def Part.Right (w : World) (B : Nat) (p : Part) : Prop := Row .u8 w B p.A p.n p.xs ∧ (p.A = none → p.c = 0)
def total (L : List Part) : Nat := (L.map (·.n)).sum
def whole (L : List Part) : List Int := L.flatMap (·.xs)
theorem total_next {L : List Part} {i : Nat} (h : i < L.length) : total (L.take (i + 1)) = total (L.take i) + (L[i]).n := by
  unfold total; rw [List.take_succ_eq_append_getElem h, List.map_append, List.sum_append]; simp only [List.map_cons, List.map_nil, List.sum_cons, List.sum_nil, Nat.add_zero]
theorem whole_next {L : List Part} {i : Nat} (h : i < L.length) : whole (L.take (i + 1)) = whole (L.take i) ++ (L[i]).xs := by
  unfold whole; rw [List.take_succ_eq_append_getElem h, List.flatMap_append]; simp only [List.flatMap_cons, List.flatMap_nil, List.append_nil]
theorem total_le (L : List Part) (i : Nat) : total (L.take i) ≤ total L := by
  have : total L = total (L.take i) + total (L.drop i) := by
    unfold total; rw [← List.sum_append, ← List.map_append, List.take_append_drop]
  omega
theorem whole_len {w : World} {B : Nat} : ∀ {L : List Part}, (∀ p ∈ L, p.Right w B) → (whole L).length = total L
  | [], _ => rfl
  | p :: L, h => by
    have h1 := (h p (by simp)).1.1
    have h2 := whole_len (L := L) (fun q hq => h q (by simp [hq]))
    simp only [whole, total, List.flatMap_cons, List.length_append, List.map_cons, List.sum_cons] at *
    omega

set_option maxHeartbeats 1600000 in
set_option maxRecDepth 100000 in
/-- slices.Concat: all parts, one behind the other, in a row of its own. -/
theorem concat_any (L : List Part) (g c B : Nat) (w : World) (hc : ∀ j (h : j < L.length), w.cell? ⟨g, j, none⟩ = some (L[j]).v) (hL : ∀ p ∈ L, p.Right w B) (hB : B ≤ w.heap.size) (hg : g < w.heap.size) (ht : total L ≤ 4398046511104) (hl : L.length ≤ 1000000) :
    Calls Try.prog 21 #[.slice (some ⟨g, 0, none⟩) L.length c] w fun e w' =>
      ∃ v, e = .returned v ∧ w'.ownsRow w.heap.size 5 1 v (total L) ((whole L).map (Value.int .u8)) ∧ Below w.heap.size w w' := by
  obtain ⟨i0, hi, hz0, hz1, hz2⟩ := info_parts info_u8
  have HC := Lib.hid hc
  have HL := Lib.hid hL
  clear hc hL
  go_enter Try.func21, Try.ntmps21
  go_wp2
  go_loop [11, 3] (fun a s => ∃ i : Nat, i ≤ L.length ∧ a = .int .i64 (i : Int) ∧ s = .int .i64 (total (L.take i) : Int)) (fun a _ => L.length - (intOf a).toNat)
  case atStart => exact ⟨0, Nat.zero_le _, rfl, by simp [total]⟩
  case round =>
    obtain ⟨i, hle, rfl, rfl⟩ := hrel
    by_cases hlt : i < L.length
    · have h1 := HC.out i hlt
      have h2 := total_next hlt
      have h3 := total_le L (i + 1)
      unfold Part.v at h1
      generalize L[i] = p at *
      obtain ⟨A, n, c1, xs⟩ := p
      generalize total (L.take i) = t at *
      have h4 : total (L.take (i + 1)) ≤ 4398046511104 := by omega
      obtain ⟨t1, H1⟩ : ∃ t1, Hid (t1 = total (L.take (i + 1))) := ⟨_, Lib.hid rfl⟩
      rw [← H1.out] at h2 h4
      have h5 : t1 = t + n := h2
      have hw : IntKind.i64.wrap ((t : Int) + (n : Int)) = (t1 : Int) := by rw [IntWalk.i64_in _ ⟨by omega, by omega⟩]; omega
      clear h2 h3 h4 h5
      go_wp2
      go_round
      case rel => exact ⟨i + 1, by omega, by go_num, by rw [H1.out]⟩
      case measure => simp [intOf]; omega
    · obtain rfl : i = L.length := by omega
      rw [List.take_length]
      go_wp2_with fail
      refine (grow_nil (total L) ht w).mono ?_
      rintro e1 w1 ⟨v1, rfl, hown1, hb1⟩
      have HB1 := Lib.hid hb1
      have HO1 := Lib.hid hown1
      clear hb1 hown1
      go_wp2_with fail
      go_loopw [27, 6] (fun a v wr => ∃ i : Nat, i ≤ L.length ∧ a = .int .i64 (i : Int) ∧ Hid (wr.ownsRow w.heap.size 5 1 v (total (L.take i)) ((whole (L.take i)).map (Value.int .u8))) ∧ Hid (Below w.heap.size w wr)) (fun a _ _ => L.length - (intOf a).toNat)
      case atStart => exact ⟨0, Nat.zero_le _, rfl, by simpa [total, whole] using HO1, HB1⟩
      case round =>
        obtain ⟨i, hle, rfl, HO, HB⟩ := hrel
        by_cases hlt : i < L.length
        · have h1 := (HB.out.cell (p := ⟨g, i, none⟩) hg).trans (HC.out i hlt)
          have h2 := Lib.hid (total_next hlt)
          have h2' := Lib.hid (whole_next hlt)
          have h3 := total_le L (i + 1)
          obtain ⟨hr, hnil⟩ := HL.out _ (List.getElem_mem hlt)
          have hsum := total_next hlt
          unfold Part.v at h1
          generalize L[i] = p at *
          obtain ⟨A, n, c1, xs⟩ := p
          have hrow : Hid (Row .u8 wr B A n xs) := hr.below (HB.out.mono hB)
          have hsz := HB.out.size
          have hsm : total (L.take i) + n ≤ 4398046511104 := by simp only at hsum; omega
          have HN := Lib.hid hnil
          clear hr hnil hsum h3
          go_wp2_with (at_builtin; refine cat_own rfl (.tmp 31) (.tmp 32) 23 rfl w.heap.size 5 i0 .u8 1 Try.underlying23 hi hz0 hz1 hz2 _ (total (L.take i)) (whole (L.take i)) rfl HO.out B A n c1 xs rfl HN.out hrow.out hsm (by omega) hsz ?_; intro v2 w2 hown2 hb2; have HO2 := Lib.hid hown2; have HB2 := Lib.hid (HB.out.trans hb2); clear hown2 hb2)
          go_roundw
          case rel => exact ⟨i + 1, by omega, by go_num, by unfold Hid; rw [h2.out, h2'.out]; exact HO2.out, HB2⟩
          case measure => simp [intOf]; omega
        · obtain rfl : i = L.length := by omega
          rw [List.take_length] at HO
          go_wp2
          go_ret
          exact ⟨_, rfl, HO.out, HB.out⟩

set_option maxHeartbeats 400000 in
set_option maxRecDepth 100000 in
/-- slices.Clone: the same bytes in a row of its own; nil of nil. -/
theorem clone_any (A : Option Addr) (n c B : Nat) (xs : List Int) (w : World) (hr : Row .u8 w B A n xs) (hnil : A = none → c = 0) (hB : B ≤ w.heap.size) (hn : n ≤ 4398046511104) :
    Calls Try.prog 52 #[.slice A n c] w fun e w' =>
      ∃ v, e = .returned v ∧ w'.ownsRow w.heap.size 5 1 v n (xs.map (Value.int .u8)) ∧ Below w.heap.size w w' := by
  obtain ⟨i0, hi, hz0, hz1, hz2⟩ := info_parts info_u8
  rcases A with _ | a
  · have hm : n = 0 := by
      rcases Nat.eq_zero_or_pos n with h0 | h0
      · exact h0
      · obtain ⟨_, _, h1, _⟩ := hr.2 h0
        cases h1
    subst hm
    have hx : xs = [] := List.eq_nil_of_length_eq_zero hr.1
    subst hx
    clear hr
    obtain rfl := hnil rfl
    clear hnil
    have heq : (binOp .eql 23 (.slice none 0 0) (.slice none 0 0)).run Try.prog w = .ok (.bool true) w := Lib.run_eql_slice_nil w 23 5 none 0 0 0 0 Try.underlying23
    go_enter Try.func52, Try.ntmps52
    go_wp2
    go_ret
    exact ⟨_, rfl, World.ownsRow_nil _ _ _ _, Below.refl _ _⟩
  · have HO : Hid ((w.alloc (.cells #[] 5)).ownsRow w.heap.size 5 1 (.slice (some ⟨w.heap.size, 0, none⟩) 0 0) 0 (([] : List Int).map (Value.int .u8))) := World.ownsRow_lit w #[] 0 (Nat.le_refl _) (Nat.zero_le _) rfl
    have HR : Hid (Row .u8 (w.alloc (.cells #[] 5)) B (some a) n xs) := hr.alloc hB _
    have HB0 : Hid (Below w.heap.size w (w.alloc (.cells #[] 5))) := (Below.refl _ _).alloc (Nat.le_refl _) _
    clear hr
    have heq : (binOp .eql 23 (.slice (some a) n c) (.slice none 0 0)).run Try.prog w = .ok (.bool false) w := Lib.run_eql_slice_nil w 23 5 (some a) n c 0 0 Try.underlying23
    go_enter Try.func52, Try.ntmps52
    go_wp2_with (at_builtin; refine cat_own rfl (.tmp 5) (.tmp 6) 23 rfl w.heap.size 5 i0 .u8 1 Try.underlying23 hi hz0 hz1 hz2 _ 0 [] rfl HO.out B (some a) n c xs rfl (fun h => by cases h) HR.out (by omega) (by omega) (by simp) ?_; intro v2 w2 hown2 hb2)
    go_ret
    exact ⟨_, rfl, by simpa using hown2, HB0.out.trans hb2⟩

set_option maxRecDepth 100000 in
/-- Bytes as a string. -/
theorem convert_row {A : Option Addr} {n c B : Nat} {xs : List Int} {w : World} (hr : Row .u8 w B A n xs) : (convert 23 9 (.slice A n c)).run Try.prog w = .ok (.string (strOfNums xs)) w := by
  rcases A with _ | a
  · have hm : n = 0 := by
      rcases Nat.eq_zero_or_pos n with h0 | h0
      · exact h0
      · obtain ⟨_, _, h1, _⟩ := hr.2 h0
        cases h1
    subst hm
    have hx : xs = [] := List.eq_nil_of_length_eq_zero hr.1
    subst hx
    exact run_convert_bytes_nil (P := Try.prog) w 23 5 Try.underlying23 Try.underlying5 0 c 9 Try.underlying9
  · rcases Nat.eq_zero_or_pos n with h0 | h0
    · subst h0
      have hx : xs = [] := List.eq_nil_of_length_eq_zero hr.1
      subst hx
      rw [run_convert_bytes_string w 23 9 5 _ 0 c Try.underlying23 Try.underlying5 Try.underlying9]
      simp [Conv.bytesToString, loadCells, loadCellsFrom, strOfNums]
      rfl
    · obtain ⟨b, o, he, _, hc⟩ := hr.2 h0
      injection he with he
      subst he
      exact run_convert_bytes_arg (P := Try.prog) w 23 5 Try.underlying23 Try.underlying5 b o n c xs hr.1 hc 9 Try.underlying9

theorem strOfNums_inj {xs ys : List Int} (hx : ∀ x ∈ xs, 0 ≤ x ∧ x ≤ 255) (hy : ∀ x ∈ ys, 0 ≤ x ∧ x ≤ 255) (h : (strOfNums xs).toList = (strOfNums ys).toList) : xs = ys := by
  rw [Lib.strOfNums_toList, Lib.strOfNums_toList] at h
  unfold Lib.bytesOf at h
  have key : ∀ (xs ys : List Int), (∀ x ∈ xs, 0 ≤ x ∧ x ≤ 255) → (∀ x ∈ ys, 0 ≤ x ∧ x ≤ 255) → (xs.map fun n => UInt8.ofNat n.toNat) = (ys.map fun n => UInt8.ofNat n.toNat) → xs = ys := by
    intro xs
    induction xs with
    | nil => intro ys _ _ h; cases ys with
      | nil => rfl
      | cons y ys => simp at h
    | cons x xs ih =>
      intro ys hx hy h
      cases ys with
      | nil => simp at h
      | cons y ys =>
        simp only [List.map_cons, List.cons.injEq] at h
        have a1 := hx x (by simp)
        have a2 := hy y (by simp)
        have e := congrArg UInt8.toNat h.1
        simp only [UInt8.toNat_ofNat'] at e
        rw [ih ys (fun z hz => hx z (by simp [hz])) (fun z hz => hy z (by simp [hz])) h.2]
        congr 1
        omega
  exact key xs ys hx hy h

set_option maxHeartbeats 400000 in
set_option maxRecDepth 100000 in
/-- bytes.Equal. -/
theorem equal_any (A A' : Option Addr) (n c n' c' B B' : Nat) (xs ys : List Int) (w : World) (hr : Row .u8 w B A n xs) (hr' : Row .u8 w B' A' n' ys) (hx : ∀ x ∈ xs, 0 ≤ x ∧ x ≤ 255) (hy : ∀ x ∈ ys, 0 ≤ x ∧ x ≤ 255) :
    Calls Try.prog 68 #[.slice A n c, .slice A' n' c'] w fun e w' => e = .returned (.bool (decide (xs = ys))) ∧ w = w' := by
  have h1 := convert_row (c := c) hr
  have h2 := convert_row (c := c') hr'
  have h3 : ((strOfNums xs).toList == (strOfNums ys).toList) = decide (xs = ys) := by
    by_cases h : xs = ys
    · subst h; simp
    · simp only [h, decide_false]
      exact beq_eq_false_iff_ne.2 fun e => h (strOfNums_inj hx hy e)
  go_enter Try.func68, Try.ntmps68
  go_wp2
  go_ret
  exact ⟨by rw [← h3]; rfl, rfl⟩
end Go.Proofs.Ytmpihllcmdgapaa.Slc

/- What crc.table returns, as a contract over the program. -/
namespace Go.Proofs.Ytmpihllcmdgapaa.Crc
open Go.RowKit

/-- The table's cells, the first i filled. -/
def cells (i : Nat) : Array Value := ((tab i).map (Value.int .u32)).toArray
theorem cells_size (i : Nat) : (cells i).size = 16 := by simp [cells, tab]
theorem tab_next {i : Nat} (hi : i < 16) : (tab i).set i ((steps 4 i : Nat) : Int) = tab (i + 1) := by
  apply List.ext_getElem?
  intro j
  simp only [tab, List.getElem?_set, List.length_map, List.length_range, List.getElem?_map]
  by_cases h : i = j
  · subst h; simp [hi]
  · by_cases hj : j < 16
    · have : j < i + 1 ↔ j < i := by omega
      simp [h, hj, this]
    · simp [h, hj]
theorem cells_next {i : Nat} (hi : i < 16) : (cells i).setIfInBounds i (.int .u32 ((steps 4 i : Nat) : Int)) = cells (i + 1) := by
  unfold cells
  rw [← tab_next hi]
  simp
theorem cells_one (i : Nat) : (cells i).all (·.oneCell') = true := by simp [cells, Value.oneCell']

theorem cells_at {i : Nat} (hi : i < 16) : (cells i)[i]? = some (.int .u32 0) := by simp [cells, tab, hi]

theorem heap_first (w : World) (o o' : Obj) : ((w.alloc o).alloc o').heap[w.heap.size]? = some o := by
  show ((w.heap.push o).push o')[w.heap.size]? = some o
  simp [Array.getElem?_push]
theorem results_cell {fn : Func} {p : Tmp} {ty : TypeId} (h : fn.results = #[.cell p ty]) (tmps : Array Value) (P : Program) (w : World) :
    (results fn tmps).run P w = ((asAddr (tmps.getD p undef)).run P w).andThen fun a w₁ => (loadVar ty a).run P w₁ := by
  simp only [results, h]
  simp [Sem.run_bind, Result.andThen]
theorem cells_full : cells 16 = #[.int .u32 0, .int .u32 498536548, .int .u32 997073096, .int .u32 651767980, .int .u32 1994146192, .int .u32 1802195444, .int .u32 1303535960, .int .u32 1342533948, .int .u32 3988292384, .int .u32 4027552580, .int .u32 3604390888, .int .u32 3412177804, .int .u32 2607071920, .int .u32 2262029012, .int .u32 2685067896, .int .u32 3183342108] := by
  have h : tab 16 = [0, 498536548, 997073096, 651767980, 1994146192, 1802195444, 1303535960, 1342533948, 3988292384, 4027552580, 3604390888, 3412177804, 2607071920, 2262029012, 2685067896, 3183342108] := by decide +kernel
  unfold cells
  rw [h]
  rfl
theorem cells_none : cells 0 = #[.int .u32 0, .int .u32 0, .int .u32 0, .int .u32 0, .int .u32 0, .int .u32 0, .int .u32 0, .int .u32 0, .int .u32 0, .int .u32 0, .int .u32 0, .int .u32 0, .int .u32 0, .int .u32 0, .int .u32 0, .int .u32 0] := by rfl

set_option maxHeartbeats 1000000 in
set_option maxRecDepth 100000 in
theorem table_any (w : World) :
    Calls Try.prog 80 #[] w fun e w' => e = .returned (.agg (cells 16)) ∧ Below w.heap.size w w' := by
  go_enter Try.func80, Try.ntmps80
  go_wp2
  go_loopw [5] (fun a wr => ∃ i : Nat, i ≤ 16 ∧ a = .int .i64 (i : Int) ∧ Hid (wr = (w.alloc (.cells (cells 0) 110)).alloc (.cells (cells i) 110))) (fun a _ => 16 - (intOf a).toNat)
  case atStart => exact ⟨0, Nat.zero_le _, rfl, rfl⟩
  case round =>
    obtain ⟨i, hi, rfl, hw⟩ := hrel
    obtain rfl := hw.out
    clear hw
    by_cases hlt : i < 16
    · have hc := Lib.hid (cells_next hlt)
      go_wp2
      go_loop [10, 3] (fun a b => ∃ k r : Nat, k ≤ 4 ∧ a = .int .i64 (k : Int) ∧ b = .int .u32 (r : Int) ∧ Hid (r = steps k i ∧ r < 4294967296)) (fun a _ => 4 - (intOf a).toNat)
      case atStart => exact ⟨0, i, Nat.zero_le _, rfl, by go_num, by unfold Hid; exact ⟨rfl, by omega⟩⟩
      case round =>
        obtain ⟨k, r, hk, rfl, rfl, HR⟩ := hrel
        by_cases hlt4 : k < 4
        · have hr := HR.out.2
          have hxor : bits .xor .u32 ((r : Int) / 2) 3988292384 = ((r / 2 ^^^ 3988292384 : Nat) : Int) := u32_xor_nat (r / 2) 3988292384 (by omega) (by omega)
          by_cases hodd : r % 2 = 1
          · have ho : ((r : Int) % 2 == 1) = true := by simp; omega
            go_wp2
            go_round
            case rel => exact ⟨k + 1, step r, by omega, by go_num, by unfold step; rw [if_pos hodd], by unfold Hid; exact ⟨by rw [HR.out.1]; rfl, step_lt hr⟩⟩
            case measure => simp [intOf]; omega
          · have ho : ((r : Int) % 2 == 1) = false := by simp; omega
            go_wp2
            go_round
            case rel => exact ⟨k + 1, step r, by omega, by go_num, by unfold step; rw [if_neg hodd]; go_num, by unfold Hid; exact ⟨by rw [HR.out.1]; rfl, step_lt hr⟩⟩
            case measure => simp [intOf]; omega
        · obtain rfl : k = 4 := by omega
          have hat := cells_at hlt
          go_wp2
          refine ⟨⟨i + 1, by omega, by go_num, by unfold Hid; rw [← hc.out, ← HR.out.1]⟩, by simp [intOf]; omega⟩
    · obtain rfl : i = 16 := by omega
      have hld := run_loadVar_row (P := Try.prog) ((w.alloc (.cells (cells 16) 110)).alloc (.cells (cells 16) 110)) w.heap.size 110 110 (cells 16) (0, 0) _ (heap_first w _ _) Try.underlying110 rfl (by kernel_rfl)
      have Hld := Lib.hid hld
      clear hld
      rw [cells_full, cells_none]
      go_wp2
      (try simp only [Exit.inBlock, Exit.then])
      rw [cells_full] at Hld
      refine bodyPost_ret (v := .agg (cells 16)) ?_ rfl ⟨rfl, (Below.refl _ _).alloc (Nat.le_refl _) _ |>.alloc (by simp) _⟩
      rw [results_cell rfl, cells_full]
      simp [asAddr, Result.andThen, Hld.out]
end Go.Proofs.Ytmpihllcmdgapaa.Crc

/- What crc.More and crc.Sum, crc.Bytes, and the reference's Sum and Bytes return, as contracts over the program. -/
namespace Go.Proofs.Ytmpihllcmdgapaa.Crc
open Go.RowKit

theorem cells_get {j : Nat} (hj : j < 16) : (cells 16)[j]? = some (.int .u32 ((steps 4 j : Nat) : Int)) := by simp [cells, tab, hj]

theorem u32_in {x : Int} (h1 : 0 ≤ x) (h2 : x < 4294967296) : IntKind.u32.wrap x = x := by rw [IntKind.wrap_u32']; omega

set_option maxHeartbeats 1000000 in
set_option maxRecDepth 100000 in
theorem more_any (s : Nat) (hs : s < 4294967296) (A : Option Addr) (n c B : Nat) (xs : List Int) (w : World) (hr : Row .u8 w B A n xs) (hx : Bytes xs) (hB : B ≤ w.heap.size) (hn : n ≤ 4398046511104) :
    Calls Try.prog 76 #[.int .u32 (s : Int), .slice A n c] w fun e w' => e = .returned (.int .u32 ((more s xs : Nat) : Int)) ∧ Below w.heap.size w w' := by
  have HR := Lib.hid hr
  have HX := Lib.hid hx
  have hlen := hr.len
  have hnot := not_u32 hs
  clear hr hx
  go_enter Try.func76, Try.ntmps76
  go_wp2_with fail
  refine (table_any _).mono ?_
  rintro e w1 ⟨rfl, hb1⟩
  have HB1 := Lib.hid hb1
  clear hb1
  rw [cells_full]
  go_wp2
  rw [← cells_full]
  generalize hw2 : w1.alloc (Obj.cells (cells 16) 110) = w2
  have HC : Hid (∀ j, j < 16 → w2.cell? ⟨w1.heap.size, j, none⟩ = some (.int .u32 ((steps 4 j : Nat) : Int))) := by
    intro j hj
    rw [← hw2]
    simp [cells_get hj]
  have HB2 : Hid (Below w.heap.size w w2) := by rw [← hw2]; exact HB1.out.alloc HB1.out.size _
  have HR2 : Hid (Row .u8 w2 B A n xs) := Row.keep HR.out (fun p hp => HB2.out.cell (by omega))
  clear hw2 HR
  have hs' := inv_lt s
  go_loop [14, 6] (fun a b => ∃ i r : Nat, i ≤ n ∧ a = .int .i64 (i : Int) ∧ b = .int .u32 (r : Int) ∧ Hid (r < 4294967296 ∧ crc (inv s) xs = crc r (xs.drop i))) (fun a _ => n - (intOf a).toNat)
  case atStart => exact ⟨0, inv s, Nat.zero_le _, rfl, rfl, by unfold Hid; exact ⟨inv_lt s, by simp⟩⟩
  case round =>
    obtain ⟨i, r, hi, rfl, rfl, HI⟩ := hrel
    by_cases hlt : i < n
    · obtain ⟨b, o, rfl, _, hc1⟩ := HR2.out.cell_at hlt
      have hr := HI.out.1
      have h8 := HX.out.getD (i := i) (by omega)
      have HD := Lib.hid (crc_drop (xs := xs) (i := i) (by omega) r)
      have HU := Lib.hid (upd_eq r (xs.getD i 0))
      have HL := Lib.hid (upd_lt hr h8.1 h8.2)
      obtain ⟨x, hx⟩ : ∃ x : Nat, xs.getD i 0 = (x : Int) := ⟨(xs.getD i 0).toNat, by omega⟩
      rw [hx] at hc1 h8 HU HD HL
      clear hx
      have h8' : x < 256 := by omega
      have hwx := u32_in (x := (x : Int)) (by omega) (by omega)
      have hx1 := u32_xor_nat r x hr (by omega)
      have hl1 : r ^^^ x < 4294967296 := Nat.xor_lt_two_pow (n := 32) hr (by omega)
      have HU' : Hid (upd r (x : Int) = steps 4 (steps 4 (r ^^^ x))) := HU.out
      clear HU
      generalize r ^^^ x = r1 at *
      have hc2 := HC.out (r1 % 16) (by omega)
      have hl2 := steps_lt hl1 4
      have hx2 : bits .xor .u32 ((r1 : Int) / 16) ((steps 4 (r1 % 16) : Nat) : Int) = ((steps 4 r1 : Nat) : Int) := by
        rw [← steps4 r1]
        exact u32_xor_nat (r1 / 16) (steps 4 (r1 % 16)) (by omega) (steps_lt (by omega) 4)
      have HT1 : Hid (steps 4 (r1 % 16) < 4294967296) := steps_lt (by omega) 4
      generalize steps 4 r1 = r2 at *
      generalize steps 4 (r1 % 16) = t1 at *
      have hc3 := HC.out (r2 % 16) (by omega)
      have hl3 := steps_lt hl2 4
      have hx3 : bits .xor .u32 ((r2 : Int) / 16) ((steps 4 (r2 % 16) : Nat) : Int) = ((steps 4 r2 : Nat) : Int) := by
        rw [← steps4 r2]
        exact u32_xor_nat (r2 / 16) (steps 4 (r2 % 16)) (by omega) (steps_lt (by omega) 4)
      generalize steps 4 r2 = r3 at *
      generalize steps 4 (r2 % 16) = t2 at *
      go_wp2
      go_round
      case rel => exact ⟨i + 1, r3, by omega, by go_num, rfl, by unfold Hid; exact ⟨hl3, by rw [HI.out.2, HD.out, HU'.out]⟩⟩
      case measure => simp [intOf]; omega
    · obtain rfl : i = n := by omega
      have hdr : xs.drop xs.length = [] := List.drop_eq_nil_of_le (Nat.le_refl _)
      have hr := HI.out.1
      have hnot2 := not_u32 hr
      have HF : Hid (more s xs = inv r) := by unfold Hid more; rw [HI.out.2, ← hlen, hdr]; rfl
      clear hdr
      go_wp2
      go_ret
      exact ⟨by rw [HF.out]; rfl, HB2.out⟩
end Go.Proofs.Ytmpihllcmdgapaa.Crc

/- What crc.Sum and crc.Bytes, and the reference's Sum and Bytes return, as contracts over the program. -/
namespace Go.Proofs.Ytmpihllcmdgapaa.Crc
open Go.RowKit

theorem info_u8 : (Try.prog.info? 5).map (fun i => (i.zero, i.size, i.bytes)) = some (some (.int .u8 0), 1, 1) := by kernel_rfl

set_option maxHeartbeats 400000 in
set_option maxRecDepth 100000 in
theorem sum_any (A : Option Addr) (n c B : Nat) (xs : List Int) (w : World) (hr : Row .u8 w B A n xs) (hx : Bytes xs) (hB : B ≤ w.heap.size) (hn : n ≤ 4398046511104) :
    Calls Try.prog 64 #[.slice A n c] w fun e w' => e = .returned (.int .u32 ((sum xs : Nat) : Int)) ∧ Below w.heap.size w w' := by
  have HR := Lib.hid hr
  have HX := Lib.hid hx
  clear hr hx
  go_enter Try.func64, Try.ntmps64
  go_wp2_with fail
  refine (more_any 0 (by omega) A n c B xs _ HR.out HX.out hB hn).mono ?_
  rintro e w1 ⟨rfl, hb1⟩
  have HB1 := Lib.hid hb1
  clear hb1
  rw [sum_more]
  go_wp2
  go_ret
  exact ⟨rfl, HB1.out⟩

set_option maxHeartbeats 1000000 in
set_option maxRecDepth 100000 in
theorem refsum_any (A : Option Addr) (n c B : Nat) (xs : List Int) (w : World) (hr : Row .u8 w B A n xs) (hx : Bytes xs) (hn : n ≤ 4398046511104) :
    Calls Try.prog 50 #[.slice A n c] w fun e w' => e = .returned (.int .u32 ((sum xs : Nat) : Int)) ∧ w' = w := by
  have HR := Lib.hid hr
  have HX := Lib.hid hx
  have hlen := hr.len
  clear hr hx
  go_enter Try.func50, Try.ntmps50
  go_wp2
  go_loop [4, 3] (fun a b => ∃ i r : Nat, i ≤ n ∧ a = .int .i64 (i : Int) ∧ b = .int .u32 (r : Int) ∧ Hid (r < 4294967296 ∧ crc 4294967295 xs = crc r (xs.drop i))) (fun a _ => n - (intOf a).toNat)
  case atStart => exact ⟨0, 4294967295, Nat.zero_le _, rfl, rfl, by unfold Hid; exact ⟨by omega, by simp⟩⟩
  case round =>
    obtain ⟨i, r, hi, rfl, rfl, HI⟩ := hrel
    by_cases hlt : i < n
    · obtain ⟨b, o, rfl, _, hc1⟩ := HR.out.cell_at hlt
      have hr := HI.out.1
      have h8 := HX.out.getD (i := i) (by omega)
      have HD := Lib.hid (crc_drop (xs := xs) (i := i) (by omega) r)
      have HU := Lib.hid (upd_eq r (xs.getD i 0))
      have HL := Lib.hid (upd_lt hr h8.1 h8.2)
      obtain ⟨x, hx⟩ : ∃ x : Nat, xs.getD i 0 = (x : Int) := ⟨(xs.getD i 0).toNat, by omega⟩
      rw [hx] at hc1 h8 HU HD HL
      clear hx
      have h8' : x < 256 := by omega
      clear h8
      go_wp2
      go_loop [6, 5, 3] (fun a b d => ∃ k y q : Nat, k ≤ 8 ∧ a = .int .i64 (k : Int) ∧ b = .int .i64 (y : Int) ∧ d = .int .u32 (q : Int) ∧ Hid (y = x / 2 ^ k) ∧ Hid (q < 4294967296 ∧ q ^^^ y = steps k (r ^^^ x))) (fun a _ _ => 8 - (intOf a).toNat)
      case atStart => exact ⟨0, x, r, Nat.zero_le _, rfl, by go_num, rfl, by unfold Hid; simp, by unfold Hid; exact ⟨hr, rfl⟩⟩
      case round =>
        obtain ⟨k, y, q, hk, rfl, rfl, rfl, HY, HQ⟩ := hrel
        have hy : y < 256 := by rw [HY.out]; exact Nat.lt_of_le_of_lt (Nat.div_le_self _ _) h8'
        by_cases hlt8 : k < 8
        · have hq := HQ.out.1
          have HS : Hid (rstep q y ^^^ (y / 2) = steps (k + 1) (r ^^^ x)) := by unfold Hid; rw [step_rstep, HQ.out.2]; rfl
          have HY2 : Hid (y / 2 = x / 2 ^ (k + 1)) := by unfold Hid; rw [HY.out, Nat.div_div_eq_div_mul, ← Nat.pow_succ]
          have hxor : bits .xor .u32 ((q : Int) / 2) 3988292384 = ((q / 2 ^^^ 3988292384 : Nat) : Int) := u32_xor_nat (q / 2) 3988292384 (by omega) (by omega)
          have hwy := u32_in (x := (y : Int) % 2) (by omega) (by omega)
          by_cases hbit : q % 2 = y % 2
          · have hb : ((q : Int) % 2 == (y : Int) % 2) = true := by simp; omega
            have hb' : ((q : Int) % 2 != (y : Int) % 2) = false := by simp; omega
            go_wp2
            go_round
            case rel => exact ⟨k + 1, y / 2, rstep q y, by omega, by go_num, by go_num, by unfold rstep; rw [if_pos hbit]; go_num, HY2, by unfold Hid; exact ⟨rstep_lt hq, HS.out⟩⟩
            case measure => simp [intOf]; omega
          · have hb : ((q : Int) % 2 == (y : Int) % 2) = false := by simp; omega
            have hb' : ((q : Int) % 2 != (y : Int) % 2) = true := by simp; omega
            go_wp2
            go_round
            case rel => exact ⟨k + 1, y / 2, rstep q y, by omega, by go_num, by go_num, by unfold rstep; rw [if_neg hbit], HY2, by unfold Hid; exact ⟨rstep_lt hq, HS.out⟩⟩
            case measure => simp [intOf]; omega
        · obtain rfl : k = 8 := by omega
          have hy0 : y = 0 := by rw [HY.out]; exact Nat.div_eq_of_lt h8'
          subst hy0
          have HE : Hid (q = upd r (x : Int)) := by
            have := HQ.out.2
            rw [Nat.xor_zero] at this
            unfold Hid
            rw [this, HU.out]
            rfl
          go_wp2
          exact ⟨⟨i + 1, q, by omega, by go_num, rfl, by unfold Hid; exact ⟨HQ.out.1, by rw [HI.out.2, HD.out, HE.out]⟩⟩, by simp [intOf]; omega⟩
    · obtain rfl : i = n := by omega
      have hdr : xs.drop xs.length = [] := List.drop_eq_nil_of_le (Nat.le_refl _)
      have hr := HI.out.1
      have HF : Hid (sum xs = inv r) := by unfold Hid sum; rw [HI.out.2, ← hlen, hdr]; rfl
      clear hdr
      have hsub : IntKind.u32.wrap (4294967295 - (r : Int)) = 4294967295 - (r : Int) := u32_in (by omega) (by omega)
      go_wp2
      go_ret
      exact ⟨ret_int (by rw [HF.out]; unfold inv; omega), rfl⟩

def BytesTo (n : Nat) (w : World) (e : Ending) (w' : World) : Prop :=
  ∃ v, e = .returned v ∧ w'.ownsRow w.heap.size 5 1 v 4 ((byts 4 n).map (Value.int .u8)) ∧ Below w.heap.size w w'

set_option maxHeartbeats 400000 in
set_option maxRecDepth 100000 in
theorem bytes_any (n : Nat) (w : World) : Calls Try.prog 63 #[.int .u32 (n : Int)] w (BytesTo n w) := by
  have h0 : IntKind.u8.wrap (n : Int) = ((n % 256 : Nat) : Int) := by rw [IntKind.wrap_u8']; omega
  have h1 : IntKind.u8.wrap ((n : Int) / 256) = ((n / 256 % 256 : Nat) : Int) := by rw [IntKind.wrap_u8']; omega
  have h2 : IntKind.u8.wrap ((n : Int) / 65536) = ((n / 256 / 256 % 256 : Nat) : Int) := by rw [IntKind.wrap_u8']; omega
  have h3 : IntKind.u8.wrap ((n : Int) / 16777216) = ((n / 256 / 256 / 256 % 256 : Nat) : Int) := by rw [IntKind.wrap_u8']; omega
  go_enter Try.func63, Try.ntmps63
  go_wp2
  go_ret
  refine ⟨_, rfl, World.ownsRow_lit w _ 4 (Nat.le_refl _) (by unfold maxLen; omega) rfl, (Below.refl _ _).alloc (Nat.le_refl _) _⟩

set_option maxHeartbeats 800000 in
set_option maxRecDepth 100000 in
theorem refbytes_any (n : Nat) (hn : n < 4294967296) (w : World) : Calls Try.prog 49 #[.int .u32 (n : Int)] w (BytesTo n w) := by
  obtain ⟨i0, hi, hz0, hz1, hz2⟩ := info_parts info_u8
  go_enter Try.func49, Try.ntmps49
  go_wp2
  go_loopw [4, 0, 3] (fun a b v wr => ∃ (i m : Nat) (xs : List Int), i ≤ 4 ∧ m ≤ n ∧ a = .int .i64 (i : Int) ∧ b = .int .u32 (m : Int) ∧ Hid (byts 4 n = xs ++ byts (4 - i) m) ∧ Hid (xs.length = i) ∧ wr.ownsRow w.heap.size 5 1 v i (xs.map (Value.int .u8)) ∧ Below w.heap.size w wr)
    (fun a _ _ _ => 4 - (intOf a).toNat)
  case atStart => exact ⟨0, n, [], Nat.zero_le _, Nat.le_refl _, rfl, rfl, rfl, rfl, World.ownsRow_nil _ _ _ _, Below.refl _ _⟩
  case round =>
    obtain ⟨i, m, xs, hi4, hm, rfl, rfl, HP, HL, hown, hbl⟩ := hrel
    have hsz := hbl.size
    by_cases hlt : i < 4
    · have hw8 : IntKind.u8.wrap ((m : Int) % 256) = ((m % 256 : Nat) : Int) := by rw [IntKind.wrap_u8']; omega
      have HP2 : Hid (byts 4 n = (xs ++ [((m % 256 : Nat) : Int)]) ++ byts (4 - (i + 1)) (m / 256)) := by
        unfold Hid
        rw [HP.out, show 4 - i = (4 - (i + 1)) + 1 by omega]
        simp [byts]
      go_wp2_with (at_builtin; refine push_own rfl (.tmp 9) (.tmp 13) 23 rfl w.heap.size 5 i0 .u8 1 Try.underlying23 hi hz0 hz1 hz2 _ i xs ((m % 256 : Nat) : Int) rfl hown rfl (by omega) (by omega) hsz ?_; intro v1 w1 hown1 hb1)
      go_roundw
      case rel => exact ⟨i + 1, m / 256, xs ++ [((m % 256 : Nat) : Int)], by omega, by omega, by go_num, by go_num, HP2, by unfold Hid; simp [HL.out], hown1, hbl.trans hb1⟩
      case measure => simp [intOf]; omega
    · obtain rfl : i = 4 := by omega
      have HF : Hid (byts 4 n = xs) := by unfold Hid; rw [HP.out]; simp [byts]
      go_wp2
      go_ret
      exact ⟨_, rfl, by rw [HF.out]; exact hown, hbl⟩
end Go.Proofs.Ytmpihllcmdgapaa.Crc

/- What layer 4's (frame's) Put and its reference's return, as contracts over the program. -/
namespace Go.Proofs.Ytmpihllcmdgapaa.Frm
open Go.RowKit Var Crc Slc

theorem own_mono {w : World} {base base' n : Nat} {e : TypeId} {v : Value} {xs : List Value} (h : w.ownsRow base e 1 v n xs) (hb : base' ≤ base) : w.ownsRow base' e 1 v n xs := by
  refine ⟨h.1, ?_⟩
  rcases h.2 with h0 | ⟨g, cap, cur, h1, h2, rest⟩
  · exact .inl h0
  · exact .inr ⟨g, cap, cur, h1, Nat.le_trans hb h2, rest⟩

set_option maxHeartbeats 400000 in
set_option maxRecDepth 100000 in
theorem fsum_any (A : Option Addr) (n c B : Nat) (xs : List Int) (w : World) (hr : Row .u8 w B A n xs) (hx : Byt xs) (hB : B ≤ w.heap.size) (hn : n ≤ 4398046511104) :
    Calls Try.prog 43 #[.slice A n c] w fun e w' =>
      ∃ v, e = .returned v ∧ w'.ownsRow w.heap.size 5 1 v 4 ((byts 4 (sum xs)).map (Value.int .u8)) ∧ Below w.heap.size w w' := by
  have HR := Lib.hid hr
  have HX := Lib.hid hx
  clear hr hx
  go_enter Try.func43, Try.ntmps43
  go_wp2_with fail
  refine (Crc.sum_any A n c B xs _ HR.out HX.out.crc hB hn).mono ?_
  rintro e1 w1 ⟨rfl, hb1⟩
  go_wp2_with fail
  refine (Crc.bytes_any (sum xs) _).mono ?_
  rintro e2 w2 ⟨v2, rfl, hown2, hb2⟩
  go_wp2
  go_ret
  exact ⟨_, rfl, own_mono hown2 hb1.size, hb1.trans (hb2.mono hb1.size)⟩

/-- A frame, in a row of its own. -/
def Puts (k : Int) (xs : List Int) (w : World) (v : Value) (w' : World) : Prop :=
  w'.ownsRow w.heap.size 5 1 v (frame k xs).length ((frame k xs).map (Value.int .u8)) ∧ Below w.heap.size w w'

set_option maxHeartbeats 800000 in
set_option maxRecDepth 100000 in
theorem put_any (k : Int) (hk : 0 ≤ k ∧ k ≤ 255) (A : Option Addr) (n c : Nat) (xs : List Int) (w : World) (hr : Row .u8 w w.heap.size A n xs) (hnil : A = none → c = 0) (hx : Byt xs) (hn : n ≤ 1048576) :
    Calls Try.prog 20 #[.int .u8 k, .slice A n c] w fun e w' => ∃ v, e = .returned (.tuple #[v, .int .i64 0]) ∧ Puts k xs w v w' := by
  obtain ⟨i0, hi, hz0, hz1, hz2⟩ := info_parts Slc.info_u8
  have HR := Lib.hid hr
  have HX := Lib.hid hx
  have HN := Lib.hid hnil
  have hlen := hr.len
  clear hr hx hnil
  have hL := put_len10 (n := n) (by omega)
  go_enter Try.func20, Try.ntmps20
  go_wp2_with fail
  have HO1 := Lib.hid (World.ownsRow_lit (e := 5) (size := 1) (base := w.heap.size) w #[.int .u8 199, .int .u8 k] 2 (Nat.le_refl _) (by unfold maxLen; omega) rfl)
  have HB1 := Lib.hid ((Below.refl w.heap.size w).alloc (Nat.le_refl _) (.cells #[.int .u8 199, .int .u8 k] 5))
  generalize hw1 : w.alloc (.cells #[.int .u8 199, .int .u8 k] 5) = w1 at *
  have hs1 : w.heap.size + 1 = w1.heap.size := by rw [← hw1]; simp
  clear hw1
  refine (Var.put_any n (by omega) _).mono ?_
  rintro e2 w2 ⟨v2, rfl, hown2, hb2⟩
  obtain ⟨A2, c2, rfl, -, hnil2⟩ := own_slice hown2
  have HO2 := Lib.hid hown2
  have HB2 := Lib.hid hb2
  have HN2 := Lib.hid hnil2
  have hs2 := hb2.size
  clear hown2 hb2 hnil2
  go_wp2_with fail
  have HB3 := Lib.hid ((Below.refl w2.heap.size w2).alloc (Nat.le_refl _) (.cells #[.slice (some ⟨w.heap.size, 0, none⟩) 2 2, .slice A2 (put n).length c2, .slice A n c] 23))
  have h0 : ∀ j (h : j < [Part.mk (some ⟨w.heap.size, 0, none⟩) 2 2 [199, k], Part.mk A2 (put n).length c2 (put n), Part.mk A n c xs].length), (w2.alloc (.cells #[.slice (some ⟨w.heap.size, 0, none⟩) 2 2, .slice A2 (put n).length c2, .slice A n c] 23)).cell? ⟨w2.heap.size, j, none⟩ = some ([Part.mk (some ⟨w.heap.size, 0, none⟩) 2 2 [199, k], Part.mk A2 (put n).length c2 (put n), Part.mk A n c xs][j]).v := by
    intro j hj
    match j, hj with
    | 0, _ => simp [Part.v]
    | 1, _ => simp [Part.v]
    | 2, _ => simp [Part.v]
  have H0 := Lib.hid h0
  clear h0
  generalize hw3 : w2.alloc (.cells #[.slice (some ⟨w.heap.size, 0, none⟩) 2 2, .slice A2 (put n).length c2, .slice A n c] 23) = w3 at *
  have hs3 : w2.heap.size + 1 = w3.heap.size := by rw [← hw3]; simp
  clear hw3
  have HL : Hid (∀ p ∈ [Part.mk (some ⟨w.heap.size, 0, none⟩) 2 2 [199, k], Part.mk A2 (put n).length c2 (put n), Part.mk A n c xs], p.Right w3 w3.heap.size) := by
    intro p hp
    simp only [List.mem_cons, List.not_mem_nil, or_false] at hp
    rcases hp with rfl | rfl | rfl
    · exact ⟨((((Row.of_own (xs := [199, k]) HO1.out).below HB2.out).below (HB3.out.mono (by omega))).more (by omega)), fun h => by cases h⟩
    · exact ⟨(((Row.of_own HO2.out).below HB3.out).more (by omega)), HN2.out⟩
    · exact ⟨((((HR.out.below HB1.out).below (HB2.out.mono (by omega))).below (HB3.out.mono (by omega))).more (by omega)), HN.out⟩
  refine (concat_any [Part.mk (some ⟨w.heap.size, 0, none⟩) 2 2 [199, k], Part.mk A2 (put n).length c2 (put n), Part.mk A n c xs] w2.heap.size 3 w3.heap.size w3 H0.out HL.out (Nat.le_refl _) (by omega) (by simp [total]; omega) (by simp)).mono ?_
  rintro e4 w4 ⟨v4, rfl, hown4, hb4⟩
  have hh : whole [Part.mk (some ⟨w.heap.size, 0, none⟩) 2 2 [199, k], Part.mk A2 (put n).length c2 (put n), Part.mk A n c xs] = head k xs := by simp [whole, head, hlen]
  have ht : total [Part.mk (some ⟨w.heap.size, 0, none⟩) 2 2 [199, k], Part.mk A2 (put n).length c2 (put n), Part.mk A n c xs] = (head k xs).length := by rw [head_len, hlen]; simp [total]; omega
  rw [hh, ht] at hown4
  clear hh ht
  obtain ⟨A4, c4, rfl, -, -⟩ := own_slice hown4
  have HO4 := Lib.hid hown4
  have HB4 := Lib.hid hb4
  have hs4 := hb4.size
  clear hown4 hb4 H0 HL
  have HHB : Hid (Byt (head k xs)) := head_byt hk HX.out
  have hhl : (head k xs).length ≤ 2000000 := by rw [head_len, hlen]; omega
  have HF : Hid (frame k xs = head k xs ++ byts 4 (sum (head k xs))) := rfl
  have HFL : Hid ((frame k xs).length = (head k xs).length + 4) := by unfold Hid; rw [frame_len, head_len]
  generalize head k xs = hd at *
  go_wp2_with fail
  refine (fsum_any A4 hd.length c4 _ hd _ (Row.of_own HO4.out) HHB.out (Nat.le_refl _) (by omega)).mono ?_
  rintro e5 w5 ⟨v5, rfl, hown5, hb5⟩
  obtain ⟨A5, c5, rfl, -, hnil5⟩ := own_slice hown5
  have HO4' := Lib.hid (own_below HO4.out hb5)
  have HO5 := Lib.hid hown5
  have HB5 := Lib.hid hb5
  have HN5 := Lib.hid hnil5
  have hs5 := hb5.size
  clear hown5 hb5 hnil5
  go_wp2_with (at_builtin; refine cat_own rfl (.tmp 19) (.tmp 21) 23 rfl w3.heap.size 5 i0 .u8 1 Try.underlying23 hi hz0 hz1 hz2 _ hd.length hd rfl HO4'.out _ A5 4 c5 (byts 4 (sum hd)) rfl HN5.out (Row.of_own HO5.out) (by omega) (by omega) (by omega) ?_; intro v6 w6 hown6 hb6; have HO6 := Lib.hid hown6; have HB6 := Lib.hid hb6; clear hown6 hb6)
  go_ret2
  refine ⟨v6, rfl, ?_, ?_⟩
  · rw [HFL.out, HF.out]; exact own_mono HO6.out (by omega)
  · exact HB1.out.trans ((HB2.out.mono (by omega)).trans ((HB3.out.mono (by omega)).trans ((HB4.out.mono (by omega)).trans ((HB5.out.mono (by omega)).trans (HB6.out.mono (by omega))))))

set_option maxHeartbeats 400000 in
set_option maxRecDepth 100000 in
theorem put_much (k : Int) (A : Option Addr) (n c : Nat) (w : World) (hn : 1048576 < n) :
    Calls Try.prog 20 #[.int .u8 k, .slice A n c] w fun e w' => e = .returned (.tuple #[.slice none 0 0, .int .i64 3]) ∧ w = w' := by
  go_enter Try.func20, Try.ntmps20
  go_wp2
  go_ret2
  exact ⟨rfl, rfl⟩
end Go.Proofs.Ytmpihllcmdgapaa.Frm

/- Two slices of bytes that read alike are the same for the reference's Same: a contract over the program. -/
namespace Go.Proofs.Ytmpihllcmdgapaa
open Go.RowKit

set_option maxHeartbeats 800000 in
set_option maxRecDepth 100000 in
/-- Two slices that read alike are the same. -/
theorem same_yes (A A' : Option Addr) (n c c' B B' : Nat) (xs : List Int) (w : World) (hn : n ≤ 4398046511104) (h1 : Row .u8 w B A n xs) (h2 : Row .u8 w B' A' n xs) :
    Calls Try.prog 11 #[.slice A n c, .slice A' n c'] w fun e w' => e = .returned (.bool true) ∧ ∃ q, w' = w.drewN q := by
  have H1 := Lib.hid h1
  have H2 := Lib.hid h2
  clear h1 h2
  go_enter Try.func11, Try.ntmps11
  go_wp2
  go_loopw [5] (fun i wr => ∃ k q : Nat, k ≤ n ∧ i = .int .i64 (k : Int) ∧ Hid (wr = w.drewN q)) (fun i _ => n - (intOf i).toNat)
  case atStart => exact ⟨0, 0, Nat.zero_le _, rfl, rfl⟩
  case round =>
    obtain ⟨k, q, hk, rfl, hw⟩ := hrel
    obtain rfl := hw.out
    clear hw
    by_cases hlt : k < n
    · obtain ⟨b, o, rfl, _, hc1⟩ := H1.out.cell_at hlt
      obtain ⟨b', o', rfl, _, hc2⟩ := H2.out.cell_at hlt
      go_wp2
      go_quiet (fail)
      go_wp2
      go_roundw
      case rel => exact ⟨k + 1, _, by omega, by go_num, by unfold Hid; rfl⟩
      case measure => simp [intOf]; omega
    · go_wp2
      go_ret
      exact ⟨rfl, _, rfl⟩
end Go.Proofs.Ytmpihllcmdgapaa

/- Lemmas that the proof stands on, in build order: GfT. -/
import Derived.Laws.CopyOwn
import Derived.Deep.DeepCutAuto
import Derived.Test.YtdgaaghkhkklpaaJ12c8aa12
import Derived.Test.YtdgaaghkhkklpaaJ19d4310d
import Derived.Test.YtdgaaghkhkklpaaJ63e688c
/- Layer 15 (graph): the reference's Take, as a contract. -/
namespace Go.Proofs.Ytdgaaghkhkklpaa.Gf
open Go.RowKit Rec Ints Ge Var Fld Frm Nu

theorem rfr_belowN {w w' : World} {g N n c at_ e B : Nat} {A : Option Addr} {bs : List Int} (h : Rfr w g N A n c bs at_ e) (hb : Below B w w') (hg : g < B) : Rfr w' g N A n c bs at_ e :=
  ⟨⟨(hb.block g hg).trans h.rf.blk⟩, h.row.below (hb.mono (by have := h.low; omega)), h.low, h.nc, h.le, h.nil, h.byt, h.len⟩
theorem num_from {w : World} {g N n c at_ : Nat} {A : Option Addr} {C : List Int} {s : S2} (h : Rfr w g N A n c C at_ s.2) (hd : C.drop at_ = s.1) (most : Int) (h1 : -9223372036854775808 ≤ most) (h2 : most ≤ 9223372036854775807) :
    Calls Try.prog 34 #[.pointer (some ⟨g, 0, none⟩), .int .i64 most] w fun r w' => r = .returned (.int .i64 (rv1 s most)) ∧ (∃ at', Rfr w' g N A n c C at' (rd1 s most).2 ∧ C.drop at' = (rd1 s most).1) ∧ Only (fun k => k = g) w w' := by
  refine (refnum_any g N n c at_ s.2 A C most w h h1 h2).mono ?_
  rintro r w' ⟨rfl, ⟨at1, hf, hd1⟩, ho⟩
  rw [hd] at hf hd1 ⊢
  exact ⟨rfl, ⟨at1, hf, hd1⟩, ho⟩
theorem done_from {w : World} {g N n c : Nat} {A : Option Addr} {C : List Int} {s : S2} {at_ : Nat} (h : Rfr w g N A n c C at_ s.2) (hd : C.drop at_ = s.1) :
    Calls Try.prog 35 #[.pointer (some ⟨g, 0, none⟩)] w fun r w' => r = .returned (.int .i64 (done s.1 s.2 : Int)) ∧ Like w w' := by
  refine (refdone_any g N n c at_ s.2 A C w h).mono ?_
  rw [hd]
  exact fun _ _ h => h
theorem like_below {w w' : World} (h : Like w w') : Below w.heap.size w w' := ⟨h.os, h.tape, h.output, by rw [h.heap]; exact Nat.le_refl _, fun i _ => by rw [h.heap]⟩

theorem info_st : (Try.prog.info? 56).map (fun i => (i.zero, i.size, i.bytes)) = some (some (.agg #[.int .i64 0, .int .i64 0]), 2, 16) := by kernel_rfl
/-- While the stops are read: the result, the reader, the network, its stops. -/
structure Tk (w : World) (g gn : Nat) (A : Option Addr) (n c : Nat) (Cn : List Int) (s : S2) (ver : Int) (sv : Value) (k : Nat) (st : List C) (wr : World) : Prop where
  res : wr.heap[w.heap.size]? = some (.cells #[.int .i64 0, .slice none 0 0, .slice none 0 0] 25 (0, 0))
  rd : ∃ a, Rfr wr g (w.heap.size + 1) A n c Cn a s.2 ∧ Cn.drop a = s.1
  nb : wr.heap[gn]? = some (.cells #[.int .i64 ver, sv, .slice none 0 0] 25 (0, 0))
  so : wr.ownsRow (gn + 1) 56 2 sv k (twoS.flat st)
  bel : Below w.heap.size w wr
  ord : w.heap.size < g ∧ g < gn
section
variable {w w1 w2 : World} {g gn n c k : Nat} {A : Option Addr} {Cn : List Int} {s : S2} {ver : Int} {sv : Value} {st : List C}
theorem Tk.lt (h : Tk w g gn A n c Cn s ver sv k st w1) : gn < w1.heap.size := (Array.getElem?_eq_some_iff.1 h.nb).1
theorem Tk.num (h : Tk w g gn A n c Cn s ver sv k st w1) {s' : S2} (hr : ∃ a, Rfr w2 g (w.heap.size + 1) A n c Cn a s'.2 ∧ Cn.drop a = s'.1) (ho : Only (fun i => i = g) w1 w2) : Tk w g gn A n c Cn s' ver sv k st w2 :=
  ⟨ho.at h.res (by have := h.ord; omega), hr, ho.at h.nb (by have := h.ord; omega), ownr_only h.so ho (fun i hi e => by have := (h.so.lt i hi).1; have := h.ord; omega), h.bel.trans (ho.below h.bel.size (fun i hi => by have := h.ord; omega)), h.ord⟩
theorem Tk.up (h : Tk w g gn A n c Cn s ver sv k st w1) (hb : Below w1.heap.size w1 w2) : Tk w g gn A n c Cn s ver sv k st w2 := by
  obtain ⟨a, h1, h2⟩ := h.rd
  exact ⟨(hb.block _ (Array.getElem?_eq_some_iff.1 h.res).1).trans h.res, ⟨a, rfr_belowN h1 hb h1.lt, h2⟩, (hb.block _ h.lt).trans h.nb, ownr_below h.so hb, h.bel.trans (hb.mono h.bel.size), h.ord⟩
theorem Tk.far (h : Tk w g gn A n c Cn s ver sv k st w1) {q : Nat} (ho : Only (fun i => i = q) w1 w2) (hq : gn < q) (hs : ∀ i, sv.ownBlock = some i → i < q) : Tk w g gn A n c Cn s ver sv k st w2 := by
  obtain ⟨a, h1, h2⟩ := h.rd
  have hord := h.ord
  exact ⟨ho.at h.res (by omega), ⟨a, h1.only ho (by omega) (fun i hi => by omega), h2⟩, ho.at h.nb (by omega), ownr_only h.so ho (fun i hi e => by have := hs i hi; omega), h.bel.trans (ho.below h.bel.size (fun i hi => by omega)), h.ord⟩
theorem Tk.app (h : Tk w g gn A n c Cn s ver sv k st w1) (hb : Below (gn + 1) w1 w2) {sv' : Value} {st' : List C} {k' : Nat} (hs : w2.ownsRow (gn + 1) 56 2 sv' k' (twoS.flat st')) : Tk w g gn A n c Cn s ver sv' k' st' (w2.setCell ⟨gn, 1, none⟩ sv') := by
  obtain ⟨a, h1, h2⟩ := h.rd
  have hord := h.ord
  have ho := Only.setCell w2 ⟨gn, 1, none⟩ sv'
  have hb0 := h.bel.trans (hb.mono (by omega))
  refine ⟨ho.at ((hb.block _ (by omega)).trans h.res) (show ¬ w.heap.size = gn by omega), ⟨a, (rfr_belowN h1 hb (by omega)).only ho (show ¬ g = gn by omega) (fun i hi => show ¬ i = gn by omega), h2⟩, set_blk ((hb.block _ (by omega)).trans h.nb), ownr_only hs ho (fun i hi e => by have := (hs.lt i hi).1; have e' : i = gn := e; omega), hb0.trans (ho.below hb0.size (fun i hi => by have e' : i = gn := hi; omega)), hord⟩
end
/-- While the links are read: the stops' slice stands. -/
structure Tl (w : World) (g gn bl : Nat) (A : Option Addr) (n c : Nat) (Cn : List Int) (s : S2) (ver : Int) (As : Option Addr) (k cs : Nat) (st : List C) (lv : Value) (m : Nat) (lk : List L3) (wr : World) : Prop where
  res : wr.heap[w.heap.size]? = some (.cells #[.int .i64 0, .slice none 0 0, .slice none 0 0] 25 (0, 0))
  rd : ∃ a, Rfr wr g (w.heap.size + 1) A n c Cn a s.2 ∧ Cn.drop a = s.1
  nb : wr.heap[gn]? = some (.cells #[.int .i64 ver, .slice As k cs, lv] 25 (0, 0))
  so : RRow twoS wr bl As k st
  sg : ∀ b o, As = some ⟨b, o, none⟩ → gn < b
  lo : wr.ownsRow bl 50 3 lv m (lkS.flat lk)
  bel : Below w.heap.size w wr
  ord : w.heap.size < g ∧ g < gn ∧ gn < bl ∧ bl ≤ wr.heap.size
section
variable {w w1 w2 : World} {g gn bl n c k cs m : Nat} {A As : Option Addr} {Cn : List Int} {s : S2} {ver : Int} {lv : Value} {st : List C} {lk : List L3}
theorem Tl.lt (h : Tl w g gn bl A n c Cn s ver As k cs st lv m lk w1) : gn < w1.heap.size := (Array.getElem?_eq_some_iff.1 h.nb).1
theorem Tl.num (h : Tl w g gn bl A n c Cn s ver As k cs st lv m lk w1) {s' : S2} (hr : ∃ a, Rfr w2 g (w.heap.size + 1) A n c Cn a s'.2 ∧ Cn.drop a = s'.1) (ho : Only (fun i => i = g) w1 w2) : Tl w g gn bl A n c Cn s' ver As k cs st lv m lk w2 := by
  have hord := h.ord
  exact ⟨ho.at h.res (by omega), hr, ho.at h.nb (by omega), h.so.only ho hord.2.2.2 (fun b o e _ => by have := h.sg b o e; omega), h.sg, ownr_only h.lo ho (fun i hi e => by have := (h.lo.lt i hi).1; omega), h.bel.trans (ho.below h.bel.size (fun i hi => by omega)), hord.1, hord.2.1, hord.2.2.1, Nat.le_trans hord.2.2.2 ho.size⟩
theorem Tl.up (h : Tl w g gn bl A n c Cn s ver As k cs st lv m lk w1) (hb : Below w1.heap.size w1 w2) : Tl w g gn bl A n c Cn s ver As k cs st lv m lk w2 := by
  obtain ⟨a, h1, h2⟩ := h.rd
  have hord := h.ord
  exact ⟨(hb.block _ (Array.getElem?_eq_some_iff.1 h.res).1).trans h.res, ⟨a, rfr_belowN h1 hb h1.lt, h2⟩, (hb.block _ h.lt).trans h.nb, h.so.below (hb.mono hord.2.2.2), h.sg, ownr_below h.lo hb, h.bel.trans (hb.mono h.bel.size), hord.1, hord.2.1, hord.2.2.1, Nat.le_trans hord.2.2.2 hb.size⟩
theorem Tl.far (h : Tl w g gn bl A n c Cn s ver As k cs st lv m lk w1) {q : Nat} (ho : Only (fun i => i = q) w1 w2) (hq : bl ≤ q) (hs : ∀ i, lv.ownBlock = some i → i < q) : Tl w g gn bl A n c Cn s ver As k cs st lv m lk w2 := by
  obtain ⟨a, h1, h2⟩ := h.rd
  have hord := h.ord
  exact ⟨ho.at h.res (by omega), ⟨a, h1.only ho (by omega) (fun i hi => by omega), h2⟩, ho.at h.nb (by omega), h.so.only ho hord.2.2.2 (fun b o e hb => by omega), h.sg, ownr_only h.lo ho (fun i hi e => by have := hs i hi; omega), h.bel.trans (ho.below h.bel.size (fun i hi => by omega)), hord.1, hord.2.1, hord.2.2.1, Nat.le_trans hord.2.2.2 ho.size⟩
theorem Tl.app (h : Tl w g gn bl A n c Cn s ver As k cs st lv m lk w1) (hb : Below bl w1 w2) {lv' : Value} {lk' : List L3} {m' : Nat} (hs : w2.ownsRow bl 50 3 lv' m' (lkS.flat lk')) : Tl w g gn bl A n c Cn s ver As k cs st lv' m' lk' (w2.setCell ⟨gn, 2, none⟩ lv') := by
  obtain ⟨a, h1, h2⟩ := h.rd
  have hord := h.ord
  have ho := Only.setCell w2 ⟨gn, 2, none⟩ lv'
  have hb0 := h.bel.trans (hb.mono (by omega))
  have hsz := hb.size
  refine ⟨ho.at ((hb.block _ (by omega)).trans h.res) (show ¬ w.heap.size = gn by omega), ⟨a, (rfr_belowN h1 hb (by omega)).only ho (show ¬ g = gn by omega) (fun i hi => show ¬ i = gn by omega), h2⟩, set_blk ((hb.block _ (by omega)).trans h.nb), (h.so.below hb).only ho (by omega) (fun b o e _ => by have := h.sg b o e; show ¬ b = gn; omega), h.sg, ownr_only hs ho (fun i hi e => by have := (hs.lt i hi).1; have e' : i = gn := e; omega), hb0.trans (ho.below hb0.size (fun i hi => by have e' : i = gn := hi; omega)), hord.1, hord.2.1, hord.2.2.1, by have := ho.size; omega⟩
end
theorem Tk.links {w w1 : World} {g gn n c k cs : Nat} {A As : Option Addr} {Cn : List Int} {s : S2} {ver : Int} {st : List C} (h : Tk w g gn A n c Cn s ver (.slice As k cs) k st w1) : Tl w g gn w1.heap.size A n c Cn s ver As k cs st (.slice none 0 0) 0 [] w1 :=
  ⟨h.res, h.rd, h.nb, RRow.of_own (S := twoS) h.so, fun b o e => by subst e; have := (h.so.lt b rfl).1; omega, World.ownsRow_nil _ _ _ _, h.bel, h.ord.1, h.ord.2, h.lt, Nat.le_refl _⟩
/-- What Take answers. -/
def TkTo (w : World) (r : Nt × Nat) (e : Ending) (w' : World) : Prop :=
  ∃ B k d B' m d', e = .returned (.tuple #[.agg #[.int .i64 r.1.ver, .slice B k d, .slice B' m d'], .int .i64 (r.2 : Int)]) ∧ NAt w' w'.heap.size r.1 B k d B' m d' ∧ Below w.heap.size w w'
theorem nat_zero (w : World) (B : Nat) : NAt w B .zero none 0 0 none 0 0 := ⟨RRow.nil_, RRow.nil_, fun _ => rfl, Nat.le_refl _, Nat.zero_le _, fun _ => rfl, Nat.le_refl _, Nat.zero_le _⟩
theorem only_setRow (w : World) (g : Nat) (cs : Array Value) : Only (fun k => k = g) w (w.setRow g cs) := ⟨rfl, rfl, rfl, by simp [World.setRow], fun i _ hn => setRow_other w _ _ _ hn⟩
theorem below_setR {w w1 : World} (h : Below w.heap.size w w1) (cs : Array Value) : Below w.heap.size w (w1.setRow w.heap.size cs) :=
  below_setRow h (Nat.le_refl _) cs

set_option maxHeartbeats 6400000 in
set_option maxRecDepth 100000 in
theorem reftake_any (A : Option Addr) (n c : Nat) (b : List Int) (w : World) (h : Row .u8 w w.heap.size A n b) (hb : Byt b) (hn : n ≤ 4398046511104) (hnc : n ≤ c) (hcm : c ≤ maxLen) :
    Calls Try.prog 14 #[.slice A n c] w (TkTo w (take b)) := by
  obtain ⟨is, his, hsz0, hsz1, hsz2⟩ := info_of info_st
  obtain ⟨il, hil, hlz0, hlz1, hlz2⟩ := info_of info_lk
  have I3 : Hid ((Try.prog.info? 25).map (·.size) = some (#[.int .i64 0, .slice none 0 0, .slice none 0 0] : Array Value).size) := by unfold Hid; kernel_rfl
  have HB0 : Hid (Below w.heap.size w (w.alloc (.cells #[.int .i64 0, .slice none 0 0, .slice none 0 0] 25))) := (Below.refl _ _).alloc (Nat.le_refl _) _
  have HK0 := Lib.hid (heap_alloc_new w (.cells #[.int .i64 0, .slice none 0 0, .slice none 0 0] 25))
  have HS0 : Hid ((w.alloc (.cells #[.int .i64 0, .slice none 0 0, .slice none 0 0] 25)).heap.size = w.heap.size + 1) := by unfold Hid; simp
  have HR0 : Hid (Row .u8 (w.alloc (.cells #[.int .i64 0, .slice none 0 0, .slice none 0 0] 25)) (w.alloc (.cells #[.int .i64 0, .slice none 0 0, .slice none 0 0] 25)).heap.size A n b) := (h.below HB0.out).more (by rw [HS0.out]; omega)
  have HBY := Lib.hid hb
  have HCM := Lib.hid (And.intro hnc hcm)
  clear h hb hnc hcm
  go_enter Try.func14, Try.ntmps14
  go_wp2_with fail
  generalize w.alloc (.cells #[.int .i64 0, .slice none 0 0, .slice none 0 0] 25) = w0 at *
  refine (refwhole_any 3 A n c b w0 HR0.out HBY.out hn HCM.out.1 HCM.out.2).mono ?_
  rintro e1 w1 ⟨A1, c1, rfl, hr1, hb1, hf1⟩
  obtain ⟨r, hr⟩ : ∃ r, take b = r := ⟨_, rfl⟩
  have HTB := Lib.hid hr
  have HTF : Hid (takeF (wholly 3 b).2 (wholly 3 b).1 = r) := hr
  have HCB : Hid (Byt (wholly 3 b).1) := wholly_byt HBY.out
  have hcl := wholly_len 3 b
  obtain ⟨Cn, hCn⟩ : ∃ X, (wholly 3 b).1 = X := ⟨_, rfl⟩
  obtain ⟨er, her⟩ : ∃ X, (wholly 3 b).2 = X := ⟨_, rfl⟩
  rw [hCn] at hr1 hf1 HTF HCB hcl ⊢
  rw [her] at HTF ⊢
  clear hr hCn her
  have HK1 := Lib.hid ((hb1.block _ (by rw [HS0.out]; omega)).trans HK0.out)
  have HB1 := Lib.hid (HB0.out.trans (hb1.mono HB0.out.size))
  have HR1 := Lib.hid hr1
  have HF1 := Lib.hid hf1
  have hsz1 := hb1.size
  clear hr1 hf1 hb1 HB0 HK0 HR0
  by_cases he : er ≠ 0
  · have f1 : ((er : Int) == 0) = false := beq_eq_false_iff_ne.2 (by omega)
    have f1' : ((er : Int) != 0) = true := bne_iff_ne.2 (by omega)
    have HRE : Hid (r = (.zero, er)) := by have h1 := HTF.out; unfold takeF at h1; rw [if_pos he] at h1; exact h1.symm
    clear he
    go_wp2_with (((with_reducible show wpList _ _ _ _ _ _); (refine wpList_store_row rfl 25 (.tmp 2) (.tmp 20) rfl w.heap.size #[.int .i64 0, .slice none 0 0, .slice none 0 0] rfl rfl 25 _ HK1.out I3.out rfl (by simp [Value.oneCell']) ?_)))
    refine bodyPost_ret (results_cell_one rfl _ _ w.heap.size #[.int .i64 0, .slice none 0 0, .slice none 0 0] rfl (run_loadVar_row _ _ 25 25 _ (0, 0) _ (setRow_heap _ _ _ _ _ _ HK1.out) Try.underlying25 rfl I3.out)) rfl ?_
    rw [HTB.out, HRE.out]
    exact ⟨_, _, _, _, _, _, rfl, nat_zero _ _, below_setR HB1.out _⟩
  have he0 : er = 0 := by omega
  subst he0
  have HTF2 : Hid ((if done (t5 Cn).1 (t5 Cn).2 ≠ 0 then (Nt.zero, done (t5 Cn).1 (t5 Cn).2) else if check (tN Cn) ≠ 0 then (Nt.zero, 2) else (tN Cn, 0)) = r) := by have h1 := HTF.out; unfold takeF at h1; rw [if_neg (by omega)] at h1; exact h1
  clear HTF he
  go_wp2_with fail
  refine (refread_any A1 Cn.length c1 Cn (w.heap.size + 1) w1 (by have h1 := HR1.out; rw [HS0.out] at h1; exact h1) (by rw [← HS0.out]; exact hsz1) HF1.out.2 HF1.out.1 (by omega) HCB.out).mono ?_
  rintro e2 w2 ⟨rfl, hf2, hb2⟩
  obtain ⟨g, hg⟩ : ∃ g, w1.heap.size = g := ⟨_, rfl⟩
  rw [hg] at hf2 ⊢
  have HRD2 : Hid (∃ a, Rfr w2 g (w.heap.size + 1) A1 Cn.length c1 Cn a ((Cn, 0) : S2).2 ∧ Cn.drop a = ((Cn, 0) : S2).1) := ⟨0, hf2, rfl⟩
  have HK2 := Lib.hid ((hb2.block _ (by rw [HS0.out] at hsz1; omega)).trans HK1.out)
  have HB2 := Lib.hid (HB1.out.trans (hb2.mono HB1.out.size))
  have hwg : w.heap.size < g := by rw [HS0.out] at hsz1; omega
  clear hf2 hb2 HK1 HB1 hsz1 hg HR1 HF1 HS0
  go_wp2_with fail
  obtain ⟨a2, hr2, hd2⟩ := HRD2.out
  refine (num_from (s := (Cn, 0)) hr2 hd2 1048576 (by omega) (by omega)).mono ?_
  rintro e3 w3 ⟨rfl, hr3, ho3⟩
  have hgl : g < w3.heap.size := by obtain ⟨a, h1, -⟩ := hr3; exact h1.lt
  have HV3 : Hid (rv1 (Cn, 0) 1048576 = tV Cn) := by unfold Hid; rfl
  rw [HV3.out]
  have HT3 : Hid (∀ o3 : Obj, o3 = .cells #[.int .i64 (tV Cn), .slice none 0 0, .slice none 0 0] 25 → Tk w g w3.heap.size A1 Cn.length c1 Cn (t1 Cn) (tV Cn) (.slice none 0 0) 0 [] (w3.alloc o3)) := by
    intro o3 e3
    have hb3 : Below w3.heap.size w3 (w3.alloc o3) := (Below.refl _ _).alloc (Nat.le_refl _) _
    have hb32 : Below w.heap.size w w3 := HB2.out.trans (ho3.below HB2.out.size (fun i hi => by omega))
    obtain ⟨a, h1, h2⟩ := hr3
    refine ⟨(hb3.block _ (by omega)).trans (ho3.at HK2.out (by omega)), ⟨a, rfr_belowN h1 hb3 hgl, h2⟩, ?_, World.ownsRow_nil _ _ _ _, hb32.trans (hb3.mono hb32.size), hwg, hgl⟩
    rw [e3]
    exact heap_alloc_new w3 _
  clear hr2 hd2 HRD2 HK2 HB2 hr3 ho3
  go_wp2_with fail
  have HT4 := Lib.hid (HT3.out _ rfl)
  obtain ⟨gn, hgn⟩ : ∃ gn, w3.heap.size = gn := ⟨_, rfl⟩
  rw [hgn] at HT4 hgl ⊢
  generalize w3.alloc (.cells #[.int .i64 (tV Cn), .slice none 0 0, .slice none 0 0] 25) = w4 at *
  clear HT3 HV3 hgn
  obtain ⟨a4, hr4, hd4⟩ := HT4.out.rd
  refine (num_from (s := t1 Cn) hr4 hd4 4096 (by omega) (by omega)).mono ?_
  rintro e5 w5 ⟨rfl, hr5, ho5⟩
  have HT5 : Hid (Tk w g gn A1 Cn.length c1 Cn (rdS (t2 Cn) 0).2 (tV Cn) (.slice none 0 0) 0 (rdS (t2 Cn) 0).1 w5) := HT4.out.num hr5 ho5
  have hKK := tK_le Cn
  rw [← hKK.2]
  have hK4 := hKK.1
  obtain ⟨K, hK⟩ : ∃ K, tK Cn = K := ⟨_, rfl⟩
  rw [hK] at hK4 ⊢
  have HKK := Lib.hid hK
  clear hKK hK hr4 hd4 hr5 ho5 HT4
  go_wp2
  go_loopw [9] (fun i wr => ∃ (j : Nat) (sv : Value), j ≤ K ∧ i = .int .i64 (j : Int) ∧ Hid (Tk w g gn A1 Cn.length c1 Cn (rdS (t2 Cn) j).2 (tV Cn) sv j (rdS (t2 Cn) j).1 wr)) (fun i _ => K - (intOf i).toNat)
  case atStart => exact ⟨0, _, Nat.zero_le _, rfl, HT5⟩
  case round =>
    clear HT5
    obtain ⟨j, sv, hj, rfl, HT⟩ := hrel
    by_cases hlt : j < K
    · obtain ⟨a6, hr6, hd6⟩ := HT.out.rd
      go_wp2_with fail
      refine (num_from hr6 hd6 67108863 (by omega) (by omega)).mono ?_
      rintro e6 w6 ⟨rfl, hr7, ho7⟩
      have HT6 := Lib.hid (HT.out.num hr7 ho7)
      obtain ⟨x, hx⟩ : ∃ x, rv1 (rdS (t2 Cn) j).2 67108863 = x := ⟨_, rfl⟩
      rw [hx]
      have HX := Lib.hid hx
      have HT7 := Lib.hid (HT6.out.up ((Below.refl w6.heap.size w6).alloc (Nat.le_refl _) (.cells #[.int .i64 x, .int .i64 0] 56)))
      have HG7 := Lib.hid (heap_alloc_new w6 (.cells #[.int .i64 x, .int .i64 0] 56))
      have HSV : Hid (∀ i, sv.ownBlock = some i → i < w6.heap.size) := fun i hi => (HT6.out.so.lt i hi).2
      have hg6 := HT6.out.lt
      clear hr6 hd6 hr7 ho7 HT hx HT6
      go_wp2_with fail
      obtain ⟨gs, hgs⟩ : ∃ gs, w6.heap.size = gs := ⟨_, rfl⟩
      rw [hgs] at HG7 HSV hg6 ⊢
      generalize w6.alloc (.cells #[.int .i64 x, .int .i64 0] 56) = w7 at *
      clear hgs
      obtain ⟨a8, hr8, hd8⟩ := HT7.out.rd
      refine (num_from hr8 hd8 67108863 (by omega) (by omega)).mono ?_
      rintro e8 w8 ⟨rfl, hr9, ho9⟩
      have hgg := HT7.out.ord
      have HT8 := Lib.hid (HT7.out.num hr9 ho9)
      have HG8 := Lib.hid (ho9.at HG7.out (by omega))
      obtain ⟨y, hy⟩ : ∃ y, rv1 (rd1 (rdS (t2 Cn) j).2 67108863) 67108863 = y := ⟨_, rfl⟩
      rw [hy]
      have HY := Lib.hid hy
      clear hr8 hd8 hr9 ho9 hy HT7 HG7
      have s1 : w8.cell? ⟨gs, 1, none⟩ = some (.int .i64 0) := cell_of_blk HG8.out rfl
      have s1f : w8.frozen? ⟨gs, 1, none⟩ = false := free_of_blk HG8.out
      have HTE := Lib.hid (HT8.out.far (Only.setCell w8 ⟨gs, 1, none⟩ (.int .i64 y)) (show gn < gs by omega) (fun i hi => HSV.out i hi))
      have HGE : Hid ((w8.setCell ⟨gs, 1, none⟩ (.int .i64 y)).heap[gs]? = some (.cells #[.int .i64 x, .int .i64 y] 56 (0, 0))) := set_blk HG8.out
      clear HT8 HG8 HSV
      go_upto_region 12 with fail
      generalize w8.setCell ⟨gs, 1, none⟩ (.int .i64 y) = wE at *
      clear s1 s1f
      obtain ⟨Ax, cx, rfl, -⟩ := ownr_slice HTE.out.so
      have n1 : wE.cell? ⟨gn, 1, none⟩ = some (.slice Ax j cx) := cell_of_blk HTE.out.nb rfl
      have g0 : wE.cell? ⟨gs, 0, none⟩ = some (.int .i64 x) := cell_of_blk HGE.out rfl
      have g1 : wE.cell? ⟨gs, 1, none⟩ = some (.int .i64 y) := cell_of_blk HGE.out rfl
      have HTA := Lib.hid (HTE.out.up ((Below.refl _ _).alloc (Nat.le_refl _) (.cells #[.int .i64 x, .int .i64 y] 56)))
      have HNEW := Lib.hid (new_two wE (x, y) 56)
      have hlE := HTE.out.lt
      go_wp2_with (at_builtin; go_loud (refine push_rec twoS rfl (.tmp 41) (.tmp 43) 22 rfl (gn + 1) 56 is (.agg #[.int .i64 0, .int .i64 0]) 16 Try.underlying22 his hsz0 rfl hsz1 hsz2 _ j (rdS (t2 Cn) j).1 rfl HTA.out.so ⟨wE.heap.size, 0, none⟩ (x, y) rfl HNEW.out (by omega) (by omega) (by simp; omega) ?_; intro v9 w9 hown9 _ hb9; obtain ⟨A9, c9, rfl, -⟩ := ownr_slice hown9; have HT9 := Lib.hid (HTA.out.app hb9 hown9); have n1b : w9.cell? ⟨gn, 1, none⟩ = some (.slice Ax j cx) := cell_of_blk ((hb9.block _ (by omega)).trans HTA.out.nb) rfl; have n1f : w9.frozen? ⟨gn, 1, none⟩ = false := free_of_blk ((hb9.block _ (by omega)).trans HTA.out.nb); clear hown9 hb9))
      have HEQ : Hid (Tk w g gn A1 Cn.length c1 Cn (rdS (t2 Cn) (j + 1)).2 (tV Cn) (.slice A9 (j + 1) c9) (j + 1) (rdS (t2 Cn) (j + 1)).1 (w9.setCell ⟨gn, 1, none⟩ (.slice A9 (j + 1) c9))) := by
        have h1 := HT9.out
        rw [← HX.out, ← HY.out] at h1
        exact h1
      clear HT9 HX HY
      go_wp2
      go_roundw
      case rel => exact ⟨j + 1, _, by omega, by go_num, HEQ⟩
      case measure => simp [intOf]; omega
    · have hjK : j = K := by omega
      subst hjK
      have HS3 : Hid ((rdS (t2 Cn) j).2 = t3 Cn) := by unfold Hid t3; rw [HKK.out]
      obtain ⟨As, cs, rfl, hnc9, hni9, hcm9⟩ := ownr_slice HT.out.so
      have HSN := Lib.hid (And.intro hnc9 (And.intro hni9 hcm9))
      obtain ⟨a10, hr9, hd9⟩ := HT.out.rd
      clear hnc9 hni9 hcm9
      go_wp2_with fail
      refine (num_from hr9 hd9 16384 (by omega) (by omega)).mono ?_
      rintro e10 w10 ⟨rfl, hr10, ho10⟩
      have htl := (HT.out.num hr10 ho10).links
      have hMM := tM_le Cn
      rw [HS3.out] at htl ⊢
      rw [← hMM.2]
      have hM4 := hMM.1
      obtain ⟨M, hM⟩ : ∃ M, tM Cn = M := ⟨_, rfl⟩
      rw [hM] at hM4 ⊢
      have HMM := Lib.hid hM
      obtain ⟨bl, hbl⟩ : ∃ bl, w10.heap.size = bl := ⟨_, rfl⟩
      rw [hbl] at htl
      have HT10 : Hid (Tl w g gn bl A1 Cn.length c1 Cn (rdL (t4 Cn) 0).2 (tV Cn) As j cs (rdS (t2 Cn) j).1 (.slice none 0 0) 0 (rdL (t4 Cn) 0).1 w10) := htl
      clear hMM hM hr9 hd9 hr10 ho10 HT htl hlt hbl
      go_wp2
      go_loopw [11] (fun i wr => ∃ (q : Nat) (lv : Value), q ≤ M ∧ i = .int .i64 (q : Int) ∧ Hid (Tl w g gn bl A1 Cn.length c1 Cn (rdL (t4 Cn) q).2 (tV Cn) As j cs (rdS (t2 Cn) j).1 lv q (rdL (t4 Cn) q).1 wr)) (fun i _ => M - (intOf i).toNat)
      case atStart => exact ⟨0, _, Nat.zero_le _, rfl, HT10⟩
      case round =>
        clear HT10
        obtain ⟨q, lv, hq, rfl, HT⟩ := hrel
        by_cases hlt : q < M
        · obtain ⟨a6, hr6, hd6⟩ := HT.out.rd
          go_wp2_with fail
          refine (num_from hr6 hd6 4095 (by omega) (by omega)).mono ?_
          rintro e6 w6 ⟨rfl, hr7, ho7⟩
          have HT6 := Lib.hid (HT.out.num hr7 ho7)
          obtain ⟨x, hx⟩ : ∃ x, rv1 (rdL (t4 Cn) q).2 4095 = x := ⟨_, rfl⟩
          rw [hx]
          have HX := Lib.hid hx
          have HT7 := Lib.hid (HT6.out.up ((Below.refl w6.heap.size w6).alloc (Nat.le_refl _) (.cells #[.int .i64 x, .int .i64 0, .int .i64 0] 50)))
          have HG7 := Lib.hid (heap_alloc_new w6 (.cells #[.int .i64 x, .int .i64 0, .int .i64 0] 50))
          have HSV : Hid (∀ i, lv.ownBlock = some i → i < w6.heap.size) := fun i hi => (HT6.out.lo.lt i hi).2
          have hg6 := HT6.out.ord.2.2.2
          clear hr6 hd6 hr7 ho7 HT hx HT6
          go_wp2_with fail
          obtain ⟨gs, hgs⟩ : ∃ gs, w6.heap.size = gs := ⟨_, rfl⟩
          rw [hgs] at HG7 HSV hg6 ⊢
          generalize w6.alloc (.cells #[.int .i64 x, .int .i64 0, .int .i64 0] 50) = w7 at *
          clear hgs
          obtain ⟨a8, hr8, hd8⟩ := HT7.out.rd
          refine (num_from hr8 hd8 4095 (by omega) (by omega)).mono ?_
          rintro e8 w8 ⟨rfl, hr9, ho9⟩
          have hgg := HT7.out.ord
          have HT8 := Lib.hid (HT7.out.num hr9 ho9)
          have HG8 := Lib.hid (ho9.at HG7.out (by omega))
          obtain ⟨y, hy⟩ : ∃ y, rv1 (rd1 (rdL (t4 Cn) q).2 4095) 4095 = y := ⟨_, rfl⟩
          rw [hy]
          have HY := Lib.hid hy
          clear hr8 hd8 hr9 ho9 hy HT7 HG7
          have s1 : w8.cell? ⟨gs, 1, none⟩ = some (.int .i64 0) := cell_of_blk HG8.out rfl
          have s1f : w8.frozen? ⟨gs, 1, none⟩ = false := free_of_blk HG8.out
          have HTE := Lib.hid (HT8.out.far (Only.setCell w8 ⟨gs, 1, none⟩ (.int .i64 y)) (show bl ≤ gs by omega) (fun i hi => HSV.out i hi))
          have HGE : Hid ((w8.setCell ⟨gs, 1, none⟩ (.int .i64 y)).heap[gs]? = some (.cells #[.int .i64 x, .int .i64 y, .int .i64 0] 50 (0, 0))) := set_blk HG8.out
          clear HT8 HG8
          go_wp2_with fail
          generalize w8.setCell ⟨gs, 1, none⟩ (.int .i64 y) = wE at *
          clear s1 s1f
          obtain ⟨a9, hr9, hd9⟩ := HTE.out.rd
          refine (num_from hr9 hd9 1048575 (by omega) (by omega)).mono ?_
          rintro e11 w11 ⟨rfl, hr11, ho11⟩
          have HT11 := Lib.hid (HTE.out.num hr11 ho11)
          have HG11 := Lib.hid (ho11.at HGE.out (by omega))
          obtain ⟨z, hz⟩ : ∃ z, rv1 (rd1 (rd1 (rdL (t4 Cn) q).2 4095) 4095) 1048575 = z := ⟨_, rfl⟩
          rw [hz]
          have HZ := Lib.hid hz
          clear hr9 hd9 hr11 ho11 hz HTE HGE
          have s1 : w11.cell? ⟨gs, 2, none⟩ = some (.int .i64 0) := cell_of_blk HG11.out rfl
          have s1f : w11.frozen? ⟨gs, 2, none⟩ = false := free_of_blk HG11.out
          have HTF9 := Lib.hid (HT11.out.far (Only.setCell w11 ⟨gs, 2, none⟩ (.int .i64 z)) (show bl ≤ gs by omega) (fun i hi => HSV.out i hi))
          have HGF : Hid ((w11.setCell ⟨gs, 2, none⟩ (.int .i64 z)).heap[gs]? = some (.cells #[.int .i64 x, .int .i64 y, .int .i64 z] 50 (0, 0))) := set_blk HG11.out
          clear HT11 HG11 HSV
          go_upto_region 20 with fail
          generalize w11.setCell ⟨gs, 2, none⟩ (.int .i64 z) = wF at *
          clear s1 s1f
          obtain ⟨Ax, cx, rfl, -⟩ := ownr_slice HTF9.out.lo
          have n1 : wF.cell? ⟨gn, 2, none⟩ = some (.slice Ax q cx) := cell_of_blk HTF9.out.nb rfl
          have g0 : wF.cell? ⟨gs, 0, none⟩ = some (.int .i64 x) := cell_of_blk HGF.out rfl
          have g1 : wF.cell? ⟨gs, 1, none⟩ = some (.int .i64 y) := cell_of_blk HGF.out rfl
          have g2 : wF.cell? ⟨gs, 2, none⟩ = some (.int .i64 z) := cell_of_blk HGF.out rfl
          have HTA := Lib.hid (HTF9.out.up ((Below.refl _ _).alloc (Nat.le_refl _) (.cells #[.int .i64 x, .int .i64 y, .int .i64 z] 50)))
          have HNEW := Lib.hid (new_lk wF (x, y, z) 50)
          have hlE := HTF9.out.ord
          go_wp2_with (at_builtin; go_loud (refine push_rec lkS rfl (.tmp 63) (.tmp 65) 23 rfl bl 50 il (.agg #[.int .i64 0, .int .i64 0, .int .i64 0]) 24 Try.underlying23 hil hlz0 rfl hlz1 hlz2 _ q (rdL (t4 Cn) q).1 rfl HTA.out.lo ⟨wF.heap.size, 0, none⟩ (x, y, z) rfl HNEW.out (by omega) (by omega) (by simp; omega) ?_; intro v9 w9 hown9 _ hb9; obtain ⟨A9, c9, rfl, -⟩ := ownr_slice hown9; have HT9 := Lib.hid (HTA.out.app hb9 hown9); have n1b : w9.cell? ⟨gn, 2, none⟩ = some (.slice Ax q cx) := cell_of_blk ((hb9.block _ (by omega)).trans HTA.out.nb) rfl; have n1f : w9.frozen? ⟨gn, 2, none⟩ = false := free_of_blk ((hb9.block _ (by omega)).trans HTA.out.nb); clear hown9 hb9))
          have HEQ : Hid (Tl w g gn bl A1 Cn.length c1 Cn (rdL (t4 Cn) (q + 1)).2 (tV Cn) As j cs (rdS (t2 Cn) j).1 (.slice A9 (q + 1) c9) (q + 1) (rdL (t4 Cn) (q + 1)).1 (w9.setCell ⟨gn, 2, none⟩ (.slice A9 (q + 1) c9))) := by
            have h1 := HT9.out
            rw [← HX.out, ← HY.out, ← HZ.out] at h1
            exact h1
          clear HT9 HX HY HZ
          go_wp2
          go_roundw
          case rel => exact ⟨q + 1, _, by omega, by go_num, HEQ⟩
          case measure => simp [intOf]; omega
        have hqM : q = M := by omega
        subst hqM
        obtain ⟨Al, cl, rfl, hncl, hnil, hcml⟩ := ownr_slice HT.out.lo
        have HLN := Lib.hid (And.intro hncl (And.intro hnil hcml))
        have HS5 : Hid ((rdL (t4 Cn) q).2 = t5 Cn) := by unfold Hid t5; rw [HMM.out]
        have HN5 : Hid (tN Cn = ⟨tV Cn, (rdS (t2 Cn) j).1, (rdL (t4 Cn) q).1⟩) := by unfold Hid tN; rw [HKK.out, HMM.out]
        obtain ⟨N, hN⟩ : ∃ N : Nt, N = ⟨tV Cn, (rdS (t2 Cn) j).1, (rdL (t4 Cn) q).1⟩ := ⟨_, rfl⟩
        rw [← hN] at HN5
        have HNV : Hid (tV Cn = N.ver) := by unfold Hid; rw [hN]
        have HNS : Hid ((rdS (t2 Cn) j).1 = N.st) := by unfold Hid; rw [hN]
        have HNK : Hid ((rdL (t4 Cn) q).1 = N.lk) := by unfold Hid; rw [hN]
        have htl := HT.out
        rw [HNV.out, HNS.out, HNK.out, HS5.out] at htl
        have HT2 := Lib.hid htl
        rw [HN5.out] at HTF2
        clear HT htl hN hncl hnil hcml hlt HS5 HNS HNK HS3
        have e1 := HNV.out
        simp only [e1]
        clear e1
        obtain ⟨dn, hdn⟩ : ∃ d, done (t5 Cn).1 (t5 Cn).2 = d := ⟨_, rfl⟩
        rw [hdn] at HTF2
        have HDN := Lib.hid hdn
        obtain ⟨a12, hr12, hd12⟩ := HT2.out.rd
        clear hdn
        go_wp2_with fail
        refine (done_from hr12 hd12).mono ?_
        rw [HDN.out]
        rintro e12 w12 ⟨rfl, hl12⟩
        have HT3 := Lib.hid (HT2.out.up (like_below hl12))
        clear hr12 hd12 hl12 HT2
        by_cases hd0 : dn ≠ 0
        · have HRE : Hid (r = (.zero, dn)) := by have h1 := HTF2.out; rw [if_pos hd0] at h1; exact h1.symm
          have f1 : ((dn : Int) == 0) = false := beq_eq_false_iff_ne.2 (by omega)
          have f1' : ((dn : Int) != 0) = true := bne_iff_ne.2 (by omega)
          obtain ⟨a13, hr13, hd13⟩ := HT3.out.rd
          clear hd0
          go_wp2_with fail
          refine (done_from hr13 hd13).mono ?_
          rw [HDN.out]
          rintro e13 w13 ⟨rfl, hl13⟩
          have HT4 := Lib.hid (HT3.out.up (like_below hl13))
          clear hr13 hd13 hl13 HT3
          go_wp2_with (((with_reducible show wpList _ _ _ _ _ _); (refine wpList_store_row rfl 25 (.tmp 2) (.tmp 71) rfl w.heap.size #[.int .i64 0, .slice none 0 0, .slice none 0 0] rfl rfl 25 _ HT4.out.res I3.out rfl (by simp [Value.oneCell']) ?_)))
          refine bodyPost_ret (results_cell_one rfl _ _ w.heap.size #[.int .i64 0, .slice none 0 0, .slice none 0 0] rfl (run_loadVar_row _ _ 25 25 _ (0, 0) _ (setRow_heap _ _ _ _ _ _ HT4.out.res) Try.underlying25 rfl I3.out)) rfl ?_
          rw [HTB.out, HRE.out]
          exact ⟨_, _, _, _, _, _, rfl, nat_zero _ _, below_setR HT4.out.bel _⟩
        have hd0' : dn = 0 := by omega
        subst hd0'
        have HTF3 : Hid ((if check N ≠ 0 then (Nt.zero, 2) else (N, 0)) = r) := by have h1 := HTF2.out; rw [if_neg (by omega)] at h1; exact h1
        have hat : NAt w12 w12.heap.size N As j cs Al q cl := ⟨HT3.out.so.more HT3.out.ord.2.2.2, RRow.of_own (S := lkS) HT3.out.lo, HSN.out.2.1, HSN.out.1, HSN.out.2.2, HLN.out.2.1, HLN.out.1, HLN.out.2.2⟩
        have n0 : w12.cell? ⟨gn, 0, none⟩ = some (.int .i64 N.ver) := cell_of_blk HT3.out.nb rfl
        have n1 : w12.cell? ⟨gn, 1, none⟩ = some (.slice As j cs) := cell_of_blk HT3.out.nb rfl
        have n2 : w12.cell? ⟨gn, 2, none⟩ = some (.slice Al q cl) := cell_of_blk HT3.out.nb rfl
        have HAT := Lib.hid hat
        clear hat HTF2 hd0
        go_wp2_with fail
        refine (refcheck_any N As Al j cs q cl w12 HAT.out (by omega) (by omega)).mono ?_
        rintro e14 w14 ⟨rfl, hb14⟩
        have HT4 := Lib.hid (HT3.out.up hb14)
        have HAT4 := Lib.hid (HAT.out.up hb14)
        clear hb14 HT3 HAT n0 n1 n2
        by_cases hck : check N ≠ 0
        · have HRE : Hid (r = (.zero, 2)) := by have h1 := HTF3.out; rw [if_pos hck] at h1; exact h1.symm
          obtain ⟨ck, hck'⟩ : ∃ ck, check N = ck := ⟨_, rfl⟩
          rw [hck'] at hck ⊢
          have f1 : ((ck : Int) == 0) = false := beq_eq_false_iff_ne.2 (by omega)
          have f1' : ((ck : Int) != 0) = true := bne_iff_ne.2 (by omega)
          clear hck hck'
          go_wp2_with (((with_reducible show wpList _ _ _ _ _ _); (refine wpList_store_row rfl 25 (.tmp 2) (.tmp 77) rfl w.heap.size #[.int .i64 0, .slice none 0 0, .slice none 0 0] rfl rfl 25 _ HT4.out.res I3.out rfl (by simp [Value.oneCell']) ?_)))
          refine bodyPost_ret (results_cell_one rfl _ _ w.heap.size #[.int .i64 0, .slice none 0 0, .slice none 0 0] rfl (run_loadVar_row _ _ 25 25 _ (0, 0) _ (setRow_heap _ _ _ _ _ _ HT4.out.res) Try.underlying25 rfl I3.out)) rfl ?_
          rw [HTB.out, HRE.out]
          exact ⟨_, _, _, _, _, _, rfl, nat_zero _ _, below_setR HT4.out.bel _⟩
        have hck' : check N = 0 := by omega
        have HRE : Hid (r = (N, 0)) := by have h1 := HTF3.out; rw [if_neg hck] at h1; exact h1.symm
        rw [hck']
        have n0 : w14.cell? ⟨gn, 0, none⟩ = some (.int .i64 N.ver) := cell_of_blk HT4.out.nb rfl
        have n1 : w14.cell? ⟨gn, 1, none⟩ = some (.slice As j cs) := cell_of_blk HT4.out.nb rfl
        have n2 : w14.cell? ⟨gn, 2, none⟩ = some (.slice Al q cl) := cell_of_blk HT4.out.nb rfl
        have ho := only_setRow w14 w.heap.size #[.int .i64 N.ver, .slice As j cs, .slice Al q cl]
        have hord := HT4.out.ord
        have hsr : NAt (w14.setRow w.heap.size #[.int .i64 N.ver, .slice As j cs, .slice Al q cl]) w14.heap.size N As j cs Al q cl := { HAT4.out with st := HAT4.out.st.only ho (Nat.le_refl _) (fun b o e _ => by have := HT4.out.sg b o e; omega), lk := HAT4.out.lk.only ho (Nat.le_refl _) (fun b o e _ => by subst e; have := (HT4.out.lo.lt b rfl).1; omega) }
        have HSR := Lib.hid (hsr.more ho.size)
        clear hck hck' hsr ho hord
        go_wp2_with (((with_reducible show wpList _ _ _ _ _ _); (refine wpList_store_row rfl 25 (.tmp 2) (.tmp 78) rfl w.heap.size #[.int .i64 N.ver, .slice As j cs, .slice Al q cl] rfl rfl 25 _ HT4.out.res I3.out rfl (by simp [Value.oneCell']) ?_)))
        refine bodyPost_ret (results_cell_one rfl _ _ w.heap.size #[.int .i64 N.ver, .slice As j cs, .slice Al q cl] rfl (run_loadVar_row _ _ 25 25 _ (0, 0) _ (setRow_heap _ _ _ _ _ _ HT4.out.res) Try.underlying25 rfl I3.out)) rfl ?_
        rw [HTB.out, HRE.out]
        exact ⟨_, _, _, _, _, _, rfl, HSR.out, below_setR HT4.out.bel _⟩
end Go.Proofs.Ytdgaaghkhkklpaa.Gf

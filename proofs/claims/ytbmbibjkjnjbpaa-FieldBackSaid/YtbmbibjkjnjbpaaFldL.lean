/- 'written' of layer 3's statements, as a contract: the program's bytes and the document's are the same list. -/
import Derived.Test.YtbmbibjkjnjbpaaFldS
namespace Go.Proofs.Ytbmbibjkjnjbpaa.Fld
open Go.RowKit Var

/-- A field's bytes. -/
def F.enc (f : F) : List Int :=
  if f.kind = 1 then num f.val else if f.kind = 2 then sgn f.val else if f.kind = 3 then [IntKind.u8.wrap f.val] else if f.kind = 4 then num f.n ++ f.bs else []
def enc (fs : List F) : List Int := fs.flatMap F.enc

theorem F.enc_len {f : F} {w : World} {B : Nat} (h : f.ok w B) (hs : f.n ≤ 300) : f.enc.length ≤ 310 := by
  have h1 := num_len h.n2
  have h2 := sgn_len h.n1 h.n2
  have h3 := num_len (k := (f.n : Int)) (by omega)
  have h4 := h.row.len
  unfold F.enc
  split
  · omega
  · split
    · omega
    · split
      · simp
      · split
        · simp; omega
        · simp

theorem enc_len : ∀ {fs : List F}, (∀ f ∈ fs, f.enc.length ≤ 310) → (enc fs).length ≤ 310 * fs.length
  | [], _ => by simp [enc]
  | f :: fs, h => by
    have h1 := h f (by simp)
    have h2 := enc_len (fs := fs) (fun g hg => h g (by simp [hg]))
    simp only [enc, List.flatMap_cons, List.length_append, List.length_cons] at h2 ⊢
    omega

theorem enc_take {fs : List F} {k : Nat} {f : F} (h : fs[k]? = some f) : enc (fs.take (k + 1)) = enc (fs.take k) ++ f.enc := by
  rw [List.take_add_one, h]
  simp [enc]

theorem small_len {fs : List F} (h : smallF fs = true) : (∀ f ∈ fs, f.n ≤ 300) ∧ fs.length ≤ 50 := by
  unfold smallF at h
  rw [Bool.and_eq_true, List.all_eq_true] at h
  exact ⟨fun f hf => by simpa using h.1 f hf, by simpa using h.2⟩

theorem enc_small {fs : List F} {w : World} {B n : Nat} {A : Option Addr} (h : FRow w B A n fs) (hs : smallF fs = true) (k : Nat) : (enc (fs.take k)).length ≤ 15500 := by
  obtain ⟨h1, h2⟩ := small_len hs
  have := enc_len (fs := fs.take k) (fun f hf => F.enc_len (h.2.1 f (List.mem_of_mem_take hf)) (h1 f (List.mem_of_mem_take hf)))
  have h3 : (fs.take k).length ≤ 50 := by simp; omega
  omega

/-- The Writer holds xs, the document's slice zs: both made since w0, in blocks apart. -/
structure Two (w0 w : World) (vw vo : Value) (xs zs : List Int) : Prop where
  wr : Wr w w0.heap.size w0.heap.size vw xs.length xs
  own : w.ownsRow w0.heap.size 5 1 vo zs.length (zs.map (Value.int .u8))
  ap : ∀ b, vw.ownBlock = some b → vo.ownBlock ≠ some b
  og : vo.ownBlock ≠ some w0.heap.size
  bel : Below w0.heap.size w0 w

section
variable {w0 w w1 : World} {vw vo v1 : Value} {xs ys zs : List Int}
theorem Two.below (h : Two w0 w vw vo xs zs) (hb : Below w.heap.size w w1) : Two w0 w1 vw vo xs zs :=
  ⟨h.wr.below hb, own_below h.own hb, h.ap, h.og, h.bel.trans (hb.mono h.bel.size)⟩
theorem Two.alloc (h : Two w0 w vw vo xs zs) (o : Obj) : Two w0 (w.alloc o) vw vo xs zs := h.below ((Below.refl _ _).alloc (Nat.le_refl _) o)
theorem Two.added (h : Two w0 w vw vo xs zs) (hw : Wr w1 w0.heap.size w0.heap.size v1 (xs.length + ys.length) (xs ++ ys)) (hm : Mv w w1 w0.heap.size vw v1) : Two w0 w1 v1 vo (xs ++ ys) zs := by
  refine ⟨by rw [List.length_append]; exact hw, hm.only.own h.own ?_, ?_, h.og, h.bel.trans (h.wr.below_of hm)⟩
  · rintro k hk (rfl | hv)
    · exact h.og hk
    · exact h.ap k hv hk
  · intro b hb hk
    rcases hm.new b hb with h1 | h1
    · exact h.ap b h1 hk
    · have := (h.own.lt b hk).2
      omega
theorem Two.grown (h : Two w0 w vw vo xs zs) (ho : w1.ownsRow w0.heap.size 5 1 v1 (zs.length + ys.length) ((zs ++ ys).map (Value.int .u8))) (hg : w.grownBy w1 vo.ownBlock) (hl : v1.ownBlock = vo.ownBlock ∨ v1.ownBlock = some w.heap.size) : Two w0 w1 vw v1 xs (zs ++ ys) := by
  have hO := Only.of_grown hg
  refine ⟨⟨hO.at h.wr.blk h.og, hO.own h.wr.own (fun k hk => h.ap k hk), h.wr.ne, h.wr.low⟩, by rw [List.length_append]; exact ho, ?_, ?_, h.bel.trans (hO.below h.bel.size (fun k hk => (h.own.lt k hk).1))⟩
  · intro b hb hk
    rcases hl with h1 | h1
    · rw [h1] at hk; exact h.ap b hb hk
    · rw [h1] at hk
      injection hk with hk
      have := (h.wr.own.lt b hb).2
      omega
  · rcases hl with h1 | h1
    · rw [h1]; exact h.og
    · rw [h1]
      intro e
      injection e with e
      have := h.wr.lt
      omega
/-- A block that was made last is as it was behind a Writer's method. -/
theorem Two.kept (h : Two w0 w vw vo xs zs) {o : Obj} (hm : Mv (w.alloc o) w1 w0.heap.size vw v1) : w1.heap[w.heap.size]? = some o := by
  refine hm.only.at (heap_alloc_new w o) ?_
  rintro (e | e)
  · have := h.wr.lt
    omega
  · have := (h.wr.own.lt _ e).2
    omega
theorem Two.start (w : World) : Two w (w.alloc (.cells #[.slice none 0 0] 49)) (.slice none 0 0) (.slice none 0 0) [] [] :=
  ⟨⟨heap_alloc_new w _, World.ownsRow_nil _ _ _ _, by simp [Value.ownBlock], Nat.le_refl _⟩, World.ownsRow_nil _ _ _ _, by simp [Value.ownBlock], by simp [Value.ownBlock], (Below.refl _ _).alloc (Nat.le_refl _) _⟩
end

theorem own_mono {w : World} {base base' n : Nat} {e : TypeId} {v : Value} {xs : List Value} (h : w.ownsRow base e 1 v n xs) (hb : base' ≤ base) : w.ownsRow base' e 1 v n xs := by
  refine ⟨h.1, ?_⟩
  rcases h.2 with h0 | ⟨g, cap, cur, h1, h2, h3⟩
  · exact .inl h0
  · exact .inr ⟨g, cap, cur, h1, Nat.le_trans hb h2, h3⟩

def WrittenTo (w : World) (xs : List Int) (e : Ending) (w' : World) : Prop :=
  ∃ v1 v2, e = .returned (.tuple #[v1, v2]) ∧ w'.ownsRow w.heap.size 5 1 v1 xs.length (xs.map (Value.int .u8)) ∧ w'.ownsRow w.heap.size 5 1 v2 xs.length (xs.map (Value.int .u8)) ∧ Below w.heap.size w w'

set_option maxHeartbeats 1600000 in
set_option maxRecDepth 100000 in
theorem written_any (A : Option Addr) (n c : Nat) (fs : List F) (w : World) (h : FRow w w.heap.size A n fs) (hs : smallF fs = true) :
    Calls Try.prog 8 #[.slice A n c] w (WrittenTo w (enc fs)) := by
  obtain ⟨i0, hi, hz0, hz1, hz2⟩ := info_parts info_u8
  have H := Lib.hid h
  have HS := Lib.hid hs
  have hn : n ≤ 50 := by rw [← h.1]; exact (small_len hs).2
  have HT0 := Lib.hid (Two.start w)
  clear h hs
  go_enter Try.func8, Try.ntmps8
  go_wp2
  go_loopw [5, 12] (fun vo i wr => ∃ (k : Nat) (vw : Value), k ≤ n ∧ i = .int .i64 (k : Int) ∧ Hid (Two w wr vw vo (enc (fs.take k)) (enc (fs.take k)))) (fun _ i _ => n - (intOf i).toNat)
  case atStart => exact ⟨0, _, Nat.zero_le _, rfl, HT0.out⟩
  case round =>
    obtain ⟨k, vw, hk, rfl, HT⟩ := hrel
    by_cases hlt : k < n
    · obtain ⟨b, o, f, rfl, hbl, hf, hok, c0, c1, c2, c3⟩ := (H.out.below HT.out.bel).at hlt
      have hfn : f.n ≤ 300 := (small_len HS.out).1 f (List.mem_of_getElem? hf)
      have hel := enc_small H.out HS.out k
      have HOK := Lib.hid hok
      have HF := Lib.hid hf
      have HTA := Lib.hid (HT.out.alloc (.cells #[.int .i64 f.kind, .int .i64 f.val, .int .i64 f.most, .slice f.A f.n f.c] 38))
      have HE := Lib.hid (enc_take hf)
      clear hok hf
      by_cases h1 : f.kind = 1
      · have hb1 : (f.kind == 1) = true := beq_iff_eq.2 h1
        have HE1 : Hid (f.enc = num f.val) := by unfold Hid F.enc; rw [if_pos h1]
        clear h1
        go_wp2_with fail
        refine (number_any w.heap.size w.heap.size _ vw _ f.val _ HTA.out.wr HOK.out.n2 (by omega)).mono ?_
        rintro e1 w1 ⟨rfl, v1, hw1, hm1⟩
        have hblk := HT.out.kept hm1
        have d1 : w1.cell? ⟨_, 1, none⟩ = some (.int .i64 f.val) := cell_of_blk hblk rfl
        have HT1 := Lib.hid (HTA.out.added hw1 hm1)
        clear hw1 hm1 hblk
        go_wp2_with (first | (go_at_call 27; refine (refnumber_any f.val HOK.out.n2 _).mono ?_; rintro e2 w2 ⟨v2, rfl, hown2, hb2⟩; obtain ⟨A2, c2', rfl, hnil2⟩ := own_nil hown2; have HT2 := Lib.hid (HT1.out.below hb2)) | (at_builtin; refine cat_mine rfl (.tmp 24) (.tmp 27) 25 rfl w.heap.size 5 i0 .u8 1 Try.underlying25 hi hz0 hz1 hz2 _ _ _ rfl HT2.out.own _ A2 _ c2' (num f.val) rfl hnil2 (Row.of_own hown2) (by have := num_len HOK.out.n2; omega) (by omega) HT2.out.bel.size ?_; intro v3 w3 hown3 hg3 hl3; have HT3 := Lib.hid (HT2.out.grown hown3 hg3 hl3); clear hown3 hg3 hl3))
        go_roundw
        case rel => exact ⟨k + 1, v1, by omega, by go_num, by unfold Hid; rw [HE.out, HE1.out]; exact HT3.out⟩
        case measure => simp [intOf]; omega
      have hn1 : (f.kind == 1) = false := beq_eq_false_iff_ne.2 h1
      by_cases h2 : f.kind = 2
      · have hb2' : (f.kind == 2) = true := beq_iff_eq.2 h2
        have HE1 : Hid (f.enc = sgn f.val) := by unfold Hid F.enc; rw [if_neg h1, if_pos h2]
        clear h2
        go_wp2_with fail
        refine (signed_any w.heap.size w.heap.size _ vw _ f.val _ HTA.out.wr HOK.out.n1 HOK.out.n2 (by omega)).mono ?_
        rintro e1 w1 ⟨rfl, v1, hw1, hm1⟩
        have hblk := HT.out.kept hm1
        have d1 : w1.cell? ⟨_, 1, none⟩ = some (.int .i64 f.val) := cell_of_blk hblk rfl
        have HT1 := Lib.hid (HTA.out.added hw1 hm1)
        clear hw1 hm1 hblk
        go_wp2_with (first | (go_at_call 28; refine (refsigned_any f.val HOK.out.n1 HOK.out.n2 _).mono ?_; rintro e2 w2 ⟨v2, rfl, hown2, hb2⟩; obtain ⟨A2, c2', rfl, hnil2⟩ := own_nil hown2; have HT2 := Lib.hid (HT1.out.below hb2)) | (at_builtin; refine cat_mine rfl (.tmp 35) (.tmp 38) 25 rfl w.heap.size 5 i0 .u8 1 Try.underlying25 hi hz0 hz1 hz2 _ _ _ rfl HT2.out.own _ A2 _ c2' (sgn f.val) rfl hnil2 (Row.of_own hown2) (by have := sgn_len HOK.out.n1 HOK.out.n2; omega) (by omega) HT2.out.bel.size ?_; intro v3 w3 hown3 hg3 hl3; have HT3 := Lib.hid (HT2.out.grown hown3 hg3 hl3); clear hown3 hg3 hl3))
        go_roundw
        case rel => exact ⟨k + 1, v1, by omega, by go_num, by unfold Hid; rw [HE.out, HE1.out]; exact HT3.out⟩
        case measure => simp [intOf]; omega
      have hn2 : (f.kind == 2) = false := beq_eq_false_iff_ne.2 h2
      by_cases h3 : f.kind = 3
      · have hb3 : (f.kind == 3) = true := beq_iff_eq.2 h3
        obtain ⟨y, hy⟩ : ∃ y, IntKind.u8.wrap f.val = y := ⟨_, rfl⟩
        have HE1 : Hid (f.enc = [y]) := by unfold Hid F.enc; rw [if_neg h1, if_neg h2, if_pos h3, hy]
        clear h3
        go_wp2_with fail
        refine (byte_any w.heap.size w.heap.size _ vw _ y _ HTA.out.wr (by omega)).mono ?_
        rintro e1 w1 ⟨rfl, v1, hw1, hm1⟩
        have hblk := HT.out.kept hm1
        have d1 : w1.cell? ⟨_, 1, none⟩ = some (.int .i64 f.val) := cell_of_blk hblk rfl
        have HT1 := Lib.hid (HTA.out.added hw1 hm1)
        have HT2 := Lib.hid (HT1.out.alloc (.cells #[.int .u8 y] 5))
        have HO2 := Lib.hid (World.ownsRow_lit (base := w1.heap.size) (e := 5) (size := 1) w1 #[.int .u8 y] 1 (Nat.le_refl _) (by unfold maxLen; omega) rfl)
        clear hw1 hm1 hblk
        go_wp2_with (at_builtin; refine cat_mine rfl (.tmp 47) (.tmp 51) 25 rfl w.heap.size 5 i0 .u8 1 Try.underlying25 hi hz0 hz1 hz2 _ _ _ rfl HT2.out.own _ _ 1 1 [y] rfl (fun h => by cases h) (Row.of_own (xs := [y]) HO2.out) (by omega) (by omega) HT2.out.bel.size ?_; intro v3 w3 hown3 hg3 hl3; have HT3 := Lib.hid (HT2.out.grown (ys := [y]) hown3 hg3 hl3); clear hown3 hg3 hl3)
        go_roundw
        case rel => exact ⟨k + 1, v1, by omega, by go_num, by unfold Hid; rw [HE.out, HE1.out]; exact HT3.out⟩
        case measure => simp [intOf]; omega
      have hn3 : (f.kind == 3) = false := beq_eq_false_iff_ne.2 h3
      by_cases h4 : f.kind = 4
      · have hb4 : (f.kind == 4) = true := beq_iff_eq.2 h4
        obtain ⟨ys, HY⟩ : ∃ ys, Hid (ys = num f.n ++ f.bs) := ⟨_, rfl⟩
        have HE1 : Hid (f.enc = ys) := by unfold Hid F.enc; rw [if_neg h1, if_neg h2, if_neg h3, if_pos h4, HY.out]
        have HYL : Hid (ys.length ≤ 310) := by unfold Hid; rw [HY.out]; have := num_len (k := (f.n : Int)) (by omega); have := HOK.out.row.len; simp; omega
        clear h4
        go_wp2_with fail
        refine (bytes_any w.heap.size w.heap.size _ vw _ f.A f.n f.c f.bs _ HTA.out.wr (HOK.out.row.alloc HT.out.bel.size _) HOK.out.nil (by omega)).mono ?_
        intro e1 w1 q1
        rw [← HY.out] at q1
        obtain ⟨rfl, v1, hw1, hm1⟩ := q1
        have hblk := HT.out.kept hm1
        have d1 : w1.cell? ⟨_, 3, none⟩ = some (.slice f.A f.n f.c) := cell_of_blk hblk rfl
        have HB1 := Lib.hid (HTA.out.wr.below_of hm1)
        have HT1 := Lib.hid (HTA.out.added hw1 hm1)
        clear hw1 hm1 hblk
        go_wp2_with (first | (go_at_call 30; refine (refbytes_any f.A f.n f.c w.heap.size f.bs _ (((HOK.out.row.alloc HT.out.bel.size _).below HB1.out)) HT1.out.bel.size HOK.out.nil (by omega)).mono ?_; intro e2 w2 q2; rw [← HY.out] at q2; obtain ⟨v2, rfl, hown2, hb2⟩ := q2; obtain ⟨A2, c2', rfl, hnil2⟩ := own_nil hown2; have HT2 := Lib.hid (HT1.out.below hb2)) | (at_builtin; refine cat_mine rfl (.tmp 59) (.tmp 62) 25 rfl w.heap.size 5 i0 .u8 1 Try.underlying25 hi hz0 hz1 hz2 _ _ _ rfl HT2.out.own _ A2 _ c2' ys rfl hnil2 (Row.of_own hown2) (by have := HYL.out; omega) (by omega) HT2.out.bel.size ?_; intro v3 w3 hown3 hg3 hl3; have HT3 := Lib.hid (HT2.out.grown hown3 hg3 hl3); clear hown3 hg3 hl3))
        go_roundw
        case rel => exact ⟨k + 1, v1, by omega, by go_num, by unfold Hid; rw [HE.out, HE1.out]; exact HT3.out⟩
        case measure => simp [intOf]; omega
      have hn4 : (f.kind == 4) = false := beq_eq_false_iff_ne.2 h4
      have HE1 : Hid (f.enc = []) := by unfold Hid F.enc; rw [if_neg h1, if_neg h2, if_neg h3, if_neg h4]
      clear h1 h2 h3 h4
      go_wp2
      go_roundw
      case rel => exact ⟨k + 1, vw, by omega, by go_num, by unfold Hid; rw [HE.out, HE1.out, List.append_nil]; exact HTA.out⟩
      case measure => simp [intOf]; omega
    · have HZ : Hid (fs.take k = fs) := by unfold Hid; exact List.take_of_length_le (by rw [H.out.1]; omega)
      rw [HZ.out] at HT
      have hel := enc_small H.out HS.out fs.length
      rw [List.take_length] at hel
      go_wp2_with fail
      refine (out_any w.heap.size w.heap.size _ vw _ _ HT.out.wr (by omega)).mono ?_
      rintro e1 w1 ⟨v1, rfl, hown1, hb1⟩
      have HO1 := Lib.hid hown1
      have HT1 := Lib.hid (HT.out.below hb1)
      have HB := Lib.hid (HT.out.bel.size)
      clear hown1 hb1
      go_wp2
      go_ret2
      exact ⟨v1, _, rfl, own_mono HO1.out HB.out, HT1.out.own, HT1.out.bel⟩
end Go.Proofs.Ytbmbibjkjnjbpaa.Fld

/- The reference's reader of layer 3, as contracts. -/
import Derived.Test.YtefnpibikebmdaaFldG
namespace Go.Proofs.Ytefnpibikebmdaa.Fld
open Go.RowKit Var

/-- The reference's reader behind a pointer: all its bytes, how far it is, the first error. -/
structure Rf (w : World) (g : Nat) (A : Option Addr) (n c at_ e : Nat) : Prop where
  blk : w.heap[g]? = some (.cells #[.slice A n c, .int .i64 (at_ : Int), .int .i64 (e : Int)] 58 (0, 0))

section
variable {w w' : World} {g n c at_ e : Nat} {A : Option Addr}
theorem Rf.c0 (h : Rf w g A n c at_ e) : w.cell? ⟨g, 0, none⟩ = some (.slice A n c) := cell_of_blk h.blk rfl
theorem Rf.c1 (h : Rf w g A n c at_ e) : w.cell? ⟨g, 1, none⟩ = some (.int .i64 (at_ : Int)) := cell_of_blk h.blk rfl
theorem Rf.c2 (h : Rf w g A n c at_ e) : w.cell? ⟨g, 2, none⟩ = some (.int .i64 (e : Int)) := cell_of_blk h.blk rfl
theorem Rf.f1 (h : Rf w g A n c at_ e) : w.frozen? ⟨g, 1, none⟩ = false := free_of_blk h.blk
theorem Rf.f2 (h : Rf w g A n c at_ e) : w.frozen? ⟨g, 2, none⟩ = false := free_of_blk h.blk
theorem Rf.set1 (h : Rf w g A n c at_ e) (k : Nat) : Rf (w.setCell ⟨g, 1, none⟩ (.int .i64 (k : Int))) g A n c k e := ⟨set_blk h.blk⟩
theorem Rf.set2 (h : Rf w g A n c at_ e) (k : Nat) : Rf (w.setCell ⟨g, 2, none⟩ (.int .i64 (k : Int))) g A n c at_ k := ⟨set_blk h.blk⟩
theorem Rf.drew (h : Rf w g A n c at_ e) (q : Nat) : Rf (w.drewN q) g A n c at_ e := ⟨h.blk⟩
end

structure Rfr (w : World) (g N : Nat) (A : Option Addr) (n c : Nat) (bs : List Int) (at_ e : Nat) : Prop where
  rf : Rf w g A n c at_ e
  row : Row .u8 w N A n bs
  low : N ≤ g
  nc : n ≤ c
  le : at_ ≤ n
  nil : A = none → c = 0
  byt : ∀ x ∈ bs, 0 ≤ x ∧ x ≤ 255
  len : n ≤ 4398046511104

theorem Rfr.lt {w : World} {g N n c at_ e : Nat} {A : Option Addr} {bs : List Int} (h : Rfr w g N A n c bs at_ e) : g < w.heap.size := lt_of_block h.rf.blk
theorem Rfr.only {M : Nat → Prop} {w w' : World} {g N n c at_ e : Nat} {A : Option Addr} {bs : List Int} (h : Rfr w g N A n c bs at_ e) (ho : Only M w w') (hg : ¬ M g) (hM : ∀ k, k < N → ¬ M k) : Rfr w' g N A n c bs at_ e :=
  ⟨⟨ho.at h.rf.blk hg⟩, ho.row h.row (by have := h.lt; have := h.low; omega) (fun b _ _ hb => hM b hb), h.low, h.nc, h.le, h.nil, h.byt, h.len⟩
theorem Rfr.set {w w' : World} {g N n c at_ e at' e' : Nat} {A : Option Addr} {bs : List Int} (h : Rfr w g N A n c bs at_ e) (ho : Only (fun k => k = g) w w') (hr : Rf w' g A n c at' e') (ha : at' ≤ n) : Rfr w' g N A n c bs at' e' :=
  ⟨hr, ho.row h.row (by have := h.lt; have := h.low; omega) (fun b _ _ hb e => by have := h.low; omega), h.low, h.nc, ha, h.nil, h.byt, h.len⟩

/-- What raw returns: layer 1's number and size, its error kept. -/
def RawTo (w : World) (g N : Nat) (A : Option Addr) (n c : Nat) (bs : List Int) (at_ : Nat) (r : Ending) (w' : World) : Prop :=
  r = .returned (.tuple #[.int .u64 ((take 0 0 (bs.drop at_)).1 : Int), .int .i64 ((take 0 0 (bs.drop at_)).2.1 : Int)]) ∧ Rfr w' g N A n c bs at_ (take 0 0 (bs.drop at_)).2.2 ∧ Only (fun k => k = g) w w'

set_option maxHeartbeats 1600000 in
set_option maxRecDepth 100000 in
theorem raw_any (g N n c at_ : Nat) (A : Option Addr) (bs : List Int) (w : World) (h : Rfr w g N A n c bs at_ 0) :
    Calls Try.prog 36 #[.pointer (some ⟨g, 0, none⟩)] w (RawTo w g N A n c bs at_) := by
  have HR := Lib.hid h
  have c0 := h.rf.c0
  have c1 := h.rf.c1
  have c2 := h.rf.c2
  have f2 := h.rf.f2
  have hle := h.le
  have hnc := h.nc
  have hlen := h.len
  obtain ⟨t, HT⟩ : ∃ t, Hid (take 0 0 (bs.drop at_) = t) := ⟨_, rfl⟩
  obtain ⟨x, s, er⟩ := t
  have TK : ∀ (A' : Option Addr) (m c' : Nat) (w' : World), Row .u8 w' N A' m (bs.drop at_) → Calls Try.prog 49 #[.slice A' m c'] w' fun e w'' => e = .returned (.tuple #[.int .u64 (x : Int), .int .i64 (s : Int), .int .i64 (er : Int)]) ∧ w'' = w' := by
    intro A' m c' w' hr
    have := reftake_any A' m c' N (bs.drop at_) w' hr (fun y hy => HR.out.byt y (List.mem_of_mem_drop hy))
    rw [HT.out] at this
    exact same_flip this
  have HTK := Lib.hid TK
  clear h TK
  have fin : ∀ q : Nat, (er = 0 → RawTo w g N A n c bs at_ (.returned (.tuple #[.int .u64 (x : Int), .int .i64 (s : Int)])) (w.drewN q)) ∧
      (er ≠ 0 → RawTo w g N A n c bs at_ (.returned (.tuple #[.int .u64 (x : Int), .int .i64 (s : Int)])) ((w.drewN q).setCell ⟨g, 2, none⟩ (.int .i64 (er : Int)))) := by
    intro q
    have hO : Only (fun k => k = g) w (w.drewN q) := ⟨rfl, rfl, rfl, Nat.le_refl _, fun _ _ _ => rfl⟩
    have hO2 : Only (fun k => k = g) w ((w.drewN q).setCell ⟨g, 2, none⟩ (.int .i64 (er : Int))) := hO.trans (Only.setCell _ ⟨g, 2, none⟩ _) (fun _ _ h => h)
    constructor
    · intro he
      unfold RawTo
      rw [HT.out]
      refine ⟨rfl, HR.out.set hO ?_ HR.out.le, hO⟩
      have := HR.out.rf.drew q
      simpa [he] using this
    · intro he
      unfold RawTo
      rw [HT.out]
      exact ⟨rfl, HR.out.set hO2 ((HR.out.rf.drew q).set2 er) HR.out.le, hO2⟩
  have FIN := Lib.hid fin
  clear fin
  rcases Nat.eq_zero_or_pos n with hn0 | hn0
  · subst hn0
    have ha : at_ = 0 := by omega
    subst ha
    have HRow : Hid (Row .u8 w N A (0 - 0) (bs.drop 0)) := by
      have := HR.out.row
      unfold Hid
      simpa using this
    rcases A with _ | a
    · have hc0 := HR.out.nil rfl
      subst hc0
      go_enter Try.func36, Try.ntmps36
      go_wp2_with fail
      go_quiet ((go_at_call 49; refine Calls.quiet_of_same (HTK.out none 0 0 _ HRow.out)))
      by_cases he : er = 0
      · have HE := Lib.hid he
        have hz : ((er : Int) == 0) = true := beq_iff_eq.2 (by omega)
        clear he
        go_wp2
        go_ret2
        exact (FIN.out _).1 HE.out
      · have HE := Lib.hid he
        have hz : ((er : Int) == 0) = false := beq_eq_false_iff_ne.2 (by omega)
        clear he
        go_wp2
        go_ret2
        exact (FIN.out _).2 HE.out
    · by_cases hc0 : c = 0
      · subst hc0
        go_enter Try.func36, Try.ntmps36
        go_wp2_with fail
        go_quiet ((go_at_call 49; refine Calls.quiet_of_same (HTK.out (some a) 0 0 _ HRow.out)))
        by_cases he : er = 0
        · have HE := Lib.hid he
          have hz : ((er : Int) == 0) = true := beq_iff_eq.2 (by omega)
          clear he
          go_wp2
          go_ret2
          exact (FIN.out _).1 HE.out
        · have HE := Lib.hid he
          have hz : ((er : Int) == 0) = false := beq_eq_false_iff_ne.2 (by omega)
          clear he
          go_wp2
          go_ret2
          exact (FIN.out _).2 HE.out
      · go_enter Try.func36, Try.ntmps36
        go_wp2_with fail
        go_quiet ((go_at_call 49; refine Calls.quiet_of_same (HTK.out (some a) 0 c _ HRow.out)))
        by_cases he : er = 0
        · have HE := Lib.hid he
          have hz : ((er : Int) == 0) = true := beq_iff_eq.2 (by omega)
          clear he
          go_wp2
          go_ret2
          exact (FIN.out _).1 HE.out
        · have HE := Lib.hid he
          have hz : ((er : Int) == 0) = false := beq_eq_false_iff_ne.2 (by omega)
          clear he
          go_wp2
          go_ret2
          exact (FIN.out _).2 HE.out
  · obtain ⟨b, o, rfl⟩ := Row.some_of HR.out.row hn0
    have HRow : Hid (∀ o', (n - at_ ≠ 0 → o' = o + at_) → Row .u8 w N (some ⟨b, o', none⟩) (n - at_) (bs.drop at_)) := fun o' ho => Row.drop HR.out.row ho
    by_cases hc0 : c = at_
    · have hz0 : n - at_ = 0 := by omega
      have hna : at_ = n := by omega
      have HR0 : Hid (Row .u8 w N (some ⟨b, o, none⟩) 0 (bs.drop at_)) := by
        have := HRow.out o (fun h => absurd hz0 h)
        rw [hz0] at this
        exact this
      subst hna
      subst hc0
      clear hz0 HRow
      go_enter Try.func36, Try.ntmps36
      go_wp2_with fail
      go_quiet ((go_at_call 49; refine Calls.quiet_of_same (HTK.out (some ⟨b, o, none⟩) 0 0 _ HR0.out)))
      by_cases he : er = 0
      · have HE := Lib.hid he
        have hz : ((er : Int) == 0) = true := beq_iff_eq.2 (by omega)
        clear he
        go_wp2
        go_ret2
        exact (FIN.out _).1 HE.out
      · have HE := Lib.hid he
        have hz : ((er : Int) == 0) = false := beq_eq_false_iff_ne.2 (by omega)
        clear he
        go_wp2
        go_ret2
        exact (FIN.out _).2 HE.out
    · have HR0 : Hid (Row .u8 w N (some ⟨b, o + at_, none⟩) (n - at_) (bs.drop at_)) := HRow.out (o + at_) (fun _ => rfl)
      go_enter Try.func36, Try.ntmps36
      go_wp2_with fail
      go_quiet ((go_at_call 49; refine Calls.quiet_of_same (HTK.out (some ⟨b, o + at_, none⟩) (n - at_) (c - at_) _ HR0.out)))
      by_cases he : er = 0
      · have HE := Lib.hid he
        have hz : ((er : Int) == 0) = true := beq_iff_eq.2 (by omega)
        clear he
        go_wp2
        go_ret2
        exact (FIN.out _).1 HE.out
      · have HE := Lib.hid he
        have hz : ((er : Int) == 0) = false := beq_eq_false_iff_ne.2 (by omega)
        clear he
        go_wp2
        go_ret2
        exact (FIN.out _).2 HE.out
end Go.Proofs.Ytefnpibikebmdaa.Fld

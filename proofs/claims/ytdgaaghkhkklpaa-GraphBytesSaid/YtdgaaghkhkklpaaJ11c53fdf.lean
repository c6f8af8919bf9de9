/- Lemmas that the proof stands on, in build order: FldX FldY FldVr FldEd FldV FldN0. -/
import Derived.Test.YtdgaaghkhkklpaaJ10c82568
import Derived.Test.YtdgaaghkhkklpaaJ9975adb
/- The reference's reader of layer 3, as contracts. -/
namespace Go.Proofs.Ytdgaaghkhkklpaa.Fld
open Go.RowKit Var

/-- The reference's reader behind a pointer: all its bytes, how far it is, the first error. -/
structure Rf (w : World) (g : Nat) (A : Option Addr) (n c at_ e : Nat) : Prop where
  blk : w.heap[g]? = some (.cells #[.slice A n c, .int .i64 (at_ : Int), .int .i64 (e : Int)] 101 (0, 0))

section
variable {w w' : World} {g n c at_ e : Nat} {A : Option Addr}
theorem Rf.c0 (h : Rf w g A n c at_ e) : w.cell? ⟨g, 0, none⟩ = some (.slice A n c) := cell_of_blk h.blk rfl
theorem Rf.c1 (h : Rf w g A n c at_ e) : w.cell? ⟨g, 1, none⟩ = some (.int .i64 (at_ : Int)) := cell_of_blk h.blk rfl
theorem Rf.c2 (h : Rf w g A n c at_ e) : w.cell? ⟨g, 2, none⟩ = some (.int .i64 (e : Int)) := cell_of_blk h.blk rfl
theorem Rf.f1 (h : Rf w g A n c at_ e) : w.frozen? ⟨g, 1, none⟩ = false := free_of_blk h.blk
theorem Rf.f2 (h : Rf w g A n c at_ e) : w.frozen? ⟨g, 2, none⟩ = false := free_of_blk h.blk
theorem Rf.set1 (h : Rf w g A n c at_ e) (k : Nat) : Rf (w.setCell ⟨g, 1, none⟩ (.int .i64 (k : Int))) g A n c k e := ⟨set_blk h.blk⟩
theorem Rf.set2 (h : Rf w g A n c at_ e) (k : Nat) : Rf (w.setCell ⟨g, 2, none⟩ (.int .i64 (k : Int))) g A n c at_ k := ⟨set_blk h.blk⟩
theorem Rf.drew (h : Rf w g A n c at_ e) (q : Nat) : Rf (w.drewN q) g A n c at_ e := ⟨h.blk⟩
end

structure Rfr (w : World) (g N : Nat) (A : Option Addr) (n c : Nat) (bs : List Int) (at_ e : Nat) : Prop where
  rf : Rf w g A n c at_ e
  row : Row .u8 w N A n bs
  low : N ≤ g
  nc : n ≤ c
  le : at_ ≤ n
  nil : A = none → c = 0
  byt : ∀ x ∈ bs, 0 ≤ x ∧ x ≤ 255
  len : n ≤ 4398046511104

theorem Rfr.lt {w : World} {g N n c at_ e : Nat} {A : Option Addr} {bs : List Int} (h : Rfr w g N A n c bs at_ e) : g < w.heap.size := lt_of_block h.rf.blk
theorem Rfr.only {M : Nat → Prop} {w w' : World} {g N n c at_ e : Nat} {A : Option Addr} {bs : List Int} (h : Rfr w g N A n c bs at_ e) (ho : Only M w w') (hg : ¬ M g) (hM : ∀ k, k < N → ¬ M k) : Rfr w' g N A n c bs at_ e :=
  ⟨⟨ho.at h.rf.blk hg⟩, ho.row h.row (by have := h.lt; have := h.low; omega) (fun b _ _ hb => hM b hb), h.low, h.nc, h.le, h.nil, h.byt, h.len⟩
theorem Rfr.set {w w' : World} {g N n c at_ e at' e' : Nat} {A : Option Addr} {bs : List Int} (h : Rfr w g N A n c bs at_ e) (ho : Only (fun k => k = g) w w') (hr : Rf w' g A n c at' e') (ha : at' ≤ n) : Rfr w' g N A n c bs at' e' :=
  ⟨hr, ho.row h.row (by have := h.lt; have := h.low; omega) (fun b _ _ hb e => by have := h.low; omega), h.low, h.nc, ha, h.nil, h.byt, h.len⟩

/-- What raw returns: layer 1's number and size, its error kept. -/
def RawTo (w : World) (g N : Nat) (A : Option Addr) (n c : Nat) (bs : List Int) (at_ : Nat) (r : Ending) (w' : World) : Prop :=
  r = .returned (.tuple #[.int .u64 ((take 0 0 (bs.drop at_)).1 : Int), .int .i64 ((take 0 0 (bs.drop at_)).2.1 : Int)]) ∧ Rfr w' g N A n c bs at_ (take 0 0 (bs.drop at_)).2.2 ∧ Only (fun k => k = g) w w'

set_option maxHeartbeats 1600000 in
set_option maxRecDepth 100000 in
theorem raw_any (g N n c at_ : Nat) (A : Option Addr) (bs : List Int) (w : World) (h : Rfr w g N A n c bs at_ 0) :
    Calls Try.prog 59 #[.pointer (some ⟨g, 0, none⟩)] w (RawTo w g N A n c bs at_) := by
  have HR := Lib.hid h
  have c0 := h.rf.c0
  have c1 := h.rf.c1
  have c2 := h.rf.c2
  have f2 := h.rf.f2
  have hle := h.le
  have hnc := h.nc
  have hlen := h.len
  obtain ⟨t, HT⟩ : ∃ t, Hid (take 0 0 (bs.drop at_) = t) := ⟨_, rfl⟩
  obtain ⟨x, s, er⟩ := t
  have TK : ∀ (A' : Option Addr) (m c' : Nat) (w' : World), Row .u8 w' N A' m (bs.drop at_) → Calls Try.prog 70 #[.slice A' m c'] w' fun e w'' => e = .returned (.tuple #[.int .u64 (x : Int), .int .i64 (s : Int), .int .i64 (er : Int)]) ∧ w'' = w' := by
    intro A' m c' w' hr
    have := reftake_any A' m c' N (bs.drop at_) w' hr (fun y hy => HR.out.byt y (List.mem_of_mem_drop hy))
    rw [HT.out] at this
    exact same_flip this
  have HTK := Lib.hid TK
  clear h TK
  have fin : ∀ q : Nat, (er = 0 → RawTo w g N A n c bs at_ (.returned (.tuple #[.int .u64 (x : Int), .int .i64 (s : Int)])) (w.drewN q)) ∧
      (er ≠ 0 → RawTo w g N A n c bs at_ (.returned (.tuple #[.int .u64 (x : Int), .int .i64 (s : Int)])) ((w.drewN q).setCell ⟨g, 2, none⟩ (.int .i64 (er : Int)))) := by
    intro q
    have hO : Only (fun k => k = g) w (w.drewN q) := ⟨rfl, rfl, rfl, Nat.le_refl _, fun _ _ _ => rfl⟩
    have hO2 : Only (fun k => k = g) w ((w.drewN q).setCell ⟨g, 2, none⟩ (.int .i64 (er : Int))) := hO.trans (Only.setCell _ ⟨g, 2, none⟩ _) (fun _ _ h => h)
    constructor
    · intro he
      unfold RawTo
      rw [HT.out]
      refine ⟨rfl, HR.out.set hO ?_ HR.out.le, hO⟩
      have := HR.out.rf.drew q
      simpa [he] using this
    · intro he
      unfold RawTo
      rw [HT.out]
      exact ⟨rfl, HR.out.set hO2 ((HR.out.rf.drew q).set2 er) HR.out.le, hO2⟩
  have FIN := Lib.hid fin
  clear fin
  rcases Nat.eq_zero_or_pos n with hn0 | hn0
  · subst hn0
    have ha : at_ = 0 := by omega
    subst ha
    have HRow : Hid (Row .u8 w N A (0 - 0) (bs.drop 0)) := by
      have := HR.out.row
      unfold Hid
      simpa using this
    rcases A with _ | a
    · have hc0 := HR.out.nil rfl
      subst hc0
      go_enter Try.func59, Try.ntmps59
      go_wp2_with fail
      go_quiet ((go_at_call 70; refine Calls.quiet_of_same (HTK.out none 0 0 _ HRow.out)))
      by_cases he : er = 0
      · have HE := Lib.hid he
        have hz : ((er : Int) == 0) = true := beq_iff_eq.2 (by omega)
        clear he
        go_wp2
        go_ret2
        exact (FIN.out _).1 HE.out
      · have HE := Lib.hid he
        have hz : ((er : Int) == 0) = false := beq_eq_false_iff_ne.2 (by omega)
        clear he
        go_wp2
        go_ret2
        exact (FIN.out _).2 HE.out
    · by_cases hc0 : c = 0
      · subst hc0
        go_enter Try.func59, Try.ntmps59
        go_wp2_with fail
        go_quiet ((go_at_call 70; refine Calls.quiet_of_same (HTK.out (some a) 0 0 _ HRow.out)))
        by_cases he : er = 0
        · have HE := Lib.hid he
          have hz : ((er : Int) == 0) = true := beq_iff_eq.2 (by omega)
          clear he
          go_wp2
          go_ret2
          exact (FIN.out _).1 HE.out
        · have HE := Lib.hid he
          have hz : ((er : Int) == 0) = false := beq_eq_false_iff_ne.2 (by omega)
          clear he
          go_wp2
          go_ret2
          exact (FIN.out _).2 HE.out
      · go_enter Try.func59, Try.ntmps59
        go_wp2_with fail
        go_quiet ((go_at_call 70; refine Calls.quiet_of_same (HTK.out (some a) 0 c _ HRow.out)))
        by_cases he : er = 0
        · have HE := Lib.hid he
          have hz : ((er : Int) == 0) = true := beq_iff_eq.2 (by omega)
          clear he
          go_wp2
          go_ret2
          exact (FIN.out _).1 HE.out
        · have HE := Lib.hid he
          have hz : ((er : Int) == 0) = false := beq_eq_false_iff_ne.2 (by omega)
          clear he
          go_wp2
          go_ret2
          exact (FIN.out _).2 HE.out
  · obtain ⟨b, o, rfl⟩ := Row.some_of HR.out.row hn0
    have HRow : Hid (∀ o', (n - at_ ≠ 0 → o' = o + at_) → Row .u8 w N (some ⟨b, o', none⟩) (n - at_) (bs.drop at_)) := fun o' ho => Row.drop HR.out.row ho
    by_cases hc0 : c = at_
    · have hz0 : n - at_ = 0 := by omega
      have hna : at_ = n := by omega
      have HR0 : Hid (Row .u8 w N (some ⟨b, o, none⟩) 0 (bs.drop at_)) := by
        have := HRow.out o (fun h => absurd hz0 h)
        rw [hz0] at this
        exact this
      subst hna
      subst hc0
      clear hz0 HRow
      go_enter Try.func59, Try.ntmps59
      go_wp2_with fail
      go_quiet ((go_at_call 70; refine Calls.quiet_of_same (HTK.out (some ⟨b, o, none⟩) 0 0 _ HR0.out)))
      by_cases he : er = 0
      · have HE := Lib.hid he
        have hz : ((er : Int) == 0) = true := beq_iff_eq.2 (by omega)
        clear he
        go_wp2
        go_ret2
        exact (FIN.out _).1 HE.out
      · have HE := Lib.hid he
        have hz : ((er : Int) == 0) = false := beq_eq_false_iff_ne.2 (by omega)
        clear he
        go_wp2
        go_ret2
        exact (FIN.out _).2 HE.out
    · have HR0 : Hid (Row .u8 w N (some ⟨b, o + at_, none⟩) (n - at_) (bs.drop at_)) := HRow.out (o + at_) (fun _ => rfl)
      go_enter Try.func59, Try.ntmps59
      go_wp2_with fail
      go_quiet ((go_at_call 70; refine Calls.quiet_of_same (HTK.out (some ⟨b, o + at_, none⟩) (n - at_) (c - at_) _ HR0.out)))
      by_cases he : er = 0
      · have HE := Lib.hid he
        have hz : ((er : Int) == 0) = true := beq_iff_eq.2 (by omega)
        clear he
        go_wp2
        go_ret2
        exact (FIN.out _).1 HE.out
      · have HE := Lib.hid he
        have hz : ((er : Int) == 0) = false := beq_eq_false_iff_ne.2 (by omega)
        clear he
        go_wp2
        go_ret2
        exact (FIN.out _).2 HE.out
end Go.Proofs.Ytdgaaghkhkklpaa.Fld

/- The reference's reader of layer 3: its methods, as contracts. -/
namespace Go.Proofs.Ytdgaaghkhkklpaa.Fld
open Go.RowKit Var

def RefSteps (w : World) (g N : Nat) (A : Option Addr) (n c : Nat) (bs : List Int) (at_ e : Nat) (k : IntKind) (t : Int × Nat × Nat) (r : Ending) (w' : World) : Prop :=
  r = .returned (.int k (val e t)) ∧ (∃ at', Rfr w' g N A n c bs at' (after (bs.drop at_) e t.2.1 t.2.2).2 ∧ bs.drop at' = (after (bs.drop at_) e t.2.1 t.2.2).1) ∧ Only (fun k => k = g) w w'

section
variable {w w1 w' : World} {g N n c at_ e : Nat} {A : Option Addr} {bs : List Int} {k : IntKind} {t : Int × Nat × Nat}
theorem refsteps_bad (h : Rfr w g N A n c bs at_ e) (he : e ≠ 0) : RefSteps w g N A n c bs at_ e k t (.returned (.int k 0)) w := by
  have e1 : after (bs.drop at_) e t.2.1 t.2.2 = (bs.drop at_, e) := by unfold after; rw [if_pos he]
  unfold RefSteps
  rw [e1]
  exact ⟨by unfold val; rw [if_pos (.inl he)], ⟨at_, h, rfl⟩, Only.refl _ _⟩
theorem refsteps_err {er : Nat} (h : Rfr w' g N A n c bs at_ er) (ht : t.2.2 = er) (he : er ≠ 0) (ho : Only (fun k => k = g) w w') : RefSteps w g N A n c bs at_ 0 k t (.returned (.int k 0)) w' := by
  have e1 : after (bs.drop at_) 0 t.2.1 t.2.2 = (bs.drop at_, er) := by unfold after; rw [if_neg (by simp), if_pos (by rw [ht]; exact he), ht]
  unfold RefSteps
  rw [e1]
  exact ⟨by unfold val; rw [if_pos (.inr (by rw [ht]; exact he))], ⟨at_, h, rfl⟩, ho⟩
theorem refsteps_ok {s : Nat} {x : Int} (h : Rfr w' g N A n c bs (at_ + s) 0) (ht : t = (x, s, 0)) (ho : Only (fun k => k = g) w w') : RefSteps w g N A n c bs at_ 0 k t (.returned (.int k x)) w' := by
  subst ht
  refine ⟨by simp [val], ⟨at_ + s, by simpa [after] using h, by simp [after]⟩, ho⟩
end

set_option maxHeartbeats 800000 in
set_option maxRecDepth 100000 in
theorem raw_bad (g n c at_ e : Nat) (A : Option Addr) (w : World) (h : Rf w g A n c at_ e) (he : e ≠ 0) :
    Calls Try.prog 59 #[.pointer (some ⟨g, 0, none⟩)] w fun r w' => r = .returned (.tuple #[.int .u64 0, .int .i64 0]) ∧ w = w' := by
  have c2 := h.c2
  have hne : ((e : Int) == 0) = false := beq_eq_false_iff_ne.2 (by omega)
  clear h he
  go_enter Try.func59, Try.ntmps59
  go_wp2
  go_ret2
  exact ⟨rfl, rfl⟩

theorem nxt_err {xs : List Int} {most : Int} {x s er : Nat} (h : take 0 0 xs = (x, s, er)) (he : er ≠ 0) : (nxt xs most).2.2 = er := by unfold nxt; rw [h]; simp [he]
theorem nxt_abv {xs : List Int} {most : Int} {x s : Nat} (h : take 0 0 xs = (x, s, 0)) (ha : abv x most = true) : (nxt xs most).2.2 = 3 := by unfold nxt; rw [h]; simp [ha]
theorem nxt_fin {xs : List Int} {most : Int} {x s : Nat} (h : take 0 0 xs = (x, s, 0)) (ha : abv x most = false) : nxt xs most = ((x : Int), s, 0) := by unfold nxt; rw [h]; simp [ha]

set_option maxHeartbeats 1600000 in
set_option maxRecDepth 100000 in
theorem refnum_any (g N n c at_ e : Nat) (A : Option Addr) (bs : List Int) (most : Int) (w : World) (h : Rfr w g N A n c bs at_ e) (h1 : -9223372036854775808 ≤ most) (h2 : most ≤ 9223372036854775807) :
    Calls Try.prog 34 #[.pointer (some ⟨g, 0, none⟩), .int .i64 most] w (RefSteps w g N A n c bs at_ e .i64 (nxt (bs.drop at_) most)) := by
  have HR := Lib.hid h
  have H1 := Lib.hid h1
  have H2 := Lib.hid h2
  have hbyt : ∀ y ∈ bs.drop at_, 0 ≤ y ∧ y ≤ 255 := fun y hy => h.byt y (List.mem_of_mem_drop hy)
  have H64 := Lib.hid (take64 hbyt)
  have HSZ := Lib.hid (take_size hbyt)
  have HL : Hid ((bs.drop at_).length = n - at_) := by unfold Hid; rw [List.length_drop, h.row.len]
  clear h h1 h2 hbyt
  by_cases he : e = 0
  · subst he
    obtain ⟨t, HT⟩ : ∃ t, Hid (take 0 0 (bs.drop at_) = t) := ⟨_, rfl⟩
    obtain ⟨x, s, er⟩ := t
    rw [HT.out] at H64 HSZ
    go_enter Try.func34, Try.ntmps34
    go_wp2_with fail
    refine (raw_any g N n c at_ A bs w HR.out).mono ?_
    rintro r w1 ⟨rfl, hr1, ho1⟩
    rw [HT.out] at hr1
    rw [HT.out]
    have HR1 := Lib.hid hr1
    have HO1 := Lib.hid ho1
    have d1 := hr1.rf.c1
    have g1 := hr1.rf.f1
    have d2 := hr1.rf.c2
    have g2 := hr1.rf.f2
    clear hr1 ho1
    by_cases her : er = 0
    · subst her
      obtain ⟨s0, s1⟩ := HSZ.out rfl
      have s2 : at_ + s ≤ n := by have := HL.out; have := HR.out.le; omega
      have s3 : n ≤ 4398046511104 := HR.out.len
      clear s0 s1
      have HS2 := Lib.hid s2
      have hw0 : IntKind.i64.wrap ((at_ : Int) + s) = (at_ : Int) + s := IntWalk.i64_in _ ⟨by omega, by omega⟩
      cases ha : abv x most with
      | true =>
        have fin : ∀ r w2, r = Ending.returned (.int .i64 0) → w2 = w1.setCell ⟨g, 2, none⟩ (.int .i64 3) → RefSteps w g N A n c bs at_ 0 .i64 (nxt (bs.drop at_) most) r w2 := by
          rintro r w2 rfl rfl
          have hO := HO1.out.trans (Only.setCell w1 ⟨g, 2, none⟩ (.int .i64 3)) (fun _ _ h => h)
          exact refsteps_err (HR1.out.set (Only.setCell w1 ⟨g, 2, none⟩ _) (HR1.out.rf.set2 3) HR1.out.le) (nxt_abv HT.out ha) (by omega) hO
        have FIN := Lib.hid fin
        clear fin s2
        by_cases hm : most < 0
        · have hd : decide (most < 0) = true := decide_eq_true hm
          go_wp2
          go_ret
          exact FIN.out _ _ rfl rfl
        · have hd : decide (most < 0) = false := decide_eq_false hm
          have hw : IntKind.u64.wrap most = most := IntWalk.u64_in _ ⟨by omega, by have := H2.out; omega⟩
          by_cases hx : most < (x : Int)
          · have hd2 : decide (most < (x : Int)) = true := decide_eq_true hx
            go_wp2
            go_ret
            exact FIN.out _ _ rfl rfl
          · have hd2 : decide (most < (x : Int)) = false := decide_eq_false hx
            have hx3 : (4611686018427387904 : Int) < (x : Int) := by
              unfold abv at ha
              simp [hd, hd2] at ha
              omega
            have hd3 : decide ((4611686018427387904 : Int) < (x : Int)) = true := decide_eq_true hx3
            go_wp2
            go_ret
            exact FIN.out _ _ rfl rfl
      | false =>
        obtain ⟨a1, a2, a3⟩ := abv_no ha
        have hd : decide (most < 0) = false := decide_eq_false (by omega)
        have hd2 : decide (most < (x : Int)) = false := decide_eq_false (by omega)
        have hd3 : decide ((4611686018427387904 : Int) < (x : Int)) = false := decide_eq_false (by omega)
        have hw : IntKind.u64.wrap most = most := IntWalk.u64_in _ ⟨by omega, by have := H2.out; omega⟩
        have hw2 : IntKind.i64.wrap (x : Int) = x := IntWalk.i64_in _ ⟨by omega, by omega⟩
        have HF := Lib.hid (nxt_fin HT.out ha)
        clear a3 s2
        go_wp2
        go_ret
        have e1 : (at_ : Int) + s = ((at_ + s : Nat) : Int) := by omega
        refine refsteps_ok ?_ HF.out (HO1.out.trans (Only.setCell w1 ⟨g, 1, none⟩ _) (fun _ _ h => h))
        refine HR1.out.set (Only.setCell w1 ⟨g, 1, none⟩ _) ?_ HS2.out
        rw [e1]
        exact HR1.out.rf.set1 (at_ + s)
    · have hne : ((er : Int) == 0) = false := beq_eq_false_iff_ne.2 (by omega)
      have HF := Lib.hid (nxt_err (most := most) HT.out her)
      have HE := Lib.hid her
      clear her
      go_wp2
      go_ret
      exact refsteps_err HR1.out HF.out HE.out HO1.out
  · have hne : ((e : Int) == 0) = false := beq_eq_false_iff_ne.2 (by omega)
    have c2 := HR.out.rf.c2
    have HE := Lib.hid he
    clear he
    go_enter Try.func34, Try.ntmps34
    go_wp2_with fail
    refine (raw_bad g n c at_ e A w HR.out.rf HE.out).mono ?_
    rintro r w1 ⟨rfl, rfl⟩
    go_wp2
    go_ret
    exact refsteps_bad HR.out HE.out
end Go.Proofs.Ytdgaaghkhkklpaa.Fld

/- The reference's reader of layer 3: Read, as a contract. -/
namespace Go.Proofs.Ytdgaaghkhkklpaa.Fld
open Go.RowKit Var

set_option maxHeartbeats 800000 in
set_option maxRecDepth 100000 in
theorem refread_any (A : Option Addr) (n c : Nat) (bs : List Int) (N : Nat) (w : World) (h : Row .u8 w N A n bs) (hN : N ≤ w.heap.size) (hnc : n ≤ c) (hnil : A = none → c = 0) (hn : n ≤ 4398046511104) (hbyt : ∀ x ∈ bs, 0 ≤ x ∧ x ≤ 255) :
    Calls Try.prog 33 #[.slice A n c] w fun r w' => r = .returned (.pointer (some ⟨w.heap.size, 0, none⟩)) ∧ Rfr w' w.heap.size N A n c bs 0 0 ∧ Below w.heap.size w w' := by
  have H := Lib.hid h
  have HN := Lib.hid hN
  have HC := Lib.hid hnc
  have HI := Lib.hid hnil
  have HY := Lib.hid hbyt
  have HL := Lib.hid hn
  clear h hN hnc hnil hbyt hn
  go_enter Try.func33, Try.ntmps33
  go_wp2
  go_ret
  exact ⟨rfl, ⟨⟨heap_alloc_new w _⟩, H.out.alloc HN.out _, HN.out, HC.out, Nat.zero_le _, HI.out, HY.out, HL.out⟩, (Below.refl _ _).alloc (Nat.le_refl _) _⟩
end Go.Proofs.Ytdgaaghkhkklpaa.Fld

/- Layer 3's Reader: Done, as a contract. -/
namespace Go.Proofs.Ytdgaaghkhkklpaa.Fld
open Go.RowKit Var

/-- What Done returns. -/
def done (xs : List Int) (e : Nat) : Nat := if e ≠ 0 then e else if xs.length = 0 then 0 else 13

set_option maxHeartbeats 800000 in
set_option maxRecDepth 100000 in
theorem doneR (g e : Nat) (xs : List Int) (w : World) (h : Rdr w g xs e) : Calls Try.prog 31 #[.pointer (some ⟨g, 0, none⟩)] w fun r w' => r = .returned (.int .i64 (done xs e : Int)) ∧ w = w' := by
  obtain ⟨A, n, c, hrd, hrow, _⟩ := h.ex
  have HRD := Lib.hid hrd
  have HL := Lib.hid hrow.len
  have d1 := hrd.c1
  clear h hrow hrd
  go_enter Try.func31, Try.ntmps31
  go_wp2_with fail
  refine (error_any g n c A e w HRD.out).mono ?_
  rintro r w' ⟨rfl, rfl⟩
  by_cases he : e = 0
  · subst he
    by_cases hn : n = 0
    · subst hn
      go_wp2
      go_ret
      exact ⟨ret_int (by unfold done; rw [HL.out]; simp), rfl⟩
    · have hne : ((n : Int) == 0) = false := beq_eq_false_iff_ne.2 (by omega)
      go_wp2
      go_ret
      exact ⟨ret_int (by unfold done; rw [HL.out]; simp [hn]), rfl⟩
  · have hne : ((e : Int) == 0) = false := beq_eq_false_iff_ne.2 (by omega)
    go_wp2
    go_ret
    exact ⟨ret_int (by unfold done; simp [he]), rfl⟩

set_option maxHeartbeats 800000 in
set_option maxRecDepth 100000 in
theorem doneR_nil (w : World) : Calls Try.prog 31 #[.pointer none] w fun r w' => r = .returned (.int .i64 1) ∧ w = w' := by
  go_enter Try.func31, Try.ntmps31
  go_wp2_with fail
  refine (error_nil w).mono ?_
  rintro r w' ⟨rfl, rfl⟩
  go_wp2
  go_ret
  exact ⟨rfl, rfl⟩

end Go.Proofs.Ytdgaaghkhkklpaa.Fld

/- The reference's reader of layer 3: Byte, Bytes, Done, Read, as contracts. -/
namespace Go.Proofs.Ytdgaaghkhkklpaa.Fld
open Go.RowKit Var

theorem drop_at {bs : List Int} {k : Nat} (h : k < bs.length) : bs.drop k = bs.getD k 0 :: bs.drop (k + 1) := by
  rw [List.drop_eq_getElem_cons h]
  simp [List.getD, h]

/-- A world that is another one but for its draws. -/
structure Like (w w' : World) : Prop where
  heap : w'.heap = w.heap
  os : w'.os = w.os
  tape : w'.tape = w.tape
  output : w'.output = w.output
theorem Like.only {M : Nat → Prop} {w w1 w' : World} (h : Like w1 w') (ho : Only M w w1) : Only M w w' :=
  ⟨h.os.trans ho.os, h.tape.trans ho.tape, h.output.trans ho.output, by rw [h.heap]; exact ho.size, fun k hk hn => by rw [h.heap]; exact ho.block k hk hn⟩
theorem Like.rf {w w' : World} {g n c at_ e : Nat} {A : Option Addr} (h : Like w w') (hr : Rf w g A n c at_ e) : Rf w' g A n c at_ e := ⟨by rw [h.heap]; exact hr.blk⟩

section
variable {w w' : World} {g N n c at_ s er : Nat} {A : Option Addr} {bs : List Int} {k : IntKind} {t : Int × Nat × Nat} {x : Int}
theorem ref_like_err (h : Rfr w g N A n c bs at_ 0) (hl : Like (w.setCell ⟨g, 2, none⟩ (.int .i64 (er : Int))) w') (ht : t.2.2 = er) (he : er ≠ 0) : RefSteps w g N A n c bs at_ 0 k t (.returned (.int k 0)) w' := by
  have hO := hl.only (Only.setCell w ⟨g, 2, none⟩ (.int .i64 (er : Int)))
  exact refsteps_err (h.set hO (hl.rf (h.rf.set2 er)) h.le) ht he hO
theorem ref_like_ok (h : Rfr w g N A n c bs at_ 0) (hl : Like (w.setCell ⟨g, 1, none⟩ (.int .i64 ((at_ + s : Nat) : Int))) w') (ht : t = (x, s, 0)) (hs : at_ + s ≤ n) : RefSteps w g N A n c bs at_ 0 k t (.returned (.int k x)) w' := by
  have hO := hl.only (Only.setCell w ⟨g, 1, none⟩ (.int .i64 ((at_ + s : Nat) : Int)))
  exact refsteps_ok (h.set hO (hl.rf (h.rf.set1 (at_ + s))) hs) ht hO
end

set_option maxHeartbeats 1600000 in
set_option maxRecDepth 100000 in
theorem refdone_any (g N n c at_ e : Nat) (A : Option Addr) (bs : List Int) (w : World) (h : Rfr w g N A n c bs at_ e) :
    Calls Try.prog 35 #[.pointer (some ⟨g, 0, none⟩)] w fun r w' => r = .returned (.int .i64 (done (bs.drop at_) e : Int)) ∧ Like w w' := by
  have c0 := h.rf.c0
  have c1 := h.rf.c1
  have c2 := h.rf.c2
  have HL : Hid ((bs.drop at_).length = n - at_) := by unfold Hid; rw [List.length_drop, h.row.len]
  have hle := h.le
  clear h
  by_cases he : e = 0
  · subst he
    by_cases hlt : at_ < n
    · have hd : decide ((at_ : Int) < (n : Int)) = true := decide_eq_true (by omega)
      have HD : Hid (done (bs.drop at_) 0 = 13) := by have := HL.out; unfold Hid done; rw [if_neg (by simp), if_neg (by omega)]
      go_enter Try.func35, Try.ntmps35
      go_wp2
      go_quiet (fail)
      go_wp2
      go_ret
      exact ⟨ret_int (by rw [HD.out]; rfl), ⟨rfl, rfl, rfl, rfl⟩⟩
    · have hd : decide ((at_ : Int) < (n : Int)) = false := decide_eq_false (by omega)
      have HD : Hid (done (bs.drop at_) 0 = 0) := by have := HL.out; unfold Hid done; rw [if_neg (by simp), if_pos (by omega)]
      go_enter Try.func35, Try.ntmps35
      go_wp2
      go_quiet (fail)
      go_wp2
      go_ret
      exact ⟨ret_int (by rw [HD.out]; rfl), ⟨rfl, rfl, rfl, rfl⟩⟩
  · have hne : ((e : Int) == 0) = false := beq_eq_false_iff_ne.2 (by omega)
    have HD : Hid (done (bs.drop at_) e = e) := by unfold Hid done; rw [if_pos he]
    clear he
    go_enter Try.func35, Try.ntmps35
    go_wp2
    go_quiet (fail)
    go_wp2
    go_ret
    exact ⟨ret_int (by rw [HD.out]), ⟨rfl, rfl, rfl, rfl⟩⟩

end Go.Proofs.Ytdgaaghkhkklpaa.Fld

/- What was written is read: plain words. -/
namespace Go.Proofs.Ytdgaaghkhkklpaa.Fld
open Go.RowKit Var

theorem take_put0 {n : Nat} (h : n < 18446744073709551616) (rest : List Int) : take 0 0 (put n ++ rest) = (n, (put n).length, 0) := by
  have := take_put n 0 0 rest (by simpa using h) (by omega) (.inr rfl)
  simpa using this

theorem abv_self {n : Nat} {most : Int} (h : (n : Int) ≤ most) (h2 : n ≤ 4611686018427387904) : abv n most = false := by
  unfold abv
  simp only [Bool.or_eq_false_iff, decide_eq_false_iff_not]
  omega

theorem after_put (xs ys : List Int) : after (xs ++ ys) 0 xs.length 0 = (ys, 0) := by unfold after; simp
end Go.Proofs.Ytdgaaghkhkklpaa.Fld

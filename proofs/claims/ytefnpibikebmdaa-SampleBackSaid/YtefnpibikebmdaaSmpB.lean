/- Layer 5 (sample): SampleBack as a walk. -/
import Derived.Test.YtefnpibikebmdaaSmpK
namespace Go.Proofs.Ytefnpibikebmdaa.Smp
open Go.RowKit Var Fld

theorem one_byte (a s : S) : ∀ x ∈ one a s, 0 ≤ x ∧ x ≤ 255 := by
  intro x hx
  unfold one num sgn at hx
  rcases List.mem_append.1 hx with hx | hx
  · exact put_byte _ x hx
  · rcases List.mem_append.1 hx with hx | hx
    · exact put_byte _ x hx
    · exact put_byte _ x hx
theorem encF_byte : ∀ (l : List S) (a : S), ∀ x ∈ encF a l, 0 ≤ x ∧ x ≤ 255
  | [], a, x, hx => by simp [encF] at hx
  | s :: l, a, x, hx => by
    rcases List.mem_append.1 hx with hx | hx
    · exact one_byte a s x hx
    · exact encF_byte l s x hx
theorem enc_byte (l : List S) : ∀ x ∈ enc l, 0 ≤ x ∧ x ≤ 255 := encF_byte l zS

/-- What was put is taken. -/
theorem taken {l : List S} (h : putE l = 0) (b : List Int) : tkE (enc l ++ b) (l.length : Int) = 0 ∧ tkL (enc l ++ b) (l.length : Int) = l ∧ tkN (enc l ++ b) (l.length : Int) = (enc l).length := by
  obtain ⟨h1, h2⟩ := putE_ok h
  have ht : tk l.length [] (enc l ++ b) = (l, b, 0) := tk_enc l [] b (by simpa using h2)
  have e1 : tkE (enc l ++ b) (l.length : Int) = 0 := by
    unfold tkE
    rw [if_neg (by omega), Int.toNat_natCast, ht]
  refine ⟨e1, ?_, ?_⟩
  · unfold tkL; rw [if_pos e1, Int.toNat_natCast, ht]
  · unfold tkN; rw [if_pos e1, Int.toNat_natCast, ht]
theorem head_of {bs xs ys : List Int} (h : bs = xs ++ ys) : xs = bs.take xs.length := by subst h; simp
/-- What was taken is put so again. -/
theorem again {bs : List Int} {k : Int} (hb : ∀ x ∈ bs, 0 ≤ x ∧ x ≤ 255) (h : tkE bs k = 0) :
    putE (tkL bs k) = 0 ∧ good (tkL bs k) = true ∧ ((tkL bs k).length : Int) = k ∧ tkN bs k = (enc (tkL bs k)).length ∧ enc (tkL bs k) = bs.take (tkN bs k) ∧ tkN bs k ≤ bs.length := by
  have hg := tkL_good (k := k) hb
  have h' := h
  unfold tkE at h'
  split at h'
  · omega
  · rename_i hk
    obtain ⟨a, b, c⟩ := tk_ok k.toNat [] bs hb good_nil h'
    have e1 : tkL bs k = (tk k.toNat [] bs).1 := by unfold tkL; rw [if_pos h]
    have e2 : tkN bs k = (enc (tkL bs k)).length := by unfold tkN; rw [if_pos h, e1]
    have c' : bs = enc (tkL bs k) ++ (tk k.toNat [] bs).2.1 := by
      rw [e1]
      simpa [enc, encF] using c
    refine ⟨?_, hg.1, ?_, e2, ?_, ?_⟩
    · unfold putE
      rw [if_neg (by omega), if_pos hg.1]
    · rw [e1, b]; simp; omega
    · rw [e2]
      exact head_of c'
    · rw [e2]
      have := congrArg List.length c'
      simp at this
      omega
theorem failed {bs : List Int} {k : Int} (h : tkE bs k ≠ 0) : tkL bs k = [] ∧ tkN bs k = 0 := by
  unfold tkL tkN
  rw [if_neg h, if_neg h]
  exact ⟨rfl, rfl⟩

set_option maxHeartbeats 3200000 in
set_option maxRecDepth 100000 in
theorem back_walk (A : Option Addr) (n c : Nat) (ss : List S) (A' : Option Addr) (n' c' : Nat) (bs : List Int) (k : Int) (w : World) (h : SRow w w.heap.size A n ss) (hn : n ≤ maxLen) (hnc : n ≤ c)
    (h' : Row .u8 w w.heap.size A' n' bs) (hnil : A' = none → c' = 0) (hn' : n' ≤ maxLen) (hnc' : n' ≤ c') (hbyt : ∀ x ∈ bs, 0 ≤ x ∧ x ≤ 255) :
    Calls Try.prog 5 #[.slice A n c, .slice A' n' c', .int .i64 k] w fun e w' => e = .returned (.bool true) ∧ Below w.heap.size w w' := by
  obtain ⟨i0, hi, hz0, hz1, hz2⟩ := info_parts info_u8
  have H := Lib.hid h
  have HN := Lib.hid hn
  have HC := Lib.hid hnc
  have H' := Lib.hid h'
  have HN' := Lib.hid hn'
  have HI' := Lib.hid hnil
  have HC' := Lib.hid hnc'
  have HY := Lib.hid hbyt
  clear h hn hnc h' hn' hnil hnc' hbyt
  go_enter Try.func5, Try.ntmps5
  go_wp2_with fail
  refine (awake_any _).mono ?_
  rintro e1 w1 ⟨rfl, hb1⟩
  have HB1 := Lib.hid hb1
  clear hb1
  by_cases hbig : 300 < n
  · have hd : decide (300 < (n : Int)) = true := decide_eq_true (by omega)
    go_wp2
    go_ret
    exact ⟨rfl, HB1.out⟩
  · have hd : decide (300 < n) = false := decide_eq_false hbig
    by_cases hbig' : 2000 < n'
    · go_wp2
      go_ret
      exact ⟨rfl, HB1.out⟩
    · have hd' : decide (2000 < n') = false := decide_eq_false hbig'
      go_wp2_with fail
      refine (put_any A n c ss w1 ((H.out.below HB1.out).more HB1.out.size) HC.out (by omega)).mono ?_
      rintro e2 w2 ⟨v2, rfl, hown2, hb2⟩
      have HO2 := Lib.hid hown2
      have HB2 := Lib.hid (HB1.out.trans (hb2.mono HB1.out.size))
      clear hown2 hb2 hbig hbig' hd hd'
      have hs300 : n ≤ 300 := by omega
      have hs2000 : n' ≤ 2000 := by omega
      by_cases hp : putE ss = 0
      case' pos =>
        rw [putB_ok hp] at HO2
        rw [hp]
        obtain ⟨A2, c2, rfl, hnil2⟩ := own_nil HO2.out
        have HN2 := Lib.hid hnil2
        have hel : (enc ss).length ≤ 9000 := by
          have := enc_lens (l := ss) (fun s hs => good_may (putE_ok hp).2 hs)
          have := H.out.len
          omega
        obtain ⟨N, hN⟩ : ∃ N, (enc ss).length = N := ⟨_, rfl⟩
        rw [hN] at HO2 hel ⊢
        have HNN := Lib.hid hN
        have HP := Lib.hid hp
        have HR2 : Hid (Row .u8 (w2.alloc (.cells #[] 5)) w2.heap.size A2 N (enc ss)) := (Row.of_own HO2.out).alloc (Nat.le_refl _) _
        have HR2' : Hid (Row .u8 w2 w.heap.size A' n' bs) := H'.out.below HB2.out
        have HOA : Hid ((w2.alloc (.cells #[] 5)).ownsRow w2.heap.size 5 1 (.slice (some ⟨w2.heap.size, 0, none⟩) 0 0) 0 (([] : List Int).map (Value.int .u8))) := World.ownsRow_lit w2 #[] 0 (Nat.le_refl _) (Nat.zero_le _) rfl
        have HB0 : Hid (Below w2.heap.size w2 (w2.alloc (.cells #[] 5))) := (Below.refl _ _).alloc (Nat.le_refl _) _
        clear hN hp hnil2
        go_wp2_with (at_builtin; first
          | (refine cat_own rfl (.tmp 36) (.tmp 37) 24 rfl w2.heap.size 5 i0 .u8 1 Try.underlying24 hi hz0 hz1 hz2 _ 0 [] rfl HOA.out w2.heap.size A2 N c2 (enc ss) rfl HN2.out HR2.out (by omega) (by omega) (by simp) ?_; intro v3 w3 hown3 hb3; have HO3 := Lib.hid hown3; have HB3 := Lib.hid (HB0.out.trans hb3); clear hown3 hb3)
          | (refine cat_own rfl (.tmp 38) (.tmp 39) 24 rfl w2.heap.size 5 i0 .u8 1 Try.underlying24 hi hz0 hz1 hz2 _ (0 + N) ([] ++ enc ss) rfl HO3.out w.heap.size A' n' c' bs rfl HI'.out (HR2'.out.below (HB3.out.mono HB2.out.size)) (by omega) (by omega) HB3.out.size ?_; intro v4 w4 hown4 hb4; have HO4 := Lib.hid hown4; have HB4 := Lib.hid (HB3.out.trans hb4); clear hown4 hb4))
        have HZ : Hid ([] ++ enc ss ++ bs = enc ss ++ bs) := List.append_assoc _ _ _
        rw [HZ.out] at HO4
        obtain ⟨A4, c4, rfl, hnil4⟩ := own_nil HO4.out
        have HT := Lib.hid (taken HP.out bs)
        have hLn := H.out.len
        rw [hLn] at HT
        have HBT : Hid (∀ x ∈ enc ss ++ bs, 0 ≤ x ∧ x ≤ 255) := fun x hx => (List.mem_append.1 hx).elim (enc_byte ss x) (HY.out x)
        have P := take_any A4 (0 + N + n') c4 (enc ss ++ bs) (n : Int) w4 (Row.of_own HO4.out) hnil4 (by omega) HBT.out
        unfold TakeTo at P
        rw [HT.out.1, HT.out.2.1, HT.out.2.2, HNN.out, hLn] at P
        have HPP := Lib.hid P
        clear P hnil4 hLn
        refine HPP.out.mono ?_
        rintro e5 w5 ⟨v5, rfl, hown5, hb5⟩
        obtain ⟨A5, c5, rfl, -⟩ := own3_slice hown5
        have hok : ∀ s ∈ ss, s.ok := fun s hs => H.out.2.1 s hs
        have HR5 := Lib.hid (SRow.of_own hown5 hok)
        have HB5 := Lib.hid (HB2.out.trans ((HB4.out.trans (hb5.mono HB4.out.size)).mono HB2.out.size))
        clear hown5 hb5 hok
        go_wp2_with fail
        refine (alike_any A A5 n c c5 _ _ ss w5 (by omega) (H.out.below HB5.out) HR5.out).mono ?_
        rintro e6 w6 ⟨rfl, q6, rfl⟩
        have HBM : Hid (Below w.heap.size w (w5.drewN q6)) := by
          have := HB5.out
          exact ⟨this.os, this.tape, this.output, this.size, this.block⟩
        generalize w5.drewN q6 = wM at HBM ⊢
        clear HR5 HB5 HPP HBT HT HZ HO4 HB4 HO3 HB3 HB0 HOA HR2' HR2 HN2 HO2 HB2 HB1 HP HNN hel
        go_wp2_with fail
      case' neg =>
        have hpz : ((putE ss : Int) == 0) = false := beq_eq_false_iff_ne.2 (by omega)
        have HBM := HB2
        clear hp HO2 HB1 HB2
        generalize w2 = wM at HBM ⊢
        go_wp2_with fail
      all_goals
        refine (take_any A' n' c' bs k wM ((H'.out.below HBM.out).more HBM.out.size) HI'.out (by omega) HY.out).mono ?_
        rintro e7 w7 ⟨v7, rfl, hown7, hb7⟩
        obtain ⟨A7, c7, rfl, hc7⟩ := own3_slice hown7
        have HB7 := Lib.hid (HBM.out.trans (hb7.mono HBM.out.size))
        have hgl := tkL_good (k := k) HY.out
        have HO7 := Lib.hid hown7
        clear hown7 hb7
        by_cases he : tkE bs k = 0
        case' neg =>
          have hez : ((tkE bs k : Int) == 0) = false := beq_eq_false_iff_ne.2 (by omega)
          obtain ⟨f1, f2⟩ := failed he
          rw [f1, f2]
          clear he f1 f2 HO7 hgl hc7
          go_wp2
          go_ret
          exact ⟨rfl, HB7.out⟩
        case' pos =>
          obtain ⟨a1, a2, a3, a4, a5, a6⟩ := again HY.out he
          rw [he]
          have hrow : SRow w7 w7.heap.size A7 (tkL bs k).length (tkL bs k) := SRow.of_own HO7.out (tkL_ok HY.out)
          obtain ⟨T, hT⟩ : ∃ T, tkN bs k = T := ⟨_, rfl⟩
          rw [hT] at a4 a5 a6 ⊢
          generalize tkL bs k = L at hgl hc7 a1 a2 a3 a4 a5 hrow ⊢
          clear hT he HO7
          obtain ⟨M, hM⟩ : ∃ M, L.length = M := ⟨_, rfl⟩
          rw [hM] at hgl hc7 a3 hrow ⊢
          have hkk : ((M : Int) == k) = true := beq_iff_eq.2 a3
          have hM2 := hgl.2
          have HR7 := Lib.hid hrow
          have HPE := Lib.hid a1
          have HGO := Lib.hid a2
          have HTE := Lib.hid a4
          have HTK := Lib.hid a5
          have hTn : T ≤ n' := by have := H'.out.len; omega
          have HC7 := Lib.hid hc7
          have HM := Lib.hid hM
          clear hgl a1 a2 a3 a4 a5 a6 hrow hc7 hM
          go_wp2
          go_loopw [79] (fun i wr => ∃ j : Nat, j ≤ M ∧ i = .int .i64 (j : Int) ∧ Hid (Below w7.heap.size w7 wr)) (fun i _ => M - (intOf i).toNat)
          case' atStart => exact ⟨0, Nat.zero_le _, rfl, Below.refl _ _⟩
          case' round =>
            obtain ⟨j, hj, rfl, HB⟩ := hrel
            by_cases hlt : j < M
            case' pos =>
              obtain ⟨b, o, s, rfl, hbl, hs, -, c0, c1, c2⟩ := (HR7.out.below HB.out).at hlt
              have hbl' : b < wr.heap.size := Nat.lt_of_lt_of_le hbl HB.out.size
              have hms := good_may HGO.out (List.mem_of_getElem? hs)
              have HS := Lib.hid hs
              have hjw : IntKind.i64.wrap ((j : Int) + 1) = (j : Int) + 1 := IntWalk.i64_in _ ⟨by omega, by omega⟩
              obtain ⟨ι, hne, W, j0, h0, hW, hCW⟩ := fam_of wr
              have d0 : ∀ i, (W i).cell? ⟨b, o + j * 3, none⟩ = some (.int .i64 s.t) := fun i => ((hW i).cell (p := ⟨b, o + j * 3, none⟩) hbl').trans c0
              have d1 : ∀ i, (W i).cell? ⟨b, o + j * 3 + 1, none⟩ = some (.int .i64 s.x) := fun i => ((hW i).cell (p := ⟨b, o + j * 3 + 1, none⟩) hbl').trans c1
              have d2 : ∀ i, (W i).cell? ⟨b, o + j * 3 + 2, none⟩ = some (.int .i64 s.y) := fun i => ((hW i).cell (p := ⟨b, o + j * 3 + 2, none⟩) hbl').trans c2
              have HWW : ∀ i, Hid (Below wr.heap.size wr (W i)) := fun i => hW i
              have HF := fun i => Lib.hid (may_on s (W i))
              have H0 := Lib.hid h0
              have HCW := Lib.hid hCW
              rw [hms] at HF
              by_cases hj0 : j = 0
              case' pos =>
                have hd0 : decide (0 < j) = false := decide_eq_false (by omega)
                clear h0 hW hCW hs c0 c1 c2 hms hj0
                go_wp2_with fail
                refine wp_region_fam W j0 (by kernel_rfl) (by kernel_rfl) H0.out ?_
                repeat (go_big_quiet_step ((go_at_call 10; exact fam_call HCW.out (HF _).out)))
                refine wpQuiet_nil ?_
                rintro _ ⟨i, rfl⟩
                go_wp2
                go_roundw
                case' rel => exact ⟨j + 1, by omega, by go_num, HB.out.trans ((HWW i).out.mono HB.out.size)⟩
                case' measure => simp [intOf]; omega
              case' neg =>
                have hk0 : 0 < j := by omega
                obtain ⟨b', o', a, e1, -, ha, -, a0, -, -⟩ := (HR7.out.below HB.out).at (show j - 1 < M by omega)
                injection e1 with e1
                injection e1 with e1 e2
                subst e1 e2
                have d3 : ∀ i, (W i).cell? ⟨b, o + (j - 1) * 3, none⟩ = some (.int .i64 a.t) := fun i => ((hW i).cell (p := ⟨b, o + (j - 1) * 3, none⟩) hbl').trans a0
                have hr : a.t < s.t := good_rise HGO.out ha (by rw [show j - 1 + 1 = j by omega]; exact HS.out)
                have hd : decide (s.t ≤ a.t) = false := decide_eq_false (by omega)
                have hw : IntKind.i64.wrap ((j : Int) - 1) = (j : Int) - 1 := IntWalk.i64_in _ ⟨by omega, by omega⟩
                have i1 : (0 : Int) ≤ (j : Int) - 1 := by omega
                have i2 : (j : Int) - 1 < M := by omega
                clear h0 hW hCW hs c0 c1 c2 hms hj0 ha a0 hr
                go_wp2_with fail
                refine wp_region_fam W j0 (by kernel_rfl) (by kernel_rfl) H0.out ?_
                repeat (go_big_quiet_step ((go_at_call 10; exact fam_call HCW.out (HF _).out)))
                refine wpQuiet_nil ?_
                rintro _ ⟨i, rfl⟩
                go_wp2
                go_roundw
                case' rel => exact ⟨j + 1, by omega, by go_num, HB.out.trans ((HWW i).out.mono HB.out.size)⟩
                case' measure => simp [intOf]; omega
            case' neg =>
              go_wp2_with fail
              refine (put_any A7 M c7 L wr ((HR7.out.below HB.out).more HB.out.size) HC7.out (by omega)).mono ?_
              rintro e8 w8 ⟨v8, rfl, hown8, hb8⟩
              rw [putB_ok HPE.out, ← HTE.out] at hown8
              rw [HPE.out]
              obtain ⟨A8, c8, rfl, -⟩ := own_nil hown8
              have HO8 := Lib.hid hown8
              have HB8 := Lib.hid (HB7.out.trans ((HB.out.trans (hb8.mono HB.out.size)).mono HB7.out.size))
              have HRT : Hid (Row .u8 w8 w.heap.size A' T (enc L)) := by
                unfold Hid
                rw [HTK.out]
                exact Fld.Row.take_ (Row.below H'.out HB8.out) hTn
              have hTc : (T : Int) ≤ c' := by have := HC'.out; omega
              clear hown8 hb8
              go_wp2_with fail
              refine (same_yes A8 A' T c8 c' _ _ (enc L) w8 (by omega) (Row.of_own HO8.out) HRT.out).mono ?_
              rintro e9 w9 ⟨rfl, q9, rfl⟩
              go_wp2
              go_ret
              have hb := HB8.out
              exact ⟨rfl, ⟨hb.os, hb.tape, hb.output, hb.size, hb.block⟩⟩
end Go.Proofs.Ytefnpibikebmdaa.Smp

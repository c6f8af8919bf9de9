/- Layer 16 (heap): HeapPlays' walk. -/
import Derived.Test.YthhnemanaciikaaHqP
namespace Go.Proofs.Ythhnemanaciikaa.Hq
open Go.RowKit Rec Ints Ge

set_option maxHeartbeats 3200000 in
set_option maxRecDepth 100000 in
theorem plays_walk (K : Oks) (A : Option Addr) (n c : Nat) (l : List Int) (w : World) (h : RRow intS w w.heap.size A n l) :
    Calls Try.prog 4 #[.slice A n c] w fun e w' => e = .returned (.bool true) ∧ Below w.heap.size w w' := by
  have H := Lib.hid h
  clear h
  by_cases hn : 300 < n
  · have d1 : decide ((300 : Int) < (n : Int)) = true := decide_eq_true (by omega)
    go_enter Try.func4, Try.ntmps4
    go_wp2_with fail
    refine (awake_any K.sorted w).mono ?_
    rintro e1 w1 ⟨rfl, hb1⟩
    have HB1 := Lib.hid hb1
    clear hb1
    go_wp2
    go_ret
    exact ⟨rfl, HB1.out⟩
  · have d1 : decide ((300 : Int) < (n : Int)) = false := decide_eq_false (by omega)
    go_enter Try.func4, Try.ntmps4
    go_wp2_with fail
    refine (awake_any K.sorted w).mono ?_
    rintro e1 w1 ⟨rfl, hb1⟩
    have H1 := Lib.hid (H.out.below hb1)
    have HB1 := Lib.hid hb1
    clear hb1 H
    go_wp2_with fail
    have eg : ∀ args w, (callFunc 11 args).run Try.prog w = .ok (.enter 11 args) w := fun _ _ => rfl
    obtain ⟨B, hB⟩ : ∃ B, w1.heap.size = B := ⟨_, rfl⟩
    obtain ⟨Hp, k, kt⟩ := K.ints (fun x y => decide (x < y)) B (fun _ => True) 11 #[] int_swo (fun _ _ _ _ _ => trivial) eg (fun x y w _ _ => plays_less x y w)
    have KT := Lib.hid (kt _ rfl)
    have KK := Lib.hid k
    have hnew : Calls Try.prog 10 #[.func (.func 11) #[] #[]] w1 _ := k.new w1 trivial (by omega)
    refine hnew.mono ?_
    rintro e2 w2 ⟨a, M, rfl, hm, -, hb2⟩
    have hwB : w.heap.size ≤ B := by rw [← hB]; exact HB1.out.size
    rw [hB] at hb2
    have hp0 : Pg Hp B w1 w2 a none 0 0 [] := ⟨⟨M, [], hm, List.Perm.refl _, fun b o sp h => by cases h⟩, RRow.nil_, List.Pairwise.nil, ⟨fun _ => rfl, Nat.le_refl _, Nat.zero_le _⟩, hb2, by rw [← hB]; exact hb2.size⟩
    have HP := Lib.hid hp0
    have H2 : Hid (RRow intS w1 B A n l) := by rw [← hB]; exact H1.out.more HB1.out.size
    clear hp0 hm hb2 k kt hnew eg H1 hB M
    have hBm : True := trivial
    go_wp2
    go_loopw [4, 19] (fun v i wr => ∃ (j : Nat) (A' : Option Addr) (m' c' : Nat) (S : List Int), j ≤ n ∧ i = .int .i64 (j : Int) ∧ v = .slice A' m' c' ∧ S.length ≤ j ∧ Hid (∀ b o sp, A' = some ⟨b, o, sp⟩ → sp = none) ∧ Hid (Pg Hp B w1 wr a A' m' c' S))
      (fun _ i _ => n - (intOf i).toNat)
    case atStart => exact ⟨0, none, 0, 0, [], Nat.zero_le _, rfl, rfl, Nat.zero_le _, fun _ _ _ h => (by cases h), HP⟩
    case round =>
      clear HP
      obtain ⟨j, A', m', c', S, hj, rfl, rfl, hSj, HSP, HP⟩ := hrel
      by_cases hjn : j < n
      · have e1 : decide ((j : Int) < (n : Int)) = true := decide_eq_true (by omega)
        obtain ⟨b1, o1, x, rfl, hb1, hx, hcx⟩ := int_at (H2.out.below HP.out.below) hjn
        have hwk : IntKind.i64.wrap ((j : Int) + 1) = (j : Int) + 1 := IntWalk.i64_in _ ⟨by omega, by omega⟩
        clear hx
        obtain ⟨M, L, hm, hl, hA⟩ := HP.out.heap
        have hLl : L.length ≤ 1000 := by rw [hl.length_eq]; omega
        have hSm : S.length = m' := HP.out.row.1
        have HA := Lib.hid hA
        have HL := Lib.hid hl
        have HM := Lib.hid hm
        clear hm hl hA
        by_cases hx0 : 0 ≤ x
        · have e2 : decide (0 ≤ x) = true := decide_eq_true hx0
          go_wp2_with fail
          have hpu : Calls Try.prog 12 #[.pointer (some a), .int .i64 x] wr _ := KK.out.push wr M a L x trivial HM.out hLl
          refine hpu.mono ?_
          rintro e3 w3 ⟨rfl, M3, hm3, ho3, hn3⟩
          obtain ⟨hA3, hr3, hbb3, hB3⟩ := turned KK.out HM.out HA.out HP.out.row HP.out.below HP.out.big ho3 hn3
          have HR3 := Lib.hid hr3
          have HB3 := Lib.hid hbb3
          have HM3 := Lib.hid hm3
          have HUP := Lib.hid HP.out.up
          clear hpu hr3 hbb3 hm3 ho3 hn3 HP HM HA hA3
          go_wp2_with fail
          refine (refput_own A' m' c' S x w3 HR3.out (by omega)).mono ?_
          rintro e4 w4 ⟨v4, rfl, ho4, hb4⟩
          obtain ⟨A4, c4, rfl, hp4⟩ := Pg.put KK.out HM3.out ((HL.out.cons x).trans (ins_perm x S).symm) (ins_up HUP.out) HB3.out hB3 ho4 hb4
          have HSP4 : Hid (∀ b o sp, A4 = some ⟨b, o, sp⟩ → sp = none) := fun b o sp e => by
            subst e
            rcases ho4.2 with ⟨h5, _⟩ | ⟨g', _, _, h5, _⟩
            · cases h5
            · simp only [Value.slice.injEq, Option.some.injEq, Addr.mk.injEq] at h5
              exact h5.1.2.2
          have HP4 := Lib.hid hp4
          have hS4 : (insI x S).length ≤ j + 1 := by rw [ins_len]; omega
          have hm4 : (insI x S).length = (insI x S).length := rfl
          clear hp4 ho4 hb4 HR3 HB3 HM3 HUP HL hB3 HSP M L hLl M3
          generalize hZ : insI x S = Z at *
          generalize hZl : Z.length = m4 at *
          clear hZ
          obtain ⟨M5, L5, hm5, hl5, hA5⟩ := HP4.out.heap
          have hLl5 : L5.length ≤ 1000 := by rw [hl5.length_eq]; omega
          have hL5m : L5.length = m4 := by rw [hl5.length_eq]; omega
          have HM5 := Lib.hid hm5
          have HL5 := Lib.hid hl5
          clear hm5 hl5 hA5
          rcases Z with _ | ⟨s0, T⟩
          · obtain rfl : L5 = [] := HL5.out.eq_nil
            obtain rfl : m4 = 0 := hZl.symm
            have htop : Calls Try.prog 15 #[.pointer (some a)] w4 _ := KT.out.top0 w4 M5 a trivial HM5.out
            go_wp2_with fail
            refine htop.mono ?_
            rintro e5 w5 ⟨rfl, hb5⟩
            have HP5 := Lib.hid (HP4.out.keep KK.out hb5)
            have hlen : Calls Try.prog 16 #[.pointer (some a)] w5 _ := KK.out.len w5 M5 a [] trivial (KK.out.keep HM5.out hb5.size fun j hj => hb5.block j (KK.out.lies HM5.out j hj).2) (Nat.zero_le _)
            have HLN := Lib.hid hlen
            clear htop hlen hb5 HP4
            go_wp2_with fail
            refine HLN.out.mono ?_
            rintro e6 w6 ⟨rfl, hb6⟩
            have HP6 := Lib.hid (HP5.out.keep KK.out hb6)
            clear hb6 HP5 HLN
            go_wp2
            go_roundw
            case rel => exact ⟨j + 1, A4, 0, c4, [], by omega, by go_num, rfl, Nat.zero_le _, HSP4, HP6⟩
            case measure => simp [intOf]; omega
          · have hm0 : 0 < m4 := by rw [← hZl]; exact Nat.succ_pos _
            have hne5 : L5 ≠ [] := fun e => by rw [e] at hL5m; simp at hL5m; omega
            have htop : Calls Try.prog 15 #[.pointer (some a)] w4 _ := KT.out.top w4 M5 a L5 trivial HM5.out hne5 hLl5
            go_wp2_with fail
            refine htop.mono ?_
            rintro e5 w5 ⟨x5, rfl, hx5, hmin5, hb5⟩
            obtain rfl : x5 = s0 := top_first HP4.out.up HL5.out hx5 hmin5
            have HP5 := Lib.hid (HP4.out.keep KK.out hb5)
            have hlen : Calls Try.prog 16 #[.pointer (some a)] w5 _ := KK.out.len w5 M5 a L5 trivial (KK.out.keep HM5.out hb5.size fun j hj => hb5.block j (KK.out.lies HM5.out j hj).2) hLl5
            rw [hL5m] at hlen
            have HLN := Lib.hid hlen
            clear htop hlen hb5 HP4 hx5 hmin5
            go_wp2_with fail
            refine HLN.out.mono ?_
            rintro e6 w6 ⟨rfl, hb6⟩
            have HP6 := Lib.hid (HP5.out.keep KK.out hb6)
            clear hb6 HP5 HLN
            obtain ⟨b6, o6, z6, rfl, hb6, hz6, hc6⟩ := int_at HP6.out.row hm0
            obtain rfl : x5 = z6 := by simpa using hz6
            have hc6' : w6.cell? ⟨b6, o6, none⟩ = some (.int .i64 x5) := hc6
            have f1 : decide ((0 : Int) < (m4 : Int)) = true := decide_eq_true (by omega)
            have f2 : (0 : Int) < (m4 : Int) := by omega
            go_wp2
            go_roundw
            case rel => exact ⟨j + 1, _, m4, c4, _, by omega, by go_num, rfl, by omega, HSP4, HP6⟩
            case measure => simp [intOf]; omega
        · have e2 : decide (0 ≤ x) = false := decide_eq_false hx0
          rcases S with _ | ⟨s, T0⟩
          · obtain rfl : L = [] := HL.out.eq_nil
            obtain rfl : m' = 0 := hSm.symm
            have hpo : Calls Try.prog 14 #[.pointer (some a)] wr _ := KK.out.pop0 wr M a trivial HM.out
            go_wp2_with fail
            refine hpo.mono ?_
            rintro e3 w4 ⟨rfl, M3, hm3, ho3, hn3⟩
            obtain ⟨hA3, hr3, hbb3, hB3⟩ := turned KK.out HM.out HA.out HP.out.row HP.out.below HP.out.big ho3 hn3
            have hp4 : Pg Hp B w1 w4 a A' 0 c' [] := ⟨⟨M3, [], hm3, List.Perm.refl _, hA3⟩, hr3, List.Pairwise.nil, HP.out.cap, hbb3, hB3⟩
            have HSP4 := Lib.hid HSP.out
            have HP4 := Lib.hid hp4
            clear hp4 hr3 hbb3 hm3 ho3 hn3 hA3 HP HM HA HL HSP hpo
            obtain ⟨M5, L5, hm5, hl5, hA5⟩ := HP4.out.heap
            have HM5 := Lib.hid hm5
            have HL5 := Lib.hid hl5
            clear hm5 hl5 hA5
            obtain rfl : L5 = [] := HL5.out.eq_nil
            have htop : Calls Try.prog 15 #[.pointer (some a)] w4 _ := KT.out.top0 w4 M5 a trivial HM5.out
            go_wp2_with fail
            refine htop.mono ?_
            rintro e5 w5 ⟨rfl, hb5⟩
            have HP5 := Lib.hid (HP4.out.keep KK.out hb5)
            have hlen : Calls Try.prog 16 #[.pointer (some a)] w5 _ := KK.out.len w5 M5 a [] trivial (KK.out.keep HM5.out hb5.size fun j hj => hb5.block j (KK.out.lies HM5.out j hj).2) (Nat.zero_le _)
            have HLN := Lib.hid hlen
            clear htop hlen hb5 HP4
            go_wp2_with fail
            refine HLN.out.mono ?_
            rintro e6 w6 ⟨rfl, hb6⟩
            have HP6 := Lib.hid (HP5.out.keep KK.out hb6)
            clear hb6 HP5 HLN
            go_wp2
            go_roundw
            case rel => exact ⟨j + 1, _, 0, _, [], by omega, by go_num, rfl, Nat.zero_le _, HSP4, HP6⟩
            case measure => simp [intOf]; omega
          · have hpo : Calls Try.prog 14 #[.pointer (some a)] wr _ := KK.out.pop wr M a L trivial HM.out (fun e => by have h5 := HL.out.length_eq; rw [e] at h5; simp at h5) hLl
            obtain ⟨m0, rfl⟩ : ∃ m0, m' = m0 + 1 := ⟨m' - 1, by simp at hSm; omega⟩
            go_wp2_with fail
            refine hpo.mono ?_
            rintro e3 w4 ⟨x3, L3, rfl, hp3, hmin3, M3, hm3, ho3, hn3⟩
            obtain ⟨rfl, hl3⟩ := pop_first HP.out.up HL.out hp3 hmin3
            obtain ⟨hA3, hr3, hbb3, hB3⟩ := turned KK.out HM.out HA.out HP.out.row HP.out.below HP.out.big ho3 hn3
            obtain ⟨bb, ob, zb, rfl, hbb, hzb, hcb⟩ := int_at hr3 (Nat.succ_pos m0)
            obtain rfl : x3 = zb := by simpa using hzb
            have hcb' : w4.cell? ⟨bb, ob, none⟩ = some (.int .i64 x3) := hcb
            have f0 : decide ((0 : Int) < ((m0 + 1 : Nat) : Int)) = true := decide_eq_true (by omega)
            have f3 : (0 : Int) < ((m0 + 1 : Nat) : Int) := by omega
            have f4 : min (1 : Int) ((m0 + 1 : Nat) : Int) = 1 := by omega
            have f5 : (1 : Int) ≤ ((m0 + 1 : Nat) : Int) := by omega
            have hmc := HP.out.cap.2.1
            have hcx := HP.out.cap.2.2
            have hup := (List.pairwise_cons.1 HP.out.up).2
            have hT0 : T0.length = m0 := by simp at hSm; omega
            by_cases hc1 : c' = 1
            · subst hc1
              obtain rfl : m0 = 0 := by omega
              obtain rfl : T0 = [] := List.eq_nil_of_length_eq_zero hT0
              have hp4 : Pg Hp B w1 w4 a (some ⟨bb, ob, none⟩) 0 0 [] := ⟨⟨M3, L3, hm3, hl3, hA3⟩, RRow.nil_, List.Pairwise.nil, ⟨fun h => absurd h (by simp), Nat.le_refl _, Nat.zero_le _⟩, hbb3, hB3⟩
              have HSP4 : Hid (∀ b o sp, (some ⟨bb, ob, none⟩ : Option Addr) = some ⟨b, o, sp⟩ → sp = none) := fun b o sp e => by
                simp only [Option.some.injEq, Addr.mk.injEq] at e
                exact e.2.2.symm
              have HP4 := Lib.hid hp4
              clear hp4 hr3 hbb3 hm3 ho3 hn3 hA3 HP HM HA HL HSP hpo hp3 hmin3 hl3 hzb hcb hmc hcx hup hT0
              obtain ⟨M5, L5, hm5, hl5, hA5⟩ := HP4.out.heap
              have HM5 := Lib.hid hm5
              have HL5 := Lib.hid hl5
              clear hm5 hl5 hA5
              obtain rfl : L5 = [] := HL5.out.eq_nil
              have htop : Calls Try.prog 15 #[.pointer (some a)] w4 _ := KT.out.top0 w4 M5 a trivial HM5.out
              go_wp2_with fail
              refine htop.mono ?_
              rintro e5 w5 ⟨rfl, hb5⟩
              have HP5 := Lib.hid (HP4.out.keep KK.out hb5)
              have hlen : Calls Try.prog 16 #[.pointer (some a)] w5 _ := KK.out.len w5 M5 a [] trivial (KK.out.keep HM5.out hb5.size fun j hj => hb5.block j (KK.out.lies HM5.out j hj).2) (Nat.zero_le _)
              have HLN := Lib.hid hlen
              clear htop hlen hb5 HP4
              go_wp2_with fail
              refine HLN.out.mono ?_
              rintro e6 w6 ⟨rfl, hb6⟩
              have HP6 := Lib.hid (HP5.out.keep KK.out hb6)
              clear hb6 HP5 HLN
              go_wp2
              go_roundw
              case rel => exact ⟨j + 1, _, 0, 0, [], by omega, by go_num, rfl, Nat.zero_le _, HSP4, HP6⟩
              case measure => simp [intOf]; omega
            · have hc1' : ¬ (1 = c') := fun e => hc1 e.symm
              have hrw := hr3.drop (k := 1) (by omega)
              simp only [Nat.add_sub_cancel, List.drop_succ_cons, List.drop_zero, Option.map_some] at hrw
              have hp4 : Pg Hp B w1 w4 a (some ⟨bb, ob + 1, none⟩) m0 (c' - 1) T0 := ⟨⟨M3, L3, hm3, hl3, fun b o sp e => by
                simp only [Option.some.injEq, Addr.mk.injEq] at e
                obtain ⟨rfl, _, rfl⟩ := e
                exact hA3 bb ob none rfl⟩, hrw, hup, ⟨fun h => absurd h (by simp), by omega, by omega⟩, hbb3, hB3⟩
              have HSP4 : Hid (∀ b o sp, (some ⟨bb, ob + 1, none⟩ : Option Addr) = some ⟨b, o, sp⟩ → sp = none) := fun b o sp e => by
                simp only [Option.some.injEq, Addr.mk.injEq] at e
                exact e.2.2.symm
              have HP4 := Lib.hid hp4
              clear hp4 hr3 hbb3 hm3 ho3 hn3 hA3 HP HM HA HL HSP hpo hp3 hmin3 hl3 hzb hcb hmc hcx hup hrw
              obtain ⟨c4, hc4⟩ : ∃ c4, c' - 1 = c4 := ⟨_, rfl⟩
              rw [hc4] at HP4
              obtain ⟨m4, hm4⟩ : ∃ m4, m0 = m4 := ⟨_, rfl⟩
              obtain ⟨Z, hZ⟩ : ∃ Z, T0 = Z := ⟨_, rfl⟩
              have hZl : Z.length = m4 := by rw [← hZ, ← hm4]; exact hT0
              have hS4 : Z.length ≤ j + 1 := by rw [← hZ]; have h5 := hSj; simp at h5; omega
              subst hm4
              subst hZ
              obtain ⟨M5, L5, hm5, hl5, hA5⟩ := HP4.out.heap
              have hLl5 : L5.length ≤ 1000 := by rw [hl5.length_eq]; omega
              have hL5m : L5.length = m0 := by rw [hl5.length_eq]; omega
              have HM5 := Lib.hid hm5
              have HL5 := Lib.hid hl5
              clear hm5 hl5 hA5
              rcases T0 with _ | ⟨s0, T⟩
              · have hm00 : m0 = 0 := hT0.symm
                subst hm00
                obtain rfl : L5 = [] := HL5.out.eq_nil
                have htop : Calls Try.prog 15 #[.pointer (some a)] w4 _ := KT.out.top0 w4 M5 a trivial HM5.out
                go_wp2_with fail
                refine htop.mono ?_
                rintro e5 w5 ⟨rfl, hb5⟩
                have HP5 := Lib.hid (HP4.out.keep KK.out hb5)
                have hlen : Calls Try.prog 16 #[.pointer (some a)] w5 _ := KK.out.len w5 M5 a [] trivial (KK.out.keep HM5.out hb5.size fun j hj => hb5.block j (KK.out.lies HM5.out j hj).2) (Nat.zero_le _)
                have HLN := Lib.hid hlen
                clear htop hlen hb5 HP4
                go_wp2_with fail
                refine HLN.out.mono ?_
                rintro e6 w6 ⟨rfl, hb6⟩
                have HP6 := Lib.hid (HP5.out.keep KK.out hb6)
                clear hb6 HP5 HLN
                go_wp2
                go_roundw
                case rel => exact ⟨j + 1, _, 0, _, [], by omega, by go_num, rfl, Nat.zero_le _, HSP4, HP6⟩
                case measure => simp [intOf]; omega
              · have hm0 : 0 < m0 := by rw [← hZl]; exact Nat.succ_pos _
                have hne5 : L5 ≠ [] := fun e => by rw [e] at hL5m; simp at hL5m; omega
                have htop : Calls Try.prog 15 #[.pointer (some a)] w4 _ := KT.out.top w4 M5 a L5 trivial HM5.out hne5 hLl5
                go_wp2_with fail
                refine htop.mono ?_
                rintro e5 w5 ⟨x5, rfl, hx5, hmin5, hb5⟩
                obtain rfl : x5 = s0 := top_first HP4.out.up HL5.out hx5 hmin5
                have HP5 := Lib.hid (HP4.out.keep KK.out hb5)
                have hlen : Calls Try.prog 16 #[.pointer (some a)] w5 _ := KK.out.len w5 M5 a L5 trivial (KK.out.keep HM5.out hb5.size fun j hj => hb5.block j (KK.out.lies HM5.out j hj).2) hLl5
                rw [hL5m] at hlen
                have HLN := Lib.hid hlen
                clear htop hlen hb5 HP4 hx5 hmin5
                go_wp2_with fail
                refine HLN.out.mono ?_
                rintro e6 w6 ⟨rfl, hb6⟩
                have HP6 := Lib.hid (HP5.out.keep KK.out hb6)
                clear hb6 HP5 HLN
                obtain ⟨b6, o6, z6, hA6, hb6, hz6, hc6⟩ := int_at HP6.out.row hm0
                simp only [Option.some.injEq, Addr.mk.injEq] at hA6
                rw [← hA6.1, ← hA6.2.1] at hc6
                clear hA6
                obtain rfl : x5 = z6 := by simpa using hz6
                have hc6' : w6.cell? ⟨bb, ob + 1, none⟩ = some (.int .i64 x5) := hc6
                have f1 : decide ((0 : Int) < (m0 : Int)) = true := decide_eq_true (by omega)
                have f2 : (0 : Int) < (m0 : Int) := by omega
                go_wp2
                go_roundw
                case rel => exact ⟨j + 1, _, m0, c4, _, by omega, by go_num, rfl, by omega, HSP4, HP6⟩
                case measure => simp [intOf]; omega
      · obtain rfl : j = n := by omega
        have e1 : decide ((j : Int) < (j : Int)) = false := decide_eq_false (by omega)
        have HBE : Hid (Below w.heap.size w wr) := HB1.out.trans (HP.out.below.mono hwB)
        go_wp2
        go_ret
        exact ⟨rfl, HBE.out⟩
end Go.Proofs.Ythhnemanaciikaa.Hq

/- Layer 7 (sha): the walk of the law on parts. -/
import Derived.Test.YtodkammhafipbaaDoorShaL
import Derived.Deep.RegionHeld3
namespace Go.Proofs.YtodkammhafipbaaDoor.Sha
open Go.RowKit

theorem Lay.drewN {w : World} {q : Nat} (h : Lay w) : Lay (w.drewN q) := ⟨⟨h.tab.1, h.tab.2⟩, h.ini⟩
theorem below_undrew {w w' : World} {q : Nat} (h : Below (w.drewN q).heap.size (w.drewN q) w') : Below w.heap.size w w' := ⟨h.os, h.tape, h.output, h.size, h.block⟩
theorem PRow.drew {w : World} {B : Nat} {A : Option Addr} {ps : List Prt} (h : PRow w B A ps) : PRow w.drew B A ps := ⟨h.cell, fun p hp => ⟨(h.ok p hp).row.drew, (h.ok p hp).le, (h.ok p hp).byt⟩⟩
theorem cut3 (xs : List Int) {I J : Nat} (h : I ≤ J) : xs.take I ++ ((xs.drop I).take (J - I) ++ xs.drop J) = xs := by
  have e : xs.drop J = (xs.drop I).drop (J - I) := by rw [List.drop_drop]; congr 1; omega
  rw [e, List.take_append_drop, List.take_append_drop]
theorem row_tail0 {k : IntKind} {w : World} {B b o n j : Nat} {xs : List Int} (h : Row k w B (some ⟨b, o, none⟩) n xs) (hj : j ≤ n) : Row k w B (some ⟨b, o, none⟩) j (xs.take j) := by
  have hl := h.1
  refine ⟨by simp; omega, fun h0 => ?_⟩
  obtain ⟨b', o', e, hb, hc⟩ := h.2 (by omega)
  refine ⟨b', o', e, hb, fun i hi => ?_⟩
  rw [hc i (by omega)]
  simp [List.getD, hi]
theorem row_mid {k : IntKind} {w : World} {B b o n i j : Nat} {xs : List Int} (h : Row k w B (some ⟨b, o, none⟩) n xs) (hi : i ≤ j) (hj : j ≤ n) : Row k w B (some ⟨b, o + i, none⟩) (j - i) ((xs.drop i).take (j - i)) :=
  row_tail0 (row_tail h (by omega)) (by omega)

set_option maxHeartbeats 3200000 in
set_option maxRecDepth 100000 in
theorem parts_walk (A : Option Addr) (n c : Nat) (xs : List Int) (x y : Nat) (w : World) (hr : Row .u8 w w.heap.size A n xs) (hnil : A = none → c = 0) (hc : n ≤ c) (hadr : 0 < c → ∃ b o, A = some ⟨b, o, none⟩) (hx : ∀ z ∈ xs, 0 ≤ z ∧ z ≤ 255) (h1 : x < 65536) (h2 : y < 65536) (hT : Lay w) :
    Calls Tryd.prog 4 #[.slice A n c, .agg #[.int .u16 (x : Int), .int .u16 (y : Int)]] w fun e w' => e = .returned (.bool true) ∧ Below w.heap.size w w' := by
  have HR := Lib.hid hr
  have HX := Lib.hid hx
  have HNIL := Lib.hid hnil
  have HADR := Lib.hid hadr
  have hlen := hr.len
  have HB0 := Lib.hid ((Below.refl w.heap.size w).alloc (Nat.le_refl _) (.cells #[.int .u16 (x : Int), .int .u16 (y : Int)] 27))
  have HT := Lib.hid (hT.below HB0.out hT.tab.1)
  have HT1 := Lib.hid hT.tab.1
  have HL0 := Lib.hid hT
  clear hr hx hnil hadr hT
  go_enter Tryd.func4, Tryd.ntmps4
  go_wp2_with fail
  refine (awake_any _ HT.out).mono ?_
  rintro e1 w1 ⟨rfl, hb1⟩
  have hat0 := hb1.cell (p := ⟨w.heap.size, 0, none⟩) (by simp)
  have hat1 := hb1.cell (p := ⟨w.heap.size, 1, none⟩) (by simp)
  simp at hat0 hat1
  have HB1 := Lib.hid (HB0.out.trans (hb1.mono (by simp)))
  clear hb1
  by_cases hbig : n ≤ 2000
  · have ht2 : (x : Int).tmod ((n : Int) + 1) = ((x % (n + 1) : Nat) : Int) := by rw [Int.tmod_eq_emod_of_nonneg (by omega)]; norm_cast
    have ht3 : (x : Int) % ((n : Int) + 1) = ((x % (n + 1) : Nat) : Int) := by norm_cast
    have hI : x % (n + 1) < n + 1 := Nat.mod_lt _ (by omega)
    obtain ⟨I, hi⟩ : ∃ I, x % (n + 1) = I := ⟨_, rfl⟩
    rw [hi] at ht2 ht3 hI
    have ht4 : (y : Int).tmod ((n : Int) - (I : Int) + 1) = ((y % (n - I + 1) : Nat) : Int) := by
      rw [Int.tmod_eq_emod_of_nonneg (by omega), show (n : Int) - (I : Int) + 1 = ((n - I + 1 : Nat) : Int) by omega]; norm_cast
    have ht5 : (y : Int) % ((n : Int) - (I : Int) + 1) = ((y % (n - I + 1) : Nat) : Int) := by
      rw [show (n : Int) - (I : Int) + 1 = ((n - I + 1 : Nat) : Int) by omega]; norm_cast
    have hJ : y % (n - I + 1) < n - I + 1 := Nat.mod_lt _ (by omega)
    obtain ⟨K, hk⟩ : ∃ K, y % (n - I + 1) = K := ⟨_, rfl⟩
    rw [hk] at ht4 ht5 hJ
    have hn0 : ¬ (n : Int) + 1 = 0 := by omega
    have hn1 : ¬ (n : Int) - (I : Int) + 1 = 0 := by omega
    clear hi hk
    go_wp2_with fail
    obtain ⟨J, hj⟩ : ∃ J, I + K = J := ⟨_, rfl⟩
    rw [show (I : Int) + (K : Int) = (J : Int) by omega]
    have hIJ : I ≤ J := by omega
    have hJn : J ≤ n := by omega
    have HRB : Hid (Row .u8 w1 w.heap.size A n xs) := HR.out.below HB1.out
    have HNC := Lib.hid hc
    have HN4 : Hid (n ≤ 1099511627776) := by unfold Hid; omega
    have HBA : Hid (∀ o, Below w.heap.size w (w1.alloc o).drew) := fun o => (HB1.out.alloc HB1.out.size o).drew
    have HLA : Hid (∀ o, Lay (w1.alloc o).drew) := fun o => HL0.out.below (HBA.out o) HT1.out
    clear ht2 ht3 ht4 ht5 hI hJ hn0 hn1 hat0 hat1 hj
    have i1 : (0 : Int) ≤ (I : Int) := by omega
    have i2 : (I : Int) ≤ (J : Int) := by omega
    have i3 : (J : Int) ≤ (n : Int) := by omega
    have i4 : (n : Int) ≤ (c : Int) := by omega
    have i5 : (I : Int) ≤ (c : Int) := by omega
    have i6 : (J : Int) ≤ (c : Int) := by omega
    have i7 : (0 : Int) ≤ (J : Int) := by omega
    have i8 : (I : Int) ≤ (n : Int) := by omega
    by_cases hc0 : c = 0
    · obtain rfl : n = 0 := by omega
      obtain rfl : J = 0 := by omega
      obtain rfl : I = 0 := by omega
      subst hc0
      have HOK : Hid (∀ p ∈ ([⟨A, 0, 0, xs⟩, ⟨A, 0, 0, []⟩, ⟨none, 0, 0, []⟩, ⟨A, 0, 0, []⟩] : List Prt), p.ok w1 w.heap.size) := by
        intro p hp
        simp only [List.mem_cons, List.not_mem_nil, or_false] at hp
        rcases hp with rfl | rfl | rfl | rfl
        · exact ⟨HRB.out, Nat.le_refl _, HX.out⟩
        · exact ⟨⟨rfl, fun h => absurd h (Nat.lt_irrefl 0)⟩, Nat.le_refl _, by simp⟩
        · exact ⟨Row.none_, Nat.le_refl _, by simp⟩
        · exact ⟨⟨rfl, fun h => absurd h (Nat.lt_irrefl 0)⟩, Nat.le_refl _, by simp⟩
      have hct : cats [⟨A, 0, 0, xs⟩, ⟨A, 0, 0, []⟩, ⟨none, 0, 0, []⟩, ⟨A, 0, 0, []⟩] = xs := by
        simp only [cats, List.map_cons, List.map_nil, List.flatten_cons, List.flatten_nil, List.append_nil]
      have HCT := Lib.hid hct
      have HLC : Hid ((cats [⟨A, 0, 0, xs⟩, ⟨A, 0, 0, []⟩, ⟨none, 0, 0, []⟩, ⟨A, 0, 0, []⟩]).length ≤ 1099511627776) := by
        unfold Hid
        rw [hct, hlen]
        omega
      clear hct
      have hps := prow_lit (t := 22) (w := w1) (B := w.heap.size) [⟨A, 0, 0, xs⟩, ⟨A, 0, 0, []⟩, ⟨none, 0, 0, []⟩, ⟨A, 0, 0, []⟩] HOK.out HB1.out.size
      have HPR : Hid (PRow (w1.alloc (.cells #[.slice (A) (0) (0), .slice (A) (0) (0), .slice none 0 0, .slice (A) (0) (0)] 22)).drew (w1.heap.size + 1) (some ⟨w1.heap.size, 0, none⟩) [⟨A, 0, 0, xs⟩, ⟨A, 0, 0, []⟩, ⟨none, 0, 0, []⟩, ⟨A, 0, 0, []⟩]) := hps.drew
      clear hps
      have P1 := Lib.hid (parts_any (some ⟨w1.heap.size, 0, none⟩) 4 4 (w1.heap.size + 1) [⟨A, 0, 0, xs⟩, ⟨A, 0, 0, []⟩, ⟨none, 0, 0, []⟩, ⟨A, 0, 0, []⟩] (w1.alloc (.cells #[.slice (A) (0) (0), .slice (A) (0) (0), .slice none 0 0, .slice (A) (0) (0)] 22)).drew HPR.out rfl (by omega) (by simp) HLC.out (HLA.out _))
      rw [HCT.out] at P1
      have P4 := Lib.hid (fun (wx : World) (hl : Lay wx) => parts_any none 0 0 0 [] wx ⟨by simp, by simp⟩ rfl (by omega) (by omega) (by simp [cats]) hl)
      go_region_held3 (fun _ => True) (trivial) (first
        | (go_at_call 10; with_reducible refine P1.out.mono ?_; rintro e5 w5 ⟨v5, rfl, hown5, hb5⟩; obtain ⟨A5, c5, rfl, -, -⟩ := own_slice hown5; have HO5 := Lib.hid hown5; have HB5 := Lib.hid ((HBA.out _).trans (hb5.mono (HBA.out _).size)); have HL5 := Lib.hid ((HLA.out _).below hb5 (Nat.lt_of_lt_of_le HT1.out (HBA.out _).size)); clear hown5 hb5)
        | (go_at_call 7; with_reducible refine (sum_any (A) 0 0 w.heap.size xs _ (HR.out.below HB5.out) HB5.out.size HNC.out HX.out HN4.out HL5.out).mono ?_; rintro e6 w6 ⟨v6, rfl, hown6, hb6⟩; obtain ⟨A6, c6, rfl, -, -⟩ := own_slice hown6; have HO6 := Lib.hid hown6; have HR5 := Lib.hid ((Row.of_own HO5.out).below hb6); have HB6 := Lib.hid (HB5.out.trans (hb6.mono HB5.out.size)); have HL6 := Lib.hid (HL5.out.below hb6 (Nat.lt_of_lt_of_le HT1.out HB5.out.size)); clear hown6 hb6)
        | (go_at_call 6; with_reducible refine (same_yes A5 A6 32 c5 c6 _ _ (outs (blocks ks hs (pad xs) ((pad xs).length / 64)) 8) _ (by omega) HR5.out (Row.of_own HO6.out)).mono ?_; rintro e7 w7 ⟨rfl, q, rfl⟩; have P5 := Lib.hid (P4.out (w6.drewN q) HL6.out.drewN))
        | (go_at_call 10; with_reducible refine P5.out.mono ?_; rintro e8 w8 ⟨v8, rfl, hown8, hb8⟩; obtain ⟨A8, c8, rfl, -, -⟩ := own_slice hown8; have HB8 := Lib.hid (HB6.out.trans ((below_undrew hb8).mono HB6.out.size)); clear hown8 hb8))
      go_wp2
      go_ret
      exact ⟨rfl, HB8.out⟩
    · obtain ⟨b, o, rfl⟩ := HADR.out (by omega)
      by_cases hcI : c = I
      · obtain rfl : J = n := by omega
        obtain rfl : I = J := by omega
        obtain rfl : c = I := by omega
        have j1 : 0 < c := by omega
        have HOK : Hid (∀ p ∈ ([⟨some ⟨b, o, none⟩, c, c, xs⟩, ⟨some ⟨b, o, none⟩, 0, 0, []⟩, ⟨none, 0, 0, []⟩, ⟨some ⟨b, o, none⟩, 0, 0, []⟩] : List Prt), p.ok w1 w.heap.size) := by
          intro p hp
          simp only [List.mem_cons, List.not_mem_nil, or_false] at hp
          rcases hp with rfl | rfl | rfl | rfl
          · exact ⟨HRB.out, Nat.le_refl _, HX.out⟩
          · exact ⟨⟨rfl, fun h => absurd h (Nat.lt_irrefl 0)⟩, Nat.le_refl _, by simp⟩
          · exact ⟨Row.none_, Nat.le_refl _, by simp⟩
          · exact ⟨⟨rfl, fun h => absurd h (Nat.lt_irrefl 0)⟩, Nat.le_refl _, by simp⟩
        have hct : cats [⟨some ⟨b, o, none⟩, c, c, xs⟩, ⟨some ⟨b, o, none⟩, 0, 0, []⟩, ⟨none, 0, 0, []⟩, ⟨some ⟨b, o, none⟩, 0, 0, []⟩] = xs := by
          simp only [cats, List.map_cons, List.map_nil, List.flatten_cons, List.flatten_nil, List.append_nil]
        have HCT := Lib.hid hct
        have HLC : Hid ((cats [⟨some ⟨b, o, none⟩, c, c, xs⟩, ⟨some ⟨b, o, none⟩, 0, 0, []⟩, ⟨none, 0, 0, []⟩, ⟨some ⟨b, o, none⟩, 0, 0, []⟩]).length ≤ 1099511627776) := by
          unfold Hid
          rw [hct, hlen]
          omega
        clear hct
        have hps := prow_lit (t := 22) (w := w1) (B := w.heap.size) [⟨some ⟨b, o, none⟩, c, c, xs⟩, ⟨some ⟨b, o, none⟩, 0, 0, []⟩, ⟨none, 0, 0, []⟩, ⟨some ⟨b, o, none⟩, 0, 0, []⟩] HOK.out HB1.out.size
        have HPR : Hid (PRow (w1.alloc (.cells #[.slice (some ⟨b, o, none⟩) (c) (c), .slice (some ⟨b, o, none⟩) (0) (0), .slice none 0 0, .slice (some ⟨b, o, none⟩) (0) (0)] 22)).drew (w1.heap.size + 1) (some ⟨w1.heap.size, 0, none⟩) [⟨some ⟨b, o, none⟩, c, c, xs⟩, ⟨some ⟨b, o, none⟩, 0, 0, []⟩, ⟨none, 0, 0, []⟩, ⟨some ⟨b, o, none⟩, 0, 0, []⟩]) := hps.drew
        clear hps
        have P1 := Lib.hid (parts_any (some ⟨w1.heap.size, 0, none⟩) 4 4 (w1.heap.size + 1) [⟨some ⟨b, o, none⟩, c, c, xs⟩, ⟨some ⟨b, o, none⟩, 0, 0, []⟩, ⟨none, 0, 0, []⟩, ⟨some ⟨b, o, none⟩, 0, 0, []⟩] (w1.alloc (.cells #[.slice (some ⟨b, o, none⟩) (c) (c), .slice (some ⟨b, o, none⟩) (0) (0), .slice none 0 0, .slice (some ⟨b, o, none⟩) (0) (0)] 22)).drew HPR.out rfl (by omega) (by simp) HLC.out (HLA.out _))
        rw [HCT.out] at P1
        have P4 := Lib.hid (fun (wx : World) (hl : Lay wx) => parts_any none 0 0 0 [] wx ⟨by simp, by simp⟩ rfl (by omega) (by omega) (by simp [cats]) hl)
        go_region_held3 (fun _ => True) (trivial) (first
          | (go_at_call 10; with_reducible refine P1.out.mono ?_; rintro e5 w5 ⟨v5, rfl, hown5, hb5⟩; obtain ⟨A5, c5, rfl, -, -⟩ := own_slice hown5; have HO5 := Lib.hid hown5; have HB5 := Lib.hid ((HBA.out _).trans (hb5.mono (HBA.out _).size)); have HL5 := Lib.hid ((HLA.out _).below hb5 (Nat.lt_of_lt_of_le HT1.out (HBA.out _).size)); clear hown5 hb5)
          | (go_at_call 7; with_reducible refine (sum_any (some ⟨b, o, none⟩) c c w.heap.size xs _ (HR.out.below HB5.out) HB5.out.size HNC.out HX.out HN4.out HL5.out).mono ?_; rintro e6 w6 ⟨v6, rfl, hown6, hb6⟩; obtain ⟨A6, c6, rfl, -, -⟩ := own_slice hown6; have HO6 := Lib.hid hown6; have HR5 := Lib.hid ((Row.of_own HO5.out).below hb6); have HB6 := Lib.hid (HB5.out.trans (hb6.mono HB5.out.size)); have HL6 := Lib.hid (HL5.out.below hb6 (Nat.lt_of_lt_of_le HT1.out HB5.out.size)); clear hown6 hb6)
          | (go_at_call 6; with_reducible refine (same_yes A5 A6 32 c5 c6 _ _ (outs (blocks ks hs (pad xs) ((pad xs).length / 64)) 8) _ (by omega) HR5.out (Row.of_own HO6.out)).mono ?_; rintro e7 w7 ⟨rfl, q, rfl⟩; have P5 := Lib.hid (P4.out (w6.drewN q) HL6.out.drewN))
          | (go_at_call 10; with_reducible refine P5.out.mono ?_; rintro e8 w8 ⟨v8, rfl, hown8, hb8⟩; obtain ⟨A8, c8, rfl, -, -⟩ := own_slice hown8; have HB8 := Lib.hid (HB6.out.trans ((below_undrew hb8).mono HB6.out.size)); clear hown8 hb8))
        go_wp2
        go_ret
        exact ⟨rfl, HB8.out⟩
      · by_cases hcJ : c = J
        · obtain rfl : J = n := by omega
          obtain rfl : c = J := by omega
          have j1 : 0 < c := by omega
          have j2 : ¬ c = I := by omega
          have HOK : Hid (∀ p ∈ ([⟨some ⟨b, o, none⟩, I, c, xs.take I⟩, ⟨some ⟨b, o + I, none⟩, c - I, c - I, (xs.drop I).take (c - I)⟩, ⟨none, 0, 0, []⟩, ⟨some ⟨b, o, none⟩, 0, 0, xs.drop c⟩] : List Prt), p.ok w1 w.heap.size) := by
            intro p hp
            simp only [List.mem_cons, List.not_mem_nil, or_false] at hp
            rcases hp with rfl | rfl | rfl | rfl
            · exact ⟨by have := row_tail0 (HRB.out) (show I ≤ c by omega); exact this, (by omega : I ≤ c), fun z hz => HX.out z (List.mem_of_mem_take hz)⟩
            · exact ⟨row_mid HRB.out (show I ≤ c by omega) (Nat.le_refl c), Nat.le_refl _, fun z hz => HX.out z (List.mem_of_mem_drop (List.mem_of_mem_take hz))⟩
            · exact ⟨Row.none_, Nat.le_refl _, by simp⟩
            · exact ⟨⟨by simp; omega, fun h => absurd h (Nat.lt_irrefl 0)⟩, Nat.le_refl _, fun z hz => HX.out z (List.mem_of_mem_drop hz)⟩
          have hct : cats [⟨some ⟨b, o, none⟩, I, c, xs.take I⟩, ⟨some ⟨b, o + I, none⟩, c - I, c - I, (xs.drop I).take (c - I)⟩, ⟨none, 0, 0, []⟩, ⟨some ⟨b, o, none⟩, 0, 0, xs.drop c⟩] = xs := by
            simp only [cats, List.map_cons, List.map_nil, List.flatten_cons, List.flatten_nil, List.append_nil, List.nil_append]
            exact cut3 xs (by omega)
          have HCT := Lib.hid hct
          have HLC : Hid ((cats [⟨some ⟨b, o, none⟩, I, c, xs.take I⟩, ⟨some ⟨b, o + I, none⟩, c - I, c - I, (xs.drop I).take (c - I)⟩, ⟨none, 0, 0, []⟩, ⟨some ⟨b, o, none⟩, 0, 0, xs.drop c⟩]).length ≤ 1099511627776) := by
            unfold Hid
            rw [hct, hlen]
            omega
          clear hct
          have hps := prow_lit (t := 22) (w := w1) (B := w.heap.size) [⟨some ⟨b, o, none⟩, I, c, xs.take I⟩, ⟨some ⟨b, o + I, none⟩, c - I, c - I, (xs.drop I).take (c - I)⟩, ⟨none, 0, 0, []⟩, ⟨some ⟨b, o, none⟩, 0, 0, xs.drop c⟩] HOK.out HB1.out.size
          have HPR : Hid (PRow (w1.alloc (.cells #[.slice (some ⟨b, o, none⟩) (I) (c), .slice (some ⟨b, o + I, none⟩) (c - I) (c - I), .slice none 0 0, .slice (some ⟨b, o, none⟩) (0) (0)] 22)).drew (w1.heap.size + 1) (some ⟨w1.heap.size, 0, none⟩) [⟨some ⟨b, o, none⟩, I, c, xs.take I⟩, ⟨some ⟨b, o + I, none⟩, c - I, c - I, (xs.drop I).take (c - I)⟩, ⟨none, 0, 0, []⟩, ⟨some ⟨b, o, none⟩, 0, 0, xs.drop c⟩]) := hps.drew
          clear hps
          have P1 := Lib.hid (parts_any (some ⟨w1.heap.size, 0, none⟩) 4 4 (w1.heap.size + 1) [⟨some ⟨b, o, none⟩, I, c, xs.take I⟩, ⟨some ⟨b, o + I, none⟩, c - I, c - I, (xs.drop I).take (c - I)⟩, ⟨none, 0, 0, []⟩, ⟨some ⟨b, o, none⟩, 0, 0, xs.drop c⟩] (w1.alloc (.cells #[.slice (some ⟨b, o, none⟩) (I) (c), .slice (some ⟨b, o + I, none⟩) (c - I) (c - I), .slice none 0 0, .slice (some ⟨b, o, none⟩) (0) (0)] 22)).drew HPR.out rfl (by omega) (by simp) HLC.out (HLA.out _))
          rw [HCT.out] at P1
          have P4 := Lib.hid (fun (wx : World) (hl : Lay wx) => parts_any none 0 0 0 [] wx ⟨by simp, by simp⟩ rfl (by omega) (by omega) (by simp [cats]) hl)
          go_region_held3 (fun _ => True) (trivial) (first
            | (go_at_call 10; with_reducible refine P1.out.mono ?_; rintro e5 w5 ⟨v5, rfl, hown5, hb5⟩; obtain ⟨A5, c5, rfl, -, -⟩ := own_slice hown5; have HO5 := Lib.hid hown5; have HB5 := Lib.hid ((HBA.out _).trans (hb5.mono (HBA.out _).size)); have HL5 := Lib.hid ((HLA.out _).below hb5 (Nat.lt_of_lt_of_le HT1.out (HBA.out _).size)); clear hown5 hb5)
            | (go_at_call 7; with_reducible refine (sum_any (some ⟨b, o, none⟩) c c w.heap.size xs _ (HR.out.below HB5.out) HB5.out.size HNC.out HX.out HN4.out HL5.out).mono ?_; rintro e6 w6 ⟨v6, rfl, hown6, hb6⟩; obtain ⟨A6, c6, rfl, -, -⟩ := own_slice hown6; have HO6 := Lib.hid hown6; have HR5 := Lib.hid ((Row.of_own HO5.out).below hb6); have HB6 := Lib.hid (HB5.out.trans (hb6.mono HB5.out.size)); have HL6 := Lib.hid (HL5.out.below hb6 (Nat.lt_of_lt_of_le HT1.out HB5.out.size)); clear hown6 hb6)
            | (go_at_call 6; with_reducible refine (same_yes A5 A6 32 c5 c6 _ _ (outs (blocks ks hs (pad xs) ((pad xs).length / 64)) 8) _ (by omega) HR5.out (Row.of_own HO6.out)).mono ?_; rintro e7 w7 ⟨rfl, q, rfl⟩; have P5 := Lib.hid (P4.out (w6.drewN q) HL6.out.drewN))
            | (go_at_call 10; with_reducible refine P5.out.mono ?_; rintro e8 w8 ⟨v8, rfl, hown8, hb8⟩; obtain ⟨A8, c8, rfl, -, -⟩ := own_slice hown8; have HB8 := Lib.hid (HB6.out.trans ((below_undrew hb8).mono HB6.out.size)); clear hown8 hb8))
          go_wp2
          go_ret
          exact ⟨rfl, HB8.out⟩
        · have j1 : 0 < c := by omega
          have HOK : Hid (∀ p ∈ ([⟨some ⟨b, o, none⟩, I, c, xs.take I⟩, ⟨some ⟨b, o + I, none⟩, J - I, c - I, (xs.drop I).take (J - I)⟩, ⟨none, 0, 0, []⟩, ⟨some ⟨b, o + J, none⟩, n - J, c - J, xs.drop J⟩] : List Prt), p.ok w1 w.heap.size) := by
            intro p hp
            simp only [List.mem_cons, List.not_mem_nil, or_false] at hp
            rcases hp with rfl | rfl | rfl | rfl
            · exact ⟨by have := row_tail0 (HRB.out) (show I ≤ n by omega); exact this, (by omega : I ≤ c), fun z hz => HX.out z (List.mem_of_mem_take hz)⟩
            · exact ⟨row_mid HRB.out (show I ≤ J by omega) (show J ≤ n by omega), (by omega : J - I ≤ c - I), fun z hz => HX.out z (List.mem_of_mem_drop (List.mem_of_mem_take hz))⟩
            · exact ⟨Row.none_, Nat.le_refl _, by simp⟩
            · exact ⟨row_tail HRB.out (show J ≤ n by omega), (by omega : n - J ≤ c - J), fun z hz => HX.out z (List.mem_of_mem_drop hz)⟩
          have hct : cats [⟨some ⟨b, o, none⟩, I, c, xs.take I⟩, ⟨some ⟨b, o + I, none⟩, J - I, c - I, (xs.drop I).take (J - I)⟩, ⟨none, 0, 0, []⟩, ⟨some ⟨b, o + J, none⟩, n - J, c - J, xs.drop J⟩] = xs := by
            simp only [cats, List.map_cons, List.map_nil, List.flatten_cons, List.flatten_nil, List.append_nil, List.nil_append]
            exact cut3 xs (by omega)
          have HCT := Lib.hid hct
          have HLC : Hid ((cats [⟨some ⟨b, o, none⟩, I, c, xs.take I⟩, ⟨some ⟨b, o + I, none⟩, J - I, c - I, (xs.drop I).take (J - I)⟩, ⟨none, 0, 0, []⟩, ⟨some ⟨b, o + J, none⟩, n - J, c - J, xs.drop J⟩]).length ≤ 1099511627776) := by
            unfold Hid
            rw [hct, hlen]
            omega
          clear hct
          have hps := prow_lit (t := 22) (w := w1) (B := w.heap.size) [⟨some ⟨b, o, none⟩, I, c, xs.take I⟩, ⟨some ⟨b, o + I, none⟩, J - I, c - I, (xs.drop I).take (J - I)⟩, ⟨none, 0, 0, []⟩, ⟨some ⟨b, o + J, none⟩, n - J, c - J, xs.drop J⟩] HOK.out HB1.out.size
          have HPR : Hid (PRow (w1.alloc (.cells #[.slice (some ⟨b, o, none⟩) (I) (c), .slice (some ⟨b, o + I, none⟩) (J - I) (c - I), .slice none 0 0, .slice (some ⟨b, o + J, none⟩) (n - J) (c - J)] 22)).drew (w1.heap.size + 1) (some ⟨w1.heap.size, 0, none⟩) [⟨some ⟨b, o, none⟩, I, c, xs.take I⟩, ⟨some ⟨b, o + I, none⟩, J - I, c - I, (xs.drop I).take (J - I)⟩, ⟨none, 0, 0, []⟩, ⟨some ⟨b, o + J, none⟩, n - J, c - J, xs.drop J⟩]) := hps.drew
          clear hps
          have P1 := Lib.hid (parts_any (some ⟨w1.heap.size, 0, none⟩) 4 4 (w1.heap.size + 1) [⟨some ⟨b, o, none⟩, I, c, xs.take I⟩, ⟨some ⟨b, o + I, none⟩, J - I, c - I, (xs.drop I).take (J - I)⟩, ⟨none, 0, 0, []⟩, ⟨some ⟨b, o + J, none⟩, n - J, c - J, xs.drop J⟩] (w1.alloc (.cells #[.slice (some ⟨b, o, none⟩) (I) (c), .slice (some ⟨b, o + I, none⟩) (J - I) (c - I), .slice none 0 0, .slice (some ⟨b, o + J, none⟩) (n - J) (c - J)] 22)).drew HPR.out rfl (by omega) (by simp) HLC.out (HLA.out _))
          rw [HCT.out] at P1
          have P4 := Lib.hid (fun (wx : World) (hl : Lay wx) => parts_any none 0 0 0 [] wx ⟨by simp, by simp⟩ rfl (by omega) (by omega) (by simp [cats]) hl)
          go_region_held3 (fun _ => True) (trivial) (first
            | (go_at_call 10; with_reducible refine P1.out.mono ?_; rintro e5 w5 ⟨v5, rfl, hown5, hb5⟩; obtain ⟨A5, c5, rfl, -, -⟩ := own_slice hown5; have HO5 := Lib.hid hown5; have HB5 := Lib.hid ((HBA.out _).trans (hb5.mono (HBA.out _).size)); have HL5 := Lib.hid ((HLA.out _).below hb5 (Nat.lt_of_lt_of_le HT1.out (HBA.out _).size)); clear hown5 hb5)
            | (go_at_call 7; with_reducible refine (sum_any (some ⟨b, o, none⟩) n c w.heap.size xs _ (HR.out.below HB5.out) HB5.out.size HNC.out HX.out HN4.out HL5.out).mono ?_; rintro e6 w6 ⟨v6, rfl, hown6, hb6⟩; obtain ⟨A6, c6, rfl, -, -⟩ := own_slice hown6; have HO6 := Lib.hid hown6; have HR5 := Lib.hid ((Row.of_own HO5.out).below hb6); have HB6 := Lib.hid (HB5.out.trans (hb6.mono HB5.out.size)); have HL6 := Lib.hid (HL5.out.below hb6 (Nat.lt_of_lt_of_le HT1.out HB5.out.size)); clear hown6 hb6)
            | (go_at_call 6; with_reducible refine (same_yes A5 A6 32 c5 c6 _ _ (outs (blocks ks hs (pad xs) ((pad xs).length / 64)) 8) _ (by omega) HR5.out (Row.of_own HO6.out)).mono ?_; rintro e7 w7 ⟨rfl, q, rfl⟩; have P5 := Lib.hid (P4.out (w6.drewN q) HL6.out.drewN))
            | (go_at_call 10; with_reducible refine P5.out.mono ?_; rintro e8 w8 ⟨v8, rfl, hown8, hb8⟩; obtain ⟨A8, c8, rfl, -, -⟩ := own_slice hown8; have HB8 := Lib.hid (HB6.out.trans ((below_undrew hb8).mono HB6.out.size)); clear hown8 hb8))
          go_wp2
          go_ret
          exact ⟨rfl, HB8.out⟩
  · go_wp2
    go_ret
    exact ⟨rfl, HB1.out⟩
end Go.Proofs.YtodkammhafipbaaDoor.Sha

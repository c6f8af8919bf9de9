/- Layer 8 (hmac): the walk of the law on keys. -/
import Derived.Test.YtclidocmfdimiaaDoorHmcX0
import Derived.Deep.RegionHeld3
import Derived.Deep.DeepCutAuto
import Derived.Deep.CutBlock
import Derived.IntWalk
namespace Go.Proofs.YtclidocmfdimiaaDoor.Hmc
open Go.RowKit Sha Slc

theorem row_tail0 {k : IntKind} {w : World} {B b o n j : Nat} {xs : List Int} (h : Row k w B (some ⟨b, o, none⟩) n xs) (hj : j ≤ n) : Row k w B (some ⟨b, o, none⟩) j (xs.take j) := by
  have hl := h.1
  refine ⟨by simp; omega, fun h0 => ?_⟩
  obtain ⟨b', o', e, hb, hc⟩ := h.2 (by omega)
  refine ⟨b', o', e, hb, fun i hi => ?_⟩
  rw [hc i (by omega)]
  simp [List.getD, hi]
theorem three {w w' : World} {B B' n : Nat} {A : Option Addr} {L : List Part} (h : Prs w B A n L) (hb : Below B' w w') (hB : B ≤ B' := by simp) (hs : B' ≤ w.heap.size := by simp) : Prs w' w'.heap.size A n L := by
  have := hb.size
  exact (h.below (hb.mono hB)).more (by omega)
theorem noughts_next (K : List Int) (j : Nat) : K ++ List.replicate j 0 ++ [0] = K ++ List.replicate (j + 1) 0 := by
  rw [List.append_assoc, ← List.replicate_succ']

set_option maxHeartbeats 3200000 in
set_option maxRecDepth 100000 in
theorem keys_walk (htag : TagOk) (A A' : Option Addr) (n c n' c' N : Nat) (k ys : List Int) (w : World) (hr : Row .u8 w w.heap.size A n k) (hr' : Row .u8 w w.heap.size A' n' ys) (hnil : A = none → c = 0) (hnil' : A' = none → c' = 0) (hc : n ≤ c) (hc' : n' ≤ c') (hadr : 0 < c' → ∃ b o, A' = some ⟨b, o, none⟩)
    (hk : ∀ x ∈ k, 0 ≤ x ∧ x ≤ 255) (hy : ∀ x ∈ ys, 0 ≤ x ∧ x ≤ 255) (hN : N ≤ 255) (hT : Lay w) :
    Calls Tryd.prog 4 #[.slice A n c, .slice A' n' c', .int .u8 (N : Int)] w fun e w' => e = .returned (.bool true) ∧ Below w.heap.size w w' := by
  obtain ⟨i0, hi, hz0, hz1, hz2⟩ := parts_of info8
  have HR := Lib.hid hr
  have HR' := Lib.hid hr'
  have HNIL := Lib.hid hnil
  have HNIL' := Lib.hid hnil'
  have HNC := Lib.hid hc
  have HNC' := Lib.hid hc'
  have HADR := Lib.hid hadr
  have HK := Lib.hid hk
  have HY := Lib.hid hy
  have HT := Lib.hid hT
  clear hr hr' hnil hnil' hc hc' hadr hk hy hT
  go_enter Tryd.func4, Tryd.ntmps4
  go_wp2_with fail
  refine (awake_any htag _ HT.out).mono ?_
  rintro e1 w1 ⟨rfl, hb1⟩
  have HB1 := Lib.hid hb1
  clear hb1
  by_cases hbig : 500 < n
  · have hd : decide ((500 : Int) < (n : Int)) = true := by simp; omega
    go_wp2
    go_ret
    exact ⟨rfl, HB1.out⟩
  have hd0 : decide ((500 : Int) < (n : Int)) = false := by simp; omega
  by_cases hbig' : 500 < n'
  · have hd : decide ((500 : Int) < (n' : Int)) = true := by simp; omega
    go_wp2
    go_ret
    exact ⟨rfl, HB1.out⟩
  have hd1 : decide ((500 : Int) < (n' : Int)) = false := by simp; omega
  have hn : n ≤ 500 := by omega
  have hn' : n' ≤ 500 := by omega
  have hlen := Lib.hid HR.out.len
  have HO0 : Hid ((w1.alloc (.cells #[] 5)).ownsRow w.heap.size 5 1 (.slice (some ⟨w1.heap.size, 0, none⟩) 0 0) 0 (([] : List Int).map (Value.int .u8))) := World.ownsRow_lit w1 #[] 0 HB1.out.size (Nat.zero_le _) rfl
  have HB0 : Hid (Below w.heap.size w (w1.alloc (.cells #[] 5))) := HB1.out.alloc HB1.out.size _
  clear hbig hbig'
  go_upto_if 24 with (at_builtin; refine cat_own rfl (.tmp 19) (.tmp 20) 22 rfl w.heap.size 5 i0 .u8 1 Tryd.underlying22 hi hz0 hz1 hz2 _ 0 [] rfl HO0.out w.heap.size A n c k rfl HNIL.out (HR.out.below HB0.out) (by omega) (by omega) HB0.out.size ?_; intro v3 w3 hown3 hb3; rw [Nat.zero_add, List.nil_append] at hown3; have HO3 := Lib.hid hown3; have HB3 := Lib.hid (HB0.out.trans hb3); clear hown3 hb3)
  go_cut [7] (fun v wr => ∃ m K, m ≤ 64 ∧ Hid (wr.ownsRow w.heap.size 5 1 v m ((K : List Int).map (Value.int .u8))) ∧ Hid (Below w.heap.size w wr) ∧ Hid (∀ j B, m + j ≤ 64 → mac (K ++ List.replicate j 0) B = mac k B) ∧ Hid (∀ x ∈ K, 0 ≤ x ∧ x ≤ 255))
  case first =>
    by_cases h64 : 64 < n
    · have hd64 : decide ((64 : Int) < (n : Int)) = true := by simp; omega
      go_wp2_with fail
      refine (sum_any A n c w.heap.size k _ (HR.out.below HB3.out) HB3.out.size HNC.out HK.out (by omega) (HT.out.below HB3.out HT.out.tab.1)).mono ?_
      rintro e4 w4 ⟨v4, rfl, hown4, hb4⟩
      have HO4 : Hid (w4.ownsRow w.heap.size 5 1 v4 32 ((sum256 k).map (Value.int .u8))) := own_low hown4 HB3.out.size
      have HB4 := Lib.hid (HB3.out.trans (hb4.mono HB3.out.size))
      have HM : Hid (∀ j B, 32 + j ≤ 64 → mac (sum256 k ++ List.replicate j 0) B = mac k B) := fun j B h => by
        rw [mac_noughts _ _ _ (by rw [sum256_len]; omega), mac_sum _ _ (by rw [hlen.out]; exact h64)]
      have HKB : Hid (∀ x ∈ sum256 k, 0 ≤ x ∧ x ≤ 255) := sum256_byt k
      clear hown4 hb4 HO3 HB3
      go_wp2_with fail
      go_meet
      exact ⟨32, _, by omega, HO4, HB4, HM, HKB⟩
    · have hd64 : decide ((64 : Int) < (n : Int)) = false := by simp; omega
      have HM : Hid (∀ j B, n + j ≤ 64 → mac (k ++ List.replicate j 0) B = mac k B) := fun j B h => mac_noughts _ _ _ (by rw [hlen.out]; exact h)
      go_wp2_with fail
      go_meet
      exact ⟨n, k, by omega, HO3, HB3, HM, HK⟩
  case rest =>
    obtain ⟨m, K, hm64, HO4, HB4, HM, HKB⟩ := hcut
    clear HO3 HB3 HO0 HB0
    go_upto_block 0 with fail
    go_cut [7] (fun v wr => ∃ q K', q ≤ 64 ∧ Hid (wr.ownsRow w.heap.size 5 1 v q ((K' : List Int).map (Value.int .u8))) ∧ Hid (Below w.heap.size w wr) ∧ Hid (∀ B, mac K' B = mac k B) ∧ Hid (∀ x ∈ K', 0 ≤ x ∧ x ≤ 255))
    case first =>
      go_wp2_with fail
      have HO5 : Hid (wc.ownsRow w.heap.size 5 1 u7 (m + 0) ((K ++ List.replicate 0 0).map (Value.int .u8))) := by simpa using HO4
      go_loopw [7, 8] (fun v i wr => ∃ j : Nat, j ≤ N ∧ m + j ≤ 64 ∧ i = .int .i64 (j : Int) ∧ Hid (wr.ownsRow w.heap.size 5 1 v (m + j) ((K ++ List.replicate j 0).map (Value.int .u8))) ∧ Hid (Below w.heap.size w wr)) (fun _ i _ => N - (intOf i).toNat)
      case atStart => exact ⟨0, Nat.zero_le _, by omega, rfl, HO5, HB4⟩
      case round =>
        obtain ⟨j, hj, hmj, rfl, HO, HB⟩ := hrel
        have HME : Hid (∀ B, mac (K ++ List.replicate j 0) B = mac k B) := fun B => HM.out j B hmj
        have HKE : Hid (∀ x ∈ K ++ List.replicate j 0, 0 ≤ x ∧ x ≤ 255) := fun x hx => by
          rcases List.mem_append.1 hx with hx | hx
          · exact HKB.out x hx
          · obtain ⟨-, rfl⟩ := List.mem_replicate.1 hx
            omega
        have hnx := Lib.hid (noughts_next K j)
        obtain ⟨q, hq⟩ : ∃ q, q = m + j := ⟨_, rfl⟩
        rw [← hq] at HO
        obtain ⟨A2, c2, rfl, -, -⟩ := own_slice HO.out
        by_cases hlt : j < N
        · have hd2 : decide ((j : Int) < (N : Int)) = true := by simp; omega
          by_cases hl : q < 64
          · have hd3 : decide ((q : Int) < (64 : Int)) = true := by simp; omega
            go_wp2_with (at_builtin; refine push_own rfl (.tmp 38) (.tmp 39) 22 rfl w.heap.size 5 i0 .u8 1 Tryd.underlying22 hi hz0 hz1 hz2 _ q (K ++ List.replicate j 0) 0 rfl HO.out rfl (by omega) (by omega) HB.out.size ?_; intro v3 w3 hown3 hb3; have HO3 := Lib.hid hown3; have HB3 := Lib.hid (HB.out.trans hb3); clear hown3 hb3)
            go_roundw
            case rel => exact ⟨j + 1, by omega, by omega, by go_num, by unfold Hid; rw [← hnx.out, ← Nat.add_assoc, ← hq]; exact HO3.out, HB3⟩
            case measure => simp [intOf]; omega
          · have hd3 : decide ((q : Int) < (64 : Int)) = false := by simp; omega
            go_wp2_with fail
            go_meet
            exact ⟨q, _, by omega, HO, HB, HME, HKE⟩
        · have hd2 : decide ((j : Int) < (N : Int)) = false := by simp; omega
          go_wp2_with fail
          go_meet
          exact ⟨q, _, by omega, HO, HB, HME, HKE⟩
    case rest =>
      obtain ⟨q, K', hq64, HO, HB, HME, HKE⟩ := hcut
      clear HO4 HB4 HM HKB hm64
      obtain ⟨A7, c7, rfl, hc7, hn7⟩ := own_slice HO.out
      have HRK : Hid (Row .u8 wc wc.heap.size A7 q K') := Row.of_own HO.out
      have HRA : Hid (Row .u8 wc w.heap.size A n k) := HR.out.below HB.out
      have HRY : Hid (Row .u8 wc w.heap.size A' n' ys) := HR'.out.below HB.out
      have HLY := Lib.hid (HT.out.below HB.out HT.out.tab.1)
      have hsz := Lib.hid HB.out.size
      have HN7 := Lib.hid hn7
      have HC7 := Lib.hid hc7
      have PK : Hid (∀ wx, Below wc.heap.size wc wx → Calls Tryd.prog 7 #[.slice A n c, .slice (some ⟨wx.heap.size, 0, none⟩) 1 1] (wx.alloc (.cells #[.slice A' n' c'] 22)) (Done wc.heap.size wc wx (mac k ys))) := by
        intro wx hbx
        have := tag_parts htag A n c k [⟨A', n', c', ys⟩] 1 wc.heap.size w.heap.size wc wx #[.slice A' n' c'] rfl rfl hbx hbx.size (HRA.out.below (hbx.mono hsz.out)) (Nat.le_trans hsz.out hbx.size) HNIL.out HNC.out (by omega) HK.out ?_ ?_ (by omega) (by simp [total]; omega) (HLY.out.below hbx (Nat.lt_of_lt_of_le HT.out.tab.1 hsz.out))
        · rwa [show whole [⟨A', n', c', ys⟩] = ys by simp [whole]] at this
        · intro p hp
          obtain rfl : p = _ := List.mem_singleton.1 hp
          exact ⟨(HRY.out.below (hbx.mono hsz.out)).more (Nat.le_trans hsz.out hbx.size), HNIL'.out⟩
        · intro p hp
          obtain rfl : p = _ := List.mem_singleton.1 hp
          exact ⟨HNC'.out, HY.out⟩
      have PO : Hid (∀ wx, Below wc.heap.size wc wx → Calls Tryd.prog 7 #[.slice A7 q c7, .slice (some ⟨wx.heap.size, 0, none⟩) 1 1] (wx.alloc (.cells #[.slice A' n' c'] 22)) (Done wc.heap.size wc wx (mac k ys))) := by
        intro wx hbx
        have := tag_parts htag A7 q c7 K' [⟨A', n', c', ys⟩] 1 wc.heap.size wc.heap.size wc wx #[.slice A' n' c'] rfl rfl hbx hbx.size (HRK.out.below hbx) hbx.size HN7.out HC7.out (by omega) HKE.out ?_ ?_ (by omega) (by simp [total]; omega) (HLY.out.below hbx (Nat.lt_of_lt_of_le HT.out.tab.1 hsz.out))
        · rwa [show whole [⟨A', n', c', ys⟩] = ys by simp [whole], HME.out] at this
        · intro p hp
          obtain rfl : p = _ := List.mem_singleton.1 hp
          exact ⟨(HRY.out.below (hbx.mono hsz.out)).more (Nat.le_trans hsz.out hbx.size), HNIL'.out⟩
        · intro p hp
          obtain rfl : p = _ := List.mem_singleton.1 hp
          exact ⟨HNC'.out, HY.out⟩
      have ht2 : (n' : Int).tdiv 3 = ((n' / 3 : Nat) : Int) := by rw [Int.tdiv_eq_ediv_of_nonneg (by omega)]; norm_cast
      have ht3 : (n' : Int) / 3 = ((n' / 3 : Nat) : Int) := by norm_cast
      have hI : n' / 3 ≤ n' ∧ (0 < n' → n' / 3 < n') := by omega
      obtain ⟨I, hi⟩ : ∃ I, n' / 3 = I := ⟨_, rfl⟩
      rw [hi] at ht2 ht3 hI
      have hcc := HNC'.out
      clear hc7 hn7
      have i1 : (0 : Int) ≤ (I : Int) := by omega
      have i2 : (I : Int) ≤ (n' : Int) := by omega
      have i3 : (n' : Int) ≤ (c' : Int) := by omega
      have i4 : (I : Int) ≤ (c' : Int) := by omega
      have hq2 : IntKind.i64.wrap (I : Int) = (I : Int) := IntWalk.i64_in _ ⟨by omega, by omega⟩
      by_cases hc0 : c' = 0
      · obtain rfl : n' = 0 := by omega
        obtain rfl : I = 0 := by omega
        subst hc0
        clear hi hI hcc ht2 ht3 hq2
        have hz1' : (0 : Int).tdiv 3 = 0 := rfl
        have hz2' : IntKind.i64.wrap 0 = 0 := rfl
        have PARTS : Hid (whole [⟨none, 0, 0, []⟩, ⟨A', 0, 0, ys.take 0⟩, ⟨A', 0, 0, ys.drop 0⟩] = ys) := by refine Lib.hid ?_; simp [whole]
        have HRT : Hid (∀ wx, Below wc.heap.size wc wx → ∀ p ∈ ([⟨none, 0, 0, []⟩, ⟨A', 0, 0, ys.take 0⟩, ⟨A', 0, 0, ys.drop 0⟩] : List Part), p.Right wx wx.heap.size) := by
          intro wx hbx p hp
          have hry := (HRY.out.below (hbx.mono hsz.out)).more (Nat.le_trans hsz.out hbx.size)
          simp only [List.mem_cons, List.not_mem_nil, or_false] at hp
          rcases hp with rfl | rfl | rfl
          · exact ⟨Row.none_, fun _ => rfl⟩
          · exact ⟨⟨by simp, fun h => absurd h (Nat.lt_irrefl 0)⟩, fun _ => rfl⟩
          · exact ⟨hry, fun _ => rfl⟩
        have HBT : Hid (∀ p ∈ ([⟨none, 0, 0, []⟩, ⟨A', 0, 0, ys.take 0⟩, ⟨A', 0, 0, ys.drop 0⟩] : List Part), p.n ≤ p.c ∧ ∀ x ∈ p.xs, 0 ≤ x ∧ x ≤ 255) := by
          intro p hp
          simp only [List.mem_cons, List.not_mem_nil, or_false] at hp
          rcases hp with rfl | rfl | rfl
          · exact ⟨Nat.le_refl _, by simp⟩
          · exact ⟨by first | exact Nat.zero_le _ | (dsimp only; omega), fun z hz => HY.out z (by first | exact List.mem_of_mem_take hz | exact List.mem_of_mem_drop hz)⟩
          · exact ⟨by first | exact Nat.zero_le _ | (dsimp only; omega), fun z hz => HY.out z (by first | exact List.mem_of_mem_take hz | exact List.mem_of_mem_drop hz)⟩
        have HPT : Hid (∀ wx, Below wc.heap.size wc wx → Prs ((wx.alloc (.cells #[.slice A' 0 0] 22)).alloc (.cells #[.slice none 0 0, .slice A' 0 0, .slice A' 0 0] 22)) (wx.heap.size + 1 + 1) (some ⟨wx.heap.size + 1, 0, none⟩) 3 [⟨none, 0, 0, []⟩, ⟨A', 0, 0, ys.take 0⟩, ⟨A', 0, 0, ys.drop 0⟩]) := by
          intro wx hbx
          have h1 : Below wx.heap.size wx (wx.alloc (.cells #[.slice A' 0 0] 22)) := (Below.refl _ _).alloc (Nat.le_refl _) _
          have := prs_lit (wx.alloc (.cells #[.slice A' 0 0] 22)) [⟨none, 0, 0, []⟩, ⟨A', 0, 0, ys.take 0⟩, ⟨A', 0, 0, ys.drop 0⟩] 3 #[.slice none 0 0, .slice A' 0 0, .slice A' 0 0] 22 rfl rfl (HRT.out _ (hbx.trans (h1.mono hbx.size))) HBT.out
          simpa using this
        have HKK : Hid (∀ wx, Below wc.heap.size wc wx → Calls Tryd.prog 7 #[.slice A n c, .slice (some ⟨wx.heap.size, 0, none⟩) 1 1] ((wx.alloc (.cells #[.slice A' 0 0] 22)).alloc (.cells #[.slice none 0 0, .slice A' 0 0, .slice A' 0 0] 22)) (Done wc.heap.size wc ((wx.alloc (.cells #[.slice A' 0 0] 22)).alloc (.cells #[.slice none 0 0, .slice A' 0 0, .slice A' 0 0] 22)) (mac k ys))) := by
          intro wx hbx
          have h1 : Below wx.heap.size wx (wx.alloc (.cells #[.slice A' 0 0] 22)) := (Below.refl _ _).alloc (Nat.le_refl _) _
          have h2 : Below wx.heap.size wx ((wx.alloc (.cells #[.slice A' 0 0] 22)).alloc (.cells #[.slice none 0 0, .slice A' 0 0, .slice A' 0 0] 22)) := h1.alloc (by simp) _
          have h3 := hbx.trans (h2.mono hbx.size)
          have hp : Prs (wx.alloc (.cells #[.slice A' 0 0] 22)) (wx.alloc (.cells #[.slice A' 0 0] 22)).heap.size (some ⟨wx.heap.size, 0, none⟩) 1 [⟨A', 0, 0, ys⟩] := by
            refine prs_lit wx [⟨A', 0, 0, ys⟩] 1 #[.slice A' 0 0] 22 rfl rfl ?_ ?_
            · intro p hp
              obtain rfl : p = _ := List.mem_singleton.1 hp
              exact ⟨(HRY.out.below (hbx.mono hsz.out)).more (Nat.le_trans hsz.out hbx.size), by first | exact HNIL'.out | exact fun _ => rfl⟩
            · intro p hp
              obtain rfl : p = _ := List.mem_singleton.1 hp
              exact ⟨by first | exact HNC'.out | exact Nat.le_refl _, HY.out⟩
          have hp2 : Prs ((wx.alloc (.cells #[.slice A' 0 0] 22)).alloc (.cells #[.slice none 0 0, .slice A' 0 0, .slice A' 0 0] 22)) ((wx.alloc (.cells #[.slice A' 0 0] 22)).alloc (.cells #[.slice none 0 0, .slice A' 0 0, .slice A' 0 0] 22)).heap.size (some ⟨wx.heap.size, 0, none⟩) 1 [⟨A', 0, 0, ys⟩] := (hp.below ((Below.refl _ _).alloc (Nat.le_refl _) _)).more (by simp)
          have := tag_at htag A _ n c 1 1 k [⟨A', 0, 0, ys⟩] wc.heap.size w.heap.size wc _ h3 h3.size (HRA.out.below (h3.mono hsz.out)) (Nat.le_trans hsz.out h3.size) HNIL.out HNC.out (by omega) HK.out hp2 (fun h => by cases h) (Nat.le_refl _) (by omega) (by first | (simp [total]; done) | (simp [total]; omega)) (HLY.out.below h3 (Nat.lt_of_lt_of_le HT.out.tab.1 hsz.out))
          rwa [show whole [⟨A', 0, 0, ys⟩] = ys by simp [whole]] at this
        have HLL : Hid (∀ wx g, Below wc.heap.size wc wx → Prs wx wx.heap.size (some ⟨g, 0, none⟩) 3 [⟨none, 0, 0, []⟩, ⟨A', 0, 0, ys.take 0⟩, ⟨A', 0, 0, ys.drop 0⟩] → Calls Tryd.prog 7 #[.slice A n c, .slice (some ⟨g, 0, none⟩) 3 3] wx (Done wc.heap.size wc wx (mac k ys))) := by
          intro wx g hbx hp
          have := tag_at htag A _ n c 3 3 k [⟨none, 0, 0, []⟩, ⟨A', 0, 0, ys.take 0⟩, ⟨A', 0, 0, ys.drop 0⟩] wc.heap.size w.heap.size wc _ hbx hbx.size (HRA.out.below (hbx.mono hsz.out)) (Nat.le_trans hsz.out hbx.size) HNIL.out HNC.out (by omega) HK.out hp (fun h => by cases h) (Nat.le_refl _) (by omega) (by first | (simp [total]; done) | (simp [total]; omega)) (HLY.out.below hbx (Nat.lt_of_lt_of_le HT.out.tab.1 hsz.out))
          rwa [PARTS.out] at this
        have HLIT : Hid (∀ wx, Below wc.heap.size wc wx → Calls Tryd.prog 7 #[.slice A n c, .slice (some ⟨wx.heap.size, 0, none⟩) 3 3] (wx.alloc (.cells #[.slice none 0 0, .slice A' 0 0, .slice A' 0 0] 22)) (Done wc.heap.size wc wx (mac k ys))) := by
          intro wx hbx
          have := tag_parts htag A n c k [⟨none, 0, 0, []⟩, ⟨A', 0, 0, ys.take 0⟩, ⟨A', 0, 0, ys.drop 0⟩] 3 wc.heap.size w.heap.size wc wx #[.slice none 0 0, .slice A' 0 0, .slice A' 0 0] rfl rfl hbx hbx.size (HRA.out.below (hbx.mono hsz.out)) (Nat.le_trans hsz.out hbx.size) HNIL.out HNC.out (by omega) HK.out (HRT.out wx hbx) HBT.out (by omega) (by first | (simp [total]; done) | (simp [total]; omega)) (HLY.out.below hbx (Nat.lt_of_lt_of_le HT.out.tab.1 hsz.out))
          rwa [PARTS.out] at this
        have HKC : Hid (∀ wx, Below wc.heap.size wc wx → Calls Tryd.prog 7 #[.slice A n c, .slice (some ⟨wx.heap.size + 1, 0, none⟩) 1 1] ((wx.alloc (.cells #[.slice none 0 0, .slice A' 0 0, .slice A' 0 0] 22)).alloc (.cells #[.slice A' 0 0] 22)) (Done wc.heap.size wc (wx.alloc (.cells #[.slice none 0 0, .slice A' 0 0, .slice A' 0 0] 22)) (mac k ys))) := by
          intro wx hbx
          have h1 : Below wx.heap.size wx (wx.alloc (.cells #[.slice none 0 0, .slice A' 0 0, .slice A' 0 0] 22)) := (Below.refl _ _).alloc (Nat.le_refl _) _
          have := PK.out (wx.alloc (.cells #[.slice none 0 0, .slice A' 0 0, .slice A' 0 0] 22)) (hbx.trans (h1.mono hbx.size))
          rwa [show (wx.alloc (.cells #[.slice none 0 0, .slice A' 0 0, .slice A' 0 0] 22)).heap.size = wx.heap.size + 1 by simp] at this
        have HPC : Hid (∀ wx, Below wc.heap.size wc wx → Prs (wx.alloc (.cells #[.slice none 0 0, .slice A' 0 0, .slice A' 0 0] 22)) (wx.alloc (.cells #[.slice none 0 0, .slice A' 0 0, .slice A' 0 0] 22)).heap.size (some ⟨wx.heap.size, 0, none⟩) 3 [⟨none, 0, 0, []⟩, ⟨A', 0, 0, ys.take 0⟩, ⟨A', 0, 0, ys.drop 0⟩]) := fun wx hbx => prs_lit wx [⟨none, 0, 0, []⟩, ⟨A', 0, 0, ys.take 0⟩, ⟨A', 0, 0, ys.drop 0⟩] 3 _ _ rfl rfl (HRT.out wx hbx) HBT.out
        have HR1 : Hid (∀ wx, Below wc.heap.size wc wx → ∀ p ∈ ([⟨A', 0, 0, ys⟩] : List Part), p.Right wx wx.heap.size) := by
          intro wx hbx p hp
          obtain rfl : p = _ := List.mem_singleton.1 hp
          exact ⟨(HRY.out.below (hbx.mono hsz.out)).more (Nat.le_trans hsz.out hbx.size), by first | exact HNIL'.out | exact fun _ => rfl⟩
        have HY1 : Hid (∀ p ∈ ([⟨A', 0, 0, ys⟩] : List Part), p.n ≤ p.c ∧ ∀ x ∈ p.xs, 0 ≤ x ∧ x ≤ 255) := by
          intro p hp
          obtain rfl : p = _ := List.mem_singleton.1 hp
          exact ⟨by first | exact HNC'.out | exact Nat.le_refl _, HY.out⟩
        have HKL : Hid (∀ wx g, Below wc.heap.size wc wx → Prs wx wx.heap.size (some ⟨g, 0, none⟩) 1 [⟨A', 0, 0, ys⟩] → Calls Tryd.prog 7 #[.slice A n c, .slice (some ⟨g, 0, none⟩) 1 1] wx (Done wc.heap.size wc wx (mac k ys))) := by
          intro wx g hbx hp
          have := tag_at htag A _ n c 1 1 k [⟨A', 0, 0, ys⟩] wc.heap.size w.heap.size wc _ hbx hbx.size (HRA.out.below (hbx.mono hsz.out)) (Nat.le_trans hsz.out hbx.size) HNIL.out HNC.out (by omega) HK.out hp (fun h => by cases h) (Nat.le_refl _) (by omega) (by first | (simp [total]; done) | (simp [total]; omega)) (HLY.out.below hbx (Nat.lt_of_lt_of_le HT.out.tab.1 hsz.out))
          rwa [show whole [⟨A', 0, 0, ys⟩] = ys by simp [whole]] at this
        have HOL : Hid (∀ wx g, Below wc.heap.size wc wx → Prs wx wx.heap.size (some ⟨g, 0, none⟩) 1 [⟨A', 0, 0, ys⟩] → Calls Tryd.prog 7 #[.slice A7 q c7, .slice (some ⟨g, 0, none⟩) 1 1] wx (Done wc.heap.size wc wx (mac k ys))) := by
          intro wx g hbx hp
          have := tag_at htag A7 _ q c7 1 1 K' [⟨A', 0, 0, ys⟩] wc.heap.size wc.heap.size wc _ hbx hbx.size (HRK.out.below hbx) hbx.size HN7.out HC7.out (by omega) HKE.out hp (fun h => by cases h) (Nat.le_refl _) (by omega) (by first | (simp [total]; done) | (simp [total]; omega)) (HLY.out.below hbx (Nat.lt_of_lt_of_le HT.out.tab.1 hsz.out))
          rwa [show whole [⟨A', 0, 0, ys⟩] = ys by simp [whole], HME.out] at this
        have HW2 : Hid (Prs ((wc.alloc (.cells #[.slice A' 0 0] 22)).alloc (.cells #[.slice A' 0 0] 22)).drew ((wc.alloc (.cells #[.slice A' 0 0] 22)).alloc (.cells #[.slice A' 0 0] 22)).drew.heap.size (some ⟨wc.heap.size, 0, none⟩) 1 [⟨A', 0, 0, ys⟩] ∧ Prs ((wc.alloc (.cells #[.slice A' 0 0] 22)).alloc (.cells #[.slice A' 0 0] 22)).drew ((wc.alloc (.cells #[.slice A' 0 0] 22)).alloc (.cells #[.slice A' 0 0] 22)).drew.heap.size (some ⟨wc.heap.size + 1, 0, none⟩) 1 [⟨A', 0, 0, ys⟩]) := prs_twice wc.drew [⟨A', 0, 0, ys⟩] 1 _ _ rfl rfl (HR1.out wc.drew (Below.refl _ _).drew) HY1.out
        have hbW : Below wc.heap.size wc ((wc.alloc (.cells #[.slice A' 0 0] 22)).alloc (.cells #[.slice A' 0 0] 22)).drew := (((Below.refl _ _).alloc (Nat.le_refl _) _).alloc (by simp) _).drew
        have P1a : Hid (Calls Tryd.prog 7 #[.slice A n c, .slice (some ⟨wc.heap.size, 0, none⟩) 1 1] ((wc.alloc (.cells #[.slice A' 0 0] 22)).alloc (.cells #[.slice A' 0 0] 22)).drew (Done wc.heap.size wc ((wc.alloc (.cells #[.slice A' 0 0] 22)).alloc (.cells #[.slice A' 0 0] 22)).drew (mac k ys))) := HKL.out _ _ hbW HW2.out.1
        have P1c : Hid (Calls Tryd.prog 7 #[.slice A n c, .slice (some ⟨wc.heap.size + 1, 0, none⟩) 1 1] ((wc.alloc (.cells #[.slice A' 0 0] 22)).alloc (.cells #[.slice A' 0 0] 22)).drew (Done wc.heap.size wc ((wc.alloc (.cells #[.slice A' 0 0] 22)).alloc (.cells #[.slice A' 0 0] 22)).drew (mac k ys))) := HKL.out _ _ hbW HW2.out.2
        clear hbW
        have P1 : Hid (Calls Tryd.prog 7 #[.slice A n c, .slice (some ⟨wc.heap.size, 0, none⟩) 1 1] (wc.alloc (.cells #[.slice A' 0 0] 22)).drew (Done wc.heap.size wc wc.drew (mac k ys))) := PK.out wc.drew (Below.refl _ _).drew
        go_wp2_with fail
        go_region_held3 (fun _ => True) (trivial) (first
          | (go_at_call 7; (with_reducible refine P1.out.mono ?_); rintro e5 w5 ⟨A5, c5, rfl, hr5, hb5, hc5⟩; have HR5 := Lib.hid hr5; have HB5 := Lib.hid hb5; have P2 := Lib.hid (PO.out w5 hb5); clear hr5 hb5 hc5)
          | (go_at_call 7; (with_reducible refine P1a.out.mono ?_); rintro e5 w5 ⟨A5, c5, rfl, hr5, hb5, hc5⟩; have HR5 := Lib.hid hr5; have HB5 := Lib.hid hb5; have P2 := Lib.hid (HOL.out w5 _ hb5 (three HW2.out.2 hc5)); clear hr5 hb5 hc5)
          | (go_at_call 7; (with_reducible refine P1c.out.mono ?_); rintro e5 w5 ⟨A5, c5, rfl, hr5, hb5, hc5⟩; have HR5 := Lib.hid hr5; have HB5 := Lib.hid hb5; have P2 := Lib.hid (HOL.out w5 _ hb5 (three HW2.out.1 hc5)); clear hr5 hb5 hc5)
          | (go_at_call 7; (with_reducible refine P2.out.mono ?_); rintro e6 w6 ⟨A6, c6, rfl, hr6, hb6, hc6⟩; have HR6 := Lib.hid hr6; have HR56 := Lib.hid (HR5.out.below hc6); have HB6 := Lib.hid hb6; clear hr6 hb6 hc6)
          | (go_at_call 12; (with_reducible refine (same_done A5 A6 c5 c6 _ _ (mac k ys) _ HR56.out HR6.out (mac_byt _ _)).mono ?_); rintro e7 w7 ⟨rfl, hb7⟩; have HB7 := Lib.hid (HB6.out.trans (hb7.mono HB6.out.size)); have P3a := Lib.hid (HKK.out w7 HB7.out); have P7a := Lib.hid (HPT.out w7 HB7.out); have P3b := Lib.hid (PK.out w7 HB7.out); have P3c := Lib.hid (HKC.out w7 HB7.out); have P7c := Lib.hid (HPC.out w7 HB7.out); clear hb7)
          | (go_at_call 7; (with_reducible refine P3a.out.mono ?_); rintro e8 w8 ⟨A8, c8, rfl, hr8, hb8, hc8⟩; have HR8 := Lib.hid hr8; have HB8 := Lib.hid hb8; have P4 := Lib.hid (HLL.out w8 _ hb8 (three P7a.out hc8)); clear hr8 hb8 hc8)
          | (go_at_call 7; (with_reducible refine P3b.out.mono ?_); rintro e8 w8 ⟨A8, c8, rfl, hr8, hb8, hc8⟩; have HR8 := Lib.hid hr8; have HB8 := Lib.hid hb8; have P4 := Lib.hid (HLIT.out w8 hb8); clear hr8 hb8 hc8)
          | (go_at_call 7; (with_reducible refine P3c.out.mono ?_); rintro e8 w8 ⟨A8, c8, rfl, hr8, hb8, hc8⟩; have HR8 := Lib.hid hr8; have HB8 := Lib.hid hb8; have P4 := Lib.hid (HLL.out w8 _ hb8 (three P7c.out hc8)); clear hr8 hb8 hc8)
          | (go_at_call 7; (with_reducible refine P4.out.mono ?_); rintro e9 w9 ⟨A9, c9, rfl, hr9, hb9, hc9⟩; have HR9 := Lib.hid hr9; have HR89 := Lib.hid (HR8.out.below hc9); have HB9 := Lib.hid hb9; clear hr9 hb9 hc9)
          | (go_at_call 12; (with_reducible refine (same_done A8 A9 c8 c9 _ _ (mac k ys) _ HR89.out HR9.out (mac_byt _ _)).mono ?_); rintro e10 w10 ⟨rfl, hb10⟩; have HB10 := Lib.hid (HB.out.trans ((HB9.out.trans (hb10.mono HB9.out.size)).mono hsz.out)); clear hb10))
        all_goals (
          go_wp2
          go_ret
          exact ⟨rfl, HB10.out⟩)
      · obtain ⟨b, o, rfl⟩ := HADR.out (by omega)
        have j1 : 0 < c' := by omega
        have j2 : ¬ c' = I := by omega
        have j3 : (I : Int) < (c' : Int) := by omega
        clear hi hcc
        have PARTS : Hid (whole [⟨none, 0, 0, []⟩, ⟨some ⟨b, o, none⟩, I, c', ys.take I⟩, ⟨some ⟨b, o + I, none⟩, n' - I, c' - I, ys.drop I⟩] = ys) := by refine Lib.hid ?_; simp [whole]
        have HRT : Hid (∀ wx, Below wc.heap.size wc wx → ∀ p ∈ ([⟨none, 0, 0, []⟩, ⟨some ⟨b, o, none⟩, I, c', ys.take I⟩, ⟨some ⟨b, o + I, none⟩, n' - I, c' - I, ys.drop I⟩] : List Part), p.Right wx wx.heap.size) := by
          intro wx hbx p hp
          have hry := (HRY.out.below (hbx.mono hsz.out)).more (Nat.le_trans hsz.out hbx.size)
          simp only [List.mem_cons, List.not_mem_nil, or_false] at hp
          rcases hp with rfl | rfl | rfl
          · exact ⟨Row.none_, fun _ => rfl⟩
          · exact ⟨row_tail0 hry (show I ≤ n' by omega), fun h => by cases h⟩
          · exact ⟨row_tail hry (show I ≤ n' by omega), fun h => by cases h⟩
        have HBT : Hid (∀ p ∈ ([⟨none, 0, 0, []⟩, ⟨some ⟨b, o, none⟩, I, c', ys.take I⟩, ⟨some ⟨b, o + I, none⟩, n' - I, c' - I, ys.drop I⟩] : List Part), p.n ≤ p.c ∧ ∀ x ∈ p.xs, 0 ≤ x ∧ x ≤ 255) := by
          intro p hp
          simp only [List.mem_cons, List.not_mem_nil, or_false] at hp
          rcases hp with rfl | rfl | rfl
          · exact ⟨Nat.le_refl _, by simp⟩
          · exact ⟨by first | exact Nat.zero_le _ | (dsimp only; omega), fun z hz => HY.out z (by first | exact List.mem_of_mem_take hz | exact List.mem_of_mem_drop hz)⟩
          · exact ⟨by first | exact Nat.zero_le _ | (dsimp only; omega), fun z hz => HY.out z (by first | exact List.mem_of_mem_take hz | exact List.mem_of_mem_drop hz)⟩
        have HPT : Hid (∀ wx, Below wc.heap.size wc wx → Prs ((wx.alloc (.cells #[.slice (some ⟨b, o, none⟩) n' c'] 22)).alloc (.cells #[.slice none 0 0, .slice (some ⟨b, o, none⟩) I c', .slice (some ⟨b, o + I, none⟩) (n' - I) (c' - I)] 22)) (wx.heap.size + 1 + 1) (some ⟨wx.heap.size + 1, 0, none⟩) 3 [⟨none, 0, 0, []⟩, ⟨some ⟨b, o, none⟩, I, c', ys.take I⟩, ⟨some ⟨b, o + I, none⟩, n' - I, c' - I, ys.drop I⟩]) := by
          intro wx hbx
          have h1 : Below wx.heap.size wx (wx.alloc (.cells #[.slice (some ⟨b, o, none⟩) n' c'] 22)) := (Below.refl _ _).alloc (Nat.le_refl _) _
          have := prs_lit (wx.alloc (.cells #[.slice (some ⟨b, o, none⟩) n' c'] 22)) [⟨none, 0, 0, []⟩, ⟨some ⟨b, o, none⟩, I, c', ys.take I⟩, ⟨some ⟨b, o + I, none⟩, n' - I, c' - I, ys.drop I⟩] 3 #[.slice none 0 0, .slice (some ⟨b, o, none⟩) I c', .slice (some ⟨b, o + I, none⟩) (n' - I) (c' - I)] 22 rfl rfl (HRT.out _ (hbx.trans (h1.mono hbx.size))) HBT.out
          simpa using this
        have HKK : Hid (∀ wx, Below wc.heap.size wc wx → Calls Tryd.prog 7 #[.slice A n c, .slice (some ⟨wx.heap.size, 0, none⟩) 1 1] ((wx.alloc (.cells #[.slice (some ⟨b, o, none⟩) n' c'] 22)).alloc (.cells #[.slice none 0 0, .slice (some ⟨b, o, none⟩) I c', .slice (some ⟨b, o + I, none⟩) (n' - I) (c' - I)] 22)) (Done wc.heap.size wc ((wx.alloc (.cells #[.slice (some ⟨b, o, none⟩) n' c'] 22)).alloc (.cells #[.slice none 0 0, .slice (some ⟨b, o, none⟩) I c', .slice (some ⟨b, o + I, none⟩) (n' - I) (c' - I)] 22)) (mac k ys))) := by
          intro wx hbx
          have h1 : Below wx.heap.size wx (wx.alloc (.cells #[.slice (some ⟨b, o, none⟩) n' c'] 22)) := (Below.refl _ _).alloc (Nat.le_refl _) _
          have h2 : Below wx.heap.size wx ((wx.alloc (.cells #[.slice (some ⟨b, o, none⟩) n' c'] 22)).alloc (.cells #[.slice none 0 0, .slice (some ⟨b, o, none⟩) I c', .slice (some ⟨b, o + I, none⟩) (n' - I) (c' - I)] 22)) := h1.alloc (by simp) _
          have h3 := hbx.trans (h2.mono hbx.size)
          have hp : Prs (wx.alloc (.cells #[.slice (some ⟨b, o, none⟩) n' c'] 22)) (wx.alloc (.cells #[.slice (some ⟨b, o, none⟩) n' c'] 22)).heap.size (some ⟨wx.heap.size, 0, none⟩) 1 [⟨(some ⟨b, o, none⟩), n', c', ys⟩] := by
            refine prs_lit wx [⟨(some ⟨b, o, none⟩), n', c', ys⟩] 1 #[.slice (some ⟨b, o, none⟩) n' c'] 22 rfl rfl ?_ ?_
            · intro p hp
              obtain rfl : p = _ := List.mem_singleton.1 hp
              exact ⟨(HRY.out.below (hbx.mono hsz.out)).more (Nat.le_trans hsz.out hbx.size), by first | exact HNIL'.out | exact fun _ => rfl⟩
            · intro p hp
              obtain rfl : p = _ := List.mem_singleton.1 hp
              exact ⟨by first | exact HNC'.out | exact Nat.le_refl _, HY.out⟩
          have hp2 : Prs ((wx.alloc (.cells #[.slice (some ⟨b, o, none⟩) n' c'] 22)).alloc (.cells #[.slice none 0 0, .slice (some ⟨b, o, none⟩) I c', .slice (some ⟨b, o + I, none⟩) (n' - I) (c' - I)] 22)) ((wx.alloc (.cells #[.slice (some ⟨b, o, none⟩) n' c'] 22)).alloc (.cells #[.slice none 0 0, .slice (some ⟨b, o, none⟩) I c', .slice (some ⟨b, o + I, none⟩) (n' - I) (c' - I)] 22)).heap.size (some ⟨wx.heap.size, 0, none⟩) 1 [⟨(some ⟨b, o, none⟩), n', c', ys⟩] := (hp.below ((Below.refl _ _).alloc (Nat.le_refl _) _)).more (by simp)
          have := tag_at htag A _ n c 1 1 k [⟨(some ⟨b, o, none⟩), n', c', ys⟩] wc.heap.size w.heap.size wc _ h3 h3.size (HRA.out.below (h3.mono hsz.out)) (Nat.le_trans hsz.out h3.size) HNIL.out HNC.out (by omega) HK.out hp2 (fun h => by cases h) (Nat.le_refl _) (by omega) (by first | (simp [total]; done) | (simp [total]; omega)) (HLY.out.below h3 (Nat.lt_of_lt_of_le HT.out.tab.1 hsz.out))
          rwa [show whole [⟨(some ⟨b, o, none⟩), n', c', ys⟩] = ys by simp [whole]] at this
        have HLL : Hid (∀ wx g, Below wc.heap.size wc wx → Prs wx wx.heap.size (some ⟨g, 0, none⟩) 3 [⟨none, 0, 0, []⟩, ⟨some ⟨b, o, none⟩, I, c', ys.take I⟩, ⟨some ⟨b, o + I, none⟩, n' - I, c' - I, ys.drop I⟩] → Calls Tryd.prog 7 #[.slice A n c, .slice (some ⟨g, 0, none⟩) 3 3] wx (Done wc.heap.size wc wx (mac k ys))) := by
          intro wx g hbx hp
          have := tag_at htag A _ n c 3 3 k [⟨none, 0, 0, []⟩, ⟨some ⟨b, o, none⟩, I, c', ys.take I⟩, ⟨some ⟨b, o + I, none⟩, n' - I, c' - I, ys.drop I⟩] wc.heap.size w.heap.size wc _ hbx hbx.size (HRA.out.below (hbx.mono hsz.out)) (Nat.le_trans hsz.out hbx.size) HNIL.out HNC.out (by omega) HK.out hp (fun h => by cases h) (Nat.le_refl _) (by omega) (by first | (simp [total]; done) | (simp [total]; omega)) (HLY.out.below hbx (Nat.lt_of_lt_of_le HT.out.tab.1 hsz.out))
          rwa [PARTS.out] at this
        have HLIT : Hid (∀ wx, Below wc.heap.size wc wx → Calls Tryd.prog 7 #[.slice A n c, .slice (some ⟨wx.heap.size, 0, none⟩) 3 3] (wx.alloc (.cells #[.slice none 0 0, .slice (some ⟨b, o, none⟩) I c', .slice (some ⟨b, o + I, none⟩) (n' - I) (c' - I)] 22)) (Done wc.heap.size wc wx (mac k ys))) := by
          intro wx hbx
          have := tag_parts htag A n c k [⟨none, 0, 0, []⟩, ⟨some ⟨b, o, none⟩, I, c', ys.take I⟩, ⟨some ⟨b, o + I, none⟩, n' - I, c' - I, ys.drop I⟩] 3 wc.heap.size w.heap.size wc wx #[.slice none 0 0, .slice (some ⟨b, o, none⟩) I c', .slice (some ⟨b, o + I, none⟩) (n' - I) (c' - I)] rfl rfl hbx hbx.size (HRA.out.below (hbx.mono hsz.out)) (Nat.le_trans hsz.out hbx.size) HNIL.out HNC.out (by omega) HK.out (HRT.out wx hbx) HBT.out (by omega) (by first | (simp [total]; done) | (simp [total]; omega)) (HLY.out.below hbx (Nat.lt_of_lt_of_le HT.out.tab.1 hsz.out))
          rwa [PARTS.out] at this
        have HKC : Hid (∀ wx, Below wc.heap.size wc wx → Calls Tryd.prog 7 #[.slice A n c, .slice (some ⟨wx.heap.size + 1, 0, none⟩) 1 1] ((wx.alloc (.cells #[.slice none 0 0, .slice (some ⟨b, o, none⟩) I c', .slice (some ⟨b, o + I, none⟩) (n' - I) (c' - I)] 22)).alloc (.cells #[.slice (some ⟨b, o, none⟩) n' c'] 22)) (Done wc.heap.size wc (wx.alloc (.cells #[.slice none 0 0, .slice (some ⟨b, o, none⟩) I c', .slice (some ⟨b, o + I, none⟩) (n' - I) (c' - I)] 22)) (mac k ys))) := by
          intro wx hbx
          have h1 : Below wx.heap.size wx (wx.alloc (.cells #[.slice none 0 0, .slice (some ⟨b, o, none⟩) I c', .slice (some ⟨b, o + I, none⟩) (n' - I) (c' - I)] 22)) := (Below.refl _ _).alloc (Nat.le_refl _) _
          have := PK.out (wx.alloc (.cells #[.slice none 0 0, .slice (some ⟨b, o, none⟩) I c', .slice (some ⟨b, o + I, none⟩) (n' - I) (c' - I)] 22)) (hbx.trans (h1.mono hbx.size))
          rwa [show (wx.alloc (.cells #[.slice none 0 0, .slice (some ⟨b, o, none⟩) I c', .slice (some ⟨b, o + I, none⟩) (n' - I) (c' - I)] 22)).heap.size = wx.heap.size + 1 by simp] at this
        have HPC : Hid (∀ wx, Below wc.heap.size wc wx → Prs (wx.alloc (.cells #[.slice none 0 0, .slice (some ⟨b, o, none⟩) I c', .slice (some ⟨b, o + I, none⟩) (n' - I) (c' - I)] 22)) (wx.alloc (.cells #[.slice none 0 0, .slice (some ⟨b, o, none⟩) I c', .slice (some ⟨b, o + I, none⟩) (n' - I) (c' - I)] 22)).heap.size (some ⟨wx.heap.size, 0, none⟩) 3 [⟨none, 0, 0, []⟩, ⟨some ⟨b, o, none⟩, I, c', ys.take I⟩, ⟨some ⟨b, o + I, none⟩, n' - I, c' - I, ys.drop I⟩]) := fun wx hbx => prs_lit wx [⟨none, 0, 0, []⟩, ⟨some ⟨b, o, none⟩, I, c', ys.take I⟩, ⟨some ⟨b, o + I, none⟩, n' - I, c' - I, ys.drop I⟩] 3 _ _ rfl rfl (HRT.out wx hbx) HBT.out
        have HR1 : Hid (∀ wx, Below wc.heap.size wc wx → ∀ p ∈ ([⟨some ⟨b, o, none⟩, n', c', ys⟩] : List Part), p.Right wx wx.heap.size) := by
          intro wx hbx p hp
          obtain rfl : p = _ := List.mem_singleton.1 hp
          exact ⟨(HRY.out.below (hbx.mono hsz.out)).more (Nat.le_trans hsz.out hbx.size), by first | exact HNIL'.out | exact fun _ => rfl⟩
        have HY1 : Hid (∀ p ∈ ([⟨some ⟨b, o, none⟩, n', c', ys⟩] : List Part), p.n ≤ p.c ∧ ∀ x ∈ p.xs, 0 ≤ x ∧ x ≤ 255) := by
          intro p hp
          obtain rfl : p = _ := List.mem_singleton.1 hp
          exact ⟨by first | exact HNC'.out | exact Nat.le_refl _, HY.out⟩
        have HKL : Hid (∀ wx g, Below wc.heap.size wc wx → Prs wx wx.heap.size (some ⟨g, 0, none⟩) 1 [⟨some ⟨b, o, none⟩, n', c', ys⟩] → Calls Tryd.prog 7 #[.slice A n c, .slice (some ⟨g, 0, none⟩) 1 1] wx (Done wc.heap.size wc wx (mac k ys))) := by
          intro wx g hbx hp
          have := tag_at htag A _ n c 1 1 k [⟨some ⟨b, o, none⟩, n', c', ys⟩] wc.heap.size w.heap.size wc _ hbx hbx.size (HRA.out.below (hbx.mono hsz.out)) (Nat.le_trans hsz.out hbx.size) HNIL.out HNC.out (by omega) HK.out hp (fun h => by cases h) (Nat.le_refl _) (by omega) (by first | (simp [total]; done) | (simp [total]; omega)) (HLY.out.below hbx (Nat.lt_of_lt_of_le HT.out.tab.1 hsz.out))
          rwa [show whole [⟨some ⟨b, o, none⟩, n', c', ys⟩] = ys by simp [whole]] at this
        have HOL : Hid (∀ wx g, Below wc.heap.size wc wx → Prs wx wx.heap.size (some ⟨g, 0, none⟩) 1 [⟨some ⟨b, o, none⟩, n', c', ys⟩] → Calls Tryd.prog 7 #[.slice A7 q c7, .slice (some ⟨g, 0, none⟩) 1 1] wx (Done wc.heap.size wc wx (mac k ys))) := by
          intro wx g hbx hp
          have := tag_at htag A7 _ q c7 1 1 K' [⟨some ⟨b, o, none⟩, n', c', ys⟩] wc.heap.size wc.heap.size wc _ hbx hbx.size (HRK.out.below hbx) hbx.size HN7.out HC7.out (by omega) HKE.out hp (fun h => by cases h) (Nat.le_refl _) (by omega) (by first | (simp [total]; done) | (simp [total]; omega)) (HLY.out.below hbx (Nat.lt_of_lt_of_le HT.out.tab.1 hsz.out))
          rwa [show whole [⟨some ⟨b, o, none⟩, n', c', ys⟩] = ys by simp [whole], HME.out] at this
        have HW2 : Hid (Prs ((wc.alloc (.cells #[.slice (some ⟨b, o, none⟩) n' c'] 22)).alloc (.cells #[.slice (some ⟨b, o, none⟩) n' c'] 22)).drew ((wc.alloc (.cells #[.slice (some ⟨b, o, none⟩) n' c'] 22)).alloc (.cells #[.slice (some ⟨b, o, none⟩) n' c'] 22)).drew.heap.size (some ⟨wc.heap.size, 0, none⟩) 1 [⟨some ⟨b, o, none⟩, n', c', ys⟩] ∧ Prs ((wc.alloc (.cells #[.slice (some ⟨b, o, none⟩) n' c'] 22)).alloc (.cells #[.slice (some ⟨b, o, none⟩) n' c'] 22)).drew ((wc.alloc (.cells #[.slice (some ⟨b, o, none⟩) n' c'] 22)).alloc (.cells #[.slice (some ⟨b, o, none⟩) n' c'] 22)).drew.heap.size (some ⟨wc.heap.size + 1, 0, none⟩) 1 [⟨some ⟨b, o, none⟩, n', c', ys⟩]) := prs_twice wc.drew [⟨some ⟨b, o, none⟩, n', c', ys⟩] 1 _ _ rfl rfl (HR1.out wc.drew (Below.refl _ _).drew) HY1.out
        have hbW : Below wc.heap.size wc ((wc.alloc (.cells #[.slice (some ⟨b, o, none⟩) n' c'] 22)).alloc (.cells #[.slice (some ⟨b, o, none⟩) n' c'] 22)).drew := (((Below.refl _ _).alloc (Nat.le_refl _) _).alloc (by simp) _).drew
        have P1a : Hid (Calls Tryd.prog 7 #[.slice A n c, .slice (some ⟨wc.heap.size, 0, none⟩) 1 1] ((wc.alloc (.cells #[.slice (some ⟨b, o, none⟩) n' c'] 22)).alloc (.cells #[.slice (some ⟨b, o, none⟩) n' c'] 22)).drew (Done wc.heap.size wc ((wc.alloc (.cells #[.slice (some ⟨b, o, none⟩) n' c'] 22)).alloc (.cells #[.slice (some ⟨b, o, none⟩) n' c'] 22)).drew (mac k ys))) := HKL.out _ _ hbW HW2.out.1
        have P1c : Hid (Calls Tryd.prog 7 #[.slice A n c, .slice (some ⟨wc.heap.size + 1, 0, none⟩) 1 1] ((wc.alloc (.cells #[.slice (some ⟨b, o, none⟩) n' c'] 22)).alloc (.cells #[.slice (some ⟨b, o, none⟩) n' c'] 22)).drew (Done wc.heap.size wc ((wc.alloc (.cells #[.slice (some ⟨b, o, none⟩) n' c'] 22)).alloc (.cells #[.slice (some ⟨b, o, none⟩) n' c'] 22)).drew (mac k ys))) := HKL.out _ _ hbW HW2.out.2
        clear hbW
        have P1 : Hid (Calls Tryd.prog 7 #[.slice A n c, .slice (some ⟨wc.heap.size, 0, none⟩) 1 1] (wc.alloc (.cells #[.slice (some ⟨b, o, none⟩) n' c'] 22)).drew (Done wc.heap.size wc wc.drew (mac k ys))) := PK.out wc.drew (Below.refl _ _).drew
        go_wp2_with fail
        go_region_held3 (fun _ => True) (trivial) (first
          | (go_at_call 7; (with_reducible refine P1.out.mono ?_); rintro e5 w5 ⟨A5, c5, rfl, hr5, hb5, hc5⟩; have HR5 := Lib.hid hr5; have HB5 := Lib.hid hb5; have P2 := Lib.hid (PO.out w5 hb5); clear hr5 hb5 hc5)
          | (go_at_call 7; (with_reducible refine P1a.out.mono ?_); rintro e5 w5 ⟨A5, c5, rfl, hr5, hb5, hc5⟩; have HR5 := Lib.hid hr5; have HB5 := Lib.hid hb5; have P2 := Lib.hid (HOL.out w5 _ hb5 (three HW2.out.2 hc5)); clear hr5 hb5 hc5)
          | (go_at_call 7; (with_reducible refine P1c.out.mono ?_); rintro e5 w5 ⟨A5, c5, rfl, hr5, hb5, hc5⟩; have HR5 := Lib.hid hr5; have HB5 := Lib.hid hb5; have P2 := Lib.hid (HOL.out w5 _ hb5 (three HW2.out.1 hc5)); clear hr5 hb5 hc5)
          | (go_at_call 7; (with_reducible refine P2.out.mono ?_); rintro e6 w6 ⟨A6, c6, rfl, hr6, hb6, hc6⟩; have HR6 := Lib.hid hr6; have HR56 := Lib.hid (HR5.out.below hc6); have HB6 := Lib.hid hb6; clear hr6 hb6 hc6)
          | (go_at_call 12; (with_reducible refine (same_done A5 A6 c5 c6 _ _ (mac k ys) _ HR56.out HR6.out (mac_byt _ _)).mono ?_); rintro e7 w7 ⟨rfl, hb7⟩; have HB7 := Lib.hid (HB6.out.trans (hb7.mono HB6.out.size)); have P3a := Lib.hid (HKK.out w7 HB7.out); have P7a := Lib.hid (HPT.out w7 HB7.out); have P3b := Lib.hid (PK.out w7 HB7.out); have P3c := Lib.hid (HKC.out w7 HB7.out); have P7c := Lib.hid (HPC.out w7 HB7.out); clear hb7)
          | (go_at_call 7; (with_reducible refine P3a.out.mono ?_); rintro e8 w8 ⟨A8, c8, rfl, hr8, hb8, hc8⟩; have HR8 := Lib.hid hr8; have HB8 := Lib.hid hb8; have P4 := Lib.hid (HLL.out w8 _ hb8 (three P7a.out hc8)); clear hr8 hb8 hc8)
          | (go_at_call 7; (with_reducible refine P3b.out.mono ?_); rintro e8 w8 ⟨A8, c8, rfl, hr8, hb8, hc8⟩; have HR8 := Lib.hid hr8; have HB8 := Lib.hid hb8; have P4 := Lib.hid (HLIT.out w8 hb8); clear hr8 hb8 hc8)
          | (go_at_call 7; (with_reducible refine P3c.out.mono ?_); rintro e8 w8 ⟨A8, c8, rfl, hr8, hb8, hc8⟩; have HR8 := Lib.hid hr8; have HB8 := Lib.hid hb8; have P4 := Lib.hid (HLL.out w8 _ hb8 (three P7c.out hc8)); clear hr8 hb8 hc8)
          | (go_at_call 7; (with_reducible refine P4.out.mono ?_); rintro e9 w9 ⟨A9, c9, rfl, hr9, hb9, hc9⟩; have HR9 := Lib.hid hr9; have HR89 := Lib.hid (HR8.out.below hc9); have HB9 := Lib.hid hb9; clear hr9 hb9 hc9)
          | (go_at_call 12; (with_reducible refine (same_done A8 A9 c8 c9 _ _ (mac k ys) _ HR89.out HR9.out (mac_byt _ _)).mono ?_); rintro e10 w10 ⟨rfl, hb10⟩; have HB10 := Lib.hid (HB.out.trans ((HB9.out.trans (hb10.mono HB9.out.size)).mono hsz.out)); clear hb10))
        all_goals (
          go_wp2
          go_ret
          exact ⟨rfl, HB10.out⟩)
end Go.Proofs.YtclidocmfdimiaaDoor.Hmc

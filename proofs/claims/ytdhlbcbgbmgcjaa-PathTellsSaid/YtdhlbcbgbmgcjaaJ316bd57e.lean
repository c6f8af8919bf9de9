/- Lemmas that the proof stands on, in build order: HqDS HqDT. -/
import Derived.Test.YtdhlbcbgbmgcjaaJ303be92b
/- Layer 16 (heap), the landed code at Int × Int: swap. -/
namespace Go.Proofs.Ytdhlbcbgbmgcjaa.Hq.D
open Go.RowKit Rec Ints Ge

theorem el_set {w : World} {base g cap k : Nat} {e : TypeId} {L : List El} (h : Hold twoS w base e g cap L) (x : El) (hk : k < L.length) : Hold twoS (w.setCells g (k * 2) [.int .i64 x.1, .int .i64 x.2]) base e g cap (L.set k x) := by
  exact h.set x hk
theorem G_of {l : List El} {i : Nat} {x : El} (h : l[i]? = some x) : Hp.G l i = x := by
  unfold Hp.G
  rw [List.getD_eq_getElem?_getD, h]
  rfl
theorem set_only {w : World} {g k : Nat} {x : El} : Only (fun k => k = g) w (w.setCells g (k * 2) [.int .i64 x.1, .int .i64 x.2]) := by
  exact (Only.setCell w ⟨g, k * 2, none⟩ (.int .i64 x.1)).trans (Only.setCell _ ⟨g, k * 2 + 1, none⟩ (.int .i64 x.2)) (fun _ _ h => h)
theorem swap_any (B : Nat) (f : FuncId) (lb : Array Value) (w : World) (b g cap n i j : Nat) (l : List El) (hl : Lies w B f lb b g cap n l) (hi : i < n) (hj : j < n) :
    Calls Try.prog 39 #[.pointer (some ⟨b, 0, none⟩), .int .i64 (i : Int), .int .i64 (j : Int)] w fun e w' => e = .returned (.tuple #[]) ∧ Lies w' B f lb b g cap n (Hp.sw l i j) ∧ Only (fun k => k = g) w w' := by
  obtain ⟨x, hx⟩ : ∃ x, l[i]? = some x := ⟨_, List.getElem?_eq_getElem (by rw [hl.len]; exact hi)⟩
  obtain ⟨y, hy⟩ : ∃ y, l[j]? = some y := ⟨_, List.getElem?_eq_getElem (by rw [hl.len]; exact hj)⟩
  have H := Lib.hid hl
  have HX := Lib.hid hx
  have HY := Lib.hid hy
  have c1 : w.cell? ⟨b, 1, none⟩ = some (.slice (some ⟨g, 0, none⟩) n cap) := cell_of_blk hl.blk rfl
  have x0 : w.cell? ⟨g, i * 2, none⟩ = some (.int .i64 x.1) := (el_at hl.hold hx).1
  have x1 : w.cell? ⟨g, i * 2 + 1, none⟩ = some (.int .i64 x.2) := (el_at hl.hold hx).2
  have y0 : w.cell? ⟨g, j * 2, none⟩ = some (.int .i64 y.1) := (el_at hl.hold hy).1
  have y1 : w.cell? ⟨g, j * 2 + 1, none⟩ = some (.int .i64 y.2) := (el_at hl.hold hy).2
  have f0 : w.frozen? ⟨g, i * 2, none⟩ = false := hl.hold.free _
  have f1 : w.frozen? ⟨g, j * 2, none⟩ = false := hl.hold.free _
  have f2 : w.frozen? ⟨g, i * 2 + 1, none⟩ = false := hl.hold.free _
  have f3 : w.frozen? ⟨g, j * 2 + 1, none⟩ = false := hl.hold.free _
  have hs1 := el_set (k := i) hl.hold y (by rw [hl.len]; exact hi)
  obtain ⟨z, hz⟩ : ∃ z, (l.set i y)[j]? = some z := ⟨_, List.getElem?_eq_getElem (by rw [List.length_set, hl.len]; exact hj)⟩
  have z0 : (w.setCell ⟨g, i * 2, none⟩ (.int .i64 y.1)).cell? ⟨g, j * 2, none⟩ = some (.int .i64 z.1) := (World.cell?_setCell_other _ _ _ _ (fun e => by have h : i * 2 + 1 = j * 2 := congrArg Addr.off e; omega)).symm.trans (el_at hs1 hz).1
  have z1 : ((w.setCell ⟨g, i * 2, none⟩ (.int .i64 y.1)).setCell ⟨g, i * 2 + 1, none⟩ (.int .i64 y.2)).cell? ⟨g, j * 2 + 1, none⟩ = some (.int .i64 z.2) := (el_at hs1 hz).2
  have k0 := hs1.free (j * 2)
  have k1 := hs1.free (j * 2 + 1)
  have HS1 := Lib.hid hs1
  have a1 : (0 : Int) ≤ (i : Int) := by omega
  have a2 : (i : Int) < (n : Int) := by omega
  have a3 : (0 : Int) ≤ (j : Int) := by omega
  have a4 : (j : Int) < (n : Int) := by omega
  clear hl hx hy hs1 hz
  go_enter Try.func39, Try.ntmps39
  go_wp2
  go_region
  all_goals go_wp2
  all_goals go_end0
  have HLS : Lies ((w.setCells g (i * 2) [.int .i64 y.1, .int .i64 y.2]).setCells g (j * 2) [.int .i64 x.1, .int .i64 x.2]) B f lb b g cap n (Hp.sw l i j) ∧ Only (fun k => k = g) w ((w.setCells g (i * 2) [.int .i64 y.1, .int .i64 y.2]).setCells g (j * 2) [.int .i64 x.1, .int .i64 x.2]) := by
    have ho : Only (fun k => k = g) w ((w.setCells g (i * 2) [.int .i64 y.1, .int .i64 y.2]).setCells g (j * 2) [.int .i64 x.1, .int .i64 x.2]) := set_only.trans set_only (fun _ _ h => h)
    have hb : b < w.heap.size := (Array.getElem?_eq_some_iff.1 H.out.blk).1
    refine ⟨⟨(ho.block b hb H.out.ne).trans H.out.blk, ?_, by rw [Hp.sw_len, H.out.len], H.out.ne, H.out.le⟩, ho⟩
    unfold Hp.sw
    rw [G_of HX.out, G_of HY.out]
    exact el_set HS1.out x (by rw [List.length_set, H.out.len]; exact hj)
  exact ⟨rfl, HLS.1.below ((Below.refl _ _).drew), HLS.2.trans (Only.of_below (Below.refl _ _).drew) (fun _ _ h => h)⟩
end Go.Proofs.Ytdhlbcbgbmgcjaa.Hq.D

/- Layer 16 (heap), the landed code at Int × Int: rise, sink. -/
namespace Go.Proofs.Ytdhlbcbgbmgcjaa.Hq.D
open Go.RowKit Rec Ints Ge

theorem swo {lt : El → El → Bool} (h : Swo lt) : Hp.Swo lt where
  asymm a b hab := by
    cases hba : lt b a with
    | false => rfl
    | true =>
      have := h.trans a b a hab hba
      rw [h.irrefl] at this
      cases this
  trans a b c h1 h2 := h.ntrans c b a h2 h1
theorem el_G {l : List El} {i : Nat} (h : i < l.length) : l[i]? = some (Hp.G l i) := by
  unfold Hp.G
  rw [List.getD_eq_getElem?_getD, List.getElem?_eq_getElem h]
  rfl
theorem half {k : Nat} (h : 0 < k) (hk : k ≤ 100000) : IntKind.i64.wrap ((k : Int) - 1) = (k : Int) - 1 ∧ ((k : Int) - 1).tdiv 2 = (((k - 1) / 2 : Nat) : Int) ∧ IntKind.i64.wrap (((k - 1) / 2 : Nat) : Int) = (((k - 1) / 2 : Nat) : Int) := by
  refine ⟨IntWalk.i64_in _ ⟨by omega, by omega⟩, ?_, IntWalk.i64_in _ ⟨by omega, by omega⟩⟩
  have : (k : Int) - 1 = ((k - 1 : Nat) : Int) := by omega
  rw [this]
  exact (Int.ofNat_tdiv (k - 1) 2).symm
theorem rise_any (lt : El → El → Bool) (B : Nat) (Inv : World → Prop) (f : FuncId) (lb : Array Value) (hL : Less lt B Inv f lb) (w : World) (b g cap n k : Nat) (l : List El) (hi : Inv w) (hl : Lies w B f lb b g cap n l) (hk : k < n) (hn : n ≤ 100000) (hu : Hp.Up lt l n k) :
    Calls Try.prog 37 #[.pointer (some ⟨b, 0, none⟩), .int .i64 (k : Int)] w fun e w' => e = .returned (.tuple #[]) ∧ ∃ l', Lies w' B f lb b g cap n l' ∧ l'.Perm l ∧ Hp.Hp lt l' n ∧ Only (fun k => k = g) w w' := by
  have hBs : B ≤ w.heap.size := by have := (Array.getElem?_eq_some_iff.1 hl.blk).1; have := hl.le; omega
  have hBg : B ≤ g := hl.hold.le
  have H := Lib.hid hl
  have HI := Lib.hid hi
  have HL := Lib.hid hL
  have HU := Lib.hid hu
  have HBS := Lib.hid hBs
  have HBG := Lib.hid hBg
  clear hl hi hL hu hBs hBg
  go_enter Try.func37, Try.ntmps37
  go_wp2
  go_loopw [1, 4] (fun u _ wr => ∃ (k : Nat) (X : List El), u = .int .i64 (k : Int) ∧ k < n ∧ Hid (Lies wr B f lb b g cap n X) ∧ Hid (X.Perm l) ∧ Hid (Hp.Up lt X n k) ∧ Hid (Only (fun k => k = g) w wr)) (fun u _ _ => (intOf u).toNat)
  case atStart => exact ⟨k, l, rfl, hk, H, List.Perm.refl _, HU, Only.refl _ _⟩
  case round =>
    obtain ⟨k, X, rfl, hk, HX, HP, HU, HO⟩ := hrel
    by_cases h0 : k = 0
    · subst h0
      have HH := Lib.hid (HU.out.done (.inl rfl))
      go_wp2
      go_end0
      exact ⟨rfl, X, HX.out, HP.out, HH.out, HO.out⟩
    · obtain ⟨q1, q2, q3⟩ := half (k := k) (by omega) (by omega)
      have h1 : (0 : Int) < (k : Int) := by omega
      have HIr := Lib.hid (HL.out.keep w wr HI.out HBS.out (HO.out.below HBS.out (fun i hi => by rw [hi]; exact HBG.out)))
      have hkl : k < X.length := by rw [HX.out.len]; exact hk
      have HC := Lib.hid (before_any lt B Inv f lb HL.out wr b g cap n k ((k - 1) / 2) X _ _ HIr.out HX.out (el_G hkl) (el_G (by omega)))
      obtain ⟨p, hp⟩ : ∃ p, p = (k - 1) / 2 := ⟨_, rfl⟩
      have HPp := Lib.hid hp
      have hpk : p < k := by omega
      rw [← hp] at q2 q3 HC
      clear hp hkl
      go_wp2_with fail
      refine HC.out.mono ?_
      rintro e1 w1 ⟨rfl, hb1⟩
      have HX1 := Lib.hid (HX.out.below hb1)
      have HO1 := Lib.hid (HO.out.trans (Only.of_below hb1) (fun _ _ h => h))
      clear hb1 HC
      cases hlt : lt (Hp.G X k) (Hp.G X p) with
      | false =>
        have HH : Hid (Hp.Hp lt X n) := HU.out.done (.inr (by rw [← HPp.out]; exact hlt))
        clear hlt
        go_wp2
        (try simp only [Exit.inBlock, Exit.then]); refine bodyPost_ret (results_none rfl _ _ _) rfl ?_
        exact ⟨rfl, X, HX1.out, HP.out, HH.out, HO1.out⟩
      | true =>
        have HN : Hid (Hp.Up lt (Hp.sw X k p) n p) := by
          have := HU.out.step (swo HL.out.swo) (by omega) hk (by rw [HX1.out.len]; exact Nat.le_refl _) (by rw [← HPp.out]; exact hlt)
          rw [← HPp.out] at this
          exact this
        have HPN : Hid ((Hp.sw X k p).Perm l) := (Hp.sw_perm (by rw [HX1.out.len]; exact hk) (by rw [HX1.out.len]; omega)).trans HP.out
        have HS := Lib.hid (swap_any B f lb w1 b g cap n k p X HX1.out hk (by omega))
        clear hlt
        go_wp2_with fail
        refine HS.out.mono ?_
        rintro e2 w2 ⟨rfl, hl2, ho2⟩
        have HX2 := Lib.hid hl2
        have HO2 := Lib.hid (HO1.out.trans ho2 (fun _ _ h => h))
        clear hl2 ho2 HS HX1 HO1 HX HO
        go_wp2
        go_roundw
        case rel => exact ⟨p, Hp.sw X k p, rfl, by omega, HX2, HPN, HN, HO2⟩
        case measure => simp [intOf]; omega
/-- One of the two below comes before no other one. -/
theorem two_below {k n : Nat} {X : List El} {lt : El → El → Bool} (hs : Swo lt) :
    (∀ c, (c = 2 * k + 1 ∧ (2 * k + 2 < n → lt (Hp.G X (2 * k + 2)) (Hp.G X (2 * k + 1)) = false)) ∨ (c = 2 * k + 2 ∧ 2 * k + 2 < n ∧ lt (Hp.G X (2 * k + 2)) (Hp.G X (2 * k + 1)) = true) → ∀ j, 0 < j → j < n → (j - 1) / 2 = k → lt (Hp.G X j) (Hp.G X c) = false) := by
  rintro c (⟨rfl, h⟩ | ⟨rfl, h2, h⟩) j h0 hj hp
  · by_cases e : j = 2 * k + 1
    · subst e; exact hs.irrefl _
    · obtain rfl : j = 2 * k + 2 := by omega
      exact h hj
  · by_cases e : j = 2 * k + 1
    · subst e; exact (swo hs).asymm _ _ h
    · obtain rfl : j = 2 * k + 2 := by omega
      exact hs.irrefl _
theorem sink_any (lt : El → El → Bool) (B : Nat) (Inv : World → Prop) (f : FuncId) (lb : Array Value) (hL : Less lt B Inv f lb) (w : World) (b g cap n : Nat) (l : List El) (hi : Inv w) (hl : Lies w B f lb b g cap n l) (hn : n ≤ 100000) (hu : Hp.Dn lt l n 0) :
    Calls Try.prog 40 #[.pointer (some ⟨b, 0, none⟩)] w fun e w' => e = .returned (.tuple #[]) ∧ ∃ l', Lies w' B f lb b g cap n l' ∧ l'.Perm l ∧ Hp.Hp lt l' n ∧ Only (fun k => k = g) w w' := by
  have hBs : B ≤ w.heap.size := by have := (Array.getElem?_eq_some_iff.1 hl.blk).1; have := hl.le; omega
  have hBg : B ≤ g := hl.hold.le
  have H := Lib.hid hl
  have HI := Lib.hid hi
  have HL := Lib.hid hL
  have HU := Lib.hid hu
  have HBS := Lib.hid hBs
  have HBG := Lib.hid hBg
  clear hl hi hL hu hBs hBg
  go_enter Try.func40, Try.ntmps40
  go_wp2
  go_loopw [2, 3] (fun u _ wr => ∃ (k : Nat) (X : List El), u = .int .i64 (k : Int) ∧ k ≤ n ∧ Hid (Lies wr B f lb b g cap n X) ∧ Hid (X.Perm l) ∧ Hid (Hp.Dn lt X n k) ∧ Hid (Only (fun k => k = g) w wr)) (fun u _ _ => n - (intOf u).toNat)
  case atStart => exact ⟨0, l, rfl, Nat.zero_le _, H, List.Perm.refl _, HU, Only.refl _ _⟩
  case round =>
    obtain ⟨k, X, rfl, hk, HX, HP, HU, HO⟩ := hrel
    have q1 : IntKind.i64.wrap (2 * (k : Int)) = 2 * (k : Int) := IntWalk.i64_in _ ⟨by omega, by omega⟩
    have q2 : IntKind.i64.wrap (2 * (k : Int) + 1) = ((2 * k + 1 : Nat) : Int) := by rw [IntWalk.i64_in _ ⟨by omega, by omega⟩]; omega
    have c1 : wr.cell? ⟨b, 1, none⟩ = some (.slice (some ⟨g, 0, none⟩) n cap) := cell_of_blk HX.out.blk rfl
    have HIr := Lib.hid (HL.out.keep w wr HI.out HBS.out (HO.out.below HBS.out (fun i hi => by rw [hi]; exact HBG.out)))
    obtain ⟨m, hm⟩ : ∃ m, m = 2 * k + 1 := ⟨_, rfl⟩
    rw [← hm] at q2
    by_cases h0 : m < n
    · have q3 : IntKind.i64.wrap ((m : Int) + 1) = ((m + 1 : Nat) : Int) := by rw [IntWalk.i64_in _ ⟨by omega, by omega⟩]; omega
      have HM := Lib.hid hm
      have a1 : ¬ ((n : Int) ≤ (m : Int)) := by omega
      clear hm
      by_cases h2 : m + 1 < n
      · have a2 : ((m + 1 : Nat) : Int) < (n : Int) := by omega
        have hml : m + 1 < X.length := by rw [HX.out.len]; exact h2
        have HC1 := Lib.hid (before_any lt B Inv f lb HL.out wr b g cap n (m + 1) m X _ _ HIr.out HX.out (el_G hml) (el_G (by omega)))
        clear hml
        go_wp2_with fail
        refine HC1.out.mono ?_
        rintro e1 w1 ⟨rfl, hb1⟩
        have HX1 := Lib.hid (HX.out.below hb1)
        have HO1 := Lib.hid (HO.out.trans (Only.of_below hb1) (fun _ _ h => h))
        clear hb1 HC1 c1 HIr
        cases hsib : lt (Hp.G X (m + 1)) (Hp.G X m) with
        | false =>
          have HT : Hid (∀ j, 0 < j → j < n → (j - 1) / 2 = k → lt (Hp.G X j) (Hp.G X m) = false) := two_below HL.out.swo m (.inl ⟨HM.out, fun _ => by have := HM.out; subst this; exact hsib⟩)
          clear hsib
          have HIq := Lib.hid (HL.out.keep w w1 HI.out HBS.out (HO1.out.below HBS.out (fun i hi => by rw [hi]; exact HBG.out)))
          have hkl : k < X.length := by rw [HX1.out.len]; have := HM.out; omega
          have hcl : m < X.length := by rw [HX1.out.len]; omega
          have HC := Lib.hid (before_any lt B Inv f lb HL.out w1 b g cap n (m) k X _ _ HIq.out HX1.out (el_G hcl) (el_G hkl))
          clear hcl hkl
          go_wp2_with fail
          refine HC.out.mono ?_
          rintro e3 w3 ⟨rfl, hb3⟩
          have HX3 := Lib.hid (HX1.out.below hb3)
          have HO3 := Lib.hid (HO1.out.trans (Only.of_below hb3) (fun _ _ h => h))
          clear hb3 HC HIq
          cases hlt : lt (Hp.G X (m)) (Hp.G X k) with
          | false =>
            have HH : Hid (Hp.Hp lt X n) := HU.out.done fun j h0 hj hp => HL.out.swo.ntrans _ _ _ (HT.out j h0 hj hp) hlt
            clear hlt
            go_wp2
            (try simp only [Exit.inBlock, Exit.then]); refine bodyPost_ret (results_none rfl _ _ _) rfl ?_
            exact ⟨rfl, X, HX3.out, HP.out, HH.out, HO3.out⟩
          | true =>
            have HN : Hid (Hp.Dn lt (Hp.sw X k (m)) n (m)) := HU.out.step (swo HL.out.swo) (by have := HM.out; omega) (by omega) (by have := HM.out; omega) (by rw [HX3.out.len]; exact Nat.le_refl _) hlt HT.out
            have hkn : k < n := by have := HM.out; omega
            have HPN : Hid ((Hp.sw X k (m)).Perm l) := (Hp.sw_perm (by rw [HX3.out.len]; exact hkn) (by rw [HX3.out.len]; omega)).trans HP.out
            have HS := Lib.hid (swap_any B f lb w3 b g cap n k (m) X HX3.out hkn (by omega))
            clear hlt
            go_wp2_with fail
            refine HS.out.mono ?_
            rintro e4 w4 ⟨rfl, hl4, ho4⟩
            have HX4 := Lib.hid hl4
            have HO4 := Lib.hid (HO3.out.trans ho4 (fun _ _ h => h))
            clear hl4 ho4 HS HX3 HO3
            go_wp2
            go_roundw
            case rel => exact ⟨m, Hp.sw X k (m), rfl, by omega, HX4, HPN, HN, HO4⟩
            case measure => have := HM.out; simp [intOf]; omega
        | true =>
          have HT : Hid (∀ j, 0 < j → j < n → (j - 1) / 2 = k → lt (Hp.G X j) (Hp.G X (m + 1)) = false) := two_below HL.out.swo (m + 1) (.inr ⟨by have := HM.out; omega, by have := HM.out; omega, by have := HM.out; subst this; exact hsib⟩)
          clear hsib
          have HIq := Lib.hid (HL.out.keep w w1 HI.out HBS.out (HO1.out.below HBS.out (fun i hi => by rw [hi]; exact HBG.out)))
          have hkl : k < X.length := by rw [HX1.out.len]; have := HM.out; omega
          have hcl : m + 1 < X.length := by rw [HX1.out.len]; omega
          have HC := Lib.hid (before_any lt B Inv f lb HL.out w1 b g cap n (m + 1) k X _ _ HIq.out HX1.out (el_G hcl) (el_G hkl))
          clear hcl hkl
          go_wp2_with fail
          refine HC.out.mono ?_
          rintro e3 w3 ⟨rfl, hb3⟩
          have HX3 := Lib.hid (HX1.out.below hb3)
          have HO3 := Lib.hid (HO1.out.trans (Only.of_below hb3) (fun _ _ h => h))
          clear hb3 HC HIq
          cases hlt : lt (Hp.G X (m + 1)) (Hp.G X k) with
          | false =>
            have HH : Hid (Hp.Hp lt X n) := HU.out.done fun j h0 hj hp => HL.out.swo.ntrans _ _ _ (HT.out j h0 hj hp) hlt
            clear hlt
            go_wp2
            (try simp only [Exit.inBlock, Exit.then]); refine bodyPost_ret (results_none rfl _ _ _) rfl ?_
            exact ⟨rfl, X, HX3.out, HP.out, HH.out, HO3.out⟩
          | true =>
            have HN : Hid (Hp.Dn lt (Hp.sw X k (m + 1)) n (m + 1)) := HU.out.step (swo HL.out.swo) (by have := HM.out; omega) (by omega) (by have := HM.out; omega) (by rw [HX3.out.len]; exact Nat.le_refl _) hlt HT.out
            have hkn : k < n := by have := HM.out; omega
            have HPN : Hid ((Hp.sw X k (m + 1)).Perm l) := (Hp.sw_perm (by rw [HX3.out.len]; exact hkn) (by rw [HX3.out.len]; omega)).trans HP.out
            have HS := Lib.hid (swap_any B f lb w3 b g cap n k (m + 1) X HX3.out hkn (by omega))
            clear hlt
            go_wp2_with fail
            refine HS.out.mono ?_
            rintro e4 w4 ⟨rfl, hl4, ho4⟩
            have HX4 := Lib.hid hl4
            have HO4 := Lib.hid (HO3.out.trans ho4 (fun _ _ h => h))
            clear hl4 ho4 HS HX3 HO3
            go_wp2
            go_roundw
            case rel => exact ⟨m + 1, Hp.sw X k (m + 1), rfl, by omega, HX4, HPN, HN, HO4⟩
            case measure => have := HM.out; simp [intOf]; omega
      · have a2 : ¬ (((m + 1 : Nat) : Int) < (n : Int)) := by omega
        have HT : Hid (∀ j, 0 < j → j < n → (j - 1) / 2 = k → lt (Hp.G X j) (Hp.G X m) = false) := two_below HL.out.swo m (.inl ⟨HM.out, fun h => by have := HM.out; omega⟩)
        have HIq := Lib.hid (HL.out.keep w wr HI.out HBS.out (HO.out.below HBS.out (fun i hi => by rw [hi]; exact HBG.out)))
        have hkl : k < X.length := by rw [HX.out.len]; have := HM.out; omega
        have hcl : m < X.length := by rw [HX.out.len]; omega
        have HC := Lib.hid (before_any lt B Inv f lb HL.out wr b g cap n (m) k X _ _ HIq.out HX.out (el_G hcl) (el_G hkl))
        clear hcl hkl
        go_wp2_with fail
        refine HC.out.mono ?_
        rintro e3 w3 ⟨rfl, hb3⟩
        have HX3 := Lib.hid (HX.out.below hb3)
        have HO3 := Lib.hid (HO.out.trans (Only.of_below hb3) (fun _ _ h => h))
        clear hb3 HC HIq
        cases hlt : lt (Hp.G X (m)) (Hp.G X k) with
        | false =>
          have HH : Hid (Hp.Hp lt X n) := HU.out.done fun j h0 hj hp => HL.out.swo.ntrans _ _ _ (HT.out j h0 hj hp) hlt
          clear hlt
          go_wp2
          (try simp only [Exit.inBlock, Exit.then]); refine bodyPost_ret (results_none rfl _ _ _) rfl ?_
          exact ⟨rfl, X, HX3.out, HP.out, HH.out, HO3.out⟩
        | true =>
          have HN : Hid (Hp.Dn lt (Hp.sw X k (m)) n (m)) := HU.out.step (swo HL.out.swo) (by have := HM.out; omega) (by omega) (by have := HM.out; omega) (by rw [HX3.out.len]; exact Nat.le_refl _) hlt HT.out
          have hkn : k < n := by have := HM.out; omega
          have HPN : Hid ((Hp.sw X k (m)).Perm l) := (Hp.sw_perm (by rw [HX3.out.len]; exact hkn) (by rw [HX3.out.len]; omega)).trans HP.out
          have HS := Lib.hid (swap_any B f lb w3 b g cap n k (m) X HX3.out hkn (by omega))
          clear hlt
          go_wp2_with fail
          refine HS.out.mono ?_
          rintro e4 w4 ⟨rfl, hl4, ho4⟩
          have HX4 := Lib.hid hl4
          have HO4 := Lib.hid (HO3.out.trans ho4 (fun _ _ h => h))
          clear hl4 ho4 HS HX3 HO3
          go_wp2
          go_roundw
          case rel => exact ⟨m, Hp.sw X k (m), rfl, by omega, HX4, HPN, HN, HO4⟩
          case measure => have := HM.out; simp [intOf]; omega
    · have HH : Hid (Hp.Hp lt X n) := HU.out.done fun j _ hj hp => by omega
      have a1 : (n : Int) ≤ (m : Int) := by omega
      clear hm
      go_wp2
      (try simp only [Exit.inBlock, Exit.then]); refine bodyPost_ret (results_none rfl _ _ _) rfl ?_
      exact ⟨rfl, X, HX.out, HP.out, HH.out, HO.out⟩
end Go.Proofs.Ytdhlbcbgbmgcjaa.Hq.D

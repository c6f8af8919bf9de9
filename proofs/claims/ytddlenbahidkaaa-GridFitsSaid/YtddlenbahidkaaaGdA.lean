/- Layer 14 (grid), the landed program: around, as a contract. -/
import Derived.Test.YtddlenbahidkaaaGdT
import Derived.Test.YtddlenbahidkaaaGdB
import Derived.Lib.MinMax
import Derived.Deep.QuietTactic
import Derived.BigQuiet
import Derived.Deep.DeepCutAuto
namespace Go.Proofs.Ytddlenbahidkaaa.Gd
open Go.RowKit Rec Ints Ge Go.WideMaps Go.Maps Go.ChangeMaps

/-- A grid in memory, told with what it is made of. -/
structure Gi (w : World) (g : Nat) (A : Option Addr) (n c b base : Nat) (D : DataW Unit) (l : List C) (s : Int) : Prop where
  lt : g < w.heap.size
  c0 : w.cell? ⟨g, 0, none⟩ = some (.int .i64 s)
  c1 : w.cell? ⟨g, 1, none⟩ = some (.slice A n c)
  c2 : w.cell? ⟨g, 2, none⟩ = some (.map (some b))
  row : RRow twoS w w.heap.size A n l
  ok : right l s = 0
  own : w.ownsGroups Try.prog 32 base 3 .i64 b n D
  gm : GM l s n D
theorem Gi.keep {w w' : World} {g : Nat} {A : Option Addr} {n c b base : Nat} {D : DataW Unit} {l : List C} {s : Int} (h : Gi w g A n c b base D l s) (hb : Below w.heap.size w w') : Gi w' g A n c b base D l s :=
  ⟨Nat.lt_of_lt_of_le h.lt hb.size, (hb.cell h.lt).trans h.c0, (hb.cell h.lt).trans h.c1, (hb.cell h.lt).trans h.c2, (h.row.below hb).more hb.size, h.ok, Ent.groups_kept h.own fun k hk => hb.block k hk, h.gm⟩
theorem Gr.open {w : World} {a : Addr} {l : List C} {s : Int} (h : Gr w a l s) : ∃ g A n c b base D, a = ⟨g, 0, none⟩ ∧ Gi w g A n c b base D l s := by
  obtain ⟨g, A, n, c, b, base, D, rfl, hg, h0, h1, h2, hr, hk, hm, hd⟩ := h
  exact ⟨g, A, n, c, b, base, D, rfl, hg, h0, h1, h2, hr, hk, hm, hd⟩

/-- What is collected: blocks ahead of gs lie as they did. -/
structure Cl (gs : Nat) (ws wr : World) (v : Value) (L : List Nat) : Prop where
  row : wr.ownsRow gs 3 1 v L.length (intS.flat (nums L))
  below : Below gs ws wr
  big : gs ≤ wr.heap.size
theorem Cl.start (ws : World) : Cl ws.heap.size ws ws (.slice none 0 0) [] := ⟨World.ownsRow_nil _ _ _ _, Below.refl _ _, Nat.le_refl _⟩

theorem Cl.more {gs : Nat} {ws wr w2 : World} {v v' : Value} {L M : List Nat} (h : Cl gs ws wr v L) (h2 : w2.ownsRow gs 3 1 v' (L.length + M.length) (intS.flat (nums L ++ nums M))) (hb : Below gs wr w2) : Cl gs ws w2 v' (L ++ M) :=
  ⟨by rw [List.length_append, nums_cat]; exact h2, h.below.trans hb, Nat.le_trans h.big hb.size⟩
theorem Cl.into {gs : Nat} {w ws wr : World} {v : Value} {L : List Nat} (h : Cl gs ws wr v L) (hb : Below w.heap.size w ws) (hg : w.heap.size ≤ gs) : InTo w.heap.size w (nums L) v wr :=
  (InTo.of_own h.row h.below).rebase (hb.trans (h.below.mono hg))

set_option maxHeartbeats 3200000 in
set_option maxRecDepth 100000 in
theorem around_any (a : Addr) (l : List C) (s x y r : Int) (w : World) (h : Gr w a l s) (hm : may x y) (hr0 : 0 ≤ r) (hr1 : r ≤ 1048576) :
    Calls Try.prog 21 #[.pointer (some a), .int .i64 x, .int .i64 y, .int .i64 r] w fun e w' => ∃ v L, e = .returned v ∧ InTo w.heap.size w (nums L) v w' ∧ Cov l x y r L := by
  obtain ⟨g, A, n, c, b, base, D, rfl, hi⟩ := h.open
  obtain ⟨ii, hii, hiz0, hiz1, hiz2⟩ := info_of info_int
  have HI := Lib.hid hi
  have hn0 : n ≤ 4096 := by have h1 := (right_ok hi.ok).1; have h2 : l.length = n := hi.row.1; omega
  have hs := right_ok hi.ok
  have HL : Hid (l.length = n) := hi.row.1
  have HMY := Lib.hid hm
  have m1 : IntKind.i64.wrap (x - r) = x - r := IntWalk.i64_in _ (by have := hm.1; constructor <;> omega)
  have m2 : IntKind.i64.wrap (y - r) = y - r := IntWalk.i64_in _ (by have := hm.2; constructor <;> omega)
  have m3 : IntKind.i64.wrap (x + r) = x + r := IntWalk.i64_in _ (by have := hm.1; constructor <;> omega)
  have m4 : IntKind.i64.wrap (y + r) = y + r := IntWalk.i64_in _ (by have := hm.2; constructor <;> omega)
  have HR := Lib.hid (And.intro hr0 hr1)
  have HS := Lib.hid hs
  clear hi h hs hm hr0 hr1
  go_enter Try.func21, Try.ntmps21
  go_wp2_with fail
  refine (cell_any g s (max (x - r) 0) (max (y - r) 0) w HI.out.c0 HI.out.lt (by have := HS.out.2.1; omega) (by have h1 := HMY.out.1; have h2 := HR.out; omega) (by have h1 := HMY.out.2; have h2 := HR.out; omega)).mono ?_
  rintro e1 w1 ⟨rfl, hb1⟩
  obtain ⟨lx, hlx⟩ : ∃ lx, (max (x - r) 0).tdiv s = lx := ⟨_, rfl⟩
  obtain ⟨ly, hly⟩ : ∃ ly, (max (y - r) 0).tdiv s = ly := ⟨_, rfl⟩
  rw [hlx, hly]
  have HLO := Lib.hid (And.intro hlx hly)
  clear hlx hly
  have HI1 := Lib.hid (HI.out.keep hb1)
  have HB1 := Lib.hid hb1
  clear hb1 HI
  have hbA := (Below.refl w1.heap.size w1).alloc (Nat.le_refl _) (.cells #[.int .i64 lx, .int .i64 ly] 32)
  have HIA := Lib.hid (HI1.out.keep hbA)
  have HBA := Lib.hid (HB1.out.trans (hbA.mono HB1.out.size))
  have HNA := Lib.hid (heap_alloc_new w1 (.cells #[.int .i64 lx, .int .i64 ly] 32))
  have HZA : Hid (w.heap.size ≤ w1.heap.size) := HB1.out.size
  clear hbA HI1 HB1
  go_wp2_with fail
  generalize w1.alloc (.cells #[.int .i64 lx, .int .i64 ly] 32) = wA at *
  generalize w1.heap.size = g9 at *
  refine (cell_any g s (min (x + r) 67108863) (min (y + r) 67108863) wA HIA.out.c0 HIA.out.lt (by have := HS.out.2.1; omega) (by have h1 := HMY.out.1; have h2 := HR.out; omega) (by have h1 := HMY.out.2; have h2 := HR.out; omega)).mono ?_
  rintro e2 w2 ⟨rfl, hb2⟩
  obtain ⟨hx, hhx⟩ : ∃ hx, (min (x + r) 67108863).tdiv s = hx := ⟨_, rfl⟩
  obtain ⟨hy, hhy⟩ : ∃ hy, (min (y + r) 67108863).tdiv s = hy := ⟨_, rfl⟩
  rw [hhx, hhy]
  have HHI := Lib.hid (And.intro hhx hhy)
  clear hhx hhy
  have HI2 := Lib.hid (HIA.out.keep hb2)
  have HB2 := Lib.hid (HBA.out.trans (hb2.mono HBA.out.size))
  have HN2 := Lib.hid ((hb2.block g9 (Array.getElem?_eq_some_iff.1 HNA.out).1).trans HNA.out)
  clear hb2 HIA HBA HNA wA w1
  have hbB := (Below.refl w2.heap.size w2).alloc (Nat.le_refl _) (.cells #[.int .i64 hx, .int .i64 hy] 32)
  have HI3 := Lib.hid (HI2.out.keep hbB)
  have HB3 := Lib.hid (HB2.out.trans (hbB.mono HB2.out.size))
  have HN3 := Lib.hid ((hbB.block g9 (Array.getElem?_eq_some_iff.1 HN2.out).1).trans HN2.out)
  have HN4 := Lib.hid (heap_alloc_new w2 (.cells #[.int .i64 hx, .int .i64 hy] 32))
  clear hbB HI2 HB2 HN2
  -- bounds of the cells
  have HLH : Hid (0 ≤ lx ∧ lx ≤ hx ∧ hx ≤ 67108863 ∧ 0 ≤ ly ∧ ly ≤ hy ∧ hy ≤ 67108863) := by
    have h1 := HMY.out.1; have h2 := HMY.out.2; have h3 := HR.out; have h4 := HS.out.2.1
    have a1 := tdiv_mono (a := max (x - r) 0) (b := min (x + r) 67108863) (s := s) (by omega) (by omega) (by omega)
    have a2 := tdiv_mono (a := max (y - r) 0) (b := min (y + r) 67108863) (s := s) (by omega) (by omega) (by omega)
    have a3 := Int.tdiv_nonneg (by omega : 0 ≤ max (x - r) 0) (by omega : 0 ≤ s)
    have a4 := Int.tdiv_nonneg (by omega : 0 ≤ max (y - r) 0) (by omega : 0 ≤ s)
    have a5 := Int.tdiv_le_self s (by omega : 0 ≤ min (x + r) 67108863)
    have a6 := Int.tdiv_le_self s (by omega : 0 ≤ min (y + r) 67108863)
    rw [HLO.out.1, HHI.out.1] at a1
    rw [HLO.out.2, HHI.out.2] at a2
    rw [HLO.out.1] at a3
    rw [HLO.out.2] at a4
    rw [HHI.out.1] at a5
    rw [HHI.out.2] at a6
    unfold Hid
    omega
  go_upto_region 4 with fail
  generalize w2.alloc (.cells #[.int .i64 hx, .int .i64 hy] 32) = wB at *
  generalize w2.heap.size = g10 at *
  have c1 : wB.cell? ⟨g9, 0, none⟩ = some (.int .i64 lx) := cell_of_blk HN3.out rfl
  have c2 : wB.cell? ⟨g9, 1, none⟩ = some (.int .i64 ly) := cell_of_blk HN3.out rfl
  have c3 : wB.cell? ⟨g10, 0, none⟩ = some (.int .i64 hx) := cell_of_blk HN4.out rfl
  have c4 : wB.cell? ⟨g10, 1, none⟩ = some (.int .i64 hy) := cell_of_blk HN4.out rfl
  have c5 := HI3.out.c1
  obtain ⟨K, hK⟩ : ∃ K : Nat, (K : Int) = hx - lx + 1 := ⟨(hx - lx + 1).toNat, by have := HLH.out; omega⟩
  obtain ⟨M, hM⟩ : ∃ M : Nat, (M : Int) = hy - ly + 1 := ⟨(hy - ly + 1).toNat, by have := HLH.out; omega⟩
  have k1 : IntKind.i64.wrap (hx - lx) = hx - lx := IntWalk.i64_in _ (by have := HLH.out; constructor <;> omega)
  have k2 : IntKind.i64.wrap (hx - lx + 1) = (K : Int) := (IntWalk.i64_in _ (by have := HLH.out; constructor <;> omega)).trans hK.symm
  have k3 : IntKind.i64.wrap (hy - ly) = hy - ly := IntWalk.i64_in _ (by have := HLH.out; constructor <;> omega)
  have k4 : IntKind.i64.wrap (hy - ly + 1) = (M : Int) := (IntWalk.i64_in _ (by have := HLH.out; constructor <;> omega)).trans hM.symm
  obtain ⟨KM, hKM⟩ : ∃ KM : Nat, KM = K * M := ⟨_, rfl⟩
  have k5 : IntKind.i64.wrap ((K : Int) * (M : Int)) = (KM : Int) := by
    have e1 : K * M ≤ 67108864 * 67108864 := Nat.mul_le_mul (by have := HLH.out; omega) (by have := HLH.out; omega)
    have e2 : ((K : Int) * (M : Int)) = (KM : Int) := by rw [hKM]; exact (Int.natCast_mul K M).symm
    rw [e2]
    exact IntWalk.i64_in _ (by constructor <;> omega)
  have HKM := Lib.hid (And.intro hK (And.intro hM hKM))
  clear hK hM hKM
  by_cases hgt : n < KM
  · have dg : decide ((n : Int) < (KM : Int)) = true := decide_eq_true (by omega)
    go_quiet (fail)
    have HI4 := Lib.hid (HI3.out.keep (w' := wB.drewN nq) (below_drewN (Below.refl _ _) nq))
    have HB4 : Hid (Below w.heap.size w (wB.drewN nq)) := below_drewN HB3.out nq
    generalize wB.drewN nq = ws at *
    clear HI3 HB3 HN3 HN4 c1 c2 c3 c4 c5
    have c5 := HI4.out.c1
    have HCL := Lib.hid (Cl.start ws)
    have HSZ : Hid (w.heap.size ≤ ws.heap.size) := HB4.out.size
    obtain ⟨gs, hgs⟩ : ∃ gs, ws.heap.size = gs := ⟨_, rfl⟩
    rw [hgs] at HCL HSZ
    go_wp2
    go_loopw [11, 59] (fun v i wr => ∃ k : Nat, k ≤ n ∧ i = .int .i64 (k : Int) ∧ Hid (Cl gs ws wr v (List.range k)))
      (fun _ i _ => n - (intOf i).toNat)
    case atStart => exact ⟨0, Nat.zero_le _, rfl, HCL⟩
    case round =>
      clear HCL
      obtain ⟨k, hk, rfl, HCL⟩ := hrel
      by_cases hkn : k < n
      · have d1 : decide ((k : Int) < (n : Int)) = true := decide_eq_true (by omega)
        have HOA := Lib.hid (ownr_alloc HCL.out.row (.cells #[.int .i64 (k : Int)] 3))
        have HNEW := Lib.hid (new_int wr (k : Int) 3)
        have hbig := HCL.out.big
        have hlen : (List.range k).length = k := List.length_range
        go_wp2_with (at_builtin; go_loud (refine push_rec intS rfl (.tmp 62) (.tmp 64) 34 rfl gs 3 ii (.int .i64 0) 8 Try.underlying34 hii hiz0 rfl hiz1 hiz2 _ (List.range k).length (nums (List.range k)) rfl HOA.out ⟨wr.heap.size, 0, none⟩ (k : Int) rfl HNEW.out (by omega) (by omega) (by simp; omega) ?_); intro v2 w2 hown2 _ hb2; have HC2 := Lib.hid (HCL.out.more (M := [k]) hown2 (((Below.refl _ _).alloc hbig _).trans hb2)); clear hown2 hb2)
        have hwk : IntKind.i64.wrap ((k : Int) + 1) = (k : Int) + 1 := IntWalk.i64_in _ ⟨by omega, by omega⟩
        go_wp2
        go_roundw
        case rel => exact ⟨k + 1, by omega, by go_num, by rw [List.range_succ]; exact HC2⟩
        case measure => simp [intOf]; omega
      · obtain rfl : k = n := by omega
        have d1 : decide ((k : Int) < (k : Int)) = false := decide_eq_false (by omega)
        have HIN := Lib.hid (HCL.out.into HB4.out HSZ.out)
        have HCV : Hid (Cov l x y r (List.range k)) := by unfold Hid; rw [← HL.out]; exact cov_all _ _ _ _
        go_wp2
        go_ret
        exact ⟨_, _, rfl, HIN.out, HCV.out⟩
  · have dg : decide ((n : Int) < (KM : Int)) = false := decide_eq_false (by omega)
    go_quiet (fail)
    have HI4 := Lib.hid (HI3.out.keep (w' := wB.drewN nq) (below_drewN (Below.refl _ _) nq))
    have HB4 : Hid (Below w.heap.size w (wB.drewN nq)) := below_drewN HB3.out nq
    have HN5 : Hid ((wB.drewN nq).heap[g9]? = some (.cells #[.int .i64 lx, .int .i64 ly] 32)) := HN3.out
    have HN6 : Hid ((wB.drewN nq).heap[g10]? = some (.cells #[.int .i64 hx, .int .i64 hy] 32)) := HN4.out
    generalize wB.drewN nq = ws at *
    clear HI3 HB3 HN3 HN4 c1 c2 c3 c4 c5
    have HCL := Lib.hid (Cl.start ws)
    have HSZ : Hid (w.heap.size ≤ ws.heap.size) := HB4.out.size
    have h9 : g9 < ws.heap.size := (Array.getElem?_eq_some_iff.1 HN5.out).1
    have h10 : g10 < ws.heap.size := (Array.getElem?_eq_some_iff.1 HN6.out).1
    have hbw := Ent.groups_lt HI4.out.own
    have c1 : ws.cell? ⟨g9, 0, none⟩ = some (.int .i64 lx) := cell_of_blk HN5.out rfl
    obtain ⟨gs, hgs⟩ : ∃ gs, ws.heap.size = gs := ⟨_, rfl⟩
    have HGS := Lib.hid hgs
    rw [hgs] at HCL HSZ h9 h10 hbw
    have HKK : Hid (K ≤ 4096 ∧ M ≤ 4096 ∧ 0 < K ∧ 0 < M) := by
      have h1 := HKM.out
      have h2 := HLH.out
      have a1 : K * 1 ≤ K * M := Nat.mul_le_mul_left K (by omega)
      have a2 : 1 * M ≤ K * M := Nat.mul_le_mul_right M (by omega)
      unfold Hid
      omega
    go_wp2
    clear c1
    go_loopw [11, 13] (fun v i wr => ∃ k : Nat, k ≤ K ∧ i = .int .i64 (lx + (k : Int)) ∧ Hid (Cl gs ws wr v (boxT l s lx ly M k)))
      (fun _ i _ => K - (intOf i - lx).toNat)
    case atStart => exact ⟨0, Nat.zero_le _, by simp, HCL⟩
    case round =>
      clear HCL
      obtain ⟨k, hk, rfl, HCL⟩ := hrel
      have c3 : wr.cell? ⟨g10, 0, none⟩ = some (.int .i64 hx) := cell_of_blk ((HCL.out.below.block g10 h10).trans HN6.out) rfl
      by_cases hkn : k < K
      · have d1 : decide (lx + (k : Int) ≤ hx) = true := decide_eq_true (by have := HKM.out; omega)
        have c2 : wr.cell? ⟨g9, 1, none⟩ = some (.int .i64 ly) := cell_of_blk ((HCL.out.below.block g9 h9).trans HN5.out) rfl
        have HCI : Hid (Cl gs ws wr u11 (boxT l s lx ly M k ++ colT l s (lx + (k : Int)) ly 0)) := by
          have e : colT l s (lx + (k : Int)) ly 0 = [] := rfl
          unfold Hid
          rw [e, List.append_nil]
          exact HCL.out
        go_wp2
        clear c2 c3 HCL
        go_loopw [11, 14] (fun v i wr => ∃ j : Nat, j ≤ M ∧ i = .int .i64 (ly + (j : Int)) ∧ Hid (Cl gs ws wr v (boxT l s lx ly M k ++ colT l s (lx + (k : Int)) ly j)))
          (fun _ i _ => M - (intOf i - ly).toNat)
        case atStart => exact ⟨0, Nat.zero_le _, by simp, HCI⟩
        case round =>
          clear HCI
          obtain ⟨j, hj, rfl, HCI⟩ := hrel
          have c4 : wr.cell? ⟨g10, 1, none⟩ = some (.int .i64 hy) := cell_of_blk ((HCI.out.below.block g10 h10).trans HN6.out) rfl
          by_cases hjm : j < M
          · have d2 : decide (ly + (j : Int) ≤ hy) = true := decide_eq_true (by have := HKM.out; omega)
            have hq : B64p (lx + (k : Int), ly + (j : Int)) := by have h1 := HLH.out; have h2 := HKM.out; unfold B64p B64; simp only; omega
            obtain ⟨A', m, c', hr', e2, e3, e4, hm4, hrun⟩ := look_at HI4.out.own HL.out.symm HI4.out.gm hn0 hq
            have hlk := hrun wr (HCI.out.below.block b hbw)
            have hg2 : wr.cell? ⟨g, 2, none⟩ = some (.map (some b)) := by
              have h1 := HI4.out.lt
              rw [HGS.out] at h1
              exact (HCI.out.below.cell h1).trans HI4.out.c2
            have HRW : Hid (RRow intS wr gs A' m (nums (Gd.cell l s (lx + (k : Int), ly + (j : Int))))) := by rw [HGS.out] at hr'; exact hr'.below HCI.out.below
            have hml : (Gd.cell l s (lx + (k : Int), ly + (j : Int))).length = m := by rw [← nums_len]; exact hr'.1
            have HPL : Hid ((boxT l s lx ly M k ++ colT l s (lx + (k : Int)) ly j).length ≤ 4096) := Nat.le_trans (part_len l s lx ly M k j) HS.out.1
            have hbig := HCI.out.big
            have hwk : IntKind.i64.wrap (ly + (j : Int) + 1) = ly + ((j + 1 : Nat) : Int) := (IntWalk.i64_in _ (by have h1 := HLH.out; have h2 := HKM.out; constructor <;> omega)).trans (by omega)
            simp only at hlk
            clear hr' hrun hq
            go_wp2_with (at_builtin; go_loud (refine cat_rec intS rfl (.tmp 84) (.tmp 92) 34 rfl gs 3 ii (.int .i64 0) 8 Try.underlying34 hii hiz0 rfl hiz1 hiz2 _ (boxT l s lx ly M k ++ colT l s (lx + (k : Int)) ly j).length (nums (boxT l s lx ly M k ++ colT l s (lx + (k : Int)) ly j)) rfl HCI.out.row gs A' m c' (nums (Gd.cell l s (lx + (k : Int), ly + (j : Int)))) rfl e2 HRW.out (by have := HPL.out; omega) (by omega) hbig ?_); intro v2 w2 hown2 _ hb2; rw [← hml] at hown2; have HC2 := Lib.hid (HCI.out.more hown2 hb2); clear hown2 hb2)
            go_wp2
            go_roundw
            case rel => exact ⟨j + 1, by omega, by first | rfl | go_num, by rw [col_succ, ← List.append_assoc]; exact HC2⟩
            case measure => simp [intOf]; omega
          · obtain rfl : j = M := by omega
            have d2 : decide (ly + (j : Int) ≤ hy) = false := decide_eq_false (by have := HKM.out; omega)
            have hwk : IntKind.i64.wrap (lx + (k : Int) + 1) = lx + ((k + 1 : Nat) : Int) := (IntWalk.i64_in _ (by have h1 := HLH.out; have h2 := HKM.out; constructor <;> omega)).trans (by omega)
            go_wp2
            go_roundw
            case rel => exact ⟨k + 1, by omega, by first | rfl | go_num, by rw [box_succ]; exact HCI⟩
            case measure => simp [intOf]; omega
      · obtain rfl : k = K := by omega
        have d1 : decide (lx + (k : Int) ≤ hx) = false := decide_eq_false (by have := HKM.out; omega)
        have HIN := Lib.hid (HCL.out.into HB4.out HSZ.out)
        have HCV : Hid (Cov l x y r (boxT l s lx ly M k)) := cov_box HMY.out HS.out.2.2.2 (by have := HS.out.2.1; omega) HR.out.1 HLO.out.1.symm HLO.out.2.symm (by rw [HHI.out.1]; have := HKM.out; omega) (by rw [HHI.out.2]; have := HKM.out; omega)
        go_wp2
        go_ret
        exact ⟨_, _, rfl, HIN.out, HCV.out⟩
end Go.Proofs.Ytddlenbahidkaaa.Gd

/- Lemmas that the proof stands on, in build order: GfE. -/
import Derived.Test.YtdgaaghkhkklpaaJ33a44aba
/- Layer 15 (graph), the landed program: what reads all stops, all links. -/
namespace Go.Proofs.Ytdgaaghkhkklpaa.Gf
open Go.RowKit Rec Ints Ge Var Fld Frm Nu
theorem infoS : (Try.prog.info? 56).map (fun i => (i.zero, i.size, i.bytes)) = some (some (.agg #[.int .i64 0, .int .i64 0]), 2, 16) := by kernel_rfl

theorem made_Stops (n : Nat) : (madeCells (Value.agg #[.int .i64 0, .int .i64 0]).cells (n * 2)).toList = twoS.flat (List.replicate n ((0, 0) : C)) := by
  rw [Sto.flat_all (S := twoS) (a := ((0, 0) : C)) (u := .int .i64 0) rfl n]
  refine Sto.made_all (by show 0 < 2; omega) (fun j hj => ?_) _
  have hj' : j < 2 := hj
  match j, hj' with
  | 0, _ => rfl
  | 1, _ => rfl
/-- While they are read: the slice, the Reader, its pointer's block. -/
structure LStops (w0 : World) (g p q K : Nat) (R : List C × S2) (k : Nat) (w : World) : Prop where
  own : Hold twoS w w0.heap.size 56 q K (R.1 ++ List.replicate (K - k) ((0, 0) : C))
  len : R.1.length = k
  rd : Rdr w g R.2.1 R.2.2
  box : w.heap[p]? = some (.cells #[.pointer (some ⟨g, 0, none⟩)] 62 (0, 0))
  only : Only (fun i => i = g) w0 w
set_option maxHeartbeats 1600000 in
set_option maxRecDepth 100000 in
theorem Stops_any (g p : Nat) (s : S2) (w : World) (h : Rdr w g s.1 s.2) (hp : w.heap[p]? = some (.cells #[.pointer (some ⟨g, 0, none⟩)] 62 (0, 0))) (hne : p ≠ g) (K : Nat) (hK : rv1 s 4096 = (K : Int)) :
    Calls Try.prog 53 #[.pointer (some ⟨g, 0, none⟩), .int .i64 4096, .func (.func 54) #[] #[.pointer (some ⟨p, 0, none⟩)]] w fun e w' =>
      ∃ q, e = .returned (.slice (some ⟨q, 0, none⟩) K K) ∧ LStops w g p q K (rdS (rd1 s 4096) K) K w' := by
  obtain ⟨i0, hi, hz0, hz1, hz2⟩ := info_of infoS
  have hpl : p < w.heap.size := (Array.getElem?_eq_some_iff.1 hp).1
  have hgl := h.lt
  have hKc : K ≤ 4096 := by have := rv1_in s (most := 4096) (by omega); omega
  have HA := Lib.hid hp
  have HR := Lib.hid h
  have HK := Lib.hid hK
  clear h hp hK
  go_enter Try.func53, Try.ntmps53
  go_wp2_with fail
  refine (number_stp g s 4096 w HR.out (by omega) (by omega)).mono ?_
  rw [HK.out]
  rintro e1 w1 ⟨rfl, hr1, ho1⟩
  have HR1 := Lib.hid hr1
  have HO1 := Lib.hid ho1
  have HA1 := Lib.hid (ho1.at HA.out hne)
  have hs1 := ho1.size
  clear hr1 ho1 HR HA
  go_wp2_with (at_make; go_loud (refine wpList_make_full _ rfl _ _ 22 rfl w.heap.size 56 i0 (.agg #[.int .i64 0, .int .i64 0]) 2 Try.underlying22 hi hz0 hz1 _ _ _ _ K rfl rfl rfl rfl (by rw [hz2]; omega) (by unfold maxLen; omega) hs1 ?_); intro w2 hown2 hg2; rw [made_Stops] at hown2; have HO2 := Lib.hid hown2; have HG2 := Lib.hid hg2; clear hown2 hg2)
  obtain ⟨q, hq⟩ : ∃ q, w1.heap.size = q := ⟨_, rfl⟩
  rw [hq] at HO2 hs1
  try rw [hq]
  have ho2 : Only (fun i => i = g) w1 w2 := (Only.of_grown HG2.out).mono (fun i h => by cases h)
  have HS0 : Hid (LStops w g p q K (rdS (rd1 s 4096) 0) 0 w2) :=
    ⟨(Hold.of_own (S := twoS) HO2.out).1, rfl, HR1.out.only ((Only.of_grown HG2.out).mono (M' := fun _ => False) (fun i h => by cases h)) (fun _ _ h => h), ho2.at HA1.out hne, HO1.out.trans ho2 (fun _ _ h => h)⟩
  clear ho2 HO2 HG2 HR1 HO1 HA1 hq
  go_wp2
  go_loopw [8, 15] (fun _ i wr => ∃ k : Nat, k ≤ K ∧ i = .int .i64 (k : Int) ∧ Hid (LStops w g p q K (rdS (rd1 s 4096) k) k wr)) (fun _ i _ => K - (intOf i).toNat)
  case atStart => exact ⟨0, Nat.zero_le _, rfl, HS0⟩
  case round =>
    clear HS0
    obtain ⟨k, hk, rfl, HS⟩ := hrel
    by_cases hlt : k < K
    · have a1 : (0 : Int) ≤ (k : Int) := by omega
      have a2 : (k : Int) < (K : Int) := by omega
      go_wp2_with fail
      refine (stop_any g p _ wr HS.out.rd HS.out.box hne).mono ?_
      rintro e4 w4 ⟨rfl, hr4, ho4⟩
      obtain ⟨x, hx⟩ : ∃ x : C, x = (rv1 (rdS (rd1 s 4096) k).2 67108863, rv1 (rd1 (rdS (rd1 s 4096) k).2 67108863) 67108863) := ⟨_, rfl⟩
      have hx0 : rv1 (rdS (rd1 s 4096) k).2 67108863 = x.1 := by rw [hx]
      have hx1 : rv1 (rd1 (rdS (rd1 s 4096) k).2 67108863) 67108863 = x.2 := by rw [hx]
      rw [hx0, hx1]
      have hqg : q ≠ g := by omega
      have HH4 : Hid (Hold twoS w4 w.heap.size 56 q K ((rdS (rd1 s 4096) k).1 ++ List.replicate (K - k) ((0, 0) : C))) := HS.out.own.keep (ho4.block q HS.out.own.lt hqg)
      have hkl : k < ((rdS (rd1 s 4096) k).1 ++ List.replicate (K - k) ((0, 0) : C)).length := by rw [List.length_append, HS.out.len, List.length_replicate]; omega
      obtain ⟨y, hy⟩ : ∃ y, ((rdS (rd1 s 4096) k).1 ++ List.replicate (K - k) ((0, 0) : C))[k]? = some y := ⟨_, List.getElem?_eq_getElem hkl⟩
      have hci := HH4.out.cells hy
      have c0 : w4.cell? ⟨q, k * 2, none⟩ = some (.int .i64 y.1) := hci 0 (by show 0 < 2; omega)
      have f0 : w4.frozen? ⟨q, k * 2, none⟩ = false := HH4.out.free _
      have c1 : w4.cell? ⟨q, k * 2 + 1, none⟩ = some (.int .i64 y.2) := hci 1 (by show 1 < 2; omega)
      have f1 : w4.frozen? ⟨q, k * 2 + 1, none⟩ = false := HH4.out.free _
      have hset : Hold twoS ((w4.setCell ⟨q, k * 2, none⟩ (.int .i64 x.1)).setCell ⟨q, k * 2 + 1, none⟩ (.int .i64 x.2)) w.heap.size 56 q K (((rdS (rd1 s 4096) k).1 ++ List.replicate (K - k) ((0, 0) : C)).set k x) := HH4.out.set x hkl
      have hos : Only (fun i => i = q) w4 ((w4.setCell ⟨q, k * 2, none⟩ (.int .i64 x.1)).setCell ⟨q, k * 2 + 1, none⟩ (.int .i64 x.2)) := only_setCells w4 q (k * 2) (twoS.f x)
      rw [Sto.fill_next ((0, 0) : C) x HS.out.len hlt] at hset
      have HSN : Hid (LStops w g p q K (rdS (rd1 s 4096) (k + 1)) (k + 1) ((w4.setCell ⟨q, k * 2, none⟩ (.int .i64 x.1)).setCell ⟨q, k * 2 + 1, none⟩ (.int .i64 x.2))) := by
        have e : (rdS (rd1 s 4096) (k + 1)) = ((rdS (rd1 s 4096) k).1 ++ [x], (rd1 (rd1 (rdS (rd1 s 4096) k).2 67108863) 67108863)) := by rw [rdS, hx]
        unfold Hid
        rw [e]
        exact ⟨hset, by rw [List.length_append, HS.out.len]; rfl, hr4.only hos (fun i hi => by omega), hos.at (ho4.at HS.out.box hne) (show ¬ p = q by omega), (HS.out.only.trans ho4 (fun _ _ h => h)).trans hos (fun i hi h => absurd h (by omega))⟩
      clear hci hy hset hos hx hx0 hx1 hr4 ho4 HH4 HS hkl
      go_wp2
      go_roundw
      case rel => exact ⟨k + 1, by omega, by go_num, HSN⟩
      case measure => simp [intOf]; omega
    · obtain rfl : k = K := by omega
      go_wp2
      go_ret
      exact ⟨q, rfl, HS.out⟩

theorem made_Links (n : Nat) : (madeCells (Value.agg #[.int .i64 0, .int .i64 0, .int .i64 0]).cells (n * 3)).toList = lkS.flat (List.replicate n ((0, 0, 0) : L3)) := by
  rw [Sto.flat_all (S := lkS) (a := ((0, 0, 0) : L3)) (u := .int .i64 0) rfl n]
  refine Sto.made_all (by show 0 < 3; omega) (fun j hj => ?_) _
  have hj' : j < 3 := hj
  match j, hj' with
  | 0, _ => rfl
  | 1, _ => rfl
  | 2, _ => rfl
/-- While they are read: the slice, the Reader, its pointer's block. -/
structure LLinks (w0 : World) (g p q K : Nat) (R : List L3 × S2) (k : Nat) (w : World) : Prop where
  own : Hold lkS w w0.heap.size 50 q K (R.1 ++ List.replicate (K - k) ((0, 0, 0) : L3))
  len : R.1.length = k
  rd : Rdr w g R.2.1 R.2.2
  box : w.heap[p]? = some (.cells #[.pointer (some ⟨g, 0, none⟩)] 62 (0, 0))
  only : Only (fun i => i = g) w0 w
set_option maxHeartbeats 1600000 in
set_option maxRecDepth 100000 in
theorem Links_any (g p : Nat) (s : S2) (w : World) (h : Rdr w g s.1 s.2) (hp : w.heap[p]? = some (.cells #[.pointer (some ⟨g, 0, none⟩)] 62 (0, 0))) (hne : p ≠ g) (K : Nat) (hK : rv1 s 16384 = (K : Int)) :
    Calls Try.prog 55 #[.pointer (some ⟨g, 0, none⟩), .int .i64 16384, .func (.func 56) #[] #[.pointer (some ⟨p, 0, none⟩)]] w fun e w' =>
      ∃ q, e = .returned (.slice (some ⟨q, 0, none⟩) K K) ∧ LLinks w g p q K (rdL (rd1 s 16384) K) K w' := by
  obtain ⟨i0, hi, hz0, hz1, hz2⟩ := info_of info_lk
  have hpl : p < w.heap.size := (Array.getElem?_eq_some_iff.1 hp).1
  have hgl := h.lt
  have hKc : K ≤ 16384 := by have := rv1_in s (most := 16384) (by omega); omega
  have HA := Lib.hid hp
  have HR := Lib.hid h
  have HK := Lib.hid hK
  clear h hp hK
  go_enter Try.func55, Try.ntmps55
  go_wp2_with fail
  refine (number_stp g s 16384 w HR.out (by omega) (by omega)).mono ?_
  rw [HK.out]
  rintro e1 w1 ⟨rfl, hr1, ho1⟩
  have HR1 := Lib.hid hr1
  have HO1 := Lib.hid ho1
  have HA1 := Lib.hid (ho1.at HA.out hne)
  have hs1 := ho1.size
  clear hr1 ho1 HR HA
  go_wp2_with (at_make; go_loud (refine wpList_make_full _ rfl _ _ 23 rfl w.heap.size 50 i0 (.agg #[.int .i64 0, .int .i64 0, .int .i64 0]) 3 Try.underlying23 hi hz0 hz1 _ _ _ _ K rfl rfl rfl rfl (by rw [hz2]; omega) (by unfold maxLen; omega) hs1 ?_); intro w2 hown2 hg2; rw [made_Links] at hown2; have HO2 := Lib.hid hown2; have HG2 := Lib.hid hg2; clear hown2 hg2)
  obtain ⟨q, hq⟩ : ∃ q, w1.heap.size = q := ⟨_, rfl⟩
  rw [hq] at HO2 hs1
  try rw [hq]
  have ho2 : Only (fun i => i = g) w1 w2 := (Only.of_grown HG2.out).mono (fun i h => by cases h)
  have HS0 : Hid (LLinks w g p q K (rdL (rd1 s 16384) 0) 0 w2) :=
    ⟨(Hold.of_own (S := lkS) HO2.out).1, rfl, HR1.out.only ((Only.of_grown HG2.out).mono (M' := fun _ => False) (fun i h => by cases h)) (fun _ _ h => h), ho2.at HA1.out hne, HO1.out.trans ho2 (fun _ _ h => h)⟩
  clear ho2 HO2 HG2 HR1 HO1 HA1 hq
  go_wp2
  go_loopw [8, 15] (fun _ i wr => ∃ k : Nat, k ≤ K ∧ i = .int .i64 (k : Int) ∧ Hid (LLinks w g p q K (rdL (rd1 s 16384) k) k wr)) (fun _ i _ => K - (intOf i).toNat)
  case atStart => exact ⟨0, Nat.zero_le _, rfl, HS0⟩
  case round =>
    clear HS0
    obtain ⟨k, hk, rfl, HS⟩ := hrel
    by_cases hlt : k < K
    · have a1 : (0 : Int) ≤ (k : Int) := by omega
      have a2 : (k : Int) < (K : Int) := by omega
      go_wp2_with fail
      refine (link_any g p _ wr HS.out.rd HS.out.box hne).mono ?_
      rintro e4 w4 ⟨rfl, hr4, ho4⟩
      obtain ⟨x, hx⟩ : ∃ x : L3, x = (rv1 (rdL (rd1 s 16384) k).2 4095, rv1 (rd1 (rdL (rd1 s 16384) k).2 4095) 4095, rv1 (rd1 (rd1 (rdL (rd1 s 16384) k).2 4095) 4095) 1048575) := ⟨_, rfl⟩
      have hx0 : rv1 (rdL (rd1 s 16384) k).2 4095 = x.1 := by rw [hx]
      have hx1 : rv1 (rd1 (rdL (rd1 s 16384) k).2 4095) 4095 = x.2.1 := by rw [hx]
      have hx2 : rv1 (rd1 (rd1 (rdL (rd1 s 16384) k).2 4095) 4095) 1048575 = x.2.2 := by rw [hx]
      rw [hx0, hx1, hx2]
      have hqg : q ≠ g := by omega
      have HH4 : Hid (Hold lkS w4 w.heap.size 50 q K ((rdL (rd1 s 16384) k).1 ++ List.replicate (K - k) ((0, 0, 0) : L3))) := HS.out.own.keep (ho4.block q HS.out.own.lt hqg)
      have hkl : k < ((rdL (rd1 s 16384) k).1 ++ List.replicate (K - k) ((0, 0, 0) : L3)).length := by rw [List.length_append, HS.out.len, List.length_replicate]; omega
      obtain ⟨y, hy⟩ : ∃ y, ((rdL (rd1 s 16384) k).1 ++ List.replicate (K - k) ((0, 0, 0) : L3))[k]? = some y := ⟨_, List.getElem?_eq_getElem hkl⟩
      have hci := HH4.out.cells hy
      have c0 : w4.cell? ⟨q, k * 3, none⟩ = some (.int .i64 y.1) := hci 0 (by show 0 < 3; omega)
      have f0 : w4.frozen? ⟨q, k * 3, none⟩ = false := HH4.out.free _
      have c1 : w4.cell? ⟨q, k * 3 + 1, none⟩ = some (.int .i64 y.2.1) := hci 1 (by show 1 < 3; omega)
      have f1 : w4.frozen? ⟨q, k * 3 + 1, none⟩ = false := HH4.out.free _
      have c2 : w4.cell? ⟨q, k * 3 + 2, none⟩ = some (.int .i64 y.2.2) := hci 2 (by show 2 < 3; omega)
      have f2 : w4.frozen? ⟨q, k * 3 + 2, none⟩ = false := HH4.out.free _
      have hset : Hold lkS (((w4.setCell ⟨q, k * 3, none⟩ (.int .i64 x.1)).setCell ⟨q, k * 3 + 1, none⟩ (.int .i64 x.2.1)).setCell ⟨q, k * 3 + 2, none⟩ (.int .i64 x.2.2)) w.heap.size 50 q K (((rdL (rd1 s 16384) k).1 ++ List.replicate (K - k) ((0, 0, 0) : L3)).set k x) := HH4.out.set x hkl
      have hos : Only (fun i => i = q) w4 (((w4.setCell ⟨q, k * 3, none⟩ (.int .i64 x.1)).setCell ⟨q, k * 3 + 1, none⟩ (.int .i64 x.2.1)).setCell ⟨q, k * 3 + 2, none⟩ (.int .i64 x.2.2)) := only_setCells w4 q (k * 3) (lkS.f x)
      rw [Sto.fill_next ((0, 0, 0) : L3) x HS.out.len hlt] at hset
      have HSN : Hid (LLinks w g p q K (rdL (rd1 s 16384) (k + 1)) (k + 1) (((w4.setCell ⟨q, k * 3, none⟩ (.int .i64 x.1)).setCell ⟨q, k * 3 + 1, none⟩ (.int .i64 x.2.1)).setCell ⟨q, k * 3 + 2, none⟩ (.int .i64 x.2.2))) := by
        have e : (rdL (rd1 s 16384) (k + 1)) = ((rdL (rd1 s 16384) k).1 ++ [x], (rd1 (rd1 (rd1 (rdL (rd1 s 16384) k).2 4095) 4095) 1048575)) := by rw [rdL, hx]
        unfold Hid
        rw [e]
        exact ⟨hset, by rw [List.length_append, HS.out.len]; rfl, hr4.only hos (fun i hi => by omega), hos.at (ho4.at HS.out.box hne) (show ¬ p = q by omega), (HS.out.only.trans ho4 (fun _ _ h => h)).trans hos (fun i hi h => absurd h (by omega))⟩
      clear hci hy hset hos hx hx0 hx1 hx2 hr4 ho4 HH4 HS hkl
      go_wp2
      go_roundw
      case rel => exact ⟨k + 1, by omega, by go_num, HSN⟩
      case measure => simp [intOf]; omega
    · obtain rfl : k = K := by omega
      go_wp2
      go_ret
      exact ⟨q, rfl, HS.out⟩
end Go.Proofs.Ytdgaaghkhkklpaa.Gf

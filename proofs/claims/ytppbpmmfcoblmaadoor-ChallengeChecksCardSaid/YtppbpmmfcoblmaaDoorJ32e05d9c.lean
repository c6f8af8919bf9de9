/- Lemmas that the proof stands on, in build order: TokF RgF RgO. -/
import Derived.Test.YtppbpmmfcoblmaaDoorJ14e35fe5
import Derived.Test.YtppbpmmfcoblmaaDoorJ15940824
import Derived.Test.YtppbpmmfcoblmaaDoorJ16496690
import Derived.Test.YtppbpmmfcoblmaaDoorJ179ddfcd
import Derived.Test.YtppbpmmfcoblmaaDoorJ22758d9c
import Derived.Test.YtppbpmmfcoblmaaDoorJ294d73c3
import Derived.Test.YtppbpmmfcoblmaaDoorJ314667de
/- Layer 10 (token): the program's tagged and put, as contracts. -/
namespace Go.Proofs.YtppbpmmfcoblmaaDoor.Tok
open Go.RowKit Slc Var Fld Frm Sha Hmc Rg

set_option maxHeartbeats 800000 in
set_option maxRecDepth 100000 in
theorem tagged_any (A : Option Addr) (n c : Nat) (k : List Int) (t : T) (ht : t.ok) (w : World) (h : Row .u8 w w.heap.size A n k) (hc : n ≤ c) (hn : n ≤ 100000) (hk : ∀ x ∈ k, 0 ≤ x ∧ x ≤ 255) (hT : Lay w) :
    Calls Tryd.prog 52 #[.slice A n c, t.val] w fun e w' => ∃ v, e = .returned v ∧ w'.ownsRow w.heap.size 5 1 v 32 ((tagT k t).map (Value.int .u8)) ∧ Below w.heap.size w w' := by
  obtain ⟨w1, hw1⟩ : ∃ w1, w.alloc (.cells t.cells 41) = w1 := ⟨_, rfl⟩
  have hb1 : Below w.heap.size w w1 := by rw [← hw1]; exact (Below.refl _ _).alloc (Nat.le_refl _) _
  have hT1 : w1.heap[w.heap.size]? = some (.cells t.cells 41 (0, 0)) := by rw [← hw1]; exact heap_alloc_new w _
  have HF := Lib.hid (fields_any t ht w1)
  have HFL := Lib.hid (flds_len ht)
  have HFB := Lib.hid (flds_byt t)
  have HB1 := Lib.hid hb1
  have HW1 := Lib.hid hw1
  have H := Lib.hid h
  have HC := Lib.hid hc
  have HN := Lib.hid hn
  have HK := Lib.hid hk
  have HT := Lib.hid hT
  unfold T.val at HF ⊢
  have eC : t.cells = #[.int .i64 t.tr, .int .i64 t.ac, .int .i64 t.st, .int .i64 t.is, .int .i64 t.un, .int .i64 t.ep] := rfl
  rw [eC] at hw1 hT1 HW1 HF ⊢
  have k0 : w1.cell? ⟨w.heap.size, 0, none⟩ = some (.int .i64 t.tr) := cell_of_blk hT1 rfl
  have k1 : w1.cell? ⟨w.heap.size, 1, none⟩ = some (.int .i64 t.ac) := cell_of_blk hT1 rfl
  have k2 : w1.cell? ⟨w.heap.size, 2, none⟩ = some (.int .i64 t.st) := cell_of_blk hT1 rfl
  have k3 : w1.cell? ⟨w.heap.size, 3, none⟩ = some (.int .i64 t.is) := cell_of_blk hT1 rfl
  have k4 : w1.cell? ⟨w.heap.size, 4, none⟩ = some (.int .i64 t.un) := cell_of_blk hT1 rfl
  have k5 : w1.cell? ⟨w.heap.size, 5, none⟩ = some (.int .i64 t.ep) := cell_of_blk hT1 rfl
  rw [← hw1] at k0 k1 k2 k3 k4 k5
  clear hw1 hb1 hT1 eC h hc hn hk hT
  go_enter Tryd.func52, Tryd.ntmps52
  go_wp2_with fail
  rw [HW1.out]
  refine HF.out.mono ?_
  rintro e2 w2 ⟨v2, rfl, hown2, hb2⟩
  obtain ⟨A2, c2, rfl, hc2, hnil2⟩ := own_slice hown2
  have hba : Below w2.heap.size w2 (w2.alloc (.cells #[.slice A2 (flds t).length c2] 25)) := (Below.refl _ _).alloc (Nat.le_refl _) _
  have hr2 : Row .u8 (w2.alloc (.cells #[.slice A2 (flds t).length c2] 25)) (w2.alloc (.cells #[.slice A2 (flds t).length c2] 25)).heap.size A2 (flds t).length (flds t) := ((Row.of_own hown2).below hba).more hba.size
  have hp : Prs (w2.alloc (.cells #[.slice A2 (flds t).length c2] 25)) (w2.alloc (.cells #[.slice A2 (flds t).length c2] 25)).heap.size (some ⟨w2.heap.size, 0, none⟩) 1 [⟨A2, (flds t).length, c2, flds t⟩] := Prs.of_blk (L := [⟨A2, (flds t).length, c2, flds t⟩]) (heap_alloc_new w2 _) (by simp) rfl (fun p hp => by
    obtain rfl := List.mem_singleton.1 hp
    exact ⟨hr2, hnil2⟩) (fun p hp => by
    obtain rfl := List.mem_singleton.1 hp
    exact ⟨hc2, HFB.out⟩)
  have hB2 : Below w.heap.size w w2 := HB1.out.trans (hb2.mono HB1.out.size)
  have hB3 : Below w.heap.size w (w2.alloc (.cells #[.slice A2 (flds t).length c2] 25)) := hB2.trans (hba.mono hB2.size)
  have HD := Lib.hid (derive_any A (some ⟨w2.heap.size, 0, none⟩) n c 1 1 k tokB _ (w2.alloc (.cells #[.slice A2 (flds t).length c2] 25)) ((H.out.below hB3).more hB3.size) HC.out HK.out hp (fun h => by cases h) HN.out (by show 5 ≤ 100000; omega) (by omega) (by show (flds t).length + 0 ≤ 100000; have := HFL.out; omega) (HT.out.below hB3 HT.out.tab.1))
  have hwh : whole [(⟨A2, (flds t).length, c2, flds t⟩ : Part)] = flds t := by simp [whole]
  rw [hwh, tokB_sby] at HD
  have HB3 := Lib.hid hB3
  clear hown2 hb2 hc2 hnil2 hba hr2 hp hB2 hB3 hwh k0 k1 k2 k3 k4 k5
  go_wp2_with fail
  refine HD.out.mono ?_
  rintro e4 w4 ⟨v4, rfl, hown4, hb4⟩
  have HO4 : Hid (w4.ownsRow w.heap.size 5 1 v4 32 ((tagT k t).map (Value.int .u8))) := own_low hown4 HB3.out.size
  have HB4 := Lib.hid (HB3.out.trans (hb4.mono HB3.out.size))
  clear hown4 hb4
  go_wp2
  go_ret
  exact ⟨_, rfl, HO4.out, HB4.out⟩

/-- slices.Concat of two. -/
theorem concat_two (A1 A2 : Option Addr) (n1 c1 n2 c2 : Nat) (xs ys : List Int) (w : World) (h1 : Row .u8 w w.heap.size A1 n1 xs) (h2 : Row .u8 w w.heap.size A2 n2 ys) (i1 : A1 = none → c1 = 0) (i2 : A2 = none → c2 = 0) (hn : n1 + n2 ≤ 4398046511104) :
    Calls Tryd.prog 62 #[.slice (some ⟨w.heap.size, 0, none⟩) 2 2] (w.alloc (.cells #[.slice A1 n1 c1, .slice A2 n2 c2] 25)) fun e w' =>
      ∃ v, e = .returned v ∧ w'.ownsRow w.heap.size 5 1 v (n1 + n2) ((xs ++ ys).map (Value.int .u8)) ∧ Below w.heap.size w w' := by
  have hb := (Below.refl w.heap.size w).alloc (Nat.le_refl _) (.cells #[.slice A1 n1 c1, .slice A2 n2 c2] 25)
  refine (concat_any [Part.mk A1 n1 c1 xs, Part.mk A2 n2 c2 ys] w.heap.size 2 w.heap.size _ ?_ ?_ hb.size (by simp) (by simp [total]; omega) (by simp)).mono ?_
  · intro j hj
    match j, hj with
    | 0, _ => simp [Part.v]
    | 1, _ => simp [Part.v]
  · intro p hp
    simp only [List.mem_cons, List.not_mem_nil, or_false] at hp
    rcases hp with rfl | rfl
    · exact ⟨h1.below hb, i1⟩
    · exact ⟨h2.below hb, i2⟩
  · rintro e w' ⟨v, rfl, hown, hb'⟩
    have ht : total [Part.mk A1 n1 c1 xs, Part.mk A2 n2 c2 ys] = n1 + n2 := by simp [total]
    have hw : whole [Part.mk A1 n1 c1 xs, Part.mk A2 n2 c2 ys] = xs ++ ys := by simp [whole]
    rw [ht, hw] at hown
    exact ⟨v, rfl, own_low hown hb.size, hb.trans (hb'.mono hb.size)⟩

set_option maxHeartbeats 1600000 in
set_option maxRecDepth 100000 in
theorem tput_any (A : Option Addr) (c : Nat) (k : List Int) (t : T) (ht : t.ok) (w : World) (h : Row .u8 w w.heap.size A 32 (tagT k t)) (hnil : A = none → c = 0) :
    Calls Tryd.prog 51 #[t.val, .slice A 32 c] w fun e w' => ∃ v, e = .returned (.tuple #[v, .int .i64 0]) ∧ w'.ownsRow w.heap.size 5 1 v (frame 2 (body k t)).length ((frame 2 (body k t)).map (Value.int .u8)) ∧ Below w.heap.size w w' := by
  obtain ⟨w1, hw1⟩ : ∃ w1, w.alloc (.cells t.cells 41) = w1 := ⟨_, rfl⟩
  have hs1 : w1.heap.size = w.heap.size + 1 := by rw [← hw1]; simp
  have hb1 : Below w.heap.size w w1 := by rw [← hw1]; exact (Below.refl _ _).alloc (Nat.le_refl _) _
  obtain ⟨w2, hw2⟩ : ∃ w2, w1.alloc (.cells #[.slice none 0 0] 69) = w2 := ⟨_, rfl⟩
  have hw0 : Wr w2 (w.heap.size + 1) (w.heap.size + 1) (.slice none 0 0) 0 [] := by
    rw [← hw2, ← hs1]
    exact ⟨heap_alloc_new w1 _, World.ownsRow_nil _ _ _ _, by simp [Value.ownBlock], Nat.le_refl _⟩
  have hb2 : Below w1.heap.size w1 w2 := by rw [← hw2]; exact (Below.refl _ _).alloc (Nat.le_refl _) _
  have hT2 : w2.heap[w.heap.size]? = some (.cells t.cells 41 (0, 0)) := by
    rw [hb2.block w.heap.size (by omega), ← hw1]
    exact heap_alloc_new w _
  have hb02 : Below w.heap.size w w2 := hb1.trans (hb2.mono (by omega))
  have HBY := Lib.hid (bytes_any (w.heap.size + 1) (w.heap.size + 1) 0 (.slice none 0 0) [] A 32 c (tagT k t) w2 hw0 ((h.below hb02).more (by omega)) hnil (by omega))
  have HW0 := Lib.hid hw0
  have HB2 := Lib.hid hb02
  have HFL := Lib.hid (flds_len ht)
  have HBL := Lib.hid (body_len (k := k) ht)
  have HBB := Lib.hid (body_byt k t)
  have HTO := Lib.hid ht
  have HS1 := Lib.hid hs1
  have HW1 := Lib.hid hw1
  have HW2 := Lib.hid hw2
  have HN32 : Hid ((num ((32 : Nat) : Int)).length ≤ 10) := num_len (by omega)
  obtain ⟨Y, hY⟩ : ∃ Y, Y = num ((32 : Nat) : Int) ++ tagT k t := ⟨_, rfl⟩
  have HYB : Hid (flds t ++ Y = body k t) := by unfold Hid; rw [hY]; rfl
  have HYL : Hid (Y.length ≤ 42) := by unfold Hid; rw [hY, List.length_append, tagT_len]; have h1 := HN32.out; omega
  rw [← hY] at HBY
  unfold T.val
  have eC : t.cells = #[.int .i64 t.tr, .int .i64 t.ac, .int .i64 t.st, .int .i64 t.is, .int .i64 t.un, .int .i64 t.ep] := rfl
  rw [eC] at hw1 hT2 HW1 ⊢
  have HT2 := Lib.hid hT2
  clear h hnil ht hs1 hb1 hw0 hb2 hb02 hY hT2 hw1 hw2 eC
  go_enter Tryd.func51, Tryd.ntmps51
  go_wp2_with fail
  rw [HW1.out, HW2.out]
  refine HBY.out.mono ?_
  rintro e3 w3 ⟨rfl, v3, hw3, hm3⟩
  have HW3 := Lib.hid hw3
  have hbb3 := HW0.out.below_of hm3
  have HT3 : Hid (w3.heap[w.heap.size]? = some (.cells #[.int .i64 t.tr, .int .i64 t.ac, .int .i64 t.st, .int .i64 t.is, .int .i64 t.un, .int .i64 t.ep] 41 (0, 0))) := (hbb3.block _ (by have := HS1.out; omega)).trans HT2.out
  have HB3 := Lib.hid (HB2.out.trans (hbb3.mono (by have := HS1.out; omega)))
  have k0 : w3.cell? ⟨w.heap.size, 0, none⟩ = some (.int .i64 t.tr) := cell_of_blk HT3.out rfl
  have k1 : w3.cell? ⟨w.heap.size, 1, none⟩ = some (.int .i64 t.ac) := cell_of_blk HT3.out rfl
  have k2 : w3.cell? ⟨w.heap.size, 2, none⟩ = some (.int .i64 t.st) := cell_of_blk HT3.out rfl
  have k3 : w3.cell? ⟨w.heap.size, 3, none⟩ = some (.int .i64 t.is) := cell_of_blk HT3.out rfl
  have k4 : w3.cell? ⟨w.heap.size, 4, none⟩ = some (.int .i64 t.un) := cell_of_blk HT3.out rfl
  have k5 : w3.cell? ⟨w.heap.size, 5, none⟩ = some (.int .i64 t.ep) := cell_of_blk HT3.out rfl
  have hf := fields_any t HTO.out w3
  unfold T.val T.cells at hf
  have HF := Lib.hid hf
  clear hw3 hm3 hbb3 HBY HW0 HT2 HT3 hf
  go_wp2_with fail
  refine HF.out.mono ?_
  rintro e4 w4 ⟨v4, rfl, hown4, hb4⟩
  obtain ⟨A4, c4, rfl, hc4, hnil4⟩ := own_slice hown4
  have HW4 := Lib.hid (HW3.out.below hb4)
  have HO4 := Lib.hid hown4
  have HI4 := Lib.hid hnil4
  have HB4 := Lib.hid (HB3.out.trans (hb4.mono HB3.out.size))
  clear hown4 hb4 hc4 hnil4 k0 k1 k2 k3 k4 k5 HF HW3
  go_wp2_with fail
  refine (out_any (w.heap.size + 1) (w.heap.size + 1) _ v3 _ w4 HW4.out (by have := HYL.out; omega)).mono ?_
  rintro e5 w5 ⟨v5, rfl, hown5, hb5⟩
  rw [Nat.zero_add, List.nil_append] at hown5
  obtain ⟨A5, c5, rfl, hc5, hnil5⟩ := own_slice hown5
  have HB5 := Lib.hid (HB4.out.trans (hb5.mono HB4.out.size))
  have hcc := concat_two A4 A5 (flds t).length c4 Y.length c5 (flds t) Y w5 (((Row.of_own HO4.out).below hb5).more hb5.size) (Row.of_own hown5) HI4.out hnil5 (by have := HYL.out; have := HFL.out; omega)
  rw [← List.length_append, HYB.out] at hcc
  have HCC := Lib.hid hcc
  obtain ⟨nY, hnY⟩ : ∃ m, m = 0 + Y.length := ⟨_, rfl⟩
  have HNY := Lib.hid hnY
  clear hown5 hb5 hc5 hnil5 hcc HO4 hnY
  go_wp2_with fail
  refine HCC.out.mono ?_
  rintro e6 w6 ⟨v6, rfl, hown6, hb6⟩
  obtain ⟨A6, c6, rfl, -, hnil6⟩ := own_slice hown6
  have HB6 := Lib.hid (HB5.out.trans (hb6.mono HB5.out.size))
  have HP := Lib.hid (put_any 2 (by omega) A6 (body k t).length c6 (body k t) w6 (Row.of_own hown6) hnil6 HBB.out (by have := HBL.out; omega))
  clear hown6 hb6 hnil6 HCC
  go_wp2_with fail
  refine HP.out.mono ?_
  rintro e7 w7 ⟨v7, rfl, hown7, hb7⟩
  have HO7 : Hid (w7.ownsRow w.heap.size 5 1 v7 (frame 2 (body k t)).length ((frame 2 (body k t)).map (Value.int .u8))) := own_low hown7 HB6.out.size
  have HB7 := Lib.hid (HB6.out.trans (hb7.mono HB6.out.size))
  clear hown7 hb7 HP
  go_wp2
  go_ret2
  exact ⟨v7, rfl, HO7.out, HB7.out⟩
end Go.Proofs.YtppbpmmfcoblmaaDoor.Tok

/- Layer 9 (ring): the program's Now and Find, as contracts. -/
namespace Go.Proofs.YtppbpmmfcoblmaaDoor.Rg
open Go.RowKit Slc

set_option maxHeartbeats 800000 in
set_option maxRecDepth 100000 in
theorem now_any (keep : Int) (A : Option Addr) (n c B : Nat) (K : List Kp) (w : World) (h : KRow w B A n K) (hB : B ≤ w.heap.size) (hn : n ≤ 4398046511104) :
    Calls Tryd.prog 47 #[.agg #[.int .i64 keep, .slice A n c]] w fun x w' => x = .returned (.int .i64 (now (ls K))) ∧ Below w.heap.size w w' := by
  have H := Lib.hid h
  have hlen := h.len
  have HB0 : Hid (Below w.heap.size w (w.alloc (.cells #[.int .i64 keep, .slice A n c] 24))) := (Below.refl _ _).alloc (Nat.le_refl _) _
  have c1 : (w.alloc (.cells #[.int .i64 keep, .slice A n c] 24)).cell? ⟨w.heap.size, 1, none⟩ = some (.slice A n c) := cell_of_blk (heap_alloc_new w _) rfl
  by_cases h0 : n = 0
  · subst h0
    have hK : K = [] := List.eq_nil_of_length_eq_zero hlen
    subst hK
    clear h
    go_enter Tryd.func47, Tryd.ntmps47
    go_wp2
    go_ret
    exact ⟨rfl, HB0.out⟩
  · obtain ⟨b, o, k, rfl, hbb, hk, hok, k0, -⟩ := (h.below (HB0.out.mono hB)).at (j := n - 1) (by omega)
    have hke : k.e = now (ls K) := by rw [now_at (by rw [ls_len, hlen]; exact ls_at hk)]
    rw [hke] at k0
    have m1 : IntKind.i64.wrap ((n : Int) - 1) = (n : Int) - 1 := IntWalk.i64_in _ ⟨by omega, by omega⟩
    have p1 : (0 : Int) ≤ (n : Int) - 1 := by omega
    have p2 : (n : Int) - 1 < (n : Int) := by omega
    have n1 : ((n : Int) - 1).toNat = n - 1 := by omega
    have hd : decide ((n : Int) = 0) = false := by simp; omega
    have hd' : ((n : Int) == 0) = false := by simp; omega
    clear h hk hok hke hlen
    go_enter Tryd.func47, Tryd.ntmps47
    go_wp2
    go_ret
    exact ⟨rfl, HB0.out⟩

set_option maxHeartbeats 1600000 in
set_option maxRecDepth 100000 in
theorem find_any (keep e : Int) (A : Option Addr) (n c B : Nat) (K : List Kp) (w : World) (h : KRow w B A n K) (hB : B ≤ w.heap.size) (hn : n ≤ 4398046511104) (hs : ∀ k ∈ K, k.p.n ≤ 1000) :
    Calls Tryd.prog 50 #[.agg #[.int .i64 keep, .slice A n c], .int .i64 e] w (FindTo w.heap.size w K e) := by
  have H := Lib.hid h
  have HBB := Lib.hid hB
  have HSM := Lib.hid hs
  have hlen := h.len
  have HB0 : Hid (Below w.heap.size w (w.alloc (.cells #[.int .i64 keep, .slice A n c] 24))) := (Below.refl _ _).alloc (Nat.le_refl _) _
  have c1 : (w.alloc (.cells #[.int .i64 keep, .slice A n c] 24)).cell? ⟨w.heap.size, 1, none⟩ = some (.slice A n c) := cell_of_blk (heap_alloc_new w _) rfl
  have HC := Lib.hid c1
  have HS1 : Hid ((w.alloc (.cells #[.int .i64 keep, .slice A n c] 24)).heap.size = w.heap.size + 1) := by unfold Hid; simp
  have HK1 := Lib.hid (H.out.below (HB0.out.mono HBB.out))
  clear h hB hs
  go_enter Tryd.func50, Tryd.ntmps50
  go_wp2_with fail
  generalize w.alloc (.cells #[.int .i64 keep, .slice A n c] 24) = w1 at *
  go_loopw [7, 11] (fun _ i wr => ∃ t : Nat, t ≤ n ∧ i = .int .i64 (t : Int) ∧ Hid (Below w1.heap.size w1 wr) ∧ Hid (∀ (j : Nat) (q : Kl), j < t → (ls K)[j]? = some q → q.1 ≠ e)) (fun _ i _ => n - (intOf i).toNat)
  case atStart => exact ⟨0, Nat.zero_le _, rfl, Lib.hid (Below.refl _ _), Lib.hid (fun j q h => absurd h (by omega))⟩
  case round =>
    obtain ⟨t, ht, rfl, HB, HG⟩ := hrel
    have HBW : Hid (Below w.heap.size w wr) := HB0.out.trans (HB.out.mono HB0.out.size)
    by_cases hlt : t < n
    · obtain ⟨b, o, k, rfl, hbb, hk, hok, k0, k1⟩ := (HK1.out.below (HB.out.mono (by have := HBB.out; have := HS1.out; omega))).at hlt
      have hlt' : (t : Int) < (n : Int) := by omega
      have HOK := Lib.hid hok
      have hsm := HSM.out k (List.mem_of_getElem? hk)
      have HKA := Lib.hid (ls_at hk)
      clear hk hok
      obtain ⟨ke, pA, pn, pc, xs⟩ := k
      simp only at k0 k1 hsm
      have HBA : Hid (Below w.heap.size w (wr.alloc (.cells #[.int .i64 ke, .slice pA pn pc] 57))) := HBW.out.alloc HBW.out.size _
      have HBR : Hid (Below w1.heap.size w1 (wr.alloc (.cells #[.int .i64 ke, .slice pA pn pc] 57))) := HB.out.alloc HB.out.size _
      have x0 : (wr.alloc (.cells #[.int .i64 ke, .slice pA pn pc] 57)).cell? ⟨wr.heap.size, 0, none⟩ = some (.int .i64 ke) := cell_of_blk (heap_alloc_new wr _) rfl
      have x1 : (wr.alloc (.cells #[.int .i64 ke, .slice pA pn pc] 57)).cell? ⟨wr.heap.size, 1, none⟩ = some (.slice pA pn pc) := cell_of_blk (heap_alloc_new wr _) rfl
      by_cases q0 : ke = e
      · subst q0
        have hf : Hid (fnd (ls K) ke = some xs) := fnd_hit HKA.out rfl HG.out
        have HCL := Lib.hid (clone_any pA pn pc B xs (wr.alloc (.cells #[.int .i64 ke, .slice pA pn pc] 57)) (HOK.out.right.1.below ((Below.refl B wr).alloc (Nat.le_trans HBB.out HBW.out.size) _)) HOK.out.right.2 (Nat.le_trans HBB.out HBA.out.size) (by omega))
        go_wp2_with fail
        refine HCL.out.mono ?_
        rintro e2 w2 ⟨v2, rfl, hown2, hb2⟩
        obtain ⟨A2, c2, rfl, hc2, hn2⟩ := own_slice hown2
        have HO2 := Lib.hid (Row.of_own hown2)
        have HB2 := Lib.hid (HBA.out.trans (hb2.mono HBA.out.size))
        have HN2 := Lib.hid (And.intro hc2 hn2)
        clear hown2 hb2 hc2 hn2
        go_wp2
        go_ret2
        refine ⟨A2, pn, c2, by rw [hf.out]; rfl, ?_, HN2.out.2, HN2.out.1, HB2.out⟩
        rw [hf.out]
        exact HO2.out
      · have hd : decide (ke = e) = false := decide_eq_false q0
        have hd' : (ke == e) = false := beq_eq_false_iff_ne.2 q0
        have HG2 : Hid (∀ (j : Nat) (q : Kl), j < t + 1 → (ls K)[j]? = some q → q.1 ≠ e) := fun j q hj hq => by
          by_cases hjt : j < t
          · exact HG.out j q hjt hq
          · obtain rfl : j = t := by omega
            rw [HKA.out] at hq
            injection hq with hq
            subst hq
            exact q0
        have Q0 := Lib.hid q0
        clear q0
        go_wp2
        go_roundw
        case rel => exact ⟨t + 1, by omega, by go_num, HBR, HG2⟩
        case measure => simp [intOf]; omega
    · obtain rfl : t = n := by omega
      have hf : Hid (fnd (ls K) e = none) := fnd_miss (fun j q hj => HG.out j q (by have := (List.getElem?_eq_some_iff.1 hj).1; rw [ls_len] at this; omega) hj)
      go_wp2
      go_ret2
      exact ⟨none, 0, 0, by rw [hf.out]; rfl, by rw [hf.out]; exact Row.none_, fun _ => rfl, Nat.le_refl _, HBW.out⟩
end Go.Proofs.YtppbpmmfcoblmaaDoor.Rg

/- Layer 9 (ring): what the program's functions must do. -/
namespace Go.Proofs.YtppbpmmfcoblmaaDoor.Rg
open Go.RowKit Slc Sha

/-- Keys of few bytes. -/
def Small (n : Nat) (K : List Kp) : Prop := n ≤ 1000 ∧ ∀ k ∈ K, k.p.n ≤ 1000
/-- What a program's functions must do. -/
def RightOk : Prop := ∀ (keep : Int) (A : Option Addr) (n c : Nat) (K : List Kp) (w : World), KRow w w.heap.size A n K → (A = none → c = 0) → n ≤ c → Small n K → -9223372036854775808 ≤ keep ∧ keep ≤ 9223372036854775807 →
  Calls Tryd.prog 48 #[.agg #[.int .i64 keep, .slice A n c]] w fun x w' => x = .returned (.bool (rt keep (ls K))) ∧ Below w.heap.size w w'
def NowOk : Prop := ∀ (keep : Int) (A : Option Addr) (n c : Nat) (K : List Kp) (w : World), KRow w w.heap.size A n K → (A = none → c = 0) → n ≤ c → Small n K → -9223372036854775808 ≤ keep ∧ keep ≤ 9223372036854775807 →
  Calls Tryd.prog 47 #[.agg #[.int .i64 keep, .slice A n c]] w fun x w' => x = .returned (.int .i64 (now (ls K))) ∧ Below w.heap.size w w'
def FindOk : Prop := ∀ (keep e : Int) (A : Option Addr) (n c : Nat) (K : List Kp) (w : World), KRow w w.heap.size A n K → (A = none → c = 0) → n ≤ c → Small n K → -9223372036854775808 ≤ keep ∧ keep ≤ 9223372036854775807 → -9223372036854775808 ≤ e ∧ e ≤ 9223372036854775807 →
  Calls Tryd.prog 50 #[.agg #[.int .i64 keep, .slice A n c], .int .i64 e] w (FindTo w.heap.size w K e)
/-- A ring that was not made. -/
def NoRing (B : Nat) (w0 : World) (e : Int) (x : Ending) (w' : World) : Prop := ∃ kk A c, x = .returned (.tuple #[.agg #[.int .i64 kk, .slice A 0 c], .int .i64 e]) ∧ Below B w0 w'
/-- A ring that was made. -/
def ARing (B : Nat) (w0 : World) (keep : Int) (E : List Kl) (x : Ending) (w' : World) : Prop :=
  ∃ A n c K, x = .returned (.tuple #[.agg #[.int .i64 keep, .slice A n c], .int .i64 0]) ∧ KRow w' w'.heap.size A n K ∧ ls K = E ∧ Fresh B A K ∧ (A = none → c = 0) ∧ n ≤ c ∧ Below B w0 w'
structure NewTo (keep : Int) (d : List Int) (B : Nat) (w0 : World) (x : Ending) (w' : World) : Prop where
  no : ¬ ((1 ≤ keep ∧ keep ≤ 16) ∧ d.length = 32) → NoRing B w0 2 x w'
  yes : (1 ≤ keep ∧ keep ≤ 16) ∧ d.length = 32 → ARing B w0 keep [(1, keyOf d 1)] x w'
structure RotTo (keep : Int) (E : List Kl) (d : List Int) (B : Nat) (w0 : World) (x : Ending) (w' : World) : Prop where
  no : ¬ (RtP keep E ∧ d.length = 32) → NoRing B w0 2 x w'
  top : RtP keep E ∧ d.length = 32 → now E = 1048576 → NoRing B w0 3 x w'
  yes : RtP keep E ∧ d.length = 32 → now E ≠ 1048576 → ARing B w0 keep (rot keep E d) x w'
def NewOk : Prop := ∀ (keep : Int) (A : Option Addr) (n c : Nat) (d : List Int) (w : World), Row .u8 w w.heap.size A n d → (A = none → c = 0) → n ≤ c → n ≤ maxLen → (∀ x ∈ d, 0 ≤ x ∧ x ≤ 255) → -9223372036854775808 ≤ keep ∧ keep ≤ 9223372036854775807 → Lay w →
  Calls Tryd.prog 16 #[.int .i64 keep, .slice A n c] w (NewTo keep d w.heap.size w)

theorem small_of {keep : Int} {w : World} {B n : Nat} {A : Option Addr} {K : List Kp} (h : KRow w B A n K) (hr : RtP keep (ls K)) : Small n K := by
  have h1 := hr.2.2.2.1
  have h2 := hr.2.1
  rw [ls_len, h.len] at h1
  refine ⟨by omega, fun k hk => ?_⟩
  obtain ⟨j, hj⟩ := List.getElem?_of_mem hk
  have h3 := (hr.2.2.2.2 j _ (ls_at hj)).1
  have h4 := (h.ok k hk).len
  simp only at h3
  omega

/-- What a call that rotates a ring answers, in one form. -/
theorem rotTo_form {keep : Int} {E : List Kl} {d : List Int} {B : Nat} {w0 w' : World} {x : Ending} (h : RotTo keep E d B w0 x w') : ∃ kk A n c ee, x = .returned (.tuple #[.agg #[.int .i64 kk, .slice A n c], .int .i64 ee]) ∧ Below B w0 w' ∧
    (¬ (RtP keep E ∧ d.length = 32) → ee = 2 ∧ n = 0) ∧ (RtP keep E ∧ d.length = 32 → now E = 1048576 → ee = 3 ∧ n = 0) ∧
    (RtP keep E ∧ d.length = 32 → now E ≠ 1048576 → ee = 0 ∧ kk = keep ∧ ∃ K, KRow w' w'.heap.size A n K ∧ ls K = rot keep E d ∧ Small n K ∧ Fresh B A K ∧ (A = none → c = 0) ∧ n ≤ c) := by
  by_cases hc : RtP keep E ∧ d.length = 32
  · by_cases ht : now E = 1048576
    · obtain ⟨kk, A, c, rfl, hb⟩ := h.top hc ht
      exact ⟨kk, A, 0, c, 3, rfl, hb, fun h => absurd hc h, fun _ _ => ⟨rfl, rfl⟩, fun _ h => absurd ht h⟩
    · obtain ⟨A, n, c, K, rfl, hk, hls, hfr, hnil, hnc, hb⟩ := h.yes hc ht
      refine ⟨keep, A, n, c, 0, rfl, hb, fun h => absurd hc h, fun _ h => absurd h ht, fun _ _ => ⟨rfl, rfl, K, hk, hls, ?_, hfr, hnil, hnc⟩⟩
      exact small_of (keep := keep) hk (by rw [hls]; exact rt_rot hc.1 (by have := now_le hc.1; omega) d)
  · obtain ⟨kk, A, c, rfl, hb⟩ := h.no hc
    exact ⟨kk, A, 0, c, 2, rfl, hb, fun _ => ⟨rfl, rfl⟩, fun h => absurd h hc, fun h => absurd h hc⟩
theorem fnd_len {w : World} {B n : Nat} {A : Option Addr} {K : List Kp} (h : KRow w B A n K) (hk : ∀ k ∈ K, k.p.n ≤ 100) (e : Int) : ((fnd (ls K) e).getD []).length ≤ 100 := by
  unfold fnd
  cases hf : (ls K).find? (fun k => k.1 == e) with
  | none => simp
  | some q =>
    obtain ⟨k, hk', rfl⟩ := List.mem_map.1 (List.mem_of_find?_eq_some hf)
    have h1 := hk k hk'
    have h2 := (h.ok k hk').len
    simp only [Option.map_some, Option.getD_some, Kp.l]
    omega

/-- What a call that makes a ring answers, in one form. -/
theorem newTo_form {keep : Int} {d : List Int} {B : Nat} {w0 w' : World} {x : Ending} (h : NewTo keep d B w0 x w') : ∃ kk A n c ee, x = .returned (.tuple #[.agg #[.int .i64 kk, .slice A n c], .int .i64 ee]) ∧ Below B w0 w' ∧
    (¬ ((1 ≤ keep ∧ keep ≤ 16) ∧ d.length = 32) → ee = 2 ∧ n = 0) ∧ ((1 ≤ keep ∧ keep ≤ 16) ∧ d.length = 32 → ee = 0 ∧ kk = keep ∧ ∃ K, KRow w' w'.heap.size A n K ∧ ls K = [(1, keyOf d 1)]) := by
  by_cases hc : (1 ≤ keep ∧ keep ≤ 16) ∧ d.length = 32
  · obtain ⟨A, n, c, K, rfl, hk, hls, -, -, -, hb⟩ := h.yes hc
    exact ⟨keep, A, n, c, 0, rfl, hb, fun h => absurd hc h, fun _ => ⟨rfl, rfl, K, hk, hls⟩⟩
  · obtain ⟨kk, A, c, rfl, hb⟩ := h.no hc
    exact ⟨kk, A, 0, c, 2, rfl, hb, fun _ => ⟨rfl, rfl⟩, fun h => absurd h hc⟩
end Go.Proofs.YtppbpmmfcoblmaaDoor.Rg

/- Lemmas that the proof stands on, in build order: ShaQ TokJ. -/
import Derived.Lib.MinMax
import Derived.Test.YtppbpmmfcoblmaaDoorJ1ef7bc1
import Derived.Test.YtppbpmmfcoblmaaDoorJ217febdc
import Derived.Test.YtppbpmmfcoblmaaDoorJ24860438
import Derived.Test.YtppbpmmfcoblmaaDoorJ32e05d9c
/- Layer 7 (sha): the program's at and Same, as contracts. -/
namespace Go.Proofs.YtppbpmmfcoblmaaDoor.Sha
open Go.RowKit

set_option maxHeartbeats 800000 in
set_option maxRecDepth 100000 in
theorem at_any (A : Option Addr) (n c B k : Nat) (xs : List Int) (w : World) (h : Row .u8 w B A n xs) : Calls Tryd.prog 73 #[.slice A n c, .int .i64 (k : Int)] w fun e w' => e = .returned (.int .u8 (xs.getD k 0)) ∧ w = w' := by
  by_cases hk : k < n
  · obtain ⟨b, o, rfl, _, hc⟩ := h.cell_at hk
    have H := Lib.hid h
    clear h
    go_enter Tryd.func73, Tryd.ntmps73
    go_wp2
    go_ret
    exact ⟨rfl, rfl⟩
  · have e : xs.getD k 0 = 0 := by
      have := h.len
      rw [List.getD, List.getElem?_eq_none (by omega)]
      rfl
    rw [e]
    clear e h
    go_enter Tryd.func73, Tryd.ntmps73
    go_wp2
    go_ret
    exact ⟨rfl, rfl⟩

theorem xor_zero_iff (a b : Nat) : a ^^^ b = 0 ↔ a = b := by
  constructor
  · intro h
    have : (a ^^^ b) ^^^ b = 0 ^^^ b := by rw [h]
    rwa [Nat.xor_assoc, Nat.xor_self, Nat.xor_zero, Nat.zero_xor] at this
  · rintro rfl; exact Nat.xor_self a
theorem i64_xor_nat (a b : Nat) (ha : a < 4611686018427387904) (hb : b < 4611686018427387904) : bits .xor .i64 (a : Int) (b : Int) = ((a ^^^ b : Nat) : Int) := by
  have hx : a ^^^ b < 2 ^ 62 := Nat.xor_lt_two_pow (by omega) (by omega)
  show IntKind.i64.wrap ((BitVec.ofInt 64 (a : Int) ^^^ BitVec.ofInt 64 (b : Int)).toNat : Int) = _
  rw [BitVec.toNat_xor, ofInt_u64 a (by omega), ofInt_u64 b (by omega), IntKind.wrap_i64]
  omega
theorem i64_or_nat (a b : Nat) (ha : a < 4611686018427387904) (hb : b < 4611686018427387904) : bits .or .i64 (a : Int) (b : Int) = ((a ||| b : Nat) : Int) := by
  have hx : a ||| b < 2 ^ 62 := Nat.or_lt_two_pow (by omega) (by omega)
  show IntKind.i64.wrap ((BitVec.ofInt 64 (a : Int) ||| BitVec.ofInt 64 (b : Int)).toNat : Int) = _
  rw [BitVec.toNat_or, ofInt_u64 a (by omega), ofInt_u64 b (by omega), IntKind.wrap_i64]
  omega

/-- What has been found to differ: lists of bytes, up to place k. -/
structure Dif (n n' : Nat) (xs ys : List Int) (k D : Nat) : Prop where
  lt : D < 4398046511104
  iff : D = 0 ↔ (n = n' ∧ ∀ j, j < k → xs.getD j 0 = ys.getD j 0)
theorem Dif.start {n n' : Nat} (xs ys : List Int) (hn : n ≤ 1099511627776) (hn' : n' ≤ 1099511627776) : Dif n n' xs ys 0 (n ^^^ n') :=
  ⟨Nat.xor_lt_two_pow (n := 42) (by omega) (by omega), by
    constructor
    · intro h; exact ⟨(xor_zero_iff _ _).1 h, by intro j hj; omega⟩
    · rintro ⟨rfl, -⟩; exact Nat.xor_self n⟩
theorem Dif.step {n n' k D : Nat} {xs ys : List Int} (h : Dif n n' xs ys k D) (x y : Nat) (hx : xs.getD k 0 = (x : Int)) (hy : ys.getD k 0 = (y : Int)) (bx : x < 256) (bY : y < 256) : Dif n n' xs ys (k + 1) (D ||| (x ^^^ y)) :=
  ⟨Nat.or_lt_two_pow (n := 42) h.lt (Nat.lt_trans (Nat.xor_lt_two_pow (n := 8) bx bY) (by omega)), by
    rw [Nat.or_eq_zero_iff, xor_zero_iff, h.iff]
    constructor
    · rintro ⟨⟨e, h1⟩, h2⟩
      refine ⟨e, fun j hj => ?_⟩
      by_cases hjk : j = k
      · subst hjk; rw [hx, hy, h2]
      · exact h1 j (by omega)
    · rintro ⟨e, h1⟩
      refine ⟨⟨e, fun j hj => h1 j (by omega)⟩, ?_⟩
      have := h1 k (by omega)
      omega⟩
theorem Dif.ends {n n' k D : Nat} {xs ys : List Int} (h : Dif n n' xs ys k D) (hx : xs.length = n) (hy : ys.length = n') (hk : k = max n n') : D = 0 ↔ xs = ys := by
  rw [h.iff]
  constructor
  · rintro ⟨e, h1⟩
    apply List.ext_getElem (by omega)
    intro i h2 h3
    have := h1 i (by omega)
    simpa [List.getD, h2, h3] using this
  · rintro rfl
    exact ⟨by omega, fun _ _ => rfl⟩
theorem byte_nat {b : List Int} (hb : ∀ x ∈ b, 0 ≤ x ∧ x ≤ 255) (i : Nat) : ∃ y : Nat, b.getD i 0 = (y : Int) ∧ y < 256 := by
  by_cases h : i < b.length
  · have := hb b[i] (List.getElem_mem h)
    refine ⟨(b[i]).toNat, ?_, by omega⟩
    rw [List.getD, List.getElem?_eq_getElem h]
    simp
    omega
  · exact ⟨0, by rw [List.getD, List.getElem?_eq_none (by omega)]; rfl, by omega⟩

set_option maxHeartbeats 1600000 in
set_option maxRecDepth 100000 in
theorem psame_any (A A' : Option Addr) (n c n' c' B B' : Nat) (xs ys : List Int) (w : World) (h : Row .u8 w B A n xs) (h' : Row .u8 w B' A' n' ys) (hn : n ≤ 1099511627776) (hn' : n' ≤ 1099511627776)
    (hb : ∀ x ∈ xs, 0 ≤ x ∧ x ≤ 255) (hb' : ∀ x ∈ ys, 0 ≤ x ∧ x ≤ 255) :
    Calls Tryd.prog 39 #[.slice A n c, .slice A' n' c'] w fun e w' => e = .returned (.bool (decide (xs = ys))) ∧ ∃ q, w' = w.drewN q := by
  have hd := Dif.start xs ys hn hn'
  have H := Lib.hid h
  have H' := Lib.hid h'
  have HD := Lib.hid hd
  have HB := Lib.hid hb
  have HB' := Lib.hid hb'
  clear h h' hd hb hb'
  have hx : bits .xor .i64 (n : Int) (n' : Int) = ((n ^^^ n' : Nat) : Int) := i64_xor_nat n n' (by omega) (by omega)
  have hmx : max (n : Int) (n' : Int) = ((max n n' : Nat) : Int) := by omega
  obtain ⟨M, hM⟩ : ∃ M, max n n' = M := ⟨_, rfl⟩
  rw [hM] at hmx
  have hMb : M ≤ 1099511627776 := by omega
  have HM := Lib.hid hM
  clear hM
  go_enter Tryd.func39, Tryd.ntmps39
  go_wp2_with fail
  go_loopw [5, 17] (fun d i wr => ∃ k D q : Nat, k ≤ M ∧ i = .int .i64 (k : Int) ∧ d = .int .i64 (D : Int) ∧ Hid (Dif n n' xs ys k D) ∧ Hid (wr = w.drewN q)) (fun _ i _ => M - (intOf i).toNat)
  case atStart => exact ⟨0, _, 0, Nat.zero_le _, rfl, rfl, HD, rfl⟩
  case round =>
    obtain ⟨k, D, q, hk, rfl, rfl, HDk, hw⟩ := hrel
    by_cases hlt : k < M
    · obtain ⟨x, hx1, hx2⟩ := byte_nat HB.out k
      obtain ⟨y, hy1, hy2⟩ := byte_nat HB'.out k
      have HX := Lib.hid hx1
      have HY := Lib.hid hy1
      have HS := Lib.hid (HDk.out.step x y hx1 hy1 hx2 hy2)
      have HR : Hid (Row .u8 wr B A n xs) := by rw [hw.out]; exact H.out
      have HR' : Hid (Row .u8 wr B' A' n' ys) := by rw [hw.out]; exact H'.out
      have hDl := HDk.out.lt
      have hxy : bits .xor .u8 (x : Int) (y : Int) = ((x ^^^ y : Nat) : Int) := u8_xor_nat x y hx2 hy2
      have hxb : x ^^^ y < 256 := Nat.xor_lt_two_pow (n := 8) hx2 hy2
      obtain ⟨z, hz⟩ : ∃ z, x ^^^ y = z := ⟨_, rfl⟩
      rw [hz] at hxy hxb HS
      have hor : bits .or .i64 (D : Int) (z : Int) = ((D ||| z : Nat) : Int) := i64_or_nat D z (by omega) (by omega)
      clear hx1 hy1 hx2 hy2 hz HDk
      go_wp2_with fail
      refine (at_any A n c B k xs _ HR.out).mono ?_
      rintro e1 w1 ⟨rfl, rfl⟩
      rw [HX.out]
      go_wp2_with fail
      refine (at_any A' n' c' B' k ys _ HR'.out).mono ?_
      rintro e1 w1 ⟨rfl, rfl⟩
      rw [HY.out]
      go_wp2
      go_roundw
      case rel => exact ⟨k + 1, _, q, by omega, by go_num, rfl, HS, hw⟩
      case measure => simp [intOf]; omega
    · have hkM : k = max n n' := by rw [HM.out]; omega
      have hiff := HDk.out.ends H.out.len H'.out.len hkM
      by_cases hD : D = 0
      · have hb1 : ((D : Int) == 0) = true := beq_iff_eq.2 (by omega)
        have HE : Hid (xs = ys) := hiff.1 hD
        clear hiff hkM hb1 HDk
        subst hD
        go_wp2
        go_ret
        exact ⟨by rw [decide_eq_true HE.out]; rfl, q, hw.out⟩
      · have hb1 : ((D : Int) == 0) = false := beq_eq_false_iff_ne.2 (by omega)
        have HE : Hid (¬ xs = ys) := fun h => hD (hiff.2 h)
        clear hiff hkM HDk
        go_wp2
        go_ret
        exact ⟨by rw [decide_eq_false HE.out]; rfl, q, hw.out⟩
end Go.Proofs.YtppbpmmfcoblmaaDoor.Sha

/- Layer 10 (token): the program's Verify, as a contract. -/
namespace Go.Proofs.YtppbpmmfcoblmaaDoor.Tok
open Go.RowKit Var Fld Frm Sha Hmc Rg

theorem fnd_small {w : World} {B n : Nat} {A : Option Addr} {K : List Kp} (h : KRow w B A n K) (hk : ∀ k ∈ K, k.p.n ≤ 1000) {e : Int} {x : List Int} (hx : fnd (ls K) e = some x) : x.length ≤ 1000 := by
  unfold fnd at hx
  cases hf : (ls K).find? (fun k => k.1 == e) with
  | none => rw [hf] at hx; cases hx
  | some q =>
    rw [hf] at hx
    obtain ⟨k, hk', rfl⟩ := List.mem_map.1 (List.mem_of_find?_eq_some hf)
    have h1 := hk k hk'
    have h2 := (h.ok k hk').len
    simp only [Option.map_some, Option.some.injEq, Kp.l] at hx
    rw [← hx]
    omega

set_option maxHeartbeats 3200000 in
set_option maxRecDepth 100000 in
theorem verify_any (keep nw : Int) (A A' : Option Addr) (n c n' c' : Nat) (K : List Kp) (b : List Int) (w : World) (h : KRow w w.heap.size A n K) (hs : Small n K)
    (h' : Row .u8 w w.heap.size A' n' b) (hnil' : A' = none → c' = 0) (hb : Byt b) (hc' : n' ≤ c') (hcm' : c' ≤ maxLen) (hn' : n' ≤ 4398046511104) (hT : Lay w) :
    Calls Tryd.prog 20 #[.agg #[.int .i64 keep, .slice A n c], .slice A' n' c', .int .i64 nw] w (VerTo w (verify (ls K) b nw)) := by
  have H := Lib.hid h
  have HSM := Lib.hid hs
  have HLY := Lib.hid hT
  obtain ⟨w2, hw2⟩ : ∃ w2, (w.alloc (.cells #[.int .i64 keep, .slice A n c] 24)).alloc (.cells T.zero.cells 41) = w2 := ⟨_, rfl⟩
  have hb2 : Below w.heap.size w w2 := by rw [← hw2]; exact ((Below.refl _ _).alloc (Nat.le_refl _) _).alloc (by simp) _
  have hs2 : w2.heap.size = w.heap.size + 1 + 1 := by rw [← hw2]; simp
  have HG0 : Hid (w2.heap[w.heap.size]? = some (.cells #[.int .i64 keep, .slice A n c] 24 (0, 0))) := by unfold Hid; rw [← hw2]; exact heap_alloc2_old w _ _
  have HZ0 : Hid (w2.heap[w.heap.size + 1]? = some (.cells T.zero.cells 41 (0, 0))) := by unfold Hid; rw [← hw2]; exact heap_alloc2_new w _ _
  have HB2 := Lib.hid hb2
  have HS2 := Lib.hid hs2
  have HW2 := Lib.hid hw2
  have HO := Lib.hid (open_any A' n' c' b w2 ((h'.below hb2).more hb2.size) hnil' hb hc' hcm' hn')
  have HMAY := Lib.hid (fun h => opn_may (b := b) h)
  have HTB := Lib.hid (tagOf_byt hb)
  obtain ⟨r, hr⟩ : ∃ r, r = verify (ls K) b nw := ⟨_, rfl⟩
  rw [← hr]
  unfold verify at hr
  obtain ⟨q, hq⟩ : ∃ q, q = opn b := ⟨_, rfl⟩
  rw [← hq] at hr HO HTB
  have HMAY2 : Hid (q.2.2 = 0 → q.1.may ∧ q.2.1.length = 32) := by unfold Hid; rw [hq]; exact HMAY.out
  obtain ⟨U, tg, er⟩ := q
  have HR := Lib.hid hr
  have HTBY : Hid (∀ x ∈ tg, 0 ≤ x ∧ x ≤ 255) := HTB.out
  have I6 : Hid ((Tryd.prog.info? 41).map (·.size) = some T.zero.cells.size) := infoT
  clear h hs hb2 hs2 hw2 h' hnil' hb hn' hc' hcm' hr hq HMAY hT HTB
  go_enter Tryd.func20, Tryd.ntmps20
  go_wp2_with fail
  refine Calls.mono (by have h1 := HO.out; rw [← HW2.out] at h1; exact h1) ?_
  rintro e3 w3 ⟨A3, n3, c3, rfl, hr3, hnil3, hnc3, hb3⟩
  rw [HW2.out] at hb3
  have HR3 := Lib.hid hr3
  have HB3 := Lib.hid (HB2.out.trans (hb3.mono HB2.out.size))
  have HZ3 : Hid (w3.heap[w.heap.size + 1]? = some (.cells T.zero.cells 41 (0, 0))) := (hb3.block _ (by have := HS2.out; omega)).trans HZ0.out
  have HG3 : Hid (w3.heap[w.heap.size]? = some (.cells #[.int .i64 keep, .slice A n c] 24 (0, 0))) := (hb3.block _ (by have := HS2.out; omega)).trans HG0.out
  obtain ⟨utr, uac, ust, uis, uun, uep⟩ := U
  have eU : (⟨utr, uac, ust, uis, uun, uep⟩ : T).cells = #[.int .i64 utr, .int .i64 uac, .int .i64 ust, .int .i64 uis, .int .i64 uun, .int .i64 uep] := rfl
  unfold T.val
  rw [eU]
  obtain ⟨w4, hw4⟩ : ∃ w4, w3.alloc (.cells #[.int .i64 utr, .int .i64 uac, .int .i64 ust, .int .i64 uis, .int .i64 uun, .int .i64 uep] 41) = w4 := ⟨_, rfl⟩
  have hal : Below w3.heap.size w3 w4 := by rw [← hw4]; exact (Below.refl _ _).alloc (Nat.le_refl _) _
  have HT4 : Hid (w4.heap[w3.heap.size]? = some (.cells #[.int .i64 utr, .int .i64 uac, .int .i64 ust, .int .i64 uis, .int .i64 uun, .int .i64 uep] 41 (0, 0))) := by unfold Hid; rw [← hw4]; exact heap_alloc_new w3 _
  have HZ4 : Hid (w4.heap[w.heap.size + 1]? = some (.cells T.zero.cells 41 (0, 0))) := (hal.block _ (Array.getElem?_eq_some_iff.1 HZ3.out).1).trans HZ3.out
  have HG4 : Hid (w4.heap[w.heap.size]? = some (.cells #[.int .i64 keep, .slice A n c] 24 (0, 0))) := (hal.block _ (Array.getElem?_eq_some_iff.1 HG3.out).1).trans HG3.out
  have HB4 := Lib.hid (HB3.out.trans (hal.mono HB3.out.size))
  have HR4 : Hid (Row .u8 w4 w4.heap.size A3 n3 tg) := (HR3.out.below hal).more hal.size
  have HTOP : Hid (w.heap.size + 1 < w3.heap.size) := (Array.getElem?_eq_some_iff.1 HZ3.out).1
  have HW4 := Lib.hid hw4
  clear hr3 hnil3 hnc3 hb3 hal HR3 HB3 HZ3 HG3 HG0 HZ0 HB2 HO eU
  by_cases her : er = 0
  · subst her
    obtain ⟨hmay, htl⟩ := HMAY2.out rfl
    have hok := hmay.ok
    have HOK := Lib.hid hok
    have HTL : Hid (tg.length = 32) := htl
    have hr2 := HR.out
    rw [if_neg (by simp)] at hr2
    simp only at hr2
    have HR5 := Lib.hid hr2
    have g0 : w4.cell? ⟨w.heap.size, 0, none⟩ = some (.int .i64 keep) := cell_of_blk HG4.out rfl
    have g1 : w4.cell? ⟨w.heap.size, 1, none⟩ = some (.slice A n c) := cell_of_blk HG4.out rfl
    have u5 : w4.cell? ⟨w3.heap.size, 5, none⟩ = some (.int .i64 uep) := cell_of_blk HT4.out rfl
    have HFI := Lib.hid (find_any keep uep A n c w.heap.size K w4 (H.out.below HB4.out) HB4.out.size (by have := HSM.out.1; omega) HSM.out.2)
    rw [← hw4] at g0 g1 u5
    clear hmay hok htl hr2 HR HMAY2 hw4
    go_wp2_with fail
    rw [HW4.out]
    refine HFI.out.mono ?_
    rintro e5 w5 ⟨A5, n5, c5, rfl, hr5, hnil5, hnc5, hb5⟩
    have HBR := Lib.hid hr5
    have HN5 := Lib.hid (And.intro hnil5 hnc5)
    have HB5 := Lib.hid (HB4.out.trans (hb5.mono HB4.out.size))
    have HT5 : Hid (w5.heap[w3.heap.size]? = some (.cells #[.int .i64 utr, .int .i64 uac, .int .i64 ust, .int .i64 uis, .int .i64 uun, .int .i64 uep] 41 (0, 0))) := (hb5.block _ (Array.getElem?_eq_some_iff.1 HT4.out).1).trans HT4.out
    have HZ5 : Hid (w5.heap[w.heap.size + 1]? = some (.cells T.zero.cells 41 (0, 0))) := (hb5.block _ (Array.getElem?_eq_some_iff.1 HZ4.out).1).trans HZ4.out
    have HR45 := Lib.hid ((HR4.out.below hb5).more hb5.size)
    clear hr5 hnil5 hnc5 hb5 g0 g1 u5 HW4
    generalize w3.heap.size = G3 at *
    cases hfn : fnd (ls K) uep with
    | none =>
      have hrr : r = (T.zero, 20) := by have h1 := HR5.out; rw [hfn] at h1; exact h1
      have HRE := Lib.hid hrr
      rw [show (none : Option (List Int)).isSome = false from rfl]
      clear hrr hfn
      go_wp2_with (first
        | ((with_reducible show wpList _ _ _ _ _ _); (refine wpList_store_row rfl 41 (.tmp 6) (.tmp 33) rfl (w.heap.size + 1) T.zero.cells rfl rfl 41 _ HZ5.out I6.out rfl (cellsT _) ?_)))
      refine bodyPost_ret (results_cell_one rfl _ _ (w.heap.size + 1) T.zero.cells rfl (run_loadVar_row _ _ 41 41 _ (0, 0) _ (setRow_heap _ _ _ _ _ _ HZ5.out) Tryd.underlying41 rfl I6.out)) rfl ?_
      rw [HRE.out]
      exact ⟨rfl, below_setRow HB5.out (Nat.le_succ _) _⟩
    | some k =>
      have hr6 := HR5.out
      have hr7 := HBR.out
      have hx1 := fnd_small H.out HSM.out.2 hfn
      rw [hfn] at hr6 hr7
      simp only [Option.getD_some] at hr6 hr7
      have HR6 := Lib.hid hr6
      have HRK := Lib.hid hr7
      have HX1 := Lib.hid hx1
      have hkb := fnd_byt H.out hfn
      have HKB := Lib.hid hkb
      rw [show (some k).isSome = true from rfl]
      clear hr6 hr7 hx1 hfn hkb HBR HR5
      have u0 := cell_of_blk (j := 0) HT5.out rfl
      have u1 := cell_of_blk (j := 1) HT5.out rfl
      have u2 := cell_of_blk (j := 2) HT5.out rfl
      have u3 := cell_of_blk (j := 3) HT5.out rfl
      have u4 := cell_of_blk (j := 4) HT5.out rfl
      have u5 := cell_of_blk (j := 5) HT5.out rfl
      have HTG : Hid (Calls Tryd.prog 52 #[.slice A5 n5 c5, .agg #[.int .i64 utr, .int .i64 uac, .int .i64 ust, .int .i64 uis, .int .i64 uun, .int .i64 uep]] w5 fun e w' => ∃ v, e = .returned v ∧ w'.ownsRow w5.heap.size 5 1 v 32 ((tagT k (⟨utr, uac, ust, uis, uun, uep⟩ : T)).map (Value.int .u8)) ∧ Below w5.heap.size w5 w') := tagged_any A5 n5 c5 k (⟨utr, uac, ust, uis, uun, uep⟩ : T) HOK.out w5 HRK.out HN5.out.2 (by have h1 := HRK.out.len; have h2 := HX1.out; omega) HKB.out (HLY.out.below HB5.out HLY.out.tab.1)
      go_wp2_with fail
      refine HTG.out.mono ?_
      rintro e6 w6 ⟨v6, rfl, hown6, hb6⟩
      obtain ⟨A6, c6, rfl, -, -⟩ := own_slice hown6
      have HR6' : Hid (Row .u8 w6 w6.heap.size A6 32 (tagT k (⟨utr, uac, ust, uis, uun, uep⟩ : T))) := Row.of_own hown6
      have HRT6 := Lib.hid ((HR45.out.below hb6).more hb6.size)
      have HB6 := Lib.hid (HB5.out.trans (hb6.mono HB5.out.size))
      have HT6 : Hid (w6.heap[G3]? = some (.cells #[.int .i64 utr, .int .i64 uac, .int .i64 ust, .int .i64 uis, .int .i64 uun, .int .i64 uep] 41 (0, 0))) := (hb6.block _ (Array.getElem?_eq_some_iff.1 HT5.out).1).trans HT5.out
      have HZ6 : Hid (w6.heap[w.heap.size + 1]? = some (.cells T.zero.cells 41 (0, 0))) := (hb6.block _ (Array.getElem?_eq_some_iff.1 HZ5.out).1).trans HZ5.out
      have hn3 : n3 ≤ 1099511627776 := by have h1 := HRT6.out.len; have h2 := HTL.out; omega
      clear hown6 hb6 u0 u1 u2 u3 u4 u5
      go_wp2_with fail
      refine (psame_any A3 A6 n3 c3 32 c6 _ _ tg (tagT k (⟨utr, uac, ust, uis, uun, uep⟩ : T)) w6 HRT6.out HR6'.out hn3 (by omega) HTBY.out (tagT_byt k (⟨utr, uac, ust, uis, uun, uep⟩ : T))).mono ?_
      rintro e7 w7 ⟨rfl, q7, rfl⟩
      have HB7 : Hid (Below w.heap.size w (w6.drewN q7)) := Rg.below_drewN HB6.out
      have HT7 : Hid ((w6.drewN q7).heap[G3]? = some (.cells #[.int .i64 utr, .int .i64 uac, .int .i64 ust, .int .i64 uis, .int .i64 uun, .int .i64 uep] 41 (0, 0))) := HT6.out
      have HZ7 : Hid ((w6.drewN q7).heap[w.heap.size + 1]? = some (.cells T.zero.cells 41 (0, 0))) := HZ6.out
      generalize w6.drewN q7 = w7 at *
      by_cases htag : tg = tagT k (⟨utr, uac, ust, uis, uun, uep⟩ : T)
      · rw [decide_eq_true htag]
        have h1 := HR6.out
        rw [if_neg (by simp only [ne_eq, Decidable.not_not]; exact htag.symm)] at h1
        have HR8 := Lib.hid h1
        have k3 := cell_of_blk (j := 3) HT7.out rfl
        have k4 := cell_of_blk (j := 4) HT7.out rfl
        have HWI := Lib.hid (within_any nw uis uun w7)
        clear h1 htag
        go_wp2_with fail
        refine HWI.out.mono ?_
        rintro e8 w8 ⟨rfl, rfl⟩
        by_cases hin : uis ≤ nw ∧ nw ≤ uun
        · have hf : fr nw uis uun = true := by unfold fr; simp [hin.1, hin.2]
          have hrr : r = ((⟨utr, uac, ust, uis, uun, uep⟩ : T), 0) := by have h1 := HR8.out; rw [if_neg (by omega)] at h1; exact h1
          have HRE := Lib.hid hrr
          have IC : Hid ((Tryd.prog.info? 41).map (·.size) = some (#[.int .i64 utr, .int .i64 uac, .int .i64 ust, .int .i64 uis, .int .i64 uun, .int .i64 uep] : Array Value).size) := infoT
          rw [hf]
          clear hrr hin hf
          go_wp2_with (first
            | ((with_reducible show wpList _ _ _ _ _ _); (refine wpList_load_row rfl 41 (.tmp 8) rfl G3 rfl 41 #[.int .i64 utr, .int .i64 uac, .int .i64 ust, .int .i64 uis, .int .i64 uun, .int .i64 uep] (0, 0) _ HT7.out Tryd.underlying41 rfl IC.out ?_))
            | ((with_reducible show wpList _ _ _ _ _ _); (refine wpList_store_row rfl 41 (.tmp 6) (.tmp 51) rfl (w.heap.size + 1) #[.int .i64 utr, .int .i64 uac, .int .i64 ust, .int .i64 uis, .int .i64 uun, .int .i64 uep] rfl rfl 41 _ HZ7.out IC.out rfl (cellsT (⟨utr, uac, ust, uis, uun, uep⟩ : T)) ?_)))
          refine bodyPost_ret (results_cell_one rfl _ _ (w.heap.size + 1) #[.int .i64 utr, .int .i64 uac, .int .i64 ust, .int .i64 uis, .int .i64 uun, .int .i64 uep] rfl (run_loadVar_row _ _ 41 41 _ (0, 0) _ (setRow_heap _ _ _ _ _ _ HZ7.out) Tryd.underlying41 rfl infoT)) rfl ?_
          rw [HRE.out]
          exact ⟨rfl, below_setRow HB7.out (Nat.le_succ _) _⟩
        · have hf : fr nw uis uun = false := by
            cases h2 : fr nw uis uun with
            | false => rfl
            | true => exact absurd (fr_yes h2) hin
          have hrr : r = (T.zero, 22) := by have h1 := HR8.out; rw [if_pos (by omega)] at h1; exact h1
          have HRE := Lib.hid hrr
          rw [hf]
          clear hrr hin hf
          go_wp2_with (first
            | ((with_reducible show wpList _ _ _ _ _ _); (refine wpList_store_row rfl 41 (.tmp 6) (.tmp 50) rfl (w.heap.size + 1) T.zero.cells rfl rfl 41 _ HZ7.out I6.out rfl (cellsT _) ?_)))
          refine bodyPost_ret (results_cell_one rfl _ _ (w.heap.size + 1) T.zero.cells rfl (run_loadVar_row _ _ 41 41 _ (0, 0) _ (setRow_heap _ _ _ _ _ _ HZ7.out) Tryd.underlying41 rfl I6.out)) rfl ?_
          rw [HRE.out]
          exact ⟨rfl, below_setRow HB7.out (Nat.le_succ _) _⟩
      · rw [decide_eq_false htag]
        have hrr : r = (T.zero, 21) := by
          have h1 := HR6.out
          rw [if_pos (by simp only [ne_eq]; exact fun e => htag e.symm)] at h1
          exact h1
        have HRE := Lib.hid hrr
        clear hrr htag
        go_wp2_with (first
          | ((with_reducible show wpList _ _ _ _ _ _); (refine wpList_store_row rfl 41 (.tmp 6) (.tmp 41) rfl (w.heap.size + 1) T.zero.cells rfl rfl 41 _ HZ7.out I6.out rfl (cellsT _) ?_)))
        refine bodyPost_ret (results_cell_one rfl _ _ (w.heap.size + 1) T.zero.cells rfl (run_loadVar_row _ _ 41 41 _ (0, 0) _ (setRow_heap _ _ _ _ _ _ HZ7.out) Tryd.underlying41 rfl I6.out)) rfl ?_
        rw [HRE.out]
        exact ⟨rfl, below_setRow HB7.out (Nat.le_succ _) _⟩
  · have hd : ((er : Int) != 0) = true := bne_iff_ne.2 (by omega)
    have hrr : r = (T.zero, er) := by have h1 := HR.out; rw [if_pos her] at h1; exact h1
    have HRE := Lib.hid hrr
    have HWF : Hid (w3.alloc (.cells #[.int .i64 utr, .int .i64 uac, .int .i64 ust, .int .i64 uis, .int .i64 uun, .int .i64 uep] 41) = w4) := HW4.out
    clear hrr her hw4 HR HMAY2
    have HZ4' : Hid ((w3.alloc (.cells #[.int .i64 utr, .int .i64 uac, .int .i64 ust, .int .i64 uis, .int .i64 uun, .int .i64 uep] 41)).heap[w.heap.size + 1]? = some (.cells T.zero.cells 41 (0, 0))) := by unfold Hid; rw [HWF.out]; exact HZ4.out
    have HB4' : Hid (Below w.heap.size w (w3.alloc (.cells #[.int .i64 utr, .int .i64 uac, .int .i64 ust, .int .i64 uis, .int .i64 uun, .int .i64 uep] 41))) := by unfold Hid; rw [HWF.out]; exact HB4.out
    go_wp2_with (first
      | ((with_reducible show wpList _ _ _ _ _ _); (refine wpList_store_row rfl 41 (.tmp 6) (.tmp 21) rfl (w.heap.size + 1) T.zero.cells rfl rfl 41 _ HZ4'.out I6.out rfl (cellsT _) ?_)))
    refine bodyPost_ret (results_cell_one rfl _ _ (w.heap.size + 1) T.zero.cells rfl (run_loadVar_row _ _ 41 41 _ (0, 0) _ (setRow_heap _ _ _ _ _ _ HZ4'.out) Tryd.underlying41 rfl I6.out)) rfl ?_
    rw [HRE.out]
    exact ⟨rfl, below_setRow HB4'.out (Nat.le_succ _) _⟩
end Go.Proofs.YtppbpmmfcoblmaaDoor.Tok

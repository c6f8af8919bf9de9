/- Layer 7 (sha): the program's at and Same, as contracts. -/
import Derived.Test.YtclidocmfdimiaaDoorShaM
import Derived.Test.YtclidocmfdimiaaDoorSame
import Derived.Lib.MinMax
namespace Go.Proofs.YtclidocmfdimiaaDoor.Sha
open Go.RowKit

set_option maxHeartbeats 800000 in
set_option maxRecDepth 100000 in
theorem at_any (A : Option Addr) (n c B k : Nat) (xs : List Int) (w : World) (h : Row .u8 w B A n xs) : Calls Tryd.prog 19 #[.slice A n c, .int .i64 (k : Int)] w fun e w' => e = .returned (.int .u8 (xs.getD k 0)) ∧ w = w' := by
  by_cases hk : k < n
  · obtain ⟨b, o, rfl, _, hc⟩ := h.cell_at hk
    have H := Lib.hid h
    clear h
    go_enter Tryd.func19, Tryd.ntmps19
    go_wp2
    go_ret
    exact ⟨rfl, rfl⟩
  · have e : xs.getD k 0 = 0 := by
      have := h.len
      rw [List.getD, List.getElem?_eq_none (by omega)]
      rfl
    rw [e]
    clear e h
    go_enter Tryd.func19, Tryd.ntmps19
    go_wp2
    go_ret
    exact ⟨rfl, rfl⟩

theorem xor_zero_iff (a b : Nat) : a ^^^ b = 0 ↔ a = b := by
  constructor
  · intro h
    have : (a ^^^ b) ^^^ b = 0 ^^^ b := by rw [h]
    rwa [Nat.xor_assoc, Nat.xor_self, Nat.xor_zero, Nat.zero_xor] at this
  · rintro rfl; exact Nat.xor_self a
theorem i64_xor_nat (a b : Nat) (ha : a < 4611686018427387904) (hb : b < 4611686018427387904) : bits .xor .i64 (a : Int) (b : Int) = ((a ^^^ b : Nat) : Int) := by
  have hx : a ^^^ b < 2 ^ 62 := Nat.xor_lt_two_pow (by omega) (by omega)
  show IntKind.i64.wrap ((BitVec.ofInt 64 (a : Int) ^^^ BitVec.ofInt 64 (b : Int)).toNat : Int) = _
  rw [BitVec.toNat_xor, ofInt_u64 a (by omega), ofInt_u64 b (by omega), IntKind.wrap_i64]
  omega
theorem i64_or_nat (a b : Nat) (ha : a < 4611686018427387904) (hb : b < 4611686018427387904) : bits .or .i64 (a : Int) (b : Int) = ((a ||| b : Nat) : Int) := by
  have hx : a ||| b < 2 ^ 62 := Nat.or_lt_two_pow (by omega) (by omega)
  show IntKind.i64.wrap ((BitVec.ofInt 64 (a : Int) ||| BitVec.ofInt 64 (b : Int)).toNat : Int) = _
  rw [BitVec.toNat_or, ofInt_u64 a (by omega), ofInt_u64 b (by omega), IntKind.wrap_i64]
  omega

/-- What has been found to differ: lists of bytes, up to place k. -/
structure Dif (n n' : Nat) (xs ys : List Int) (k D : Nat) : Prop where
  lt : D < 4398046511104
  iff : D = 0 ↔ (n = n' ∧ ∀ j, j < k → xs.getD j 0 = ys.getD j 0)
theorem Dif.start {n n' : Nat} (xs ys : List Int) (hn : n ≤ 1099511627776) (hn' : n' ≤ 1099511627776) : Dif n n' xs ys 0 (n ^^^ n') :=
  ⟨Nat.xor_lt_two_pow (n := 42) (by omega) (by omega), by
    constructor
    · intro h; exact ⟨(xor_zero_iff _ _).1 h, by intro j hj; omega⟩
    · rintro ⟨rfl, -⟩; exact Nat.xor_self n⟩
theorem Dif.step {n n' k D : Nat} {xs ys : List Int} (h : Dif n n' xs ys k D) (x y : Nat) (hx : xs.getD k 0 = (x : Int)) (hy : ys.getD k 0 = (y : Int)) (bx : x < 256) (bY : y < 256) : Dif n n' xs ys (k + 1) (D ||| (x ^^^ y)) :=
  ⟨Nat.or_lt_two_pow (n := 42) h.lt (Nat.lt_trans (Nat.xor_lt_two_pow (n := 8) bx bY) (by omega)), by
    rw [Nat.or_eq_zero_iff, xor_zero_iff, h.iff]
    constructor
    · rintro ⟨⟨e, h1⟩, h2⟩
      refine ⟨e, fun j hj => ?_⟩
      by_cases hjk : j = k
      · subst hjk; rw [hx, hy, h2]
      · exact h1 j (by omega)
    · rintro ⟨e, h1⟩
      refine ⟨⟨e, fun j hj => h1 j (by omega)⟩, ?_⟩
      have := h1 k (by omega)
      omega⟩
theorem Dif.ends {n n' k D : Nat} {xs ys : List Int} (h : Dif n n' xs ys k D) (hx : xs.length = n) (hy : ys.length = n') (hk : k = max n n') : D = 0 ↔ xs = ys := by
  rw [h.iff]
  constructor
  · rintro ⟨e, h1⟩
    apply List.ext_getElem (by omega)
    intro i h2 h3
    have := h1 i (by omega)
    simpa [List.getD, h2, h3] using this
  · rintro rfl
    exact ⟨by omega, fun _ _ => rfl⟩
theorem byte_nat {b : List Int} (hb : ∀ x ∈ b, 0 ≤ x ∧ x ≤ 255) (i : Nat) : ∃ y : Nat, b.getD i 0 = (y : Int) ∧ y < 256 := by
  by_cases h : i < b.length
  · have := hb b[i] (List.getElem_mem h)
    refine ⟨(b[i]).toNat, ?_, by omega⟩
    rw [List.getD, List.getElem?_eq_getElem h]
    simp
    omega
  · exact ⟨0, by rw [List.getD, List.getElem?_eq_none (by omega)]; rfl, by omega⟩

set_option maxHeartbeats 1600000 in
set_option maxRecDepth 100000 in
theorem psame_any (A A' : Option Addr) (n c n' c' B B' : Nat) (xs ys : List Int) (w : World) (h : Row .u8 w B A n xs) (h' : Row .u8 w B' A' n' ys) (hn : n ≤ 1099511627776) (hn' : n' ≤ 1099511627776)
    (hb : ∀ x ∈ xs, 0 ≤ x ∧ x ≤ 255) (hb' : ∀ x ∈ ys, 0 ≤ x ∧ x ≤ 255) :
    Calls Tryd.prog 12 #[.slice A n c, .slice A' n' c'] w fun e w' => e = .returned (.bool (decide (xs = ys))) ∧ ∃ q, w' = w.drewN q := by
  have hd := Dif.start xs ys hn hn'
  have H := Lib.hid h
  have H' := Lib.hid h'
  have HD := Lib.hid hd
  have HB := Lib.hid hb
  have HB' := Lib.hid hb'
  clear h h' hd hb hb'
  have hx : bits .xor .i64 (n : Int) (n' : Int) = ((n ^^^ n' : Nat) : Int) := i64_xor_nat n n' (by omega) (by omega)
  have hmx : max (n : Int) (n' : Int) = ((max n n' : Nat) : Int) := by omega
  obtain ⟨M, hM⟩ : ∃ M, max n n' = M := ⟨_, rfl⟩
  rw [hM] at hmx
  have hMb : M ≤ 1099511627776 := by omega
  have HM := Lib.hid hM
  clear hM
  go_enter Tryd.func12, Tryd.ntmps12
  go_wp2_with fail
  go_loopw [5, 17] (fun d i wr => ∃ k D q : Nat, k ≤ M ∧ i = .int .i64 (k : Int) ∧ d = .int .i64 (D : Int) ∧ Hid (Dif n n' xs ys k D) ∧ Hid (wr = w.drewN q)) (fun _ i _ => M - (intOf i).toNat)
  case atStart => exact ⟨0, _, 0, Nat.zero_le _, rfl, rfl, HD, rfl⟩
  case round =>
    obtain ⟨k, D, q, hk, rfl, rfl, HDk, hw⟩ := hrel
    by_cases hlt : k < M
    · obtain ⟨x, hx1, hx2⟩ := byte_nat HB.out k
      obtain ⟨y, hy1, hy2⟩ := byte_nat HB'.out k
      have HX := Lib.hid hx1
      have HY := Lib.hid hy1
      have HS := Lib.hid (HDk.out.step x y hx1 hy1 hx2 hy2)
      have HR : Hid (Row .u8 wr B A n xs) := by rw [hw.out]; exact H.out
      have HR' : Hid (Row .u8 wr B' A' n' ys) := by rw [hw.out]; exact H'.out
      have hDl := HDk.out.lt
      have hxy : bits .xor .u8 (x : Int) (y : Int) = ((x ^^^ y : Nat) : Int) := u8_xor_nat x y hx2 hy2
      have hxb : x ^^^ y < 256 := Nat.xor_lt_two_pow (n := 8) hx2 hy2
      obtain ⟨z, hz⟩ : ∃ z, x ^^^ y = z := ⟨_, rfl⟩
      rw [hz] at hxy hxb HS
      have hor : bits .or .i64 (D : Int) (z : Int) = ((D ||| z : Nat) : Int) := i64_or_nat D z (by omega) (by omega)
      clear hx1 hy1 hx2 hy2 hz HDk
      go_wp2_with fail
      refine (at_any A n c B k xs _ HR.out).mono ?_
      rintro e1 w1 ⟨rfl, rfl⟩
      rw [HX.out]
      go_wp2_with fail
      refine (at_any A' n' c' B' k ys _ HR'.out).mono ?_
      rintro e1 w1 ⟨rfl, rfl⟩
      rw [HY.out]
      go_wp2
      go_roundw
      case rel => exact ⟨k + 1, _, q, by omega, by go_num, rfl, HS, hw⟩
      case measure => simp [intOf]; omega
    · have hkM : k = max n n' := by rw [HM.out]; omega
      have hiff := HDk.out.ends H.out.len H'.out.len hkM
      by_cases hD : D = 0
      · have hb1 : ((D : Int) == 0) = true := beq_iff_eq.2 (by omega)
        have HE : Hid (xs = ys) := hiff.1 hD
        clear hiff hkM hb1 HDk
        subst hD
        go_wp2
        go_ret
        exact ⟨by rw [decide_eq_true HE.out]; rfl, q, hw.out⟩
      · have hb1 : ((D : Int) == 0) = false := beq_eq_false_iff_ne.2 (by omega)
        have HE : Hid (¬ xs = ys) := fun h => hD (hiff.2 h)
        clear hiff hkM HDk
        go_wp2
        go_ret
        exact ⟨by rw [decide_eq_false HE.out]; rfl, q, hw.out⟩
end Go.Proofs.YtclidocmfdimiaaDoor.Sha

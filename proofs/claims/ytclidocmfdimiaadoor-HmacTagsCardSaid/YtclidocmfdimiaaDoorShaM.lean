/- Words of 32 bits as the model's numbers, and SHA-256 as plain mathematics; no program is named here. -/
import Derived.Test.YtclidocmfdimiaaDoorBase
import Derived.Laws.BitsAllLaws
namespace Go.Proofs.YtclidocmfdimiaaDoor.Sha
open Go.RowKit

abbrev Wd := BitVec 32
/-- A word as a number. -/
def wi (a : Wd) : Int := (a.toNat : Int)
theorem wi_bd (a : Wd) : 0 ≤ wi a ∧ wi a < 4294967296 := by unfold wi; have := a.isLt; omega
theorem wi_xor (a b : Wd) : bits .xor .u32 (wi a) (wi b) = wi (a ^^^ b) := by
  unfold wi; rw [u32_xor_nat _ _ a.isLt b.isLt, BitVec.toNat_xor]
theorem wi_and (a b : Wd) : bits .and .u32 (wi a) (wi b) = wi (a &&& b) := by
  unfold wi; rw [u32_and_nat _ _ a.isLt b.isLt, BitVec.toNat_and]
theorem wi_or (a b : Wd) : bits .or .u32 (wi a) (wi b) = wi (a ||| b) := by
  unfold wi; rw [u32_or_nat _ _ a.isLt b.isLt, BitVec.toNat_or]
theorem wi_add (a b : Wd) : IntKind.u32.wrap (wi a + wi b) = wi (a + b) := by
  unfold wi; rw [IntKind.wrap_u32', BitVec.toNat_add]; omega
theorem wi_shr (a : Wd) (n : Nat) : wi a / 2 ^ n = wi (a >>> n) := by
  unfold wi
  rw [BitVec.toNat_ushiftRight, Nat.shiftRight_eq_div_pow]
  simp
theorem wi_shl (a : Wd) (n : Nat) : wi a * 2 ^ n % 4294967296 = wi (a <<< n) := by
  unfold wi
  rw [BitVec.toNat_shiftLeft, Nat.shiftLeft_eq]
  simp
theorem wi_not (a : Wd) : 4294967295 - wi a = wi (~~~a) := by
  unfold wi
  rw [BitVec.toNat_not]
  have := a.isLt
  omega
theorem wi_of (n : Nat) (h : n < 4294967296) : (n : Int) = wi (BitVec.ofNat 32 n) := by
  unfold wi
  rw [BitVec.toNat_ofNat]
  omega
theorem wi_inj {a b : Wd} (h : wi a = wi b) : a = b := by
  unfold wi at h
  exact BitVec.eq_of_toNat_eq (by omega)

theorem wi_shr3 (a : Wd) : (wi a / (8 : Int) : Int) = wi (a >>> 3) := by have := wi_shr a 3; simpa using this
theorem wi_shr10 (a : Wd) : (wi a / (1024 : Int) : Int) = wi (a >>> 10) := by have := wi_shr a 10; simpa using this

theorem wi_com (a : Wd) : bits .xor .u32 (if IntKind.u32.signed = true then -1 else IntKind.u32.max) (wi a) = wi (~~~a) := by
  have e : (if IntKind.u32.signed = true then -1 else IntKind.u32.max) = wi (BitVec.allOnes 32) := rfl
  rw [e, wi_xor, BitVec.allOnes_xor]

/-- Rotated; the small functions of the rounds. -/
def rot (a : Wd) (n : Nat) : Wd := (a >>> n) ||| (a <<< (32 - n))
def sg0 (x : Wd) : Wd := rot x 7 ^^^ rot x 18 ^^^ (x >>> 3)
def sg1 (x : Wd) : Wd := rot x 17 ^^^ rot x 19 ^^^ (x >>> 10)
def bg0 (a : Wd) : Wd := rot a 2 ^^^ rot a 13 ^^^ rot a 22
def bg1 (e : Wd) : Wd := rot e 6 ^^^ rot e 11 ^^^ rot e 25
def cho (e f g : Wd) : Wd := (e &&& f) ^^^ (~~~e &&& g)
def maj (a b c : Wd) : Wd := (a &&& b) ^^^ (a &&& c) ^^^ (b &&& c)

/-- Word j of a list. -/
def wat (l : List Wd) (j : Nat) : Wd := l.getD j 0
/-- The next word of a schedule. -/
def more (w : List Wd) : Wd := wat w (w.length - 16) + sg0 (wat w (w.length - 15)) + wat w (w.length - 7) + sg1 (wat w (w.length - 2))
def sched : Nat → List Wd → List Wd
  | 0, w => w
  | n + 1, w => sched n w ++ [more (sched n w)]
theorem sched_len (w : List Wd) : ∀ n, (sched n w).length = w.length + n
  | 0 => rfl
  | n + 1 => by
    have := sched_len w n
    simp only [sched, List.length_append, List.length_cons, List.length_nil]
    omega

/-- One round over eight words; n rounds; a block; what is added at its end. -/
def one (v : List Wd) (k w : Wd) : Wd := wat v 7 + bg1 (wat v 4) + cho (wat v 4) (wat v 5) (wat v 6) + k + w
def round (v : List Wd) (k w : Wd) : List Wd := [one v k w + bg0 (wat v 0) + maj (wat v 0) (wat v 1) (wat v 2), wat v 0, wat v 1, wat v 2, wat v 3 + one v k w, wat v 4, wat v 5, wat v 6]
def rounds (ks ws h : List Wd) : Nat → List Wd
  | 0 => h
  | n + 1 => round (rounds ks ws h n) (wat ks n) (wat ws n)
def adds (h v : List Wd) : Nat → List Wd
  | 0 => []
  | n + 1 => adds h v n ++ [wat h n + wat v n]
theorem adds_len (h v : List Wd) : ∀ n, (adds h v n).length = n
  | 0 => rfl
  | n + 1 => by simp [adds, adds_len h v n]

/-- Four bytes as a word: the first j of them. -/
def four (b : List Int) (at_ : Nat) : Nat → Nat
  | 0 => 0
  | j + 1 => four b at_ j * 256 + (b.getD (at_ + j) 0).toNat
theorem four_lt {b : List Int} (hb : ∀ x ∈ b, 0 ≤ x ∧ x ≤ 255) (at_ : Nat) : ∀ j, four b at_ j < 256 ^ j
  | 0 => by simp [four]
  | j + 1 => by
    have ih := four_lt hb at_ j
    have hx : (b.getD (at_ + j) 0).toNat ≤ 255 := by
      by_cases h : at_ + j < b.length
      · have := hb b[at_ + j] (List.getElem_mem h)
        rw [List.getD, List.getElem?_eq_getElem h]
        simp
        omega
      · rw [List.getD, List.getElem?_eq_none (by omega)]
        simp
    simp only [four, Nat.pow_succ]
    omega
/-- The first n words of the block that begins at at_. -/
def words (b : List Int) (at_ : Nat) : Nat → List Wd
  | 0 => []
  | n + 1 => words b at_ n ++ [BitVec.ofNat 32 (four b (at_ + 4 * n) 4)]
theorem words_len (b : List Int) (at_ : Nat) : ∀ n, (words b at_ n).length = n
  | 0 => rfl
  | n + 1 => by simp [words, words_len b at_ n]
def block (ks h : List Wd) (b : List Int) (at_ : Nat) : List Wd := adds h (rounds ks (sched 48 (words b at_ 16)) h 64) 8
/-- The eight words behind n blocks. -/
def blocks (ks h : List Wd) (b : List Int) : Nat → List Wd
  | 0 => h
  | n + 1 => block ks (blocks ks h b n) b (64 * n)
/-- Words as bytes. -/
def out4 (w : Wd) : List Int := [((w.toNat / 16777216 : Nat) : Int), ((w.toNat / 65536 % 256 : Nat) : Int), ((w.toNat / 256 % 256 : Nat) : Int), ((w.toNat % 256 : Nat) : Int)]
theorem out4_eq (a : Wd) : [IntKind.u8.wrap (IntKind.u32.wrap ((wi a).tdiv 16777216)), IntKind.u8.wrap ((IntKind.u32.wrap ((wi a).tdiv 65536)).tmod 256), IntKind.u8.wrap ((IntKind.u32.wrap ((wi a).tdiv 256)).tmod 256), IntKind.u8.wrap ((wi a).tmod 256)] = out4 a := by
  have h := wi_bd a
  have e : wi a = (a.toNat : Int) := rfl
  unfold out4
  simp only [IntKind.wrap_u8', IntKind.wrap_u32', Int.tdiv_eq_ediv_of_nonneg h.1]
  rw [Int.tmod_eq_emod_of_nonneg (by omega), Int.tmod_eq_emod_of_nonneg (by omega), Int.tmod_eq_emod_of_nonneg h.1, e]
  simp only [List.cons.injEq, and_true]
  refine ⟨?_, ?_, ?_, ?_⟩ <;> omega
def outs (h : List Wd) : Nat → List Int
  | 0 => []
  | n + 1 => outs h n ++ out4 (wat h n)
end Go.Proofs.YtclidocmfdimiaaDoor.Sha

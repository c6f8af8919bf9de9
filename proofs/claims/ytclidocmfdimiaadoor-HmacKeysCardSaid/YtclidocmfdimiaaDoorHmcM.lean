/- HMAC-SHA-256 as plain mathematics; no program's text is named here. -/
import Derived.Test.YtclidocmfdimiaaDoorShaE
import Derived.Test.YtclidocmfdimiaaDoorBase
import Derived.Laws.BitsAllLaws
namespace Go.Proofs.YtclidocmfdimiaaDoor.Hmc
open Go.RowKit Sha

/-- Two bytes by exclusive or. -/
def xr (x y : Int) : Int := ((x.toNat ^^^ y.toNat : Nat) : Int)
theorem xr_byt (x y : Int) (hx : 0 ≤ x ∧ x ≤ 255) (hy : 0 ≤ y ∧ y ≤ 255) : 0 ≤ xr x y ∧ xr x y ≤ 255 := by
  unfold xr
  have : x.toNat ^^^ y.toNat < 2 ^ 8 := Nat.xor_lt_two_pow (by omega) (by omega)
  omega
theorem xr_zero {y : Int} (hy : 0 ≤ y) : xr 0 y = y := by
  unfold xr
  simp
  omega
theorem xr_bits (x y : Int) (hx : 0 ≤ x ∧ x ≤ 255) (hy : 0 ≤ y ∧ y ≤ 255) : bits .xor .u8 x y = xr x y := by
  unfold xr
  exact u8_xor x y hx.1 (by omega) hy.1 (by omega)
/-- The first n bytes of a key k that is filled up, each combined with m. -/
def pre (k : List Int) (m : Int) : Nat → List Int
  | 0 => []
  | n + 1 => pre k m n ++ [xr (k.getD n 0) m]
theorem pre_len (k : List Int) (m : Int) : ∀ n, (pre k m n).length = n
  | 0 => rfl
  | n + 1 => by rw [pre, List.length_append, pre_len k m n]; rfl
theorem getD_byt {k : List Int} (hk : ∀ x ∈ k, 0 ≤ x ∧ x ≤ 255) (n : Nat) : 0 ≤ k.getD n 0 ∧ k.getD n 0 ≤ 255 := by
  by_cases h : n < k.length
  · have := hk k[n] (List.getElem_mem h)
    simpa [List.getD, h] using this
  · simp [List.getD, List.getElem?_eq_none (by omega : k.length ≤ n)]
theorem pre_byt {k : List Int} {m : Int} (hk : ∀ x ∈ k, 0 ≤ x ∧ x ≤ 255) (hm : 0 ≤ m ∧ m ≤ 255) : ∀ n, ∀ x ∈ pre k m n, 0 ≤ x ∧ x ≤ 255
  | 0, x, hx => by simp [pre] at hx
  | n + 1, x, hx => by
    rw [pre, List.mem_append] at hx
    rcases hx with hx | hx
    · exact pre_byt hk hm n x hx
    · rw [List.mem_singleton] at hx
      subst hx
      exact xr_byt _ _ (getD_byt hk n) hm
theorem sum256_byt (b : List Int) : ∀ x ∈ sum256 b, 0 ≤ x ∧ x ≤ 255 := by
  have h : ∀ (l : List Wd) n, ∀ x ∈ outs l n, 0 ≤ x ∧ x ≤ 255 := by
    intro l n
    induction n with
    | zero => intro x hx; simp [outs] at hx
    | succ n ih =>
      intro x hx
      rw [outs, List.mem_append] at hx
      rcases hx with hx | hx
      · exact ih x hx
      · have := (wat l n).isLt
        simp only [out4, List.mem_cons, List.not_mem_nil, or_false] at hx
        rcases hx with rfl | rfl | rfl | rfl <;> omega
  exact h _ 8
/-- The key as it is used. -/
def ky (k : List Int) : List Int := if 64 < k.length then sum256 k else k
theorem ky_byt {k : List Int} (hk : ∀ x ∈ k, 0 ≤ x ∧ x ≤ 255) : ∀ x ∈ ky k, 0 ≤ x ∧ x ≤ 255 := by
  unfold ky
  split
  · exact sum256_byt k
  · exact hk
theorem ky_len (k : List Int) : (ky k).length ≤ 64 := by
  unfold ky
  split
  · rw [sum256_len]; omega
  · omega
def blk (k : List Int) (m : Int) : List Int := pre (ky k) m 64
theorem blk_len (k : List Int) (m : Int) : (blk k m).length = 64 := pre_len _ _ _
theorem blk_byt {k : List Int} {m : Int} (hk : ∀ x ∈ k, 0 ≤ x ∧ x ≤ 255) (hm : 0 ≤ m ∧ m ≤ 255) : ∀ x ∈ blk k m, 0 ≤ x ∧ x ≤ 255 := pre_byt (ky_byt hk) hm 64
/-- The tag of b under the key k. -/
def mac (k b : List Int) : List Int := sum256 (blk k 92 ++ sum256 (blk k 54 ++ b))
theorem mac_len (k b : List Int) : (mac k b).length = 32 := sum256_len _
/-- Noughts behind a short key make no difference; a long one is its sum. -/
theorem pre_noughts (k : List Int) (m : Int) (j : Nat) : ∀ n, pre (k ++ List.replicate j 0) m n = pre k m n
  | 0 => rfl
  | n + 1 => by
    rw [pre, pre, pre_noughts k m j n]
    have e : (k ++ List.replicate j 0).getD n 0 = k.getD n 0 := by
      simp only [List.getD]
      by_cases h : n < k.length
      · rw [List.getElem?_append_left h]
      · rw [List.getElem?_append_right (by omega), List.getElem?_eq_none (by omega : k.length ≤ n)]
        by_cases h2 : n - k.length < j
        · simp [h2]
        · simp [h2]
    rw [e]
theorem blk_noughts (k : List Int) (m : Int) (j : Nat) (h : k.length + j ≤ 64) : blk (k ++ List.replicate j 0) m = blk k m := by
  unfold blk ky
  rw [if_neg (by simp; omega), if_neg (by omega), pre_noughts]
theorem blk_sum (k : List Int) (m : Int) (h : 64 < k.length) : blk (sum256 k) m = blk k m := by
  unfold blk ky
  rw [if_neg (by rw [sum256_len]; omega), if_pos h]
theorem mac_noughts (k b : List Int) (j : Nat) (h : k.length + j ≤ 64) : mac (k ++ List.replicate j 0) b = mac k b := by
  unfold mac
  rw [blk_noughts k _ j h, blk_noughts k _ j h]
theorem mac_sum (k b : List Int) (h : 64 < k.length) : mac (sum256 k) b = mac k b := by
  unfold mac
  rw [blk_sum k _ h, blk_sum k _ h]
set_option maxRecDepth 1000000 in
theorem jefe : mac [74, 101, 102, 101] [119, 104, 97, 116, 32, 100, 111, 32, 121, 97, 32, 119, 97, 110, 116, 32, 102, 111, 114, 32, 110, 111, 116, 104, 105, 110, 103, 63] = [91, 220, 193, 70, 191, 96, 117, 78, 106, 4, 36, 38, 8, 149, 117, 199, 90, 0, 63, 8, 157, 39, 57, 131, 157, 236, 88, 185, 100, 236, 56, 67] := by decide +kernel
end Go.Proofs.YtclidocmfdimiaaDoor.Hmc

/- Lemmas that the proof stands on, in build order: ShaP ShaK ShaE HmcM RgM. -/
import Derived.Laws.OwnMore
import Derived.Laws.BitsAllLaws
import Derived.Test.YtppbpmmfcoblmaaDoorJ1ef7bc1
/- Layer 7 (sha): the bytes with what comes behind; the reference's padded, as a contract. -/
namespace Go.Proofs.YtppbpmmfcoblmaaDoor.Sha
open Go.RowKit

theorem info8 : (Tryd.prog.info? 5).map (fun i => (i.zero, i.size, i.bytes)) = some (some (.int .u8 0), 1, 1) := by kernel_rfl
theorem info32 : (Tryd.prog.info? 101).map (fun i => (i.zero, i.size, i.bytes)) = some (some (.int .u32 0), 1, 4) := by kernel_rfl
theorem parts_of {P : Program} {e : TypeId} {z : Value} {n m : Nat} (h : (P.info? e).map (fun i => (i.zero, i.size, i.bytes)) = some (some z, n, m)) : ∃ i, P.info? e = some i ∧ i.zero = some z ∧ i.size = n ∧ i.bytes = m := by
  cases hi : P.info? e with
  | none => rw [hi] at h; cases h
  | some i => rw [hi] at h; injection h with h; injection h with h1 h2; injection h2 with h2 h3; exact ⟨i, rfl, h1, h2, h3⟩

/-- How many zero bytes; numbers as bytes, the highest first; all of it. -/
def zeros (L : Nat) : Nat := (119 - L % 64) % 64
def be : Nat → Nat → List Int
  | 0, _ => []
  | i + 1, n => ((n / 256 ^ i % 256 : Nat) : Int) :: be i n
theorem be_len (n : Nat) : ∀ i, (be i n).length = i
  | 0 => rfl
  | i + 1 => by simp [be, be_len n i]
def stem (b : List Int) (j : Nat) : List Int := b ++ 128 :: List.replicate j 0
theorem stem_len (b : List Int) (j : Nat) : (stem b j).length = b.length + 1 + j := by simp [stem]; omega
theorem stem_next (b : List Int) (j : Nat) : stem b j ++ [0] = stem b (j + 1) := by
  unfold stem
  rw [List.append_assoc, List.cons_append, ← List.replicate_succ']
def pad (b : List Int) : List Int := stem b (zeros b.length) ++ be 8 (8 * b.length)
theorem zeros_le (L : Nat) : zeros L < 64 := by unfold zeros; omega
theorem zeros_end {L j : Nat} (hj : j ≤ zeros L) : (L + 1 + j) % 64 = 56 ↔ j = zeros L := by unfold zeros at *; omega
theorem pad_len (b : List Int) : (pad b).length = b.length + 9 + zeros b.length := by
  unfold pad
  rw [List.length_append, stem_len, be_len]
  omega
theorem pad_64 (b : List Int) : (pad b).length % 64 = 0 := by
  rw [pad_len]; unfold zeros; omega
theorem be_byt (n : Nat) : ∀ i, ∀ x ∈ be i n, 0 ≤ x ∧ x ≤ 255
  | 0, x, hx => by simp [be] at hx
  | i + 1, x, hx => by
    rcases List.mem_cons.1 hx with rfl | hx
    · omega
    · exact be_byt n i x hx
theorem pad_byt {b : List Int} (hb : ∀ x ∈ b, 0 ≤ x ∧ x ≤ 255) : ∀ x ∈ pad b, 0 ≤ x ∧ x ≤ 255 := by
  intro x hx
  unfold pad stem at hx
  simp only [List.mem_append, List.mem_cons, List.mem_replicate] at hx
  rcases hx with (hx | rfl | ⟨_, rfl⟩) | hx
  · exact hb x hx
  · omega
  · omega
  · exact be_byt _ _ x hx

/-- A slice's length. -/
def lenOf : Value → Nat
  | .slice _ n _ => n
  | _ => 0

set_option maxHeartbeats 1600000 in
set_option maxRecDepth 100000 in
theorem padded_any (A : Option Addr) (n c : Nat) (b : List Int) (w : World) (h : Row .u8 w w.heap.size A n b) (hnil : A = none → c = 0) (hn : n ≤ 1099511627776) :
    Calls Tryd.prog 95 #[.slice A n c] w fun e w' => ∃ v, e = .returned v ∧ w'.ownsRow w.heap.size 5 1 v (pad b).length ((pad b).map (Value.int .u8)) ∧ Below w.heap.size w w' := by
  obtain ⟨i0, hi, hz0, hz1, hz2⟩ := parts_of info8
  have H := Lib.hid h
  have HI := Lib.hid hnil
  have hlen := h.len
  have HL := Lib.hid hlen
  have HO : Hid (w.ownsRow w.heap.size 5 1 (.slice none 0 0) 0 (([] : List Int).map (Value.int .u8))) := World.ownsRow_nil _ _ _ _
  clear h hnil
  go_enter Tryd.func95, Tryd.ntmps95
  go_wp2_with (at_builtin; first
    | (refine cat_own rfl (.tmp 7) (.tmp 8) 25 rfl w.heap.size 5 i0 .u8 1 Tryd.underlying25 hi hz0 hz1 hz2 _ 0 [] rfl HO.out w.heap.size A n c b rfl HI.out H.out (by omega) (by omega) (Nat.le_refl _) ?_; intro v1 w1 hown1 hb1; have HO1 := Lib.hid hown1; have HB1 := Lib.hid hb1; clear hown1 hb1)
    | (refine push_own rfl (.tmp 10) (.tmp 11) 25 rfl w.heap.size 5 i0 .u8 1 Tryd.underlying25 hi hz0 hz1 hz2 _ (0 + n) ([] ++ b) 128 rfl HO1.out rfl (by omega) (by omega) HB1.out.size ?_; intro v2 w2 hown2 hb2; have HO2 := Lib.hid hown2; have HB2 := Lib.hid (HB1.out.trans hb2); clear hown2 hb2))
  have hst : Hid (w2.ownsRow w.heap.size 5 1 v2 (n + 1 + 0) ((stem b 0).map (Value.int .u8))) := by
    have := HO2.out
    have e : [] ++ b ++ [128] = stem b 0 := by simp [stem]
    rw [e, Nat.zero_add] at this
    exact this
  clear HO HO1 HO2 HB1
  go_loopw [3] (fun v wr => ∃ j : Nat, j ≤ zeros n ∧ Hid (wr.ownsRow w.heap.size 5 1 v (n + 1 + j) ((stem b j).map (Value.int .u8))) ∧ Hid (Below w.heap.size w wr)) (fun v _ => n + 100 - lenOf v)
  case atStart => exact ⟨0, Nat.zero_le _, hst, HB2⟩
  case round =>
    obtain ⟨j, hj, HO, HB⟩ := hrel
    have hz := zeros_le n
    have hze := zeros_end hj
    obtain ⟨A', c', rfl, -, -⟩ := own_slice HO.out
    by_cases hlt : j = zeros n
    case neg =>
      have hne : ¬ (n + 1 + j) % 64 = 56 := fun h => hlt (hze.1 h)
      have hb1 : (((n : Int) + 1 + (j : Int)) % 64 == 56) = false := beq_eq_false_iff_ne.2 (by omega)
      have hb3 : (((n : Int) + 1 + (j : Int)) % 64 != 56) = true := by rw [bne, hb1]; rfl
      go_wp2_with (at_builtin; refine push_own rfl (.tmp 17) (.tmp 18) 25 rfl w.heap.size 5 i0 .u8 1 Tryd.underlying25 hi hz0 hz1 hz2 _ (n + 1 + j) (stem b j) 0 rfl HO.out rfl (by omega) (by omega) HB.out.size ?_; intro v3 w3 hown3 hb3; have HO3 := Lib.hid hown3; have HB3 := Lib.hid (HB.out.trans hb3); clear hown3 hb3)
      go_roundw
      case rel => exact ⟨j + 1, by omega, by rw [← stem_next]; exact HO3.out, HB3.out⟩
      case measure =>
        obtain ⟨A3, c3, rfl, -, -⟩ := own_slice HO3.out
        simp only [lenOf]
        omega
    case pos =>
      have hne : (n + 1 + j) % 64 = 56 := hze.2 hlt
      have HZ := Lib.hid hlt
      have hb1 : (((n : Int) + 1 + (j : Int)) % 64 == 56) = true := beq_iff_eq.2 (by omega)
      have hb3 : (((n : Int) + 1 + (j : Int)) % 64 != 56) = false := by rw [bne, hb1]; rfl
      have hm8 : IntKind.i64.wrap (8 * (n : Int)) = ((8 * n : Nat) : Int) := by rw [IntWalk.i64_in _ ⟨by omega, by omega⟩]; omega
      have hj64 : j < 64 := by omega
      clear hz hze hlt hj
      go_wp2_with fail
      go_loopw [4, 5, 6] (fun m v i wr => ∃ k : Nat, k ≤ 8 ∧ i = .int .i64 (k : Int) ∧ m = .int .i64 ((8 * n / 256 ^ k : Nat) : Int) ∧ Hid (wr.ownsRow w.heap.size 5 1 v k ((be k (8 * n)).map (Value.int .u8))) ∧ Hid (wr.ownsRow w.heap.size 5 1 (.slice A' (n + 1 + j) c') (n + 1 + j) ((stem b j).map (Value.int .u8))) ∧ Hid (Below w.heap.size w wr)) (fun _ _ i _ => 8 - (intOf i).toNat)
      case atStart => exact ⟨0, by omega, rfl, by simp, World.ownsRow_nil _ _ _ _, HO, HB⟩
      case round =>
        obtain ⟨k, hk, rfl, rfl, HS, HO, HB⟩ := hrel
        by_cases hk8 : k < 8
        · have hkw : IntKind.i64.wrap ((k : Int) + 1) = (k : Int) + 1 := IntWalk.i64_in _ ⟨by omega, by omega⟩
          obtain ⟨m, hm⟩ : ∃ m, 8 * n / 256 ^ k = m := ⟨_, rfl⟩
          have hmb : m ≤ 8796093022208 := by
            rw [← hm]
            exact Nat.le_trans (Nat.div_le_self _ _) (by omega)
          have hm2 : 8 * n / 256 ^ (k + 1) = m / 256 := by rw [← hm, Nat.pow_succ, Nat.div_div_eq_div_mul]
          have hbe : be (k + 1) (8 * n) = ((m % 256 : Nat) : Int) :: be k (8 * n) := by simp only [be, hm]
          have HM2 := Lib.hid hm2
          have HBE := Lib.hid hbe
          rw [hm]
          have hc8 : IntKind.u8.wrap ((m : Int) % 256) = ((m % 256 : Nat) : Int) := by rw [IntKind.wrap_u8']; omega
          clear hm hm2 hbe
          obtain ⟨A5, c5, rfl, -, hnil5⟩ := own_slice HS.out
          have HN5 := Lib.hid hnil5
          clear hnil5
          have HLT : Hid ((wr.alloc (.cells #[.int .u8 ((m : Int) % 256)] 5)).ownsRow w.heap.size 5 1 (.slice (some ⟨wr.heap.size, 0, none⟩) 1 1) 1 (([(m : Int) % 256] : List Int).map (Value.int .u8))) := World.ownsRow_lit wr #[.int .u8 ((m : Int) % 256)] 1 HB.out.size (by unfold maxLen; omega) rfl
          have HBA := Lib.hid (HB.out.alloc HB.out.size (.cells #[.int .u8 ((m : Int) % 256)] 5))
          have HOA := Lib.hid (own_below HO.out ((Below.refl wr.heap.size wr).alloc (Nat.le_refl _) (.cells #[.int .u8 ((m : Int) % 256)] 5)))
          have HRA := Lib.hid ((Row.of_own HS.out).alloc (Nat.le_refl _) (.cells #[.int .u8 ((m : Int) % 256)] 5))
          go_wp2_with (at_builtin; refine cat_mine rfl (.tmp 30) (.tmp 31) 25 rfl w.heap.size 5 i0 .u8 1 Tryd.underlying25 hi hz0 hz1 hz2 _ 1 [(m : Int) % 256] rfl HLT.out wr.heap.size A5 k c5 (be k (8 * n)) rfl HN5.out HRA.out (by omega) (by omega) HBA.out.size ?_; intro v6 w6 hown6 hg6 hl6; have HS6 := Lib.hid hown6; have HG6 := Lib.hid hg6; clear hown6 hl6)
          have hO6 : Only (fun i => i = wr.heap.size) (wr.alloc (.cells #[.int .u8 ((m : Int) % 256)] 5)) w6 := (Only.of_grown HG6.out).mono (fun i h => by injection h with h; exact h.symm)
          have HO6 := Lib.hid (hO6.own HOA.out (fun i hi e => by have := (HO.out.lt i hi).2; omega))
          have hb6 : Below w.heap.size w w6 := HBA.out.trans (hO6.below HBA.out.size (fun i e => by have := HB.out.size; omega))
          go_roundw
          case rel =>
            refine ⟨k + 1, by omega, by go_num, ?_, ?_, HO6.out, hb6⟩
            · rw [HM2.out]; go_num
            · rw [HBE.out, Nat.add_comm k 1]
              exact HS6.out
          case measure => simp [intOf]; omega
        · have hk8' : k = 8 := by omega
          subst hk8'
          obtain ⟨A5, c5, rfl, -, hnil5⟩ := own_slice HS.out
          have HN5 := Lib.hid hnil5
          have HR5 := Lib.hid (Row.of_own HS.out)
          clear hnil5
          go_wp2_with (at_builtin; refine cat_own rfl (.tmp 35) (.tmp 36) 25 rfl w.heap.size 5 i0 .u8 1 Tryd.underlying25 hi hz0 hz1 hz2 _ (n + 1 + j) (stem b j) rfl HO.out wr.heap.size A5 8 c5 (be 8 (8 * n)) rfl HN5.out HR5.out (by omega) (by omega) HB.out.size ?_; intro v6 w6 hown6 hb6; have HS6 := Lib.hid hown6; have HB6 := Lib.hid (HB.out.trans hb6); clear hown6 hb6)
          go_ret
          refine ⟨v6, rfl, ?_, HB6.out⟩
          have e : pad b = stem b j ++ be 8 (8 * n) := by unfold pad; rw [HL.out, ← HZ.out]
          rw [e, List.length_append, stem_len, be_len, HL.out]
          exact HS6.out
end Go.Proofs.YtppbpmmfcoblmaaDoor.Sha

/- SHA-256's constants and first words, as the published standard gives them; the reference's constants and begin, as contracts. -/
namespace Go.Proofs.YtppbpmmfcoblmaaDoor.Sha
open Go.RowKit

def ks : List Wd := [0x428a2f98#32, 0x71374491#32, 0xb5c0fbcf#32, 0xe9b5dba5#32, 0x3956c25b#32, 0x59f111f1#32, 0x923f82a4#32, 0xab1c5ed5#32, 0xd807aa98#32, 0x12835b01#32, 0x243185be#32, 0x550c7dc3#32, 0x72be5d74#32, 0x80deb1fe#32, 0x9bdc06a7#32, 0xc19bf174#32, 0xe49b69c1#32, 0xefbe4786#32, 0x0fc19dc6#32, 0x240ca1cc#32, 0x2de92c6f#32, 0x4a7484aa#32, 0x5cb0a9dc#32, 0x76f988da#32, 0x983e5152#32, 0xa831c66d#32, 0xb00327c8#32, 0xbf597fc7#32, 0xc6e00bf3#32, 0xd5a79147#32, 0x06ca6351#32, 0x14292967#32, 0x27b70a85#32, 0x2e1b2138#32, 0x4d2c6dfc#32, 0x53380d13#32, 0x650a7354#32, 0x766a0abb#32, 0x81c2c92e#32, 0x92722c85#32, 0xa2bfe8a1#32, 0xa81a664b#32, 0xc24b8b70#32, 0xc76c51a3#32, 0xd192e819#32, 0xd6990624#32, 0xf40e3585#32, 0x106aa070#32, 0x19a4c116#32, 0x1e376c08#32, 0x2748774c#32, 0x34b0bcb5#32, 0x391c0cb3#32, 0x4ed8aa4a#32, 0x5b9cca4f#32, 0x682e6ff3#32, 0x748f82ee#32, 0x78a5636f#32, 0x84c87814#32, 0x8cc70208#32, 0x90befffa#32, 0xa4506ceb#32, 0xbef9a3f7#32, 0xc67178f2#32]
def hs : List Wd := [0x6a09e667#32, 0xbb67ae85#32, 0x3c6ef372#32, 0xa54ff53a#32, 0x510e527f#32, 0x9b05688c#32, 0x1f83d9ab#32, 0x5be0cd19#32]
theorem ks_len : ks.length = 64 := rfl
theorem hs_len : hs.length = 8 := rfl
/-- Words as values. -/
def wv (l : List Wd) : List Value := (l.map wi).map (Value.int .u32)
theorem wv_len (l : List Wd) : (wv l).length = l.length := by simp [wv]

set_option maxHeartbeats 1600000 in
set_option maxRecDepth 100000 in
theorem begin_any (w : World) : Calls Tryd.prog 94 #[] w fun e w' => ∃ v, e = .returned v ∧ w'.ownsRow w.heap.size 101 1 v 8 (wv hs) ∧ Below w.heap.size w w' := by
  go_enter Tryd.func94, Tryd.ntmps94
  go_wp2
  go_ret
  refine ⟨_, rfl, ?_, (Below.refl _ _).alloc (Nat.le_refl _) _⟩
  have e : wv hs = [.int .u32 1779033703, .int .u32 3144134277, .int .u32 1013904242, .int .u32 2773480762, .int .u32 1359893119, .int .u32 2600822924, .int .u32 528734635, .int .u32 1541459225] := rfl
  rw [e]
  exact World.ownsRow_lit w _ 8 (Nat.le_refl _) (by unfold maxLen; omega) rfl

set_option maxHeartbeats 1600000 in
set_option maxRecDepth 100000 in
theorem constants_any (w : World) : Calls Tryd.prog 93 #[] w fun e w' => ∃ v, e = .returned v ∧ w'.ownsRow w.heap.size 101 1 v 64 (wv ks) ∧ Below w.heap.size w w' := by
  go_enter Tryd.func93, Tryd.ntmps93
  go_wp2
  go_ret
  refine ⟨_, rfl, ?_, (Below.refl _ _).alloc (Nat.le_refl _) _⟩
  have e : wv ks = [.int .u32 1116352408, .int .u32 1899447441, .int .u32 3049323471, .int .u32 3921009573, .int .u32 961987163, .int .u32 1508970993, .int .u32 2453635748, .int .u32 2870763221, .int .u32 3624381080, .int .u32 310598401, .int .u32 607225278, .int .u32 1426881987, .int .u32 1925078388, .int .u32 2162078206, .int .u32 2614888103, .int .u32 3248222580, .int .u32 3835390401, .int .u32 4022224774, .int .u32 264347078, .int .u32 604807628, .int .u32 770255983, .int .u32 1249150122, .int .u32 1555081692, .int .u32 1996064986, .int .u32 2554220882, .int .u32 2821834349, .int .u32 2952996808, .int .u32 3210313671, .int .u32 3336571891, .int .u32 3584528711, .int .u32 113926993, .int .u32 338241895, .int .u32 666307205, .int .u32 773529912, .int .u32 1294757372, .int .u32 1396182291, .int .u32 1695183700, .int .u32 1986661051, .int .u32 2177026350, .int .u32 2456956037, .int .u32 2730485921, .int .u32 2820302411, .int .u32 3259730800, .int .u32 3345764771, .int .u32 3516065817, .int .u32 3600352804, .int .u32 4094571909, .int .u32 275423344, .int .u32 430227734, .int .u32 506948616, .int .u32 659060556, .int .u32 883997877, .int .u32 958139571, .int .u32 1322822218, .int .u32 1537002063, .int .u32 1747873779, .int .u32 1955562222, .int .u32 2024104815, .int .u32 2227730452, .int .u32 2361852424, .int .u32 2428436474, .int .u32 2756734187, .int .u32 3204031479, .int .u32 3329325298] := rfl
  rw [e]
  exact World.ownsRow_lit w _ 64 (Nat.le_refl _) (by unfold maxLen; omega) rfl
end Go.Proofs.YtppbpmmfcoblmaaDoor.Sha

/- Layer 7 (sha): the chapter's example, computed. -/
namespace Go.Proofs.YtppbpmmfcoblmaaDoor.Sha
open Go.RowKit

/-- The hash value of the bytes b, as the published standard has it. -/
def sum256 (b : List Int) : List Int := outs (blocks ks hs (pad b) ((pad b).length / 64)) 8
theorem sum256_len (b : List Int) : (sum256 b).length = 32 := by
  have h : ∀ (l : List Wd) n, (outs l n).length = 4 * n := by
    intro l n
    induction n with
    | zero => rfl
    | succ n ih => rw [outs, List.length_append, ih]; simp [out4]; omega
  exact h _ 8
set_option maxRecDepth 1000000 in
theorem abc : sum256 [97, 98, 99] = [186, 120, 22, 191, 143, 1, 207, 234, 65, 65, 64, 222, 93, 174, 34, 35, 176, 3, 97, 163, 150, 23, 122, 156, 180, 16, 255, 97, 242, 0, 21, 173] := by decide +kernel
end Go.Proofs.YtppbpmmfcoblmaaDoor.Sha

/- HMAC-SHA-256 as plain mathematics; no program's text is named here. -/
namespace Go.Proofs.YtppbpmmfcoblmaaDoor.Hmc
open Go.RowKit Sha

/-- Two bytes by exclusive or. -/
def xr (x y : Int) : Int := ((x.toNat ^^^ y.toNat : Nat) : Int)
theorem xr_byt (x y : Int) (hx : 0 ≤ x ∧ x ≤ 255) (hy : 0 ≤ y ∧ y ≤ 255) : 0 ≤ xr x y ∧ xr x y ≤ 255 := by
  unfold xr
  have : x.toNat ^^^ y.toNat < 2 ^ 8 := Nat.xor_lt_two_pow (by omega) (by omega)
  omega
theorem xr_zero {y : Int} (hy : 0 ≤ y) : xr 0 y = y := by
  unfold xr
  simp
  omega
theorem xr_bits (x y : Int) (hx : 0 ≤ x ∧ x ≤ 255) (hy : 0 ≤ y ∧ y ≤ 255) : bits .xor .u8 x y = xr x y := by
  unfold xr
  exact u8_xor x y hx.1 (by omega) hy.1 (by omega)
/-- The first n bytes of a key k that is filled up, each combined with m. -/
def pre (k : List Int) (m : Int) : Nat → List Int
  | 0 => []
  | n + 1 => pre k m n ++ [xr (k.getD n 0) m]
theorem pre_len (k : List Int) (m : Int) : ∀ n, (pre k m n).length = n
  | 0 => rfl
  | n + 1 => by rw [pre, List.length_append, pre_len k m n]; rfl
theorem getD_byt {k : List Int} (hk : ∀ x ∈ k, 0 ≤ x ∧ x ≤ 255) (n : Nat) : 0 ≤ k.getD n 0 ∧ k.getD n 0 ≤ 255 := by
  by_cases h : n < k.length
  · have := hk k[n] (List.getElem_mem h)
    simpa [List.getD, h] using this
  · simp [List.getD, List.getElem?_eq_none (by omega : k.length ≤ n)]
theorem pre_byt {k : List Int} {m : Int} (hk : ∀ x ∈ k, 0 ≤ x ∧ x ≤ 255) (hm : 0 ≤ m ∧ m ≤ 255) : ∀ n, ∀ x ∈ pre k m n, 0 ≤ x ∧ x ≤ 255
  | 0, x, hx => by simp [pre] at hx
  | n + 1, x, hx => by
    rw [pre, List.mem_append] at hx
    rcases hx with hx | hx
    · exact pre_byt hk hm n x hx
    · rw [List.mem_singleton] at hx
      subst hx
      exact xr_byt _ _ (getD_byt hk n) hm
theorem sum256_byt (b : List Int) : ∀ x ∈ sum256 b, 0 ≤ x ∧ x ≤ 255 := by
  have h : ∀ (l : List Wd) n, ∀ x ∈ outs l n, 0 ≤ x ∧ x ≤ 255 := by
    intro l n
    induction n with
    | zero => intro x hx; simp [outs] at hx
    | succ n ih =>
      intro x hx
      rw [outs, List.mem_append] at hx
      rcases hx with hx | hx
      · exact ih x hx
      · have := (wat l n).isLt
        simp only [out4, List.mem_cons, List.not_mem_nil, or_false] at hx
        rcases hx with rfl | rfl | rfl | rfl <;> omega
  exact h _ 8
/-- The key as it is used. -/
def ky (k : List Int) : List Int := if 64 < k.length then sum256 k else k
theorem ky_byt {k : List Int} (hk : ∀ x ∈ k, 0 ≤ x ∧ x ≤ 255) : ∀ x ∈ ky k, 0 ≤ x ∧ x ≤ 255 := by
  unfold ky
  split
  · exact sum256_byt k
  · exact hk
theorem ky_len (k : List Int) : (ky k).length ≤ 64 := by
  unfold ky
  split
  · rw [sum256_len]; omega
  · omega
def blk (k : List Int) (m : Int) : List Int := pre (ky k) m 64
theorem blk_len (k : List Int) (m : Int) : (blk k m).length = 64 := pre_len _ _ _
theorem blk_byt {k : List Int} {m : Int} (hk : ∀ x ∈ k, 0 ≤ x ∧ x ≤ 255) (hm : 0 ≤ m ∧ m ≤ 255) : ∀ x ∈ blk k m, 0 ≤ x ∧ x ≤ 255 := pre_byt (ky_byt hk) hm 64
/-- The tag of b under the key k. -/
def mac (k b : List Int) : List Int := sum256 (blk k 92 ++ sum256 (blk k 54 ++ b))
theorem mac_len (k b : List Int) : (mac k b).length = 32 := sum256_len _
/-- Noughts behind a short key make no difference; a long one is its sum. -/
theorem pre_noughts (k : List Int) (m : Int) (j : Nat) : ∀ n, pre (k ++ List.replicate j 0) m n = pre k m n
  | 0 => rfl
  | n + 1 => by
    rw [pre, pre, pre_noughts k m j n]
    have e : (k ++ List.replicate j 0).getD n 0 = k.getD n 0 := by
      simp only [List.getD]
      by_cases h : n < k.length
      · rw [List.getElem?_append_left h]
      · rw [List.getElem?_append_right (by omega), List.getElem?_eq_none (by omega : k.length ≤ n)]
        by_cases h2 : n - k.length < j
        · simp [h2]
        · simp [h2]
    rw [e]
theorem blk_noughts (k : List Int) (m : Int) (j : Nat) (h : k.length + j ≤ 64) : blk (k ++ List.replicate j 0) m = blk k m := by
  unfold blk ky
  rw [if_neg (by simp; omega), if_neg (by omega), pre_noughts]
theorem blk_sum (k : List Int) (m : Int) (h : 64 < k.length) : blk (sum256 k) m = blk k m := by
  unfold blk ky
  rw [if_neg (by rw [sum256_len]; omega), if_pos h]
theorem mac_noughts (k b : List Int) (j : Nat) (h : k.length + j ≤ 64) : mac (k ++ List.replicate j 0) b = mac k b := by
  unfold mac
  rw [blk_noughts k _ j h, blk_noughts k _ j h]
theorem mac_sum (k b : List Int) (h : 64 < k.length) : mac (sum256 k) b = mac k b := by
  unfold mac
  rw [blk_sum k _ h, blk_sum k _ h]
set_option maxRecDepth 1000000 in
theorem jefe : mac [74, 101, 102, 101] [119, 104, 97, 116, 32, 100, 111, 32, 121, 97, 32, 119, 97, 110, 116, 32, 102, 111, 114, 32, 110, 111, 116, 104, 105, 110, 103, 63] = [91, 220, 193, 70, 191, 96, 117, 78, 106, 4, 36, 38, 8, 149, 117, 199, 90, 0, 63, 8, 157, 39, 57, 131, 157, 236, 88, 185, 100, 236, 56, 67] := by decide +kernel
/-- A string's bytes as numbers. -/
def sby (s : ByteArray) : List Int := s.data.toList.map fun x => (x.toNat : Int)
theorem sby_len (s : ByteArray) : (sby s).length = s.size := by
  unfold sby
  rw [List.length_map]
  rfl
theorem sby_byt (s : ByteArray) : ∀ x ∈ sby s, 0 ≤ x ∧ x ≤ 255 := fun x hx => by
  unfold sby at hx
  obtain ⟨y, _, rfl⟩ := List.mem_map.1 hx
  have := y.toNat_lt
  omega
end Go.Proofs.YtppbpmmfcoblmaaDoor.Hmc

/- Layer 9 (ring) as plain mathematics; no program's text is named here. -/
namespace Go.Proofs.YtppbpmmfcoblmaaDoor.Rg
open Go.RowKit Sha Hmc

/-- A key: its epoch and its bytes. -/
abbrev Kl := Int × List Int
/-- Four bytes, the highest first; an epoch's key. -/
def be4 (e : Int) : List Int := [e / 16777216, e / 65536 % 256, e / 256 % 256, e % 256]
def epo : List Int := [101, 112, 111, 99, 104]
def keyOf (d : List Int) (e : Int) : List Int := mac d (epo ++ 0 :: be4 e)
theorem be4_byt {e : Int} (h : 0 ≤ e ∧ e ≤ 16777216) : ∀ x ∈ be4 e, 0 ≤ x ∧ x ≤ 255 := by
  intro x hx
  simp only [be4, List.mem_cons, List.not_mem_nil, or_false] at hx
  rcases hx with rfl | rfl | rfl | rfl <;> omega
theorem keyOf_len (d : List Int) (e : Int) : (keyOf d e).length = 32 := mac_len _ _
theorem keyOf_byt (d : List Int) (e : Int) : ∀ x ∈ keyOf d e, 0 ≤ x ∧ x ≤ 255 := sum256_byt _
/-- Is the key at place j right? -/
def gd (E : List Kl) (j : Nat) (k : Kl) : Prop := k.2.length = 32 ∧ 1 ≤ k.1 ∧ k.1 ≤ 1048576 ∧ (0 < j → ∀ q, E[j - 1]? = some q → k.1 = q.1 + 1)
def RtP (keep : Int) (E : List Kl) : Prop := 1 ≤ keep ∧ keep ≤ 16 ∧ 1 ≤ E.length ∧ (E.length : Int) ≤ keep ∧ ∀ j k, E[j]? = some k → gd E j k
open Classical in
noncomputable def rt (keep : Int) (E : List Kl) : Bool := decide (RtP keep E)
theorem rt_true {keep : Int} {E : List Kl} : rt keep E = true ↔ RtP keep E := by unfold rt; exact @decide_eq_true_iff _ (Classical.propDecidable _)
theorem rt_yes {keep : Int} {E : List Kl} (h : RtP keep E) : rt keep E = true := rt_true.2 h
theorem rt_no {keep : Int} {E : List Kl} (h : ¬ RtP keep E) : rt keep E = false := by
  cases e : rt keep E with
  | false => rfl
  | true => exact absurd (rt_true.1 e) h
/-- The last epoch; the key of an epoch. -/
def now (E : List Kl) : Int := (E.getLast?.map (·.1)).getD 0
def fnd (E : List Kl) (e : Int) : Option (List Int) := (E.find? (fun k => k.1 == e)).map (·.2)
/-- What is kept, and the key of the next epoch. -/
def rot (keep : Int) (E : List Kl) (d : List Int) : List Kl := E.drop (E.length + 1 - keep.toNat) ++ [(now E + 1, keyOf d (now E + 1))]
theorem now_snoc (E : List Kl) (k : Kl) : now (E ++ [k]) = k.1 := by simp [now]
theorem now_rot (keep : Int) (E : List Kl) (d : List Int) : now (rot keep E d) = now E + 1 := now_snoc _ _
theorem now_at {E : List Kl} {k : Kl} (h : E[E.length - 1]? = some k) : now E = k.1 := by
  unfold now
  rw [List.getLast?_eq_getElem?, h]
  rfl
theorem rot_len (keep : Int) (E : List Kl) (d : List Int) : (rot keep E d).length = E.length - (E.length + 1 - keep.toNat) + 1 := by simp [rot]
/-- Epochs of what is right rise by one. -/
theorem rt_at {keep : Int} {E : List Kl} (h : RtP keep E) : ∀ {j : Nat} {k q : Kl}, E[j]? = some k → E[0]? = some q → k.1 = q.1 + j
  | 0, k, q, hk, hq => by
    rw [hk] at hq
    injection hq with hq
    subst hq
    simp
  | j + 1, k, q, hk, hq => by
    have hj : j < E.length := by
      have := (List.getElem?_eq_some_iff.1 hk).1
      omega
    have h1 := (h.2.2.2.2 (j + 1) k hk).2.2.2 (by omega) E[j] (List.getElem?_eq_getElem hj)
    have h2 := rt_at h (List.getElem?_eq_getElem hj) hq
    omega
theorem rt_one {keep : Int} (h : 1 ≤ keep ∧ keep ≤ 16) (d : List Int) : RtP keep [(1, keyOf d 1)] := by
  refine ⟨h.1, h.2, by simp, by simp; omega, fun j k hk => ?_⟩
  have hj : j = 0 := by
    have := (List.getElem?_eq_some_iff.1 hk).1
    simpa using this
  subst hj
  simp at hk
  subst hk
  exact ⟨keyOf_len _ _, by simp, by simp, fun h => absurd h (by omega)⟩
theorem now_le {keep : Int} {E : List Kl} (h : RtP keep E) : 1 ≤ now E ∧ now E ≤ 1048576 := by
  have hl := h.2.2.1
  have hk : E[E.length - 1]? = some (E[E.length - 1]'(by omega)) := List.getElem?_eq_getElem (by omega)
  rw [now_at hk]
  obtain ⟨_, h1, h2, _⟩ := h.2.2.2.2 _ _ hk
  exact ⟨h1, h2⟩
/-- What is rotated is right. -/
theorem rt_rot {keep : Int} {E : List Kl} (h : RtP keep E) (hn : now E < 1048576) (d : List Int) : RtP keep (rot keep E d) := by
  have hl := h.2.2.1
  have hn1 := now_le h
  have hkl := h.2.2.2.1
  have hk1 := h.1
  obtain ⟨D, hD⟩ : ∃ D, E.length + 1 - keep.toNat = D := ⟨_, rfl⟩
  have hdl : (E.drop D).length = E.length - D := by simp
  refine ⟨h.1, h.2.1, by rw [rot_len]; omega, by rw [rot_len]; omega, fun j k hk => ?_⟩
  unfold rot at hk ⊢
  rw [hD] at hk ⊢
  have hat : ∀ i q, (E.drop D ++ [(now E + 1, keyOf d (now E + 1))])[i]? = some q → (i < E.length - D ∧ E[D + i]? = some q) ∨ (i = E.length - D ∧ q = (now E + 1, keyOf d (now E + 1))) := by
    intro i q hq
    by_cases hi : i < E.length - D
    · rw [List.getElem?_append_left (by omega), List.getElem?_drop] at hq
      exact .inl ⟨hi, hq⟩
    · rw [List.getElem?_append_right (by omega), hdl] at hq
      have h0 : i - (E.length - D) = 0 := by
        have := (List.getElem?_eq_some_iff.1 hq).1
        simpa using this
      rw [h0] at hq
      simp at hq
      exact .inr ⟨by omega, hq.symm⟩
  rcases hat j k hk with ⟨hj, hk⟩ | ⟨hj, rfl⟩
  · obtain ⟨h1, h2, h3, h4⟩ := h.2.2.2.2 _ _ hk
    refine ⟨h1, h2, h3, fun h0 q hq => ?_⟩
    rcases hat _ _ hq with ⟨_, hq⟩ | ⟨h5, _⟩
    · exact h4 (by omega) q (by rw [show D + j - 1 = D + (j - 1) by omega]; exact hq)
    · omega
  · refine ⟨keyOf_len _ _, by simp only; omega, by simp only; omega, fun h0 q hq => ?_⟩
    rcases hat _ _ hq with ⟨_, hq⟩ | ⟨h5, _⟩
    · rw [now_at (k := q) (by rw [show E.length - 1 = D + (j - 1) by omega]; exact hq)]
    · omega
/-- The key of an epoch that is there. -/
theorem fnd_at {keep : Int} {E : List Kl} (h : RtP keep E) {j : Nat} {k : Kl} (hk : E[j]? = some k) : fnd E k.1 = some k.2 := by
  have hj := (List.getElem?_eq_some_iff.1 hk).1
  have h0 : E[0]? = some (E[0]'(by omega)) := List.getElem?_eq_getElem (by omega)
  have hex : (E.find? (fun q => q.1 == k.1)).isSome = true := by
    rw [List.find?_isSome]
    exact ⟨k, List.mem_of_getElem? hk, by simp⟩
  obtain ⟨q, hq⟩ := Option.isSome_iff_exists.1 hex
  have hqe : q.1 = k.1 := by simpa using List.find?_some hq
  obtain ⟨i, hi⟩ := List.getElem?_of_mem (List.mem_of_find?_eq_some hq)
  have e1 := rt_at h hi h0
  have e2 := rt_at h hk h0
  have e : i = j := by omega
  subst e
  rw [hi] at hk
  injection hk with hk
  subst hk
  unfold fnd
  rw [hq]
  rfl
theorem fnd_hit : ∀ {E : List Kl} {t : Nat} {k : Kl} {e : Int}, E[t]? = some k → k.1 = e → (∀ (j : Nat) (q : Kl), j < t → E[j]? = some q → q.1 ≠ e) → fnd E e = some k.2
  | [], _, _, _, h, _, _ => by simp at h
  | u :: E, 0, k, e, h, he, _ => by
    simp at h
    subst h
    simp [fnd, he]
  | u :: E, t + 1, k, e, h, he, hn => by
    have h0 := hn 0 u (by omega) (by simp)
    have := fnd_hit (E := E) (t := t) (k := k) (e := e) (by simpa using h) he (fun j q hj hq => hn (j + 1) q (by omega) (by simpa using hq))
    unfold fnd at *
    rw [List.find?_cons_of_neg (by simpa using h0)]
    exact this
theorem fnd_miss {E : List Kl} {e : Int} (hn : ∀ (j : Nat) (q : Kl), E[j]? = some q → q.1 ≠ e) : fnd E e = none := by
  unfold fnd
  rw [List.find?_eq_none.2 (fun q hq => by
    obtain ⟨j, hj⟩ := List.getElem?_of_mem hq
    simpa using hn j q hj)]
  rfl
/-- What stays was there. -/
theorem rot_keeps {keep : Int} {E : List Kl} (h : RtP keep E) (d : List Int) {j : Nat} {k : Kl} (hj : j + 1 < (rot keep E d).length) (hk : (rot keep E d)[j]? = some k) : fnd E k.1 = some k.2 := by
  rw [rot_len] at hj
  unfold rot at hk
  rw [List.getElem?_append_left (by simp; omega), List.getElem?_drop] at hk
  exact fnd_at h hk
end Go.Proofs.YtppbpmmfcoblmaaDoor.Rg

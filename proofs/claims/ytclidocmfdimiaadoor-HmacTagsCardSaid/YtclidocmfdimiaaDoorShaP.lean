/- Layer 7 (sha): the bytes with what comes behind; the reference's padded, as a contract. -/
import Derived.Test.YtclidocmfdimiaaDoorShaM
import Derived.Test.YtclidocmfdimiaaDoorSame
import Derived.Test.YtclidocmfdimiaaDoorOwn
import Derived.Laws.OwnMore
namespace Go.Proofs.YtclidocmfdimiaaDoor.Sha
open Go.RowKit

theorem info8 : (Tryd.prog.info? 5).map (fun i => (i.zero, i.size, i.bytes)) = some (some (.int .u8 0), 1, 1) := by kernel_rfl
theorem info32 : (Tryd.prog.info? 42).map (fun i => (i.zero, i.size, i.bytes)) = some (some (.int .u32 0), 1, 4) := by kernel_rfl
theorem parts_of {P : Program} {e : TypeId} {z : Value} {n m : Nat} (h : (P.info? e).map (fun i => (i.zero, i.size, i.bytes)) = some (some z, n, m)) : ∃ i, P.info? e = some i ∧ i.zero = some z ∧ i.size = n ∧ i.bytes = m := by
  cases hi : P.info? e with
  | none => rw [hi] at h; cases h
  | some i => rw [hi] at h; injection h with h; injection h with h1 h2; injection h2 with h2 h3; exact ⟨i, rfl, h1, h2, h3⟩

/-- How many zero bytes; numbers as bytes, the highest first; all of it. -/
def zeros (L : Nat) : Nat := (119 - L % 64) % 64
def be : Nat → Nat → List Int
  | 0, _ => []
  | i + 1, n => ((n / 256 ^ i % 256 : Nat) : Int) :: be i n
theorem be_len (n : Nat) : ∀ i, (be i n).length = i
  | 0 => rfl
  | i + 1 => by simp [be, be_len n i]
def stem (b : List Int) (j : Nat) : List Int := b ++ 128 :: List.replicate j 0
theorem stem_len (b : List Int) (j : Nat) : (stem b j).length = b.length + 1 + j := by simp [stem]; omega
theorem stem_next (b : List Int) (j : Nat) : stem b j ++ [0] = stem b (j + 1) := by
  unfold stem
  rw [List.append_assoc, List.cons_append, ← List.replicate_succ']
def pad (b : List Int) : List Int := stem b (zeros b.length) ++ be 8 (8 * b.length)
theorem zeros_le (L : Nat) : zeros L < 64 := by unfold zeros; omega
theorem zeros_end {L j : Nat} (hj : j ≤ zeros L) : (L + 1 + j) % 64 = 56 ↔ j = zeros L := by unfold zeros at *; omega
theorem pad_len (b : List Int) : (pad b).length = b.length + 9 + zeros b.length := by
  unfold pad
  rw [List.length_append, stem_len, be_len]
  omega
theorem pad_64 (b : List Int) : (pad b).length % 64 = 0 := by
  rw [pad_len]; unfold zeros; omega
theorem be_byt (n : Nat) : ∀ i, ∀ x ∈ be i n, 0 ≤ x ∧ x ≤ 255
  | 0, x, hx => by simp [be] at hx
  | i + 1, x, hx => by
    rcases List.mem_cons.1 hx with rfl | hx
    · omega
    · exact be_byt n i x hx
theorem pad_byt {b : List Int} (hb : ∀ x ∈ b, 0 ≤ x ∧ x ≤ 255) : ∀ x ∈ pad b, 0 ≤ x ∧ x ≤ 255 := by
  intro x hx
  unfold pad stem at hx
  simp only [List.mem_append, List.mem_cons, List.mem_replicate] at hx
  rcases hx with (hx | rfl | ⟨_, rfl⟩) | hx
  · exact hb x hx
  · omega
  · omega
  · exact be_byt _ _ x hx

/-- A slice's length. -/
def lenOf : Value → Nat
  | .slice _ n _ => n
  | _ => 0

set_option maxHeartbeats 1600000 in
set_option maxRecDepth 100000 in
theorem padded_any (A : Option Addr) (n c : Nat) (b : List Int) (w : World) (h : Row .u8 w w.heap.size A n b) (hnil : A = none → c = 0) (hn : n ≤ 1099511627776) :
    Calls Tryd.prog 25 #[.slice A n c] w fun e w' => ∃ v, e = .returned v ∧ w'.ownsRow w.heap.size 5 1 v (pad b).length ((pad b).map (Value.int .u8)) ∧ Below w.heap.size w w' := by
  obtain ⟨i0, hi, hz0, hz1, hz2⟩ := parts_of info8
  have H := Lib.hid h
  have HI := Lib.hid hnil
  have hlen := h.len
  have HL := Lib.hid hlen
  have HO : Hid (w.ownsRow w.heap.size 5 1 (.slice none 0 0) 0 (([] : List Int).map (Value.int .u8))) := World.ownsRow_nil _ _ _ _
  clear h hnil
  go_enter Tryd.func25, Tryd.ntmps25
  go_wp2_with (at_builtin; first
    | (refine cat_own rfl (.tmp 7) (.tmp 8) 22 rfl w.heap.size 5 i0 .u8 1 Tryd.underlying22 hi hz0 hz1 hz2 _ 0 [] rfl HO.out w.heap.size A n c b rfl HI.out H.out (by omega) (by omega) (Nat.le_refl _) ?_; intro v1 w1 hown1 hb1; have HO1 := Lib.hid hown1; have HB1 := Lib.hid hb1; clear hown1 hb1)
    | (refine push_own rfl (.tmp 10) (.tmp 11) 22 rfl w.heap.size 5 i0 .u8 1 Tryd.underlying22 hi hz0 hz1 hz2 _ (0 + n) ([] ++ b) 128 rfl HO1.out rfl (by omega) (by omega) HB1.out.size ?_; intro v2 w2 hown2 hb2; have HO2 := Lib.hid hown2; have HB2 := Lib.hid (HB1.out.trans hb2); clear hown2 hb2))
  have hst : Hid (w2.ownsRow w.heap.size 5 1 v2 (n + 1 + 0) ((stem b 0).map (Value.int .u8))) := by
    have := HO2.out
    have e : [] ++ b ++ [128] = stem b 0 := by simp [stem]
    rw [e, Nat.zero_add] at this
    exact this
  clear HO HO1 HO2 HB1
  go_loopw [3] (fun v wr => ∃ j : Nat, j ≤ zeros n ∧ Hid (wr.ownsRow w.heap.size 5 1 v (n + 1 + j) ((stem b j).map (Value.int .u8))) ∧ Hid (Below w.heap.size w wr)) (fun v _ => n + 100 - lenOf v)
  case atStart => exact ⟨0, Nat.zero_le _, hst, HB2⟩
  case round =>
    obtain ⟨j, hj, HO, HB⟩ := hrel
    have hz := zeros_le n
    have hze := zeros_end hj
    obtain ⟨A', c', rfl, -, -⟩ := own_slice HO.out
    by_cases hlt : j = zeros n
    case neg =>
      have hne : ¬ (n + 1 + j) % 64 = 56 := fun h => hlt (hze.1 h)
      have hb1 : (((n : Int) + 1 + (j : Int)) % 64 == 56) = false := beq_eq_false_iff_ne.2 (by omega)
      have hb3 : (((n : Int) + 1 + (j : Int)) % 64 != 56) = true := by rw [bne, hb1]; rfl
      go_wp2_with (at_builtin; refine push_own rfl (.tmp 17) (.tmp 18) 22 rfl w.heap.size 5 i0 .u8 1 Tryd.underlying22 hi hz0 hz1 hz2 _ (n + 1 + j) (stem b j) 0 rfl HO.out rfl (by omega) (by omega) HB.out.size ?_; intro v3 w3 hown3 hb3; have HO3 := Lib.hid hown3; have HB3 := Lib.hid (HB.out.trans hb3); clear hown3 hb3)
      go_roundw
      case rel => exact ⟨j + 1, by omega, by rw [← stem_next]; exact HO3.out, HB3.out⟩
      case measure =>
        obtain ⟨A3, c3, rfl, -, -⟩ := own_slice HO3.out
        simp only [lenOf]
        omega
    case pos =>
      have hne : (n + 1 + j) % 64 = 56 := hze.2 hlt
      have HZ := Lib.hid hlt
      have hb1 : (((n : Int) + 1 + (j : Int)) % 64 == 56) = true := beq_iff_eq.2 (by omega)
      have hb3 : (((n : Int) + 1 + (j : Int)) % 64 != 56) = false := by rw [bne, hb1]; rfl
      have hm8 : IntKind.i64.wrap (8 * (n : Int)) = ((8 * n : Nat) : Int) := by rw [IntWalk.i64_in _ ⟨by omega, by omega⟩]; omega
      have hj64 : j < 64 := by omega
      clear hz hze hlt hj
      go_wp2_with fail
      go_loopw [4, 5, 6] (fun m v i wr => ∃ k : Nat, k ≤ 8 ∧ i = .int .i64 (k : Int) ∧ m = .int .i64 ((8 * n / 256 ^ k : Nat) : Int) ∧ Hid (wr.ownsRow w.heap.size 5 1 v k ((be k (8 * n)).map (Value.int .u8))) ∧ Hid (wr.ownsRow w.heap.size 5 1 (.slice A' (n + 1 + j) c') (n + 1 + j) ((stem b j).map (Value.int .u8))) ∧ Hid (Below w.heap.size w wr)) (fun _ _ i _ => 8 - (intOf i).toNat)
      case atStart => exact ⟨0, by omega, rfl, by simp, World.ownsRow_nil _ _ _ _, HO, HB⟩
      case round =>
        obtain ⟨k, hk, rfl, rfl, HS, HO, HB⟩ := hrel
        by_cases hk8 : k < 8
        · have hkw : IntKind.i64.wrap ((k : Int) + 1) = (k : Int) + 1 := IntWalk.i64_in _ ⟨by omega, by omega⟩
          obtain ⟨m, hm⟩ : ∃ m, 8 * n / 256 ^ k = m := ⟨_, rfl⟩
          have hmb : m ≤ 8796093022208 := by
            rw [← hm]
            exact Nat.le_trans (Nat.div_le_self _ _) (by omega)
          have hm2 : 8 * n / 256 ^ (k + 1) = m / 256 := by rw [← hm, Nat.pow_succ, Nat.div_div_eq_div_mul]
          have hbe : be (k + 1) (8 * n) = ((m % 256 : Nat) : Int) :: be k (8 * n) := by simp only [be, hm]
          have HM2 := Lib.hid hm2
          have HBE := Lib.hid hbe
          rw [hm]
          have hc8 : IntKind.u8.wrap ((m : Int) % 256) = ((m % 256 : Nat) : Int) := by rw [IntKind.wrap_u8']; omega
          clear hm hm2 hbe
          obtain ⟨A5, c5, rfl, -, hnil5⟩ := own_slice HS.out
          have HN5 := Lib.hid hnil5
          clear hnil5
          have HLT : Hid ((wr.alloc (.cells #[.int .u8 ((m : Int) % 256)] 5)).ownsRow w.heap.size 5 1 (.slice (some ⟨wr.heap.size, 0, none⟩) 1 1) 1 (([(m : Int) % 256] : List Int).map (Value.int .u8))) := World.ownsRow_lit wr #[.int .u8 ((m : Int) % 256)] 1 HB.out.size (by unfold maxLen; omega) rfl
          have HBA := Lib.hid (HB.out.alloc HB.out.size (.cells #[.int .u8 ((m : Int) % 256)] 5))
          have HOA := Lib.hid (own_below HO.out ((Below.refl wr.heap.size wr).alloc (Nat.le_refl _) (.cells #[.int .u8 ((m : Int) % 256)] 5)))
          have HRA := Lib.hid ((Row.of_own HS.out).alloc (Nat.le_refl _) (.cells #[.int .u8 ((m : Int) % 256)] 5))
          go_wp2_with (at_builtin; refine cat_mine rfl (.tmp 30) (.tmp 31) 22 rfl w.heap.size 5 i0 .u8 1 Tryd.underlying22 hi hz0 hz1 hz2 _ 1 [(m : Int) % 256] rfl HLT.out wr.heap.size A5 k c5 (be k (8 * n)) rfl HN5.out HRA.out (by omega) (by omega) HBA.out.size ?_; intro v6 w6 hown6 hg6 hl6; have HS6 := Lib.hid hown6; have HG6 := Lib.hid hg6; clear hown6 hl6)
          have hO6 : Only (fun i => i = wr.heap.size) (wr.alloc (.cells #[.int .u8 ((m : Int) % 256)] 5)) w6 := (Only.of_grown HG6.out).mono (fun i h => by injection h with h; exact h.symm)
          have HO6 := Lib.hid (hO6.own HOA.out (fun i hi e => by have := (HO.out.lt i hi).2; omega))
          have hb6 : Below w.heap.size w w6 := HBA.out.trans (hO6.below HBA.out.size (fun i e => by have := HB.out.size; omega))
          go_roundw
          case rel =>
            refine ⟨k + 1, by omega, by go_num, ?_, ?_, HO6.out, hb6⟩
            · rw [HM2.out]; go_num
            · rw [HBE.out, Nat.add_comm k 1]
              exact HS6.out
          case measure => simp [intOf]; omega
        · have hk8' : k = 8 := by omega
          subst hk8'
          obtain ⟨A5, c5, rfl, -, hnil5⟩ := own_slice HS.out
          have HN5 := Lib.hid hnil5
          have HR5 := Lib.hid (Row.of_own HS.out)
          clear hnil5
          go_wp2_with (at_builtin; refine cat_own rfl (.tmp 35) (.tmp 36) 22 rfl w.heap.size 5 i0 .u8 1 Tryd.underlying22 hi hz0 hz1 hz2 _ (n + 1 + j) (stem b j) rfl HO.out wr.heap.size A5 8 c5 (be 8 (8 * n)) rfl HN5.out HR5.out (by omega) (by omega) HB.out.size ?_; intro v6 w6 hown6 hb6; have HS6 := Lib.hid hown6; have HB6 := Lib.hid (HB.out.trans hb6); clear hown6 hb6)
          go_ret
          refine ⟨v6, rfl, ?_, HB6.out⟩
          have e : pad b = stem b j ++ be 8 (8 * n) := by unfold pad; rw [HL.out, ← HZ.out]
          rw [e, List.length_append, stem_len, be_len, HL.out]
          exact HS6.out
end Go.Proofs.YtclidocmfdimiaaDoor.Sha

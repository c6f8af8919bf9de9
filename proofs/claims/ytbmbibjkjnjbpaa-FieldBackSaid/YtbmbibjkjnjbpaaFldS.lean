/- A slice of fields that came in, as data; 'small' of layer 3's statements, as a contract. -/
import Derived.Test.YtbmbibjkjnjbpaaFldW
namespace Go.Proofs.Ytbmbibjkjnjbpaa.Fld
open Go.RowKit Var

/-- A field: its kind, its number, its most, its bytes. -/
structure F where
  kind : Int
  val : Int
  most : Int
  A : Option Addr
  n : Nat
  c : Nat
  bs : List Int

def F.cells (f : F) : Array Value := #[.int .i64 f.kind, .int .i64 f.val, .int .i64 f.most, .slice f.A f.n f.c]

/-- A field that may stand in a slice. -/
structure F.ok (f : F) (w : World) (B : Nat) : Prop where
  k1 : -9223372036854775808 ≤ f.kind
  k2 : f.kind ≤ 9223372036854775807
  n1 : -9223372036854775808 ≤ f.val
  n2 : f.val ≤ 9223372036854775807
  m1 : -9223372036854775808 ≤ f.most
  m2 : f.most ≤ 9223372036854775807
  row : Row .u8 w B f.A f.n f.bs
  nil : f.A = none → f.c = 0
  byt : ∀ x ∈ f.bs, 0 ≤ x ∧ x ≤ 255

/-- The slice '.slice A n c' reads as the fields fs, below block B. -/
def FRow (w : World) (B : Nat) (A : Option Addr) (n : Nat) (fs : List F) : Prop :=
  fs.length = n ∧ (∀ f ∈ fs, f.ok w B) ∧ (0 < n → ∃ b o, A = some ⟨b, o, none⟩ ∧ b < B ∧ ∀ j f, fs[j]? = some f → ∀ i, i < 4 → w.cell? ⟨b, o + j * 4 + i, none⟩ = f.cells[i]?)

section
variable {w w' : World} {B n : Nat} {A : Option Addr} {fs : List F}
theorem F.ok.below {f : F} (h : f.ok w B) (hb : Below B w w') : f.ok w' B := ⟨h.k1, h.k2, h.n1, h.n2, h.m1, h.m2, h.row.below hb, h.nil, h.byt⟩
theorem FRow.below (h : FRow w B A n fs) (hb : Below B w w') : FRow w' B A n fs :=
  ⟨h.1, fun f hf => (h.2.1 f hf).below hb, fun hn => by
    obtain ⟨b, o, e, hlt, hc⟩ := h.2.2 hn
    exact ⟨b, o, e, hlt, fun j f hj i hi => (hb.cell (by exact hlt)).trans (hc j f hj i hi)⟩⟩
theorem F.ok.more {f : F} {B' : Nat} (h : f.ok w B) (hB : B ≤ B') : f.ok w B' := ⟨h.k1, h.k2, h.n1, h.n2, h.m1, h.m2, h.row.more hB, h.nil, h.byt⟩
theorem FRow.more {B' : Nat} (h : FRow w B A n fs) (hB : B ≤ B') : FRow w B' A n fs :=
  ⟨h.1, fun f hf => (h.2.1 f hf).more hB, fun hn => by
    obtain ⟨b, o, e, hlt, hc⟩ := h.2.2 hn
    exact ⟨b, o, e, by omega, hc⟩⟩
theorem FRow.at (h : FRow w B A n fs) {j : Nat} (hj : j < n) : ∃ b o f, A = some ⟨b, o, none⟩ ∧ b < B ∧ fs[j]? = some f ∧ f.ok w B ∧ w.cell? ⟨b, o + j * 4, none⟩ = some (.int .i64 f.kind) ∧ w.cell? ⟨b, o + j * 4 + 1, none⟩ = some (.int .i64 f.val) ∧
    w.cell? ⟨b, o + j * 4 + 2, none⟩ = some (.int .i64 f.most) ∧ w.cell? ⟨b, o + j * 4 + 3, none⟩ = some (.slice f.A f.n f.c) := by
  obtain ⟨b, o, e, hlt, hc⟩ := h.2.2 (by omega)
  have hl : j < fs.length := by rw [h.1]; exact hj
  have hf : fs[j]? = some fs[j] := List.getElem?_eq_getElem hl
  exact ⟨b, o, fs[j], e, hlt, hf, h.2.1 _ (List.getElem_mem hl), hc j _ hf 0 (by omega), hc j _ hf 1 (by omega), hc j _ hf 2 (by omega), hc j _ hf 3 (by omega)⟩
end

def smallF (fs : List F) : Bool := fs.all (fun f => decide (f.n ≤ 300)) && decide (fs.length ≤ 50)

set_option maxHeartbeats 800000 in
set_option maxRecDepth 100000 in
theorem small_any (A : Option Addr) (n c : Nat) (fs : List F) (w : World) (h : FRow w w.heap.size A n fs) (hn : n ≤ maxLen) :
    Calls Try.prog 7 #[.slice A n c] w fun e w' => e = .returned (.bool (smallF fs)) ∧ Below w.heap.size w w' := by
  have H := Lib.hid h
  have HN := Lib.hid hn
  clear h hn
  go_enter Try.func7, Try.ntmps7
  go_wp2
  go_loopw [4, 7] (fun u i wr => ∃ k : Nat, k ≤ n ∧ i = .int .i64 (k : Int) ∧ Hid ((fs.take k).all (fun f => decide (f.n ≤ 300)) = true) ∧ Below w.heap.size w wr) (fun _ i _ => n - (intOf i).toNat)
  case atStart => exact ⟨0, Nat.zero_le _, rfl, rfl, Below.refl _ _⟩
  case round =>
    obtain ⟨k, hk, rfl, HA, hb⟩ := hrel
    by_cases hlt : k < n
    · obtain ⟨b, o, f, rfl, hbl, hf, hok, c0, c1, c2, c3⟩ := (H.out.below hb).at hlt
      have HOK := Lib.hid hok
      have HF := Lib.hid hf
      clear hok hf
      have hkw : IntKind.i64.wrap ((k : Int) + 1) = (k : Int) + 1 := IntWalk.i64_in _ ⟨by omega, by have := HN.out; unfold maxLen at this; omega⟩
      by_cases h3 : f.n ≤ 300
      · go_wp2
        go_roundw
        case rel =>
          refine ⟨k + 1, by omega, by go_num, ?_, ?_⟩
          · unfold Hid
            have hl : k < fs.length := by rw [H.out.1]; exact hlt
            rw [List.take_add_one, HF.out, List.all_append, HA.out]
            simp [h3]
          · exact hb.alloc hb.size _
        case measure => simp [intOf]; omega
      · go_wp2
        go_ret
        refine ⟨?_, hb.alloc hb.size _⟩
        have hm : f ∈ fs := List.mem_of_getElem? HF.out
        have : smallF fs = false := by
          unfold smallF
          rw [Bool.and_eq_false_iff]
          left
          rw [List.all_eq_false]
          exact ⟨f, hm, by simpa using h3⟩
        rw [this]
        rfl
    · go_wp2
      go_ret
      refine ⟨?_, hb⟩
      have hk' : k = n := by omega
      have := HA.out
      rw [List.take_of_length_le (by rw [H.out.1]; omega)] at this
      unfold smallF
      rw [this, H.out.1, Bool.true_and]
      have hd : decide (n ≤ 50) = decide ((n : Int) ≤ 50) := decide_eq_decide.2 (by omega)
      rw [hd]
      rfl

set_option maxHeartbeats 800000 in
set_option maxRecDepth 100000 in
theorem awake_any (w : World) : Calls Try.prog 6 #[] w fun e w' => e = .returned (.bool true) ∧ Below w.heap.size w w' := by
  have hw0 : Wr (w.alloc (.cells #[.slice none 0 0] 49)) w.heap.size w.heap.size (.slice none 0 0) 0 [] :=
    ⟨heap_alloc_new w _, World.ownsRow_nil _ _ _ _, by simp [Value.ownBlock], Nat.le_refl _⟩
  have e3 : sgn (-2) = [3] := by unfold sgn turn; rw [put_last (by omega)]; rfl
  have HW := Lib.hid hw0
  have HE := Lib.hid e3
  clear hw0 e3
  go_enter Try.func6, Try.ntmps6
  go_wp2_with fail
  refine (signed_any w.heap.size w.heap.size 0 _ [] (-2) _ HW.out (by omega) (by omega) (by omega)).mono ?_
  rintro e1 w1 ⟨rfl, v1, hw1, hm1⟩
  have HB := Lib.hid (((Below.refl w.heap.size w).alloc (Nat.le_refl _) _).trans (HW.out.below_of hm1))
  rw [HE.out] at hw1
  have HW1 := Lib.hid hw1
  clear hw1 hm1
  go_wp2_with fail
  refine (out_any w.heap.size w.heap.size 1 v1 [3] w1 HW1.out (by omega)).mono ?_
  rintro e2 w2 ⟨v2, rfl, hown, hb2⟩
  have HB2 := Lib.hid (HB.out.trans (hb2.mono HB.out.size))
  rcases hown.2 with ⟨_, h0⟩ | ⟨g, cap, cur, rfl, hg⟩
  · simp at h0
  · have hc := hown.cellAt 0 (by simp)
    simp at hc
    clear hown hg hb2
    go_wp2
    go_ret
    exact ⟨rfl, HB2.out⟩
end Go.Proofs.Ytbmbibjkjnjbpaa.Fld

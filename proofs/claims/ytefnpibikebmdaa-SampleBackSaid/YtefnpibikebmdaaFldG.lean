/- Error and Read of layer 3's Reader, as contracts. -/
import Derived.Test.YtefnpibikebmdaaFldD
namespace Go.Proofs.Ytefnpibikebmdaa.Fld
open Go.RowKit Var

set_option maxHeartbeats 800000 in
set_option maxRecDepth 100000 in
theorem errorR (g e : Nat) (xs : List Int) (w : World) (h : Rdr w g xs e) : Calls Try.prog 22 #[.pointer (some ⟨g, 0, none⟩)] w fun r w' => r = .returned (.int .i64 (e : Int)) ∧ w = w' := by
  obtain ⟨A, n, c, hrd, _⟩ := h.ex
  exact error_any g n c A e w hrd

set_option maxHeartbeats 800000 in
set_option maxRecDepth 100000 in
theorem readR (A : Option Addr) (n c B : Nat) (xs : List Int) (w : World) (h : Row .u8 w B A n xs) (hB : B ≤ w.heap.size) (hnil : A = none → c = 0) (hn : n ≤ 4398046511104) (hbyt : ∀ x ∈ xs, 0 ≤ x ∧ x ≤ 255) :
    Calls Try.prog 20 #[.slice A n c] w fun r w' => ∃ g, r = .returned (.pointer (some ⟨g, 0, none⟩)) ∧ w.heap.size ≤ g ∧ Rdr w' g xs 0 ∧ Below w.heap.size w w' := by
  have H := Lib.hid h
  have HB := Lib.hid hB
  have HN := Lib.hid hnil
  have HY := Lib.hid hbyt
  clear h hB hnil hbyt
  go_enter Try.func20, Try.ntmps20
  go_wp2_with fail
  refine (clone_any A n c B xs w H.out HB.out HN.out hn).mono ?_
  rintro r w1 ⟨v, rfl, hown, hb⟩
  obtain ⟨A1, c1, rfl, hc1, hnil1⟩ := own_slice hown
  have HO := Lib.hid hown
  have HBL := Lib.hid hb
  have HN1 := Lib.hid hnil1
  have HC := Lib.hid hc1
  clear hown hb hnil1 hc1
  go_wp2
  go_ret
  refine ⟨w1.heap.size, rfl, HBL.out.size, ⟨⟨A1, n, c1, ⟨heap_alloc_new w1 _⟩, (Row.of_own HO.out).alloc (Nat.le_refl _) _, HC.out, HN1.out⟩, HY.out⟩, HBL.out.alloc HBL.out.size _⟩
end Go.Proofs.Ytefnpibikebmdaa.Fld

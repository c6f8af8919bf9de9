/- The reference's reader of layer 3: Read, as a contract. -/
import Derived.Test.YtefnpibikebmdaaFldY
namespace Go.Proofs.Ytefnpibikebmdaa.Fld
open Go.RowKit Var

set_option maxHeartbeats 800000 in
set_option maxRecDepth 100000 in
theorem refread_any (A : Option Addr) (n c : Nat) (bs : List Int) (N : Nat) (w : World) (h : Row .u8 w N A n bs) (hN : N ≤ w.heap.size) (hnc : n ≤ c) (hnil : A = none → c = 0) (hn : n ≤ 4398046511104) (hbyt : ∀ x ∈ bs, 0 ≤ x ∧ x ≤ 255) :
    Calls Try.prog 23 #[.slice A n c] w fun r w' => r = .returned (.pointer (some ⟨w.heap.size, 0, none⟩)) ∧ Rfr w' w.heap.size N A n c bs 0 0 ∧ Below w.heap.size w w' := by
  have H := Lib.hid h
  have HN := Lib.hid hN
  have HC := Lib.hid hnc
  have HI := Lib.hid hnil
  have HY := Lib.hid hbyt
  have HL := Lib.hid hn
  clear h hN hnc hnil hbyt hn
  go_enter Try.func23, Try.ntmps23
  go_wp2
  go_ret
  exact ⟨rfl, ⟨⟨heap_alloc_new w _⟩, H.out.alloc HN.out _, HN.out, HC.out, Nat.zero_le _, HI.out, HY.out, HL.out⟩, (Below.refl _ _).alloc (Nat.le_refl _) _⟩
end Go.Proofs.Ytefnpibikebmdaa.Fld

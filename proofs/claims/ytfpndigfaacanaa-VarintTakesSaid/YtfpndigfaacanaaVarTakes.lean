/- Proved: VarintTakes returns true for every slice of bytes (any bytes begin with the document's number, or why not), and leaves the slice as it was; no condition. -/
import Derived.Test.YtfpndigfaacanaaRows
import Derived.Test.YtfpndigfaacanaaVarL
import Derived.Test.YtfpndigfaacanaaShut
namespace Go.Proofs.Ytfpndigfaacanaa.VarTakes
open Go.ChangeShapes Go.WideShapes Go.ChangeAt Go.RowKit

theorem own : ownKnob Try.prog.godebug = none := by kernel_rfl
theorem laidOut : laidOutB Try.prog = true := by kernel_rfl

set_option maxRecDepth 100000 in
theorem lifted (os : Os) (started : os.Started) (H : Type) (enc : TypeId × Value → H) :
    ReturnsInHanded {} Try.checked os 4 .any (Rows.varintTakesSpec.pre6 enc Try.prog Try.f4 Rows.varintTakesRow.domain false) (Rows.varintTakesSpec.post enc Try.prog Try.f4 false true false false) := by
  refine returnsInHanded_of_change (C := Try.checked) own started (by kernel_rfl) Try.func4
    (ChangeSpec.witness6 (enc := enc) (C := Try.checked) false ⟨#[], #[.slice none 0 0], []⟩ 8 (by kernel_rfl) (by kernel_rfl) (by kernel_rfl) (by kernel_rfl)) ?_
  intro W base args ds gs before hval0 hW _ _
  have hval : ∀ (j : Nat) t v, Try.f4.params[j]? = some t → args[j]? = some v → Value.okWide Try.prog W .any base t v := hval0
  have hW' := hW
  obtain ⟨p, q, hA0, hV, rfl, _, _⟩ := hW
  have hA : DataW.TrodAll enc Try.prog W 0 (fun _ => true) true Try.f4.params.toList args.toList ds p := hA0
  rw [Try.params4] at hA hval
  obtain ⟨v0, d0, rfl, rfl, h0⟩ := trodAll_one hA
  obtain ⟨rfl, rfl⟩ := trodVars_none hV
  have fin : ∀ (A : Option Addr) (n c : Nat) (xs : List Int), v0 = .slice A n c → Row .u8 W W.heap.size A n xs → (∀ x ∈ xs, 0 ≤ x ∧ x ≤ 255) →
      Calls Try.checked.prog 4 #[v0] W fun e W' => ∃ v, e = .returned v ∧ Rows.varintTakesSpec.post enc Try.checked.prog Try.f4 false true false false W #[v0] v W' := by
    rintro A n c xs rfl hr hx
    refine (Var.takes_walk A n c xs W hr hx).mono fun e W' ⟨he, hb⟩ => ?_
    subst he
    exact ⟨_, rfl, law_post laidOut (by kernel_rfl) rfl Try.underlying4 rfl hW' rfl hb⟩
  clear hA0
  obtain ⟨a0, len, cap, rfl⟩ := okWide_slice Try.underlying25 (hval 0 25 v0 rfl rfl)
  obtain ⟨fuel, hf⟩ := h0
  rcases open_ints Try.underlying25 Try.underlying5 (by kernel_rfl) hf with ⟨hcs, hx⟩ | ⟨a, len', cap', zs, hcs, _, hl, hm, hz, hx, hcell, hwz⟩
  · simp [Value.cells] at hcs
    obtain ⟨rfl, rfl, rfl⟩ := hcs
    exact fin none 0 0 [] rfl Row.none_ (by simp)
  · simp [Value.cells] at hcs
    obtain ⟨rfl, rfl, rfl⟩ := hcs
    exact fin (some a) len cap (zs.take len) rfl (row_of_open (by simp at hz; omega) hcell) (fun x hx => bounds_u8 (hwz x (List.mem_of_mem_take hx)))

theorem takes_holds : Rows.VarintTakesSaid :=
  OpenClaim.holds_of_wide 4 Try.f4 rfl rfl rfl rfl rfl rfl rfl ⟨rfl, rfl, rfl, rfl, rfl⟩ rfl rfl rfl rfl rfl (by kernel_rfl) Try.func4 (by kernel_rfl)
    (of_decide_eq_true (by kernel_rfl)) (by unfold Func.isWrapper; first | (rw [if_pos (by decide +kernel)]; kernel_rfl) | (rw [if_neg (by decide +kernel)]; exact ⟨rfl, rfl⟩))
    (fun os started H enc _ => lifted os started H enc)
end Go.Proofs.Ytfpndigfaacanaa.VarTakes

/- Proved: VarintBack returns true for every number, every signed number and every slice of bytes (what is put is taken, whatever stands behind it; what is taken is put so again; turns go back), and leaves what it was handed as it was; no condition. -/
import Derived.Test.YtfpndigfaacanaaRows
import Derived.Test.YtfpndigfaacanaaVarB
import Derived.Test.YtfpndigfaacanaaShut
namespace Go.Proofs.Ytfpndigfaacanaa.VarBack
open Go.ChangeShapes Go.WideShapes Go.ChangeAt Go.RowKit

theorem own : ownKnob Try.prog.godebug = none := by kernel_rfl
theorem laidOut : laidOutB Try.prog = true := by kernel_rfl

set_option maxRecDepth 100000 in
theorem lifted (os : Os) (started : os.Started) (H : Type) (enc : TypeId × Value → H) :
    ReturnsInHanded {} Try.checked os 5 .any (Rows.varintBackSpec.pre6 enc Try.prog Try.f5 Rows.varintBackRow.domain false) (Rows.varintBackSpec.post enc Try.prog Try.f5 false true false false) := by
  refine returnsInHanded_of_change (C := Try.checked) own started (by kernel_rfl) Try.func5
    (ChangeSpec.witness6 (enc := enc) (C := Try.checked) false ⟨#[], #[.int .u64 0, .int .i64 0, .slice none 0 0], []⟩ 8 (by kernel_rfl) (by kernel_rfl) (by kernel_rfl) (by kernel_rfl)) ?_
  intro W base args ds gs before hval0 hW _ _
  have hval : ∀ (j : Nat) t v, Try.f5.params[j]? = some t → args[j]? = some v → Value.okWide Try.prog W .any base t v := hval0
  have hW' := hW
  obtain ⟨p, q, hA0, hV, rfl, _, _⟩ := hW
  have hA : DataW.TrodAll enc Try.prog W 0 (fun _ => true) true Try.f5.params.toList args.toList ds p := hA0
  rw [Try.params5] at hA hval
  obtain ⟨v0, v1, v2, d0, d1, d2, p0, p1, p2, rfl, rfl, rfl, h0, h1, h2⟩ := trodAll_three hA
  obtain ⟨rfl, rfl⟩ := trodVars_none hV
  obtain ⟨x, rfl, rfl, rfl, wx⟩ := open_int Try.underlying22 (hval 0 22 v0 rfl rfl) h0
  obtain ⟨s, rfl, rfl, rfl, ws⟩ := open_int Try.underlying3 (hval 1 3 v1 rfl rfl) h1
  have bx := bounds_u64 wx
  have bs := bounds_i64 ws
  obtain ⟨m, rfl⟩ := Int.eq_ofNat_of_zero_le bx.1
  have fin : ∀ (A : Option Addr) (n c : Nat) (xs : List Int), v2 = .slice A n c → (A = none → c = 0) → n ≤ c → Row .u8 W W.heap.size A n xs → (∀ x ∈ xs, 0 ≤ x ∧ x ≤ 255) →
      Calls Try.checked.prog 5 #[.int .u64 (m : Int), .int .i64 s, v2] W fun e W' => ∃ v, e = .returned v ∧ Rows.varintBackSpec.post enc Try.checked.prog Try.f5 false true false false W #[.int .u64 (m : Int), .int .i64 s, v2] v W' := by
    rintro A n c xs rfl hnil hnc hr hx
    refine (Var.back_walk m s A n c xs W (by omega) bs.1 bs.2 hnil hnc hr hx).mono fun e W' ⟨he, hb⟩ => ?_
    subst he
    exact ⟨_, rfl, law_post laidOut (by kernel_rfl) rfl Try.underlying4 rfl hW' rfl hb⟩
  clear hA0
  obtain ⟨a0, len, cap, rfl⟩ := okWide_slice Try.underlying25 (hval 2 25 v2 rfl rfl)
  obtain ⟨fuel, hf⟩ := h2
  rcases open_ints Try.underlying25 Try.underlying5 (by kernel_rfl) hf with ⟨hcs, hx⟩ | ⟨a, len', cap', zs, hcs, _, hl, hm, hz, hx, hcell, hwz⟩
  · simp [Value.cells] at hcs
    obtain ⟨rfl, rfl, rfl⟩ := hcs
    exact fin none 0 0 [] rfl (fun _ => rfl) (Nat.le_refl _) Row.none_ (by simp)
  · simp [Value.cells] at hcs
    obtain ⟨rfl, rfl, rfl⟩ := hcs
    exact fin (some a) len cap (zs.take len) rfl (fun h => by cases h) hl (row_of_open (by simp at hz; omega) hcell) (fun x hx => bounds_u8 (hwz x (List.mem_of_mem_take hx)))

theorem back_holds : Rows.VarintBackSaid :=
  OpenClaim.holds_of_wide 5 Try.f5 rfl rfl rfl rfl rfl rfl rfl ⟨rfl, rfl, rfl, rfl, rfl⟩ rfl rfl rfl rfl rfl (by kernel_rfl) Try.func5 (by kernel_rfl)
    (of_decide_eq_true (by kernel_rfl)) (by unfold Func.isWrapper; first | (rw [if_pos (by decide +kernel)]; kernel_rfl) | (rw [if_neg (by decide +kernel)]; exact ⟨rfl, rfl⟩))
    (fun os started H enc _ => lifted os started H enc)
end Go.Proofs.Ytfpndigfaacanaa.VarBack

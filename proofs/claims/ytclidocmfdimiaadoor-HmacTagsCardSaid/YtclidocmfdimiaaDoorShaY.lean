/- Layer 7 (sha): the package's two tables, out of a row's condition on what they hold. -/
import Derived.Test.YtclidocmfdimiaaDoorRows
import Derived.Test.YtclidocmfdimiaaDoorOpen
import Derived.Test.YtclidocmfdimiaaDoorShaC
import Derived.LaidMore
import Derived.Stop.Joined
namespace Go.Proofs.YtclidocmfdimiaaDoor.Sha
open Go.ChangeShapes Go.WideShapes Go.ChangeAt Go.RowKit

def laid2 : List (String × DataW Unit) := [("viaticum/sha.initial", Rows.laid_viaticum_sha_initial), ("viaticum/sha.constants", Rows.laid_viaticum_sha_constants)]
theorem gIni : Tryd.prog.globalNamed "viaticum/sha.initial" = some 0 := by kernel_rfl
theorem gCon : Tryd.prog.globalNamed "viaticum/sha.constants" = some 1 := by kernel_rfl
theorem tIni : (Tryd.prog.globals[0]?).map (·.type) = some 43 := by kernel_rfl
theorem tCon : (Tryd.prog.globals[1]?).map (·.type) = some 55 := by kernel_rfl

/-- The door's own heap meets the condition. -/
theorem door_met (os : Os) (args : Array Value) : laidMetH Tryd.prog laid2 ((World.doorLaid Tryd.prog 400 os).forCall (fun _ _ => 0) ⟨#[], args, []⟩).memory :=
  laidMetH_of_parts3 (fuel := 8) (laidMet_of_run' 8 (by kernel_rfl) (by kernel_rfl)) (by kernel_rfl) (by kernel_rfl)

/-- An array of integers, read as a datum that is known: its cells. -/
theorem arr_of_trod {H : Type} {enc : TypeId × Value → H} {P : Program} {W : World} {base : Nat} {sp : Nat → Bool} {held : Bool} {fuel : Nat} {t e : TypeId} {k : IntKind} {m : Nat} {cs : List Value} {p : List MemPlace} {zs : List Int}
    (ht : P.underlying t = some (.array m e)) (he : P.underlying e = some (.int k)) (hc : P.cellsOf e = 1) (h : DataW.trod enc P W base sp held fuel t cs = some (.agg (zs.map fun z => .lit (.int k z)), p)) :
    ∀ j, j < zs.length → cs[j]? = some (.int k (zs.getD j 0)) := by
  obtain ⟨xs, f, rfl, hx, hl, hn, hel⟩ := DataW.trod_array ht h
  intro j hj
  simp only [Prod.mk.injEq, DataW.agg.injEq] at hx
  have hlen : xs.length = zs.length := by
    have := congrArg List.length hx.1
    simpa using this.symm
  have h1 := hel j (by omega)
  rw [List.getElem?_eq_getElem (by omega), hc, Nat.mul_one] at h1
  obtain ⟨z, h2, h3, -⟩ := DataW.trod_int he h1
  have h4 : (zs.map fun z => (DataW.lit (.int k z) : DataW H))[j]? = (xs.map (·.1))[j]? := by rw [hx.1]
  rw [List.getElem?_map, List.getElem?_map, List.getElem?_eq_getElem hj, List.getElem?_eq_getElem (by omega), h3] at h4
  simp only [Option.map_some, Option.some.injEq, DataW.lit.injEq, Lit.int.injEq, true_and] at h4
  have h5 : j < cs.length := by
    by_cases h6 : j < cs.length
    · exact h6
    · rw [List.drop_of_length_le (by omega)] at h2
      simp at h2
  rw [List.drop_eq_getElem_cons h5] at h2
  simp only [List.take_succ_cons, List.take_zero, List.cons.injEq, and_true] at h2
  rw [List.getElem?_eq_getElem h5, h2, ← h4]
  simp [List.getD, hj]

theorem ini_eq : (Rows.laid_viaticum_sha_initial : DataW Unit) = .agg ((hs.map wi).map fun z => .lit (.int .u32 z)) := by rfl
set_option maxRecDepth 100000 in
theorem con_eq : (Rows.laid_viaticum_sha_constants : DataW Unit) = .agg ((ks.map wi).map fun z => .lit (.int .u32 z)) := by rfl

/-- What the condition gives the walks. -/
theorem lay_of {W : World} (h : laidMetH Tryd.prog laid2 W) : Lay W := by
  rw [MakeChecks.laidMetH_plain _ _ _ (by kernel_rfl)] at h
  obtain ⟨ps, ⟨g0, t0, cs0, f0, p0, q0, hg0, ht0, hv0, hd0, ⟨g1, t1, cs1, f1, p1, q1, hg1, ht1, hv1, hd1, _, _⟩, _⟩, _, _⟩ := h
  obtain rfl := Option.some.inj (gIni.symm.trans hg0)
  obtain rfl := Option.some.inj (gCon.symm.trans hg1)
  obtain rfl := Option.some.inj (tIni.symm.trans ht0)
  obtain rfl := Option.some.inj (tCon.symm.trans ht1)
  rw [ini_eq] at hd0
  rw [con_eq] at hd1
  have h0 := arr_of_trod Tryd.underlying43 Tryd.underlying42 (by kernel_rfl) hd0
  have h1 := arr_of_trod Tryd.underlying55 Tryd.underlying42 (by kernel_rfl) hd1
  have c0 : ∀ j, W.cell? ⟨0, j, none⟩ = cs0[j]? := fun j => World.var?_cell hg0 hv0 j
  have c1 : ∀ j, W.cell? ⟨1, j, none⟩ = cs1[j]? := fun j => World.var?_cell hg1 hv1 j
  have hk : ∀ j, j < 64 → W.cell? ⟨1, j, none⟩ = some (.int .u32 (wi (wat ks j))) := fun j hj => by
    rw [c1, ← Array.getElem?_toList, h1 j (by simpa [ks] using hj)]
    have hl : j < ks.length := hj
    simp [wat, List.getD, List.getElem?_map, List.getElem?_eq_getElem hl]
  have hini : ∀ j v, (wv hs)[j]? = some v → W.cell? ⟨0, 0 + j, none⟩ = some v := by
    intro j v hv
    have hj : j < hs.length := by simpa [wv] using (List.getElem?_eq_some_iff.1 hv).1
    rw [Nat.zero_add, c0, ← Array.getElem?_toList, h0 j (by simpa using hj), ← hv]
    simp [wv, List.getD, List.getElem?_map, List.getElem?_eq_getElem hj]
  refine ⟨⟨?_, hk⟩, hini⟩
  have l1 := block_lt_of_cell (hk 0 (by omega))
  have l0 := block_lt_of_cell (hini 0 _ rfl)
  exact Nat.max_lt.2 ⟨l0, l1⟩
end Go.Proofs.YtclidocmfdimiaaDoor.Sha

/- A slice of structs of integers that came in, opened, over any program. -/
import Derived.Test.YthhnemanaciikaaRec
import Derived.Test.YthhnemanaciikaaOpenS
namespace Go.Proofs.Ythhnemanaciikaa.Rec
open Go.ChangeShapes Go.WideShapes Go.ChangeAt Go.RowKit Go.Deep

section
variable {H : Type} {enc : TypeId × Value → H} {P : Program} {W : World} {base : Nat} {α : Type}
theorem open_recs (S : Shape α) (mk : (Nat → Int) → α) (hmk : ∀ x i, i < S.c → (S.f (mk x))[i]? = some (.int .i64 (x i)))
    {t e : TypeId} {fs : Array Field} {v : Value} {d : DataW H} {ps : List MemPlace} (ht : P.underlying t = some (.slice e)) (he : P.underlying e = some (.struct fs)) (hfs : fs.size = S.c)
    (hint : ∀ (i : Nat) (f : Field), fs[i]? = some f → P.underlying f.type = some (.int .i64))
    (hone : ∀ (i : Nat) (f : Field), fs[i]? = some f → f.offset = i ∧ P.cellsOf f.type = 1) (hC : P.cellsOf e = fs.size)
    (hv : Value.okWide P W .any base t v) (h : DataW.Trod enc P W 0 (fun _ => true) true t v d ps) :
    ∃ A n c l, v = .slice A n c ∧ RRow S W W.heap.size A n l ∧ (A = none → c = 0) ∧ n ≤ c ∧ c ≤ maxLen ∧ ∀ a ∈ l, ∃ x, a = mk x ∧ ∀ i, i < S.c → -9223372036854775808 ≤ x i ∧ x i ≤ 9223372036854775807 := by
  have hpos : 0 < fs.size := by rw [hfs]; exact S.pos
  obtain ⟨A, n, c, V, rfl, hnil, hnc, hmax, hx⟩ := open_structs2 ht he hone hC hpos hv h
  have each : ∀ j, j < n → ∃ x : Nat → Int, (∀ i, i < S.c → V j i = .int .i64 (x i)) ∧ ∀ i, i < S.c → -9223372036854775808 ≤ x i ∧ x i ≤ 9223372036854775807 := by
    intro j hj
    obtain ⟨b, o, _, _, hc⟩ := hx (by omega)
    have one : ∀ i, i < S.c → ∃ y : Int, V j i = .int .i64 y ∧ -9223372036854775808 ≤ y ∧ y ≤ 9223372036854775807 := by
      intro i hi
      have hf : fs[i]? = some (fs[i]'(by omega)) := Array.getElem?_eq_getElem (by omega)
      obtain ⟨_, _, _, tr⟩ := hc j hj i _ hf
      obtain ⟨y, e0, w0⟩ := cell_int (hint i _ hf) tr
      have b0 := bounds_i64 w0
      exact ⟨y, e0, b0.1, by have := b0.2; omega⟩
    obtain ⟨x, hx'⟩ := choose_lt one
    exact ⟨x, fun i hi => (hx' i hi).1, fun i hi => (hx' i hi).2⟩
  obtain ⟨xs, hl, hp⟩ := list_of each
  refine ⟨A, n, c, xs.map mk, rfl, ⟨by simp [hl], fun hn => ?_⟩, hnil, hnc, hmax, fun a ha => ?_⟩
  · obtain ⟨b, o, e, hb, hc⟩ := hx hn
    refine ⟨b, o, e, hb, fun j a hj i hi => ?_⟩
    rw [List.getElem?_map] at hj
    cases hxj : xs[j]? with
    | none => rw [hxj] at hj; cases hj
    | some x =>
      rw [hxj] at hj
      simp only [Option.map_some, Option.some.injEq] at hj
      subst hj
      have hjn : j < n := by
        have := (List.getElem?_eq_some_iff.1 hxj).1
        omega
      have hf : fs[i]? = some (fs[i]'(by omega)) := Array.getElem?_eq_getElem (by omega)
      have h1 := (hc j hjn i _ hf).1
      rw [hfs, (hp j x hxj).1 i hi] at h1
      rw [h1, hmk x i hi]
  · obtain ⟨x, hx', rfl⟩ := List.mem_map.1 ha
    obtain ⟨j, hj⟩ := List.getElem?_of_mem hx'
    exact ⟨x, rfl, (hp j x hj).2⟩
end
end Go.Proofs.Ythhnemanaciikaa.Rec

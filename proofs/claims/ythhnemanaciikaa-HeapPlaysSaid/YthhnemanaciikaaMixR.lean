/- A region that draws its order, inside a round of a range over a function: Mix's walk in the text's order serves there too. Over any program. -/
import Derived.Test.YthhnemanaciikaaMix
import Derived.OrdersIn
import Derived.RangeFuncCalls
namespace Go.Proofs.Ythhnemanaciikaa.Mix
open Go.RowKit

section
variable {P : Program} {S : World → Prop} {Q : Exit → Act → World → Prop}
theorem anyH_lex {a : Act} {w : World} {l : List Oper} (hB : lexOK l.toArray = true) (hS : S w) (h : wpLex P l.toArray S Q l a w) : wpAnyH P .any l.toArray Q S l.toArray.size (Array.replicate l.toArray.size false) a w := by
  refine any_of_lex (ok_of hB) _ (List.range' 0 l.length) _ a _ (by simp) List.pairwise_lt_range' (by simp) (fun j => ?_) (fun i o ho hi => ?_) hS (lex_nums l 0 a _ (fun j => ?_) h)
  · simp only [List.mem_range'_1]
    by_cases hj : j < l.length
    · simp [hj]
    · simp [hj]
  · by_cases hj : i < l.length
    · simp [hj] at hi
    · simp [hj] at hi
  · by_cases hj : j < l.length
    · simp [hj]
    · simp [hj]
/-- It ends as it should. -/
def Ends (Q : Exit → Act → World → Prop) (e : Exit) (a : Act) (w : World) : Prop := e = .normal ∧ Q .normal a w
theorem ends_out : ¬ LetsOut (Ends Q) := fun h => by
  obtain ⟨_, _, h⟩ := h
  cases h.1
theorem oper_in {o : Oper} {a : Act} {w : World} {K K' : Act → World → Prop} {l n : Nat} (hd : ∀ c, o.op ≠ .defer c) (hK : ∀ a w, K a w → K' a w) (h : o.wp P a w K (Ends Q)) : o.wpIn (Fence.wide.inRound l) n P a w K' Q := by
  unfold Oper.wp at h
  unfold Oper.wpIn
  refine ⟨fun _ _ => trivial, ?_⟩
  rw [Oper.semAt_eq _ _ _ hd]
  generalize (execOp a.eval o).run P w = r at h ⊢
  cases r with
  | ok x w' =>
    cases x <;> simp only [Oper.upon, Oper.uponIn] at h ⊢ <;>
      first
        | exact hK _ _ h
        | exact ⟨fun h => by simp [Fence.wide] at h, CallsIn.inRound _ (callsIn_wide.2 (Calls.mono h (fun e w'' he => by cases e <;> first | exact hK _ _ he | exact absurd he.1 (by simp) | exact absurd he ends_out)))⟩
        | exact ⟨fun h => by simp [Fence.wide] at h, fun c cs _ => let ⟨v, w', r, s⟩ := h c cs; ⟨v, w', hK _ _ r, stepsIn_wide.2 s⟩⟩
  | halt x w' =>
    cases x <;> simp only [Oper.upon, Oper.uponIn] at h ⊢ <;> first | exact h | exact absurd h.1 (by simp)
theorem any_in {md : Region.Mode} {ops : Array Oper} {l n : Nat} (hd : ∀ (i : Nat) (o : Oper), ops[i]? = some o → ∀ c, o.op ≠ .defer c) : ∀ (fuel : Nat) (listed : Array Bool) (a : Act) (w : World), wpAny P md ops (Ends Q) fuel listed a w → wpAnyIn (Fence.wide.inRound l) n P md ops Q fuel listed a w
  | 0, _, _, _, h => ⟨h.1, h.2.2⟩
  | fuel + 1, listed, a, w, h => ⟨fun hr => (h.1 hr).2, fun i hi => by
      have h1 := h.2 i hi
      unfold wpOp at h1
      unfold wpOpIn
      cases ho : ops[i]? with
      | none =>
        rw [ho] at h1
        exact any_in hd fuel _ a w h1
      | some o =>
        rw [ho] at h1
        simp only at h1 ⊢
        split at h1
        · rename_i hw
          rw [if_pos hw]
          exact oper_in (hd i o ho) (fun a w => any_in hd fuel _ a w) (h1.resolve_right (fun h => ends_out h.2))
        · rename_i hw
          rw [if_neg hw]
          exact ⟨fun _ _ => trivial, any_in hd fuel _ _ _ h1⟩⟩
/-- No operation of it is deferred. -/
def noDefer : Op → Bool
  | .defer _ => false
  | _ => true
/-- **The rule.** -/
theorem wpIn_region_lex {id ln n : Nat} {a : Act} {w : World} {l : List Oper} (S : World → Prop) (hm : P.follows .mixedOrders = true) (hB : lexOK l.toArray = true) (hd : l.all (fun o => noDefer o.op) = true) (hS : S w.drew) (h : wpLex P l.toArray S (Ends Q) l a w.drew) :
    (Code.region id l.toArray true).wpIn (Fence.wide.inRound ln) n P Q a w := by
  refine wpIn_region_any hm (any_in (fun i o ho c e => ?_) _ _ _ _ (wpAny_of_held _ _ _ _ (anyH_lex hB hS h)))
  have h1 := List.all_eq_true.1 hd o (by simpa using Array.mem_of_getElem? ho)
  rw [e] at h1
  cases h1
theorem lex_ends {ops : Array Oper} {a : Act} {w : World} (h : Q .normal a w) : wpLex P ops S (Ends Q) [] a w := by
  unfold wpLex
  exact ⟨rfl, h⟩
end
end Go.Proofs.Ythhnemanaciikaa.Mix

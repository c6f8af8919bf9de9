/- A region that draws its order and calls a function value, by its contract (for Mix's walk). Over any program. -/
import Derived.Test.YthhnemanaciikaaMix
namespace Go.Proofs.Ythhnemanaciikaa.Mix
open Go.RowKit

section
variable {P : Program} {ops : Array Oper} {S : World → Prop} {Q : Exit → Act → World → Prop}
theorem lex_callv {o : Oper} {rest : List Oper} {a : Act} {w : World} {x : Operand} {f : FuncId} {lb : Array Value} {as : List Operand} {ts : Array TypeId} {args : List Value} {R : Ending → World → Prop} (hc : Calls P f (args.toArray ++ lb) w R) (hw : Region.wanted o (yielded ops a.tmps) = true) (ho : o.op = .call { callee := .value x, args := as.toArray, argTypes := ts })
    (hx : a.eval x = .func (.func f) #[] lb) (hargs : as.map a.eval = args) (hent : ∀ args w, (callFunc f args).run P w = .ok (.enter f args) w)
    (h : ∀ e w', R e w' → ∃ v, e = .returned v ∧ S w' ∧ wpLex P ops S Q rest (a.put o.dst v) w') : wpLex P ops S Q (o :: rest) a w := by
  unfold wpLex stepL
  rw [if_pos hw, if_neg (by rw [ho]; simp [plain])]
  have he : (execOp a.eval o).run P w = .ok (.enter f (args.toArray ++ lb)) w := by
    simp only [execOp, ho, resolve, Sem.run_bind, List.map_toArray, hargs, hx, Deferred.ofValue, Sem.run_pure, Result.andThen_ok, Array.empty_append, invoke]
    exact hent _ w
  unfold actv
  rw [he]
  exact hc.mono h
end
end Go.Proofs.Ythhnemanaciikaa.Mix

/- The document's Cut. -/
import Derived.Test.YtbhdbgippbopfaaPcB
namespace Go.Proofs.Ytbhdbgippbopfaa
open Go.RowKit Go.Maps
set_option linter.unusedVariables false
theorem ex_append {P : Program} {o : Oper} {ev : Operand → Value} {w w' : World} (s x : Operand) (t : TypeId) (ho : o.op = .call { callee := .builtin .append, args := #[s, x], argTypes := #[t, t] }) (ty : TypeId) (hty : o.type = ty) {v y v' : Value} (hs : ev s = v) (hx : ev x = y)
    (hrun : (Builtin.append_ #[t, t] ty #[v, y]).run P w = .ok v' w') : (execOp ev o).run P w = .ok (.value v') w' := by
  subst hty
  unfold execOp
  simp only [ho, resolve, invoke, builtin, Sem.run_bind, Sem.run_pure, Result.andThen_ok, List.map_toArray, List.map_cons, List.map_nil, hs, hx, hrun]
end Go.Proofs.Ytbhdbgippbopfaa

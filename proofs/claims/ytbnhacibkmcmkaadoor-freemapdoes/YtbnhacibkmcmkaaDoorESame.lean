/- Contract: package extent's Same. -/
import Derived.Test.YtbnhacibkmcmkaaDoorEFirst
import Derived.Test.YtbnhacibkmcmkaaDoorRegion
import Derived.Test.YtbnhacibkmcmkaaDoorRegionL
namespace Go.Proofs.YtbnhacibkmcmkaaDoor
set_option maxRecDepth 20000
open Go.RowKit
set_option linter.unusedVariables false

theorem exec_eql_agg {P : Program} {o : Oper} {a : Act} {w : World} (t t' : TypeId) (x y : Operand) (ho : o.op = .binOp .eql t x y t') (xs ys : Array Value) (hx : a.eval x = .agg xs) (hy : a.eval y = .agg ys) (hm : P.eqGuardType P.depth t = false) (b : Bool)
    (hr : (binOp .eql t (.agg xs) (.agg ys)).run P w = .ok (.bool b) w) : (execOp a.eval o).run P w = .ok (.value (.bool b)) w := by
  unfold execOp
  simp only [ho, hx, hy, Sem.run_bind, run_eqGuard_agg w .eql t x y xs ys hm, Result.andThen_ok, hr, Sem.run_pure]
theorem guardSet : Tryd.prog.eqGuardType Tryd.prog.depth 81 = false := by kernel_rfl

end Go.Proofs.YtbnhacibkmcmkaaDoor

/-
  The contract of within. Conditions: what they are asked of lies in memory as told.
-/
import Derived.Test.YtmklngabfdnclaaDoorBase
namespace Go.Proofs.YtmklngabfdnclaaDoor
open Go.RowKit
set_option linter.unusedVariables false
set_option maxRecDepth 20000

def inB (x n : Int) : Bool := decide (0 ≤ x ∧ x < n)

set_option maxHeartbeats 1000000 in
theorem within_any (w : World) (x n : Int) : Calls Tryd.prog 35 #[.int .i64 x, .int .i64 n] w fun e w' => e = .returned (.bool (inB x n)) ∧ w' = w := by
  by_cases h : 0 ≤ x
  · go_enter Tryd.func35, Tryd.ntmps35
    go_wp2
    go_ret
    exact ⟨ret_b (by simp [inB, h]), rfl⟩
  · have d1 : decide (0 ≤ x) = false := decide_eq_false h
    go_enter Tryd.func35, Tryd.ntmps35
    go_wp2
    go_ret
    exact ⟨ret_b (by simp [inB]; omega), rfl⟩

end Go.Proofs.YtmklngabfdnclaaDoor

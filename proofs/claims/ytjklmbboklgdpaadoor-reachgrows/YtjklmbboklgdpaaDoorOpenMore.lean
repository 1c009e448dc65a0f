/-
  Numbers as arguments. No conditions.
-/
import Derived.Test.YtjklmbboklgdpaaDoorLawOpen
namespace Go.Proofs.YtjklmbboklgdpaaDoor
open Go.ChangeShapes Go.WideShapes Go.ChangeAt Go.RowKit Go.Deep
set_option linter.unusedVariables false
theorem int_open {H : Type} {enc : TypeId × Value → H} {W : World} {base : Nat} {v : Value} {d : DataW H} {p : List MemPlace} (hv : Value.okWide Tryd.prog W .any base 3 v) (h : DataW.Trod enc Tryd.prog W 0 (fun _ => true) true 3 v d p) : ∃ x : Int, v = .int .i64 x := by
  obtain ⟨x, hx⟩ := okWide_int Tryd.underlying3 hv
  exact ⟨x, hx⟩
end Go.Proofs.YtjklmbboklgdpaaDoor


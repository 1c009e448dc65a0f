/-
  Numbers of 64 bits as arguments. No conditions.
-/
import Derived.Test.YtjklmbboklgdpaaDoorLawOpen
namespace Go.Proofs.YtjklmbboklgdpaaDoor
open Go.ChangeShapes Go.WideShapes Go.ChangeAt Go.RowKit Go.Deep
set_option linter.unusedVariables false
theorem u64_open {H : Type} {enc : TypeId × Value → H} {W : World} {base : Nat} {v : Value} {d : DataW H} {p : List MemPlace} (hv : Value.okWide Tryd.prog W .any base 24 v) (h : DataW.Trod enc Tryd.prog W 0 (fun _ => true) true 24 v d p) : ∃ x : Nat, v = .int .u64 (x : Int) ∧ x < 18446744073709551616 := by
  obtain ⟨z, rfl, _, _, hwf⟩ := open_int Tryd.underlying24 hv h
  have h0 : IntKind.u64.min = 0 := rfl
  have h1 : IntKind.u64.max = 18446744073709551616 - 1 := rfl
  have hz : 0 ≤ z ∧ z < 18446744073709551616 := by
    simp [Lit.wf] at hwf
    omega
  exact ⟨z.toNat, by rw [Int.toNat_of_nonneg hz.1], by omega⟩
end Go.Proofs.YtjklmbboklgdpaaDoor


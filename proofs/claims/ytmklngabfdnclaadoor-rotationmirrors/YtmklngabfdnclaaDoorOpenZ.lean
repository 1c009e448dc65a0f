/-
  Rows of rows as an argument, what nil lists hold besides; integers. No conditions.
-/
import Derived.Test.YtmklngabfdnclaaDoorOpenR
import Derived.Test.YtmklngabfdnclaaDoorWsw
namespace Go.Proofs.YtmklngabfdnclaaDoor
open Go.ChangeShapes Go.WideShapes Go.ChangeAt Go.RowKit Go.Deep
set_option linter.unusedVariables false
set_option maxRecDepth 20000

theorem int_open {H : Type} {enc : TypeId × Value → H} {W : World} {base : Nat} {v : Value} {d : DataW H} {p : List MemPlace} (hv : Value.okWide Tryd.prog W .any base 3 v) (h : DataW.Trod enc Tryd.prog W 0 (fun _ => true) true 3 v d p) : ∃ x : Int, v = .int .i64 x := by
  obtain ⟨x, hx⟩ := okWide_int Tryd.underlying3 hv
  exact ⟨x, hx⟩

theorem rowsz_open {H : Type} {enc : TypeId × Value → H} {W : World} {base : Nat} {v : Value} {d : DataW H} {p : List MemPlace} (hv : Value.okWide Tryd.prog W .any base 25 v) (h : DataW.Trod enc Tryd.prog W 0 (fun _ => true) true 25 v d p) : RowsIn W v ∧ ∀ a n cap, v = .slice a n cap → n ≤ 70 → Rz W a n := by
  refine ⟨rows_open hv h, ?_⟩
  obtain ⟨a0, len0, cap0, rfl⟩ := okWide_slice Tryd.underlying25 hv
  obtain ⟨fuel, hf⟩ := h
  rintro a' n' cap' he hn k hk g off la ln lc ha hc hla
  cases he
  rcases open_int_rows Tryd.underlying25 Tryd.underlying36 Tryd.underlying3 cellsR cells3 hf with ⟨hcs, _⟩ | ⟨a, len, cap, A, L, C, Z, hcs, _, hl, hm, _, hall⟩
  · simp [Value.cells] at hcs
    omega
  · simp [Value.cells] at hcs
    obtain ⟨rfl, rfl, rfl⟩ := hcs
    cases ha
    obtain ⟨c0, h1, h2, h3, h4, h5, h6⟩ := hall k (by omega)
    rw [Addr.add_lit] at c0
    rw [c0] at hc
    cases hc
    exact h5 hla
end Go.Proofs.YtmklngabfdnclaaDoor


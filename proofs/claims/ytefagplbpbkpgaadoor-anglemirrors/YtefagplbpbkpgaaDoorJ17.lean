/-
  The table of math/bits, from what a row lists. No conditions.
-/
import Derived.Test.YtefagplbpbkpgaaDoorRows
import Derived.Test.YtefagplbpbkpgaaDoorJ5
import Derived.Lib.LaidTab
import Derived.LaidSub
import Derived.Test.YtefagplbpbkpgaaDoorJ11
import Derived.Test.YtefagplbpbkpgaaDoorJ1
import Derived.Deep.Matrix
namespace Go.Proofs.YtefagplbpbkpgaaDoor.pt
open Go.RowKit
set_option linter.unusedVariables false
set_option maxRecDepth 20000
theorem gTab : Tryd.prog.globalNamed "math/bits.deBruijn64tab" = some 0 := by kernel_rfl
theorem gTabType : (Tryd.prog.globals[0]?).map (·.type) = some 102 := by kernel_rfl
theorem cells102 : Tryd.prog.cellsOf 102 = 64 := by kernel_rfl
def tabZs : List Int := Lib.deBruijn64tab.map fun (x : Nat) => (x : Int)
theorem tab_data : (Rows.laid_math_bits_deBruijn64tab : DataW Unit) = Lib.tabData .u8 tabZs := rfl
theorem tab_of_laid {W : World} (h : laidMetH Tryd.prog [("math/bits.deBruijn64tab", Rows.laid_math_bits_deBruijn64tab)] W) : Tab W := by
  have h1 : laidMet Tryd.prog [("math/bits.deBruijn64tab", Rows.laid_math_bits_deBruijn64tab)] W := h
  rw [tab_data] at h1
  have h2 := Lib.tabIs_of_head (rest := []) gTab gTabType Tryd.underlying102 Tryd.underlying5 (by kernel_rfl) cells102 h1
  have h3 : ∀ j, j < 64 → W.cell? ⟨0, j, none⟩ = some (.int .u8 (Lib.deBruijn64tab.getD j 0 : Nat)) := fun j hj => by
    rw [h2.cell gTab j (by simpa [tabZs, Lib.deBruijn64tab] using hj)]
    congr 2
    unfold tabZs
    simp only [List.getD_eq_getElem?_getD, List.getElem?_map]
    cases Lib.deBruijn64tab[j]? <;> rfl
  exact ⟨World.block_lt_of_cell? W _ (h3 0 (by decide)), h3⟩
end Go.Proofs.YtefagplbpbkpgaaDoor.pt
/-
  Rows of rows as an argument. No conditions.
-/
namespace Go.Proofs.YtefagplbpbkpgaaDoor
open Go.ChangeShapes Go.WideShapes Go.ChangeAt Go.RowKit Go.Deep
set_option linter.unusedVariables false
set_option maxRecDepth 20000

theorem cellsR : Tryd.prog.cellsOf 37 = 1 := by kernel_rfl
/-- rows of rows that came in -/
def RowsIn (W : World) (v : Value) : Prop := ∃ (a : Option Addr) (n cap : Nat) (rs : List (List Int)), v = .slice a n cap ∧ Rq W a n rs

theorem rows_open {H : Type} {enc : TypeId × Value → H} {W : World} {base : Nat} {v : Value} {d : DataW H} {p : List MemPlace} (hv : Value.okWide Tryd.prog W .any base 25 v) (h : DataW.Trod enc Tryd.prog W 0 (fun _ => true) true 25 v d p) : RowsIn W v := by
  obtain ⟨a0, len0, cap0, rfl⟩ := okWide_slice Tryd.underlying25 hv
  obtain ⟨fuel, hf⟩ := h
  rcases open_int_rows Tryd.underlying25 Tryd.underlying37 Tryd.underlying3 cellsR cells3 hf with ⟨hcs, _⟩ | ⟨a, len, cap, A, L, C, Z, hcs, _, hl, hm, _, hall⟩
  · simp [Value.cells] at hcs
    obtain ⟨rfl, rfl, rfl⟩ := hcs
    exact ⟨none, 0, 0, [], rfl, rfl, fun _ k hk => by omega⟩
  · simp [Value.cells] at hcs
    obtain ⟨rfl, rfl, rfl⟩ := hcs
    refine ⟨some a, len0, cap0, (List.range len0).map fun r => (Z r).take (L r), rfl, by simp, fun hn k hk => ?_⟩
    obtain ⟨c0, h1, h2, h3, h4, h5, h6⟩ := hall k (by omega)
    have hg : ((List.range len0).map fun r => (Z r).take (L r)).getD k [] = (Z k).take (L k) := by simp [List.getD, hk]
    have hgl : ((Z k).take (L k)).length = L k := by simp; omega
    rw [hg, hgl]
    obtain ⟨b, off, spot⟩ := a
    have hspot : spot = none := by simpa [Addr.add] using World.cell?_spot (hall 0 (by omega)).1
    subst hspot
    rw [Addr.add_lit] at c0
    refine ⟨b, off, A k, C k, rfl, World.block_lt_of_cell? W _ c0, c0, h1, fun hlk => ⟨hgl, by omega, fun j hj => ?_⟩⟩
    cases hA : A k with
    | none => have := h5 hA; omega
    | some a' =>
      obtain ⟨b', off', spot'⟩ := a'
      have q := (h6 _ hA).2 j (by omega)
      have q0 := (h6 _ hA).2 0 (by omega)
      have hsp : spot' = none := by simpa [Addr.add] using World.cell?_spot q0
      subst hsp
      rw [Addr.add_lit] at q
      refine ⟨b', off', rfl, World.block_lt_of_cell? W _ q, ?_⟩
      rw [q, getD_take hj]

end Go.Proofs.YtefagplbpbkpgaaDoor

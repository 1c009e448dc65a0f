/-
  Rows of rows as an argument. No conditions.
-/
import Derived.Test.YtmklngabfdnclaaDoorRa
import Derived.Test.YtmklngabfdnclaaDoorLawOpen
import Derived.Deep.Matrix
namespace Go.Proofs.YtmklngabfdnclaaDoor
open Go.ChangeShapes Go.WideShapes Go.ChangeAt Go.RowKit Go.Deep
set_option linter.unusedVariables false
set_option maxRecDepth 20000

theorem cellsR : Tryd.prog.cellsOf 36 = 1 := by kernel_rfl
/-- rows of rows that came in -/
def RowsIn (W : World) (v : Value) : Prop := ∃ (a : Option Addr) (n cap : Nat) (rs : List (List Int)), v = .slice a n cap ∧ Rq W a n rs

theorem rows_open {H : Type} {enc : TypeId × Value → H} {W : World} {base : Nat} {v : Value} {d : DataW H} {p : List MemPlace} (hv : Value.okWide Tryd.prog W .any base 25 v) (h : DataW.Trod enc Tryd.prog W 0 (fun _ => true) true 25 v d p) : RowsIn W v := by
  obtain ⟨a0, len0, cap0, rfl⟩ := okWide_slice Tryd.underlying25 hv
  obtain ⟨fuel, hf⟩ := h
  rcases open_int_rows Tryd.underlying25 Tryd.underlying36 Tryd.underlying3 cellsR cells3 hf with ⟨hcs, _⟩ | ⟨a, len, cap, A, L, C, Z, hcs, _, hl, hm, _, hall⟩
  · simp [Value.cells] at hcs
    obtain ⟨rfl, rfl, rfl⟩ := hcs
    exact ⟨none, 0, 0, [], rfl, rfl, fun _ k hk => by omega⟩
  · simp [Value.cells] at hcs
    obtain ⟨rfl, rfl, rfl⟩ := hcs
    refine ⟨some a, len0, cap0, (List.range len0).map fun r => (Z r).take (L r), rfl, by simp, fun hn k hk => ?_⟩
    obtain ⟨c0, h1, h2, h3, h4, h5, h6⟩ := hall k (by omega)
    have hg : ((List.range len0).map fun r => (Z r).take (L r)).getD k [] = (Z k).take (L k) := by simp [List.getD, hk]
    have hgl : ((Z k).take (L k)).length = L k := by simp; omega
    rw [hg, hgl]
    obtain ⟨b, off, spot⟩ := a
    have hspot : spot = none := by simpa [Addr.add] using World.cell?_spot (hall 0 (by omega)).1
    subst hspot
    rw [Addr.add_lit] at c0
    refine ⟨b, off, A k, C k, rfl, World.block_lt_of_cell? W _ c0, c0, h1, fun hlk => ⟨hgl, by omega, fun j hj => ?_⟩⟩
    cases hA : A k with
    | none => have := h5 hA; omega
    | some a' =>
      obtain ⟨b', off', spot'⟩ := a'
      have q := (h6 _ hA).2 j (by omega)
      have q0 := (h6 _ hA).2 0 (by omega)
      have hsp : spot' = none := by simpa [Addr.add] using World.cell?_spot q0
      subst hsp
      rw [Addr.add_lit] at q
      refine ⟨b', off', rfl, World.block_lt_of_cell? W _ q, ?_⟩
      rw [q, getD_take hj]

end Go.Proofs.YtmklngabfdnclaaDoor


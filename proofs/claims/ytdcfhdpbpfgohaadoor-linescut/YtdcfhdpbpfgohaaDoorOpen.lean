/-
  A graph as an argument: what its reading says of its cells; the table of strconv, from what a row lists. Conditions: none.
-/
import Derived.Test.YtdcfhdpbpfgohaaDoorRows
import Derived.Test.YtdcfhdpbpfgohaaDoorSmall
import Derived.Test.YtdcfhdpbpfgohaaDoorLine
import Derived.WalkKit
import Derived.ProofKit
import Derived.OpenShut
import Derived.Deep.SlicePairs
import Derived.Deep.DeepHandedRow
import Derived.Lib.SmallJoins
import Derived.Lib.LaidTab
import Derived.LaidSub
namespace Go.Proofs.YtdcfhdpbpfgohaaDoor
open Go.ChangeShapes Go.WideShapes Go.ChangeAt Go.RowKit Go.Deep
set_option linter.unusedVariables false

theorem cells24 : Tryd.prog.cellsOf 24 = 2 := by kernel_rfl
theorem cells38 : Tryd.prog.cellsOf 38 = 2 := by kernel_rfl
theorem cells3 : Tryd.prog.cellsOf 3 = 1 := by kernel_rfl

theorem graph_open {H : Type} {enc : TypeId × Value → H} {W : World} {base : Nat} {v : Value} {d : DataW H} {p : List MemPlace} (hv : Value.okWide Tryd.prog W .any base 24 v) (h : DataW.Trod enc Tryd.prog W 0 (fun _ => true) true 24 v d p) :
    ∃ (V : Int) (a : Option Addr) (n cap : Nat) (es : List (Int × Int)), v = .agg #[.int .i64 V, .slice a n cap] ∧ (128 < n ∨ Es 0 W a n es) := by
  obtain ⟨c0, c1, y0, y1, m, rfl, rfl, rfl, hy0, hy1⟩ := Joins.open_agg2 Tryd.underlying24 (by kernel_rfl) cells24 hv h
  obtain ⟨V, e0, _, _⟩ := DataW.trod_int Tryd.underlying3 hy0
  simp only [List.cons.injEq, and_true] at e0
  subst e0
  rcases open_slice_pairs Tryd.underlying22 Tryd.underlying38 cells38 rfl rfl cells3 cells3 hy1 with ⟨hc, _⟩ | ⟨a, len, cap, m, k, V0, V1, D0, D1, P0, P1, hc, _, hl, hm, hmm, _, hall⟩
  · simp only [List.cons.injEq, and_true] at hc
    subst hc
    exact ⟨V, none, 0, 0, [], rfl, .inr ⟨rfl, by omega, fun k hk => by omega⟩⟩
  · simp only [List.cons.injEq, and_true] at hc
    subst hc
    simp only [if_true] at hmm
    subst hmm
    by_cases hbig : 128 < len
    · exact ⟨V, some a, len, _, [], rfl, .inl hbig⟩
    · have hint : ∀ i, i < m → ∃ x y, V0 i = .int .i64 x ∧ V1 i = .int .i64 y := fun i hi => by
        obtain ⟨x, h1, _, _⟩ := DataW.trod_int Tryd.underlying3 (hall i hi).2.2.1
        obtain ⟨y, h2, _, _⟩ := DataW.trod_int Tryd.underlying3 (hall i hi).2.2.2
        simp only [List.cons.injEq, and_true] at h1 h2
        exact ⟨x, y, h1, h2⟩
      refine ⟨V, some a, len, _, (List.range len).map fun i => (intOf (V0 i), intOf (V1 i)), rfl, .inr ⟨by simp, by omega, fun j hj => ?_⟩⟩
      obtain ⟨b, off, spot⟩ := a
      have hspot : spot = none := by simpa [Addr.add] using World.cell?_spot (hall 0 (by omega)).1
      subst hspot
      obtain ⟨x, y, hx, hy⟩ := hint j (by omega)
      have q0 := (hall j (by omega)).1
      have q1 := (hall j (by omega)).2.1
      rw [Addr.add_lit] at q0 q1
      have hgd : ((List.range len).map fun i => (intOf (V0 i), intOf (V1 i))).getD j (0, 0) = (x, y) := by simp [hj, hx, hy, intOf]
      rw [hgd]
      refine ⟨b, off, rfl, Nat.zero_le _, World.block_lt_of_cell? W _ q0, ?_, ?_⟩
      · rw [q0, hx]
      · rw [← hy, ← q1, Nat.add_assoc]

theorem gPowType : (Tryd.prog.globals[0]?).map (·.type) = some 74 := by kernel_rfl
theorem cells74 : Tryd.prog.cellsOf 74 = 20 := by kernel_rfl
theorem laid_eq : (Rows.linesTextsRow.laid.filter fun x => x.1 == "internal/strconv.uint64pow10") = [("internal/strconv.uint64pow10", Rows.laid_internal_strconv_uint64pow10)] := rfl
theorem pow_data : (Rows.laid_internal_strconv_uint64pow10 : DataW Unit) = Lib.tabData .u64 Lib.pow10Tab := rfl
theorem tab_of_laid {W : World} (h : laidMetH Tryd.prog Rows.linesTextsRow.laid W) : Tab W := by
  have h1 := h.filter (fun x => x.1 == "internal/strconv.uint64pow10")
  rw [laid_eq, pow_data] at h1
  exact Lib.tabIs_of_head (rest := []) gPow gPowType Tryd.underlying74 Tryd.underlying67 (by kernel_rfl) cells74 h1
end Go.Proofs.YtdcfhdpbpfgohaaDoor

/-
  Arguments of the statements: what their reading says of their cells. No conditions.
-/
import Derived.Test.YtdkchihomllokaaRows
import Derived.Test.YtdkchihomllokaaBase
import Derived.WalkKit
import Derived.ProofKit
import Derived.OpenShut
import Derived.Deep.SlicePairs
import Derived.Deep.DeepHandedRow
import Derived.Lib.SmallJoins
namespace Go.Proofs.Ytdkchihomllokaa
open Go.ChangeShapes Go.WideShapes Go.ChangeAt Go.RowKit Go.Deep
set_option linter.unusedVariables false
set_option maxRecDepth 20000

theorem own : ownKnob Try.prog.godebug = none := by kernel_rfl
theorem laidOut : laidOutB Try.prog = true := by kernel_rfl
theorem cells24 : Try.prog.cellsOf 24 = 2 := by kernel_rfl
theorem cells54 : Try.prog.cellsOf 62 = 2 := by kernel_rfl
theorem cells3 : Try.prog.cellsOf 3 = 1 := by kernel_rfl

/-- a graph that came in: its value, and its edges, if there are at most 200 -/
def GraphIn (W : World) (v : Value) : Prop :=
  ∃ (V : Int) (a : Option Addr) (n cap : Nat) (es : List (Int × Int)), v = .agg #[.int .i64 V, .slice a n cap] ∧ n ≤ cap ∧ (a = none → n = 0 ∧ cap = 0) ∧ (200 < n ∨ Es 0 W a n es)
/-- ints that came in: their slice, and their numbers, if there are at most 1000 -/
def IntsIn (W : World) (v : Value) : Prop :=
  ∃ (a : Option Addr) (n cap : Nat) (xs : List Int), v = .slice a n cap ∧ n ≤ cap ∧ (a = none → n = 0 ∧ cap = 0) ∧ (1000 < n ∨ Ns W a n xs)

theorem graph_open {H : Type} {enc : TypeId × Value → H} {W : World} {base : Nat} {v : Value} {d : DataW H} {p : List MemPlace} (hv : Value.okWide Try.prog W .any base 24 v) (h : DataW.Trod enc Try.prog W 0 (fun _ => true) true 24 v d p) : GraphIn W v := by
  obtain ⟨c0, c1, y0, y1, m, rfl, rfl, rfl, hy0, hy1⟩ := Joins.open_agg2 Try.underlying24 (by kernel_rfl) cells24 hv h
  obtain ⟨V, e0, _, _⟩ := DataW.trod_int Try.underlying3 hy0
  simp only [List.cons.injEq, and_true] at e0
  subst e0
  rcases open_slice_pairs Try.underlying22 Try.underlying62 cells54 rfl rfl cells3 cells3 hy1 with ⟨hc, _⟩ | ⟨a, len, cap, m, k, V0, V1, D0, D1, P0, P1, hc, _, hl, hm, hmm, _, hall⟩
  · simp only [List.cons.injEq, and_true] at hc
    subst hc
    exact ⟨V, none, 0, 0, [], rfl, Nat.le_refl _, fun _ => ⟨rfl, rfl⟩, .inr ⟨rfl, by omega, fun k hk => by omega⟩⟩
  · simp only [List.cons.injEq, and_true] at hc
    subst hc
    simp only [if_true] at hmm
    subst hmm
    by_cases hbig : 200 < len
    · exact ⟨V, some a, len, _, [], rfl, hl, fun h => (by cases h), .inl hbig⟩
    · have hint : ∀ i, i < m → ∃ x y, V0 i = .int .i64 x ∧ V1 i = .int .i64 y := fun i hi => by
        obtain ⟨x, h1, _, _⟩ := DataW.trod_int Try.underlying3 (hall i hi).2.2.1
        obtain ⟨y, h2, _, _⟩ := DataW.trod_int Try.underlying3 (hall i hi).2.2.2
        simp only [List.cons.injEq, and_true] at h1 h2
        exact ⟨x, y, h1, h2⟩
      refine ⟨V, some a, len, _, (List.range len).map fun i => (intOf (V0 i), intOf (V1 i)), rfl, hl, fun h => (by cases h), .inr ⟨by simp, by omega, fun j hj => ?_⟩⟩
      obtain ⟨b, off, spot⟩ := a
      have hspot : spot = none := by simpa [Addr.add] using World.cell?_spot (hall 0 (by omega)).1
      subst hspot
      obtain ⟨x, y, hx, hy⟩ := hint j (by omega)
      have q0 := (hall j (by omega)).1
      have q1 := (hall j (by omega)).2.1
      rw [Addr.add_lit] at q0 q1
      have hgd : ((List.range len).map fun i => (intOf (V0 i), intOf (V1 i))).getD j (0, 0) = (x, y) := by simp [hj, hx, hy, intOf]
      rw [hgd]
      refine ⟨b, off, rfl, Nat.zero_le _, World.block_lt_of_cell? W _ q0, ?_, ?_⟩
      · rw [q0, hx]
      · rw [← hy, ← q1, Nat.add_assoc]

theorem ints_open {H : Type} {enc : TypeId × Value → H} {W : World} {base : Nat} {v : Value} {d : DataW H} {p : List MemPlace} (hv : Value.okWide Try.prog W .any base 34 v) (h : DataW.Trod enc Try.prog W 0 (fun _ => true) true 34 v d p) : IntsIn W v := by
  obtain ⟨a0, len0, cap0, rfl⟩ := okWide_slice Try.underlying34 hv
  obtain ⟨fuel, hf⟩ := h
  rcases open_ints Try.underlying34 Try.underlying3 (by kernel_rfl) hf with ⟨hcs, _⟩ | ⟨x, l, c, zs, hcs, _, hl, hm, hz, _, hcell, hwz⟩
  · simp [Value.cells] at hcs
    obtain ⟨rfl, rfl, rfl⟩ := hcs
    exact ⟨none, 0, 0, [], rfl, Nat.le_refl _, fun _ => ⟨rfl, rfl⟩, .inr (Ns.nil _ _)⟩
  · simp [Value.cells] at hcs
    obtain ⟨rfl, rfl, rfl⟩ := hcs
    simp only [if_true] at hz
    by_cases hbig : 1000 < len0
    · exact ⟨some x, len0, cap0, [], rfl, hl, fun h => (by cases h), .inl hbig⟩
    · refine ⟨some x, len0, cap0, zs.take len0, rfl, hl, fun h => (by cases h), .inr ⟨by simp; omega, by omega, fun k hk => ?_⟩⟩
      have q := hcell k (by omega)
      obtain ⟨b, off, spot⟩ := x
      have hspot : spot = none := by simpa [Addr.add] using World.cell?_spot (hcell 0 (by omega))
      subst hspot
      rw [Addr.add_lit] at q
      refine ⟨b, off, rfl, World.block_lt_of_cell? W _ q, ?_⟩
      rw [q]
      simp [List.getD, hk]
end Go.Proofs.Ytdkchihomllokaa

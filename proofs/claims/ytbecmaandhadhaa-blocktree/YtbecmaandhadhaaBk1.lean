/-
  The contract of block.Blocks, by those of the library's two sorts, which it takes as they are told here. Conditions: the graph's edges lie in memory as told.
-/
import Derived.Test.YtbecmaandhadhaaFm
import Derived.Test.YtbecmaandhadhaaEd
import Derived.Test.YtbecmaandhadhaaBs
import Derived.Test.YtbecmaandhadhaaBr
namespace Go.Proofs.Ytbecmaandhadhaa
open Go.RowKit
set_option linter.unusedVariables false
set_option maxRecDepth 20000

/-- slices.Sort at ints: the row is rising -/
def SortC : Prop := ∀ (w : World) (base : Nat) (v : Value) (xs : List Nat), w.ownsRow base 3 1 v xs.length (zcells (toIs xs)) → xs.length ≤ 1000 → xs ≠ [] →
  Calls Try.prog 25 #[v] w fun e w' => e = .returned (.tuple #[]) ∧ w'.ownsRow base 3 1 v xs.length (zcells (toIs (srt xs))) ∧ w.grownBy w' v.ownBlock
/-- rows of numbers, none empty, each in memory apart from a block -/
structure Hr (w : World) (gb n : Nat) (R : Nat → Value) (L : Nat → List Nat) : Prop where
  row : ∀ j, j < n → ∃ g c, R j = .slice (some ⟨g, 0, none⟩) (L j).length c ∧ g ≠ gb ∧ g < w.heap.size ∧ L j ≠ [] ∧ (∀ x ∈ L j, x < 1000) ∧ w.cell? ⟨g, 0, none⟩ = some (.int .i64 ((L j).getD 0 0 : Nat))
/-- slices.SortFunc at rows of ints, by their first ones -/
def SortFuncC : Prop := ∀ (w : World) (base gb n c : Nat) (R : Nat → Value) (L : Nat → List Nat), 0 < n → n ≤ 1000 → w.ownsRow base 29 1 (.slice (some ⟨gb, 0, none⟩) n c) n ((List.range n).map R) → Hr w gb n R L →
  Calls Try.prog 26 #[.slice (some ⟨gb, 0, none⟩) n c, .func (.func 27) #[] #[]] w fun e w' => e = .returned (.tuple #[]) ∧
    (∃ p : List Nat, p.Perm (List.range n) ∧ p.Pairwise (fun i j => (L i).getD 0 0 ≤ (L j).getD 0 0) ∧ w'.ownsRow base 29 1 (.slice (some ⟨gb, 0, none⟩) n c) n (p.map R)) ∧ w.grownBy w' (some gb)
/-- .. of none -/
def SortFuncN : Prop := ∀ (w : World) (a : Option Addr) (c : Nat), Calls Try.prog 26 #[.slice a 0 c, .func (.func 27) #[] #[]] w fun e w' => e = .returned (.tuple #[]) ∧ w' = w

/-- lists of numbers that were handed back, in memory from A on -/
def ListsTold (A : Nat) (w' : World) (L : List (List Nat)) (e : Ending) : Prop := ∃ a c, e = .returned (.slice a L.length c) ∧ (a = none → L.length = 0 ∧ c = 0) ∧ L.length ≤ c ∧ ∃ AK CK, ∀ W, w'.heap.size ≤ W.heap.size → Kp A w' W → RsU W a L.length (fun k => L.getD k []) AK CK

set_option maxHeartbeats 4000000 in
theorem blocks_bad (w : World) (V : Int) (a : Option Addr) (n cap : Nat) (zs : List (Int × Int)) {B : Nat} (h : Es B w a n zs) (hbad : ¬ Good V n zs ∨ ∃ j, j < n ∧ (zs.getD j (0, 0)).1 = (zs.getD j (0, 0)).2) :
    Calls Try.prog 9 #[.agg #[.int .i64 V, .slice a n cap]] w fun e w' => e = .returned (.slice none 0 0) ∧ Below w.heap.size w w' := by
  have HE := hide h
  have HBAD := hide hbad
  have hb0 : Below w.heap.size w (w.alloc (.cells #[.int .i64 V, .slice a n cap] 24)) := (Below.refl _ _).alloc (Nat.le_refl _) _
  have HB0 := hide hb0
  clear h hbad hb0
  go_enter Try.func9, Try.ntmps9
  go_wp2_with fail
  refine (may_any _ V a n cap zs ((unhide HE).below (unhide HB0))).mono ?_
  rintro e w1 ⟨⟨r, rfl, hr⟩, hb1⟩
  have d1 : w1.cell? ⟨w.heap.size, 1, none⟩ = some (.slice a n cap) := by rw [hb1.cell (p := ⟨w.heap.size, 1, none⟩) (by simp)]; simp
  have hbw1 := (unhide HB0).trans (hb1.mono (by simp))
  have HB1 := hide hbw1
  have HR := hide hr
  clear hb1 hbw1 hr
  cases r with
  | false =>
    go_wp2_with fail
    go_ret
    exact ⟨rfl, unhide HB1⟩
  | true =>
    go_wp2_with fail
    refine (containsLoop_any _ a n cap zs ((unhide HE).below (unhide HB1))).mono ?_
    rintro e w2 ⟨⟨r2, rfl, hr2⟩, hb2⟩
    have hr2t : r2 = true := hr2.2 (by
      rcases unhide HBAD with h | h
      · exact absurd (by have := unhide HR; simpa using this) h
      · exact h)
    subst hr2t
    have HB2 := hide ((unhide HB1).trans (hb2.mono (unhide HB1).size))
    clear hb2 hr2
    go_wp2_with fail
    go_ret
    exact ⟨rfl, unhide HB2⟩
end Go.Proofs.Ytbecmaandhadhaa


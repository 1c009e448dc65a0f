/-
  The document's example, and the contract of speaks. No conditions.
-/
import Derived.Test.YtmklngabfdnclaaDoorFc
namespace Go.Proofs.YtmklngabfdnclaaDoor
open Go.RowKit
set_option linter.unusedVariables false
set_option maxRecDepth 20000

def exN (j : Nat) : Nat := 1 - j
theorem ex_rot : IsRot 2 1 [((0 : Int), (1 : Int))] (rowsI [[0], [1]]) := by
  refine ⟨⟨by decide, by decide, by decide, ?_⟩, by decide, ?_, by decide, by decide⟩
  · intro k hk
    have : k = 0 := by omega
    subst this
    exact ⟨by decide, by decide, by decide, by decide⟩
  · intro x hx h hh
    have hx2 : x = 0 ∨ x = 1 := by simp [rowsI] at hx; omega
    rcases hx2 with rfl | rfl
    · simp [rowsI, toIs] at hh; subst hh; decide
    · simp [rowsI, toIs] at hh; subst hh; decide
theorem ex_behind : Behind [[0], [1]] exN := by
  intro x hx i hi
  have hx2 : x = 0 ∨ x = 1 := by simp at hx; omega
  rcases hx2 with rfl | rfl <;> (simp at hi; subst hi; decide)
theorem ex_pm : Pm exN (2 * 1) := ⟨by unfold exN; omega, by unfold exN; omega⟩
theorem ex_lt : ∀ x, x < ([[0], [1]] : List (List Nat)).length → ∀ i, i < (([[0], [1]] : List (List Nat)).getD x []).length → (([[0], [1]] : List (List Nat)).getD x []).getD i 0 < 2 * 1 := by
  intro x hx i hi
  have hx2 : x = 0 ∨ x = 1 := by simp at hx; omega
  rcases hx2 with rfl | rfl <;> (simp at hi; subst hi; decide)
theorem ex_cov : ∀ j, j < 2 * 1 → ∃ x i, x < ([[0], [1]] : List (List Nat)).length ∧ i < (([[0], [1]] : List (List Nat)).getD x []).length ∧ oth ((([[0], [1]] : List (List Nat)).getD x []).getD i 0) = j := by
  intro j hj
  have hj2 : j = 0 ∨ j = 1 := by omega
  rcases hj2 with rfl | rfl
  · exact ⟨1, 0, by decide, by decide, by decide⟩
  · exact ⟨0, 0, by decide, by decide, by decide⟩
theorem ex_faces : facesF exN (2 * 1) (2 * 1) = [[0, 1]] := by decide

def exW (w : World) : World := ((((w.alloc (.cells #[.int .i64 0, .int .i64 1] 44)).alloc (.cells #[.int .i64 2, .slice (some ⟨w.heap.size, 0, none⟩) 1 1] 24)).alloc (.cells #[.int .i64 0] 3)).alloc (.cells #[.int .i64 1] 3)).alloc
  (.cells #[.slice (some ⟨w.heap.size + 1 + 1, 0, none⟩) 1 1, .slice (some ⟨w.heap.size + 1 + 1 + 1, 0, none⟩) 1 1] 36)
theorem exW_size (w : World) : (exW w).heap.size = w.heap.size + 5 := by simp [exW]
theorem exW_bel (w : World) : Below w.heap.size w (exW w) := by
  unfold exW
  exact bto (bto (bto (bto (b_al _) (b_al _)) (b_al _)) (b_al _)) (b_al _)
theorem exW_es (w : World) : Es 0 (exW w) (some ⟨w.heap.size, 0, none⟩) 1 [((0 : Int), (1 : Int))] := by
  refine ⟨rfl, by omega, fun k hk => ⟨w.heap.size, 0, rfl, by omega, by rw [exW_size]; omega, ?_⟩⟩
  have : k = 0 := by omega
  subst this
  have h1 : (exW w).heap[w.heap.size]? = some (.cells #[.int .i64 0, .int .i64 1] 44 (0, 0)) := by
    unfold exW
    rw [Below.heap_alloc _ _ _ (by first | (simp; done) | (simp; omega)), Below.heap_alloc _ _ _ (by first | (simp; done) | (simp; omega)), Below.heap_alloc _ _ _ (by first | (simp; done) | (simp; omega)), Below.heap_alloc _ _ _ (by first | (simp; done) | (simp; omega))]
    exact (MapKept.heap_alloc w _).1
  simp [World.cell?, h1]
theorem exW_rr (w : World) : Rr (exW w) (some ⟨w.heap.size + 1 + 1 + 1 + 1, 0, none⟩) 2 (rowsI [[0], [1]]) := by
  have h4 : (exW w).heap[w.heap.size + 1 + 1 + 1 + 1]? = some (.cells #[.slice (some ⟨w.heap.size + 1 + 1, 0, none⟩) 1 1, .slice (some ⟨w.heap.size + 1 + 1 + 1, 0, none⟩) 1 1] 36 (0, 0)) := by
    unfold exW
    have := (MapKept.heap_alloc ((((w.alloc (.cells #[.int .i64 0, .int .i64 1] 44)).alloc (.cells #[.int .i64 2, .slice (some ⟨w.heap.size, 0, none⟩) 1 1] 24)).alloc (.cells #[.int .i64 0] 3)).alloc (.cells #[.int .i64 1] 3)) (.cells #[.slice (some ⟨w.heap.size + 1 + 1, 0, none⟩) 1 1, .slice (some ⟨w.heap.size + 1 + 1 + 1, 0, none⟩) 1 1] 36)).1
    simpa using this
  have h2 : (exW w).heap[w.heap.size + 1 + 1]? = some (.cells #[.int .i64 0] 3 (0, 0)) := by
    unfold exW
    rw [Below.heap_alloc _ _ _ (by first | (simp; done) | (simp; omega)), Below.heap_alloc _ _ _ (by first | (simp; done) | (simp; omega))]
    have := (MapKept.heap_alloc ((w.alloc (.cells #[.int .i64 0, .int .i64 1] 44)).alloc (.cells #[.int .i64 2, .slice (some ⟨w.heap.size, 0, none⟩) 1 1] 24)) (.cells #[.int .i64 0] 3)).1
    simpa using this
  have h3 : (exW w).heap[w.heap.size + 1 + 1 + 1]? = some (.cells #[.int .i64 1] 3 (0, 0)) := by
    unfold exW
    rw [Below.heap_alloc _ _ _ (by first | (simp; done) | (simp; omega))]
    have := (MapKept.heap_alloc (((w.alloc (.cells #[.int .i64 0, .int .i64 1] 44)).alloc (.cells #[.int .i64 2, .slice (some ⟨w.heap.size, 0, none⟩) 1 1] 24)).alloc (.cells #[.int .i64 0] 3)) (.cells #[.int .i64 1] 3)).1
    simpa using this
  refine ⟨rfl, by omega, fun k hk => ?_⟩
  have hk2 : k = 0 ∨ k = 1 := by omega
  rcases hk2 with rfl | rfl
  · refine ⟨_, 0, some ⟨w.heap.size + 1 + 1, 0, none⟩, 1, rfl, by rw [exW_size]; omega, by simp [World.cell?, h4, rowsI, toIs], by simp [rowsI, toIs], rfl, by simp [rowsI, toIs], fun j hj => ?_⟩
    have : j = 0 := by simp [rowsI, toIs] at hj; omega
    subst this
    exact ⟨_, 0, rfl, by rw [exW_size]; omega, by simp [World.cell?, h2, rowsI, toIs]⟩
  · refine ⟨_, 0, some ⟨w.heap.size + 1 + 1 + 1, 0, none⟩, 1, rfl, by rw [exW_size]; omega, by simp [World.cell?, h4, rowsI, toIs], by simp [rowsI, toIs], rfl, by simp [rowsI, toIs], fun j hj => ?_⟩
    have : j = 0 := by simp [rowsI, toIs] at hj; omega
    subst this
    exact ⟨_, 0, rfl, by rw [exW_size]; omega, by simp [World.cell?, h3, rowsI, toIs]⟩

set_option maxHeartbeats 4000000 in
theorem speaks_any (w : World) : Calls Tryd.prog 6 #[] w fun e w' => e = .returned (.bool true) ∧ Below w.heap.size w w' := by
  have HC := hide (fun (u : World) (ga ra : Option Addr) (hE : Es 0 u ga 1 [((0 : Int), (1 : Int))]) (hR : Rr u ra 2 (rowsI [[0], [1]])) => show Calls Tryd.prog 8 #[.agg #[.int .i64 2, .slice ga 1 1], .slice ra 2 2] u fun e w' => (∃ va vc la lc, e = .returned (.slice va 1 vc) ∧ ∃ g off, va = some ⟨g, off, none⟩ ∧ g < w'.heap.size ∧ w'.cell? ⟨g, off, none⟩ = some (.slice la 2 lc)) ∧ Below u.heap.size u w' from by
    refine (faces_good u 2 ga 1 1 _ hE ra 2 2 [[0], [1]] hR ex_rot exN ex_behind ex_pm ex_lt ex_cov).mono ?_
    rintro e w' ⟨⟨va, vc, rfl, hvc, hr⟩, hb⟩
    rw [ex_faces] at hr ⊢
    obtain ⟨g, off, la, lc, ha, hg, c, _, _⟩ := hr.2.2 0 (by decide)
    exact ⟨⟨va, vc, la, lc, rfl, g, off, ha, hg, c⟩, hb⟩)
  go_enter Tryd.func6, Tryd.ntmps6
  go_wp2_with fail
  refine (unhide HC (exW w) _ _ (exW_es w) (exW_rr w)).mono ?_
  rintro e w1 ⟨⟨va, vc, la, lc, rfl, g, off, rfl, hg, d0⟩, hb⟩
  have HB := hide (bto (exW_bel w) hb)
  clear hb
  go_wp2_with fail
  go_ret
  exact ⟨rfl, unhide HB⟩
end Go.Proofs.YtmklngabfdnclaaDoor


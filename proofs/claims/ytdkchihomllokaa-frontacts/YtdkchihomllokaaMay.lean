/-
  The contract of graph.May: whether a graph may be. Conditions: the graph's edges lie in memory as told.
-/
import Derived.Test.YtdkchihomllokaaSm
namespace Go.Proofs.Ytdkchihomllokaa
open Go.RowKit
set_option linter.unusedVariables false
set_option maxRecDepth 20000

theorem inB_iff (V x y : Int) : OkE V (x, y) ↔ inB x V = true ∧ inB y V = true := by
  unfold OkE inB
  simp
  omega

set_option maxHeartbeats 2000000 in
theorem may_any (w : World) (V : Int) (a : Option Addr) (n cap : Nat) (es : List (Int × Int)) {B : Nat} (h : Es B w a n es) :
    Calls Try.prog 44 #[.agg #[.int .i64 V, .slice a n cap]] w fun e w' => Told (Good V n es) e ∧ Below w.heap.size w w' := by
  obtain ⟨hl, hn, hc⟩ := h
  have HC := hide hc
  have HL := hide hl
  clear hc hl
  by_cases h1 : 1 ≤ V
  case neg =>
    go_enter Try.func44, Try.ntmps44
    go_wp2
    go_ret
    exact ⟨.no (by unfold Good; omega), (Below.refl _ _).alloc (Nat.le_refl _) _⟩
  by_cases h2 : V ≤ 64
  case neg =>
    go_enter Try.func44, Try.ntmps44
    go_wp2
    go_ret
    exact ⟨.no (by unfold Good; omega), (Below.refl _ _).alloc (Nat.le_refl _) _⟩
  by_cases h3 : n ≤ 128
  case neg =>
    have h3' : (128 : Int) < (n : Int) := by omega
    go_enter Try.func44, Try.ntmps44
    go_wp2
    go_ret
    exact ⟨.no (by unfold Good; omega), (Below.refl _ _).alloc (Nat.le_refl _) _⟩
  have h3' : (n : Int) ≤ 128 := by omega
  go_enter Try.func44, Try.ntmps44
  go_wp2
  go_loopw [22] (fun i w' => ∃ k : Nat, i = .int .i64 k ∧ k ≤ n ∧ (∀ j, j < k → OkE V (es.getD j (0, 0))) ∧ Below (w.heap.size + 1) (w.alloc (Obj.cells #[Value.int IntKind.i64 V, Value.slice a n cap] 24)) w') (fun i w' => n - (intOf i).toNat)
  case atStart => exact ⟨0, rfl, by omega, fun j h => by omega, Below.refl _ _⟩
  case round =>
    obtain ⟨k, rfl, hk, hall, hb⟩ := hrel
    have HA := hide hall
    clear hall
    have d2 : wr.cell? ⟨w.heap.size, 0, none⟩ = some (.int .i64 V) := by rw [hb.cell (p := ⟨w.heap.size, 0, none⟩) (Nat.lt_succ_self _)]; simp
    have hz : w.heap.size < wr.heap.size := by have := hb.size; simp at this; omega
    by_cases hlt : k < n
    · obtain ⟨g, off, ha, _, hg, c0, c1⟩ := unhide HC k hlt
      subst ha
      obtain ⟨ed, hed⟩ : ∃ x, es.getD k (0, 0) = x := ⟨_, rfl⟩
      rw [hed] at c0 c1
      have HED := hide hed
      clear hed
      obtain ⟨x, y⟩ := ed
      simp only at c0 c1
      have d0 : wr.cell? ⟨g, off + k * 2, none⟩ = some (.int .i64 x) := by rw [cell_box hb (p := ⟨g, off + k * 2, none⟩) hg]; exact c0
      have d1 : wr.cell? ⟨g, off + k * 2 + 1, none⟩ = some (.int .i64 y) := by rw [cell_box hb (p := ⟨g, off + k * 2 + 1, none⟩) hg]; exact c1
      have hz2 : g < wr.heap.size := by omega
      have HB2 := hide hb
      have hbad : ¬ OkE V (x, y) → ¬ Good V n es := fun hno hG => hno (by have := hG.2.2.2 k hlt; rw [unhide HED] at this; exact this)
      have HBAD := hide hbad
      clear hb c0 c1 hbad
      have hlt2 : (k : Int) < (n : Int) := by omega
      cases hx : inB x V with
      | false =>
        go_wp2_with (go_at_call 62; refine (within_any _ _ _).mono ?_; rintro e w' ⟨rfl, rfl⟩)
        go_ret
        exact ⟨.no (unhide HBAD (by rw [inB_iff, hx]; simp)), (((Below.refl _ _).alloc (Nat.le_refl _) _).trans ((unhide HB2).mono (by omega))).alloc (by omega) _⟩
      | true =>
        cases hy : inB y V with
        | false =>
          go_wp2_with (go_at_call 62; refine (within_any _ _ _).mono ?_; rintro e w' ⟨rfl, rfl⟩)
          go_ret
          exact ⟨.no (unhide HBAD (by rw [inB_iff, hy]; simp)), (((Below.refl _ _).alloc (Nat.le_refl _) _).trans ((unhide HB2).mono (by omega))).alloc (by omega) _⟩
        | true =>
          go_wp2_with (go_at_call 62; refine (within_any _ _ _).mono ?_; rintro e w' ⟨rfl, rfl⟩)
          go_roundw
          case rel =>
            refine ⟨k + 1, by go_num, by omega, fun j hj => ?_, (unhide HB2).alloc (by omega) _⟩
            by_cases hjk : j < k
            · exact unhide HA j hjk
            · obtain rfl : j = k := by omega
              rw [unhide HED, inB_iff]
              exact ⟨hx, hy⟩
          case measure => simp [intOf]; omega
    · obtain rfl : k = n := by omega
      have HB2 := hide hb
      clear hb
      go_wp2
      go_ret
      exact ⟨.yes ⟨h1, h2, h3, unhide HA⟩, ((Below.refl _ _).alloc (Nat.le_refl _) _).trans ((unhide HB2).mono (by omega))⟩
end Go.Proofs.Ytdkchihomllokaa

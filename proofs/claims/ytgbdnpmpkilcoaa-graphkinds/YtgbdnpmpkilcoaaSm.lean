/-
  The contracts of within, isLoop, of both May, and of the document's SameInts and Same where they are one. Conditions: what they are asked of lies in memory as told.
-/
import Derived.Test.YtgbdnpmpkilcoaaBase
namespace Go.Proofs.Ytgbdnpmpkilcoaa
open Go.RowKit
set_option linter.unusedVariables false

def inB (x n : Int) : Bool := decide (0 ≤ x ∧ x < n)

set_option maxHeartbeats 1000000 in
theorem within_any (w : World) (x n : Int) : Calls Try.prog 36 #[.int .i64 x, .int .i64 n] w fun e w' => e = .returned (.bool (inB x n)) ∧ w' = w := by
  by_cases h : 0 ≤ x
  · go_enter Try.func36, Try.ntmps36
    go_wp2
    go_ret
    exact ⟨ret_b (by simp [inB, h]), rfl⟩
  · have d1 : decide (0 ≤ x) = false := decide_eq_false h
    go_enter Try.func36, Try.ntmps36
    go_wp2
    go_ret
    exact ⟨ret_b (by simp [inB]; omega), rfl⟩

set_option maxHeartbeats 1000000 in
theorem isLoop_any (w : World) (x y : Int) : Calls Try.prog 31 #[.agg #[.int .i64 x, .int .i64 y]] w fun e w' => e = .returned (.bool (x == y)) ∧ Below w.heap.size w w' := by
  go_enter Try.func31, Try.ntmps31
  go_wp2
  go_ret
  exact ⟨rfl, (Below.refl _ _).alloc (Nat.le_refl _) _⟩

set_option maxHeartbeats 1000000 in
theorem same_yes (w : World) (a1 a2 : Option Addr) (n c1 c2 : Nat) (xs : List Int) (h1 : Ns w a1 n xs) (h2 : Ns w a2 n xs) :
    Calls Try.prog 14 #[.slice a1 n c1, .slice a2 n c2] w fun e w' => e = .returned (.bool true) ∧ ∃ m, w' = w.drewN m := by
  obtain ⟨hl, hn, hc1⟩ := h1
  obtain ⟨_, _, hc2⟩ := h2
  have HC1 := hide hc1
  have HC2 := hide hc2
  have HL := hide hl
  clear hc1 hc2 hl
  go_enter Try.func14, Try.ntmps14
  go_wp2
  go_loopw [5] (fun i wr => ∃ k m : Nat, i = .int .i64 k ∧ k ≤ n ∧ wr = w.drewN m) (fun i wr => n - (intOf i).toNat)
  case atStart => exact ⟨0, 0, rfl, by omega, rfl⟩
  case round =>
    obtain ⟨k, m, rfl, hk, rfl⟩ := hrel
    by_cases hlt : k < n
    · obtain ⟨g, off, ha, hg, d0⟩ := unhide HC1 k hlt
      obtain ⟨g2, off2, ha2, hg2, d2⟩ := unhide HC2 k hlt
      subst ha
      subst ha2
      generalize xs.getD k 0 = x at *
      have hlt2 : (k : Int) < (n : Int) := by omega
      go_wp2
      go_quiet (fail)
      go_wp2
      go_roundw
      case rel => exact ⟨k + 1, _, by go_num, by omega, rfl⟩
      case measure => simp [intOf]; omega
    · go_wp2
      go_ret
      exact ⟨rfl, _, rfl⟩

set_option maxHeartbeats 1000000 in
theorem graph_same (w : World) (V : Int) (a1 a2 : Option Addr) (n c1 c2 : Nat) (es : List (Int × Int)) {B1 B2 : Nat} (h1 : Es B1 w a1 n es) (h2 : Es B2 w a2 n es) :
    Calls Try.prog 17 #[.agg #[.int .i64 V, .slice a1 n c1], .agg #[.int .i64 V, .slice a2 n c2]] w fun e w' => e = .returned (.bool true) ∧ Below w.heap.size w w' := by
  obtain ⟨hl, hn, hc1⟩ := h1
  obtain ⟨_, _, hc2⟩ := h2
  have HC1 := hide hc1
  have HC2 := hide hc2
  have HL := hide hl
  clear hc1 hc2 hl
  go_enter Try.func17, Try.ntmps17
  go_wp2
  go_loopw [5] (fun i wr => ∃ k m : Nat, i = .int .i64 k ∧ k ≤ n ∧ wr = ((w.alloc (.cells #[.int .i64 V, .slice a1 n c1] 24)).alloc (.cells #[.int .i64 V, .slice a2 n c2] 24)).drewN m) (fun i wr => n - (intOf i).toNat)
  case atStart => exact ⟨0, 0, rfl, by omega, rfl⟩
  case round =>
    obtain ⟨k, m, rfl, hk, rfl⟩ := hrel
    by_cases hlt : k < n
    · obtain ⟨g, off, ha, _, hg, d0, d1⟩ := unhide HC1 k hlt
      obtain ⟨g2, off2, ha2, _, hg2, d2, d3⟩ := unhide HC2 k hlt
      subst ha
      subst ha2
      generalize es.getD k (0, 0) = ed at *
      obtain ⟨x, y⟩ := ed
      simp only at d0 d1 d2 d3
      have hlt2 : (k : Int) < (n : Int) := by omega
      have e0 : ((w.alloc (.cells #[.int .i64 V, .slice (some ⟨g, off, none⟩) n c1] 24)).alloc (.cells #[.int .i64 V, .slice (some ⟨g2, off2, none⟩) n c2] 24)).cell? ⟨g, off + k * 2, none⟩ = some (.int .i64 x) := by
        rw [cell_old _ _ _ (by simp; omega), cell_old _ _ _ hg]; exact d0
      have e1 : ((w.alloc (.cells #[.int .i64 V, .slice (some ⟨g, off, none⟩) n c1] 24)).alloc (.cells #[.int .i64 V, .slice (some ⟨g2, off2, none⟩) n c2] 24)).cell? ⟨g, off + k * 2 + 1, none⟩ = some (.int .i64 y) := by
        rw [cell_old _ _ _ (by simp; omega), cell_old _ _ _ hg]; exact d1
      have e2 : ((w.alloc (.cells #[.int .i64 V, .slice (some ⟨g, off, none⟩) n c1] 24)).alloc (.cells #[.int .i64 V, .slice (some ⟨g2, off2, none⟩) n c2] 24)).cell? ⟨g2, off2 + k * 2, none⟩ = some (.int .i64 x) := by
        rw [cell_old _ _ _ (by simp; omega), cell_old _ _ _ hg2]; exact d2
      have e3 : ((w.alloc (.cells #[.int .i64 V, .slice (some ⟨g, off, none⟩) n c1] 24)).alloc (.cells #[.int .i64 V, .slice (some ⟨g2, off2, none⟩) n c2] 24)).cell? ⟨g2, off2 + k * 2 + 1, none⟩ = some (.int .i64 y) := by
        rw [cell_old _ _ _ (by simp; omega), cell_old _ _ _ hg2]; exact d3
      clear d0 d1 d2 d3
      go_wp2
      go_quiet (fail)
      go_wp2
      go_roundw
      case rel => exact ⟨k + 1, _, by go_num, by omega, rfl⟩
      case measure => simp [intOf]; omega
    · go_wp2
      go_ret
      exact ⟨rfl, (((Below.refl _ _).alloc (Nat.le_refl _) _).alloc (by simp) _).trans ⟨rfl, rfl, rfl, Nat.le_refl _, fun _ _ => rfl⟩⟩

end Go.Proofs.Ytgbdnpmpkilcoaa

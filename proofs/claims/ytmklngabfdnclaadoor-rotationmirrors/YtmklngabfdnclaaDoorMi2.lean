/-
  A rotation whose lists are turned round is one; its faces are as many, of the same sizes, and its handles as many. No conditions beyond each theorem's own.
-/
import Derived.Test.YtmklngabfdnclaaDoorSw2
import Derived.Test.YtmklngabfdnclaaDoorMi
namespace Go.Proofs.YtmklngabfdnclaaDoor.pt
open Go.RowKit
set_option linter.unusedVariables false
set_option maxRecDepth 20000

theorem rows_rev (q : List (List Nat)) (x : Nat) : (q.map List.reverse).getD x [] = (q.getD x []).reverse := by
  by_cases hx : x < q.length
  · simp [List.getD, hx]
  · simp [List.getD, hx]
theorem Ro.rev {V : Nat} {es : List (Nat × Nat)} {q : List (List Nat)} (r : Ro V es q) : Ro V es (q.map List.reverse) := by
  refine ⟨by simp [r.len], r.ends, ?_, ?_, ?_, ?_⟩
  · intro y hy h hm
    rw [rows_rev, List.mem_reverse] at hm
    exact r.lt y hy h hm
  · intro y hy h hm
    rw [rows_rev, List.mem_reverse] at hm
    exact r.st y hy h hm
  · intro y hy
    rw [rows_rev]
    rw [List.nodup_iff_pairwise_ne, List.pairwise_reverse]
    exact List.Pairwise.imp (fun h e => h e.symm) (List.nodup_iff_pairwise_ne.1 (r.one y hy))
  · intro h hh
    obtain ⟨y, hy, hm⟩ := r.all h hh
    exact ⟨y, hy, by rw [rows_rev, List.mem_reverse]; exact hm⟩
theorem rev_emp (q : List (List Nat)) (x : Nat) : (q.map List.reverse).getD x [] = [] ↔ q.getD x [] = [] := by
  rw [rows_rev]
  simp
/-- as many faces of every kind that hangs on the size alone -/
theorem Ro.mir {V : Nat} {es : List (Nat × Nat)} {q : List (List Nat)} (r : Ro V es q) {N M : Nat → Nat} (hN : Behind q N) (hM : Behind (q.map List.reverse) M) (P : Nat → Bool) : cycP P N (2 * es.length) = cycP P M (2 * es.length) ∧ cyc N (2 * es.length) = cyc M (2 * es.length) := by
  have hm : Mir N M (2 * es.length) := mir_rev hN hM r.cov
  exact ⟨hm.cycP (fun j hj => oth_lt hj) (nx_pm r hN) (nx_pm r.rev hM) P, hm.cyc (fun j hj => oth_lt hj) (nx_pm r hN) (nx_pm r.rev hM)⟩
end Go.Proofs.YtmklngabfdnclaaDoor.pt


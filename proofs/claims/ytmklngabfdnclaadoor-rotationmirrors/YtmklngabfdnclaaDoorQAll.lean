/-
  The contract of Set.All: the vertices of a set, rising. Conditions: the table of math/bits holds what its initialiser lays.
-/
import Derived.Test.YtmklngabfdnclaaDoorQOf
namespace Go.Proofs.YtmklngabfdnclaaDoor.pt
open Go.RowKit
set_option linter.unusedVariables false

/-- the vertices of a set below m, rising -/
def lowS (s m : Nat) : List Nat := (List.range m).filter fun j => s.testBit j
def allS (s : Nat) : List Nat := lowS s 64
theorem lowS_len (s m : Nat) : (lowS s m).length ≤ m := by
  have := List.length_filter_le (fun j => s.testBit j) (List.range m)
  simpa [lowS] using this
theorem lowS_mem (s m j : Nat) : j ∈ lowS s m ↔ j < m ∧ s.testBit j = true := by simp [lowS]
theorem lowS_gap (s m k : Nat) (hmk : m ≤ k) (hz : ∀ j, m ≤ j → j < k → s.testBit j = false) : lowS s k = lowS s m := by
  obtain ⟨d, rfl⟩ : ∃ d, k = m + d := ⟨k - m, by omega⟩
  induction d with
  | zero => rfl
  | succ d ih =>
    have h1 := ih (by omega) (fun j h1 h2 => hz j h1 (by omega))
    have h2 := hz (m + d) (by omega) (by omega)
    rw [← h1]
    unfold lowS
    rw [show m + (d + 1) = m + d + 1 by omega, List.range_succ, List.filter_append]
    simp [h2]
theorem lowS_step (s m k : Nat) (hmk : m ≤ k) (hz : ∀ j, m ≤ j → j < k → s.testBit j = false) (hk : s.testBit k = true) : lowS s (k + 1) = lowS s m ++ [k] := by
  rw [← lowS_gap s m k hmk hz]
  unfold lowS
  rw [List.range_succ, List.filter_append]
  simp [hk]
theorem dif_less {t k : Nat} (hk : k < 64) (hb : t.testBit k = true) : dif t (bitI (k : Int)) < t := by
  have h1 : dif t (bitI (k : Int)) ≤ t := Nat.and_le_left
  have h2 : dif t (bitI (k : Int)) ≠ t := by
    intro h
    have := testBit_dif t (bitI (k : Int)) k (bitI_lt _)
    rw [h, hb, testBit_bitI] at this
    simp [hk] at this
  omega
theorem one_int (k : Nat) : ∀ u ∈ [Value.int .i64 (k : Int)], u.oneCell' = true := by
  intro u hu
  simp only [List.mem_singleton] at hu
  subst hu
  rfl

end Go.Proofs.YtmklngabfdnclaaDoor.pt

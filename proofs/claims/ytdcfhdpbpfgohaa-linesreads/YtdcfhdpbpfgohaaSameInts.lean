/-
  The contract of SameInts at two rows of the same numbers: true. Conditions: both rows lie in memory as told.
-/
import Derived.Test.YtdcfhdpbpfgohaaNumbers
namespace Go.Proofs.Ytdcfhdpbpfgohaa
open Go.RowKit
set_option linter.unusedVariables false

/-- a slice of ints: its address, its length, its numbers -/
def Ns (w : World) (a : Option Addr) (n : Nat) (xs : List Int) : Prop :=
  xs.length = n ∧ n ≤ 140737488355328 ∧ ∀ k, k < n → ∃ g off, a = some ⟨g, off, none⟩ ∧ g < w.heap.size ∧ w.cell? ⟨g, off + k, none⟩ = some (.int .i64 (xs.getD k 0))

theorem Ns.below {w w' : World} {a : Option Addr} {n : Nat} {xs : List Int} (h : Ns w a n xs) (hb : Below w.heap.size w w') : Ns w' a n xs := by
  obtain ⟨h1, h2, h3⟩ := h
  refine ⟨h1, h2, fun k hk => ?_⟩
  obtain ⟨g, off, ha, hg, c0⟩ := h3 k hk
  exact ⟨g, off, ha, Nat.lt_of_lt_of_le hg hb.size, by rw [hb.cell (p := ⟨g, off + k, none⟩) hg]; exact c0⟩

def toIs (xs : List Nat) : List Int := xs.map fun (x : Nat) => (x : Int)
theorem ns_of_owns {w : World} {base : Nat} {v : Value} {xs : List Nat} (h : w.ownsRow base 3 1 v xs.length (icells xs)) (hn : xs.length ≤ 140737488355328) :
    ∃ a cap, v = .slice a xs.length cap ∧ Ns w a xs.length (toIs xs) := by
  rcases h.2 with ⟨hv, h0⟩ | ⟨g, cap, cur, rfl, hb, hg, h1, h2, h3, h4⟩
  · exact ⟨none, 0, by rw [hv, h0], by simp [toIs], hn, fun k hk => by omega⟩
  · refine ⟨_, cap, rfl, by simp [toIs], hn, fun k hk => ⟨g, 0, rfl, (Array.getElem?_eq_some_iff.1 hg).1, ?_⟩⟩
    rw [Nat.zero_add, h.cellAt k (by omega)]
    simp [icells, toIs, hk]

set_option maxHeartbeats 1000000 in
theorem same_yes (w : World) (a1 a2 : Option Addr) (n c1 c2 : Nat) (xs : List Int) (h1 : Ns w a1 n xs) (h2 : Ns w a2 n xs) :
    Calls Try.prog 12 #[.slice a1 n c1, .slice a2 n c2] w fun e w' => e = .returned (.bool true) ∧ ∃ m, w' = w.drewN m := by
  obtain ⟨hl, hn, hc1⟩ := h1
  obtain ⟨_, _, hc2⟩ := h2
  have HC1 := hide hc1
  have HC2 := hide hc2
  have HL := hide hl
  clear hc1 hc2 hl
  go_enter Try.func12, Try.ntmps12
  go_wp2
  go_loopw [5] (fun i wr => ∃ k m : Nat, i = .int .i64 k ∧ k ≤ n ∧ wr = w.drewN m) (fun i wr => n - (intOf i).toNat)
  case atStart => exact ⟨0, 0, rfl, by omega, rfl⟩
  case round =>
    obtain ⟨k, m, rfl, hk, rfl⟩ := hrel
    by_cases hlt : k < n
    · obtain ⟨g, off, ha, hg, d0⟩ := unhide HC1 k hlt
      obtain ⟨g2, off2, ha2, hg2, d2⟩ := unhide HC2 k hlt
      subst ha
      subst ha2
      generalize xs.getD k 0 = x at *
      have hlt2 : (k : Int) < (n : Int) := by omega
      go_wp2
      go_quiet (fail)
      go_wp2
      go_roundw
      case rel => exact ⟨k + 1, _, by go_num, by omega, rfl⟩
      case measure => simp [intOf]; omega
    · go_wp2
      go_ret
      exact ⟨rfl, _, rfl⟩
end Go.Proofs.Ytdcfhdpbpfgohaa

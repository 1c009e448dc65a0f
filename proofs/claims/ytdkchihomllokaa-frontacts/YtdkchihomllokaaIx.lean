/-
  The contracts of slices.Index and slices.Contains at ints, and of the document's has: the first place of a number in a row, or -1. Conditions: the row lies in memory as told.
-/
import Derived.Test.YtdkchihomllokaaBase
namespace Go.Proofs.Ytdkchihomllokaa
open Go.RowKit
set_option linter.unusedVariables false
set_option maxRecDepth 20000

/-- the first place of a number, or -1 -/
def ix (xs : List Int) (x : Int) : Int := match xs.findIdx? (· == x) with | some i => (i : Int) | none => -1
theorem ix_hit {xs : List Int} {x : Int} (m : Nat) (hm : m < xs.length) (h : xs.getD m 0 = x) (hb : ∀ j, j < m → xs.getD j 0 ≠ x) : ix xs x = (m : Int) := by
  have : xs.findIdx? (· == x) = some m := by
    rw [List.findIdx?_eq_some_iff_getElem]
    refine ⟨hm, by simp [List.getD, hm] at h; simp [h], fun j hj => ?_⟩
    have := hb j hj
    simp [List.getD, show j < xs.length by omega] at this
    simpa using this
  simp [ix, this]
theorem ix_miss {xs : List Int} {x : Int} (hb : ∀ j, j < xs.length → xs.getD j 0 ≠ x) : ix xs x = -1 := by
  have : xs.findIdx? (· == x) = none := by
    rw [List.findIdx?_eq_none_iff]
    intro y hy
    obtain ⟨j, hj, rfl⟩ := List.mem_iff_getElem.1 hy
    have := hb j hj
    simp [List.getD, hj] at this
    simpa using this
  simp [ix, this]
theorem ix_cases (xs : List Int) (x : Int) : (ix xs x = -1 ∧ x ∉ xs) ∨ ∃ m : Nat, ix xs x = m ∧ m < xs.length ∧ xs.getD m 0 = x ∧ ∀ j, j < m → xs.getD j 0 ≠ x := by
  cases h : xs.findIdx? (· == x) with
  | none =>
    left
    refine ⟨by simp [ix, h], fun hx => ?_⟩
    have := List.findIdx?_eq_none_iff.1 h x hx
    simp at this
  | some m =>
    right
    obtain ⟨hm, h1, h2⟩ := List.findIdx?_eq_some_iff_getElem.1 h
    refine ⟨m, by simp [ix, h], hm, by simp [List.getD, hm]; simpa using h1, fun j hj => ?_⟩
    have := h2 j hj
    simp [List.getD, show j < xs.length by omega]
    simpa using this
theorem ix_nonneg (xs : List Int) (x : Int) : 0 ≤ ix xs x ↔ x ∈ xs := by
  rcases ix_cases xs x with ⟨h, hx⟩ | ⟨m, h, hm, h1, h2⟩
  · rw [h]; constructor
    · intro h; omega
    · intro h; exact absurd h hx
  · rw [h]; constructor
    · intro _; rw [← h1]; simp [List.getD, hm]
    · intro _; omega
theorem ix_lo (xs : List Int) (x : Int) : -1 ≤ ix xs x ∧ ix xs x < xs.length ∨ ix xs x = -1 := by
  rcases ix_cases xs x with ⟨h, hx⟩ | ⟨m, h, hm, h1, h2⟩
  · exact .inr h
  · left; omega

set_option maxHeartbeats 1000000 in
theorem index_any (w : World) (a : Option Addr) (n c : Nat) (xs : List Int) (x : Int) (h : Ns w a n xs) :
    Calls Try.prog 43 #[.slice a n c, .int .i64 x] w fun e w' => e = .returned (.int .i64 (ix xs x)) ∧ w' = w := by
  obtain ⟨hl, hn, hc⟩ := h
  have HC := hide hc
  have HL := hide hl
  clear hc hl
  go_enter Try.func43, Try.ntmps43
  go_wp2
  go_loop [8] (fun i => ∃ k : Nat, i = .int .i64 k ∧ k ≤ n ∧ Hid (∀ j, j < k → xs.getD j 0 ≠ x)) (fun i => n - (intOf i).toNat)
  case atStart => exact ⟨0, rfl, by omega, fun j hj => by omega⟩
  case round =>
    obtain ⟨k, rfl, hk, HA⟩ := hrel
    by_cases hlt : k < n
    · obtain ⟨g, off, ha, hg, d0⟩ := unhide HC k hlt
      subst ha
      obtain ⟨y, hy⟩ : ∃ y, xs.getD k 0 = y := ⟨_, rfl⟩
      rw [hy] at d0
      have HY := hide hy
      clear hy
      have hlt2 : (k : Int) < (n : Int) := by omega
      by_cases hxy : x = y
      · have hb : (x == y) = true := by simp [hxy]
        have HX := hide hxy
        clear hxy
        go_wp2
        go_ret
        exact ⟨ret_i (ix_hit k (by rw [unhide HL]; exact hlt) (by rw [unhide HY, unhide HX]) (unhide HA)).symm, rfl⟩
      · have hb : (x == y) = false := by simp [hxy]
        have HX := hide hxy
        clear hxy
        go_wp2
        go_round
        case rel =>
          refine ⟨k + 1, by go_num, by omega, fun j hj => ?_⟩
          by_cases hjk : j < k
          · exact unhide HA j hjk
          · obtain rfl : j = k := by omega
            rw [unhide HY]
            exact fun h => unhide HX h.symm
        case measure => simp [intOf]; omega
    · go_wp2
      go_ret
      exact ⟨ret_i (ix_miss (fun j hj => unhide HA j (by rw [unhide HL] at hj; omega))).symm, rfl⟩

set_option maxHeartbeats 1000000 in
theorem contains_any (w : World) (a : Option Addr) (n c : Nat) (xs : List Int) (x : Int) (h : Ns w a n xs) :
    Calls Try.prog 42 #[.slice a n c, .int .i64 x] w fun e w' => e = .returned (.bool (decide (x ∈ xs))) ∧ w' = w := by
  have hx : decide (0 ≤ ix xs x) = decide (x ∈ xs) := by simp [ix_nonneg]
  have HX := hide hx
  clear hx
  go_enter Try.func42, Try.ntmps42
  go_wp2_with fail
  refine (index_any w a n c xs x h).mono ?_
  rintro e w' ⟨rfl, rfl⟩
  generalize ix xs x = r at *
  go_wp2
  go_ret
  exact ⟨ret_b (unhide HX), rfl⟩

set_option maxHeartbeats 1000000 in
theorem has_any (w : World) (a : Option Addr) (n c : Nat) (xs : List Int) (x : Int) (h : Ns w a n xs) :
    Calls Try.prog 71 #[.slice a n c, .int .i64 x] w fun e w' => e = .returned (.int .i64 (ix xs x)) ∧ w' = w := by
  obtain ⟨hl, hn, hc⟩ := h
  have HC := hide hc
  have HL := hide hl
  clear hc hl
  go_enter Try.func71, Try.ntmps71
  go_wp2
  go_loop [5] (fun i => ∃ k : Nat, i = .int .i64 k ∧ k ≤ n ∧ Hid (∀ j, j < k → xs.getD j 0 ≠ x)) (fun i => n - (intOf i).toNat)
  case atStart => exact ⟨0, rfl, by omega, fun j hj => by omega⟩
  case round =>
    obtain ⟨k, rfl, hk, HA⟩ := hrel
    by_cases hlt : k < n
    · obtain ⟨g, off, ha, hg, d0⟩ := unhide HC k hlt
      subst ha
      obtain ⟨y, hy⟩ : ∃ y, xs.getD k 0 = y := ⟨_, rfl⟩
      rw [hy] at d0
      have HY := hide hy
      clear hy
      have hlt2 : (k : Int) < (n : Int) := by omega
      by_cases hxy : y = x
      · have hb : (y == x) = true := by simp [hxy]
        have HX := hide hxy
        clear hxy
        go_wp2
        go_ret
        exact ⟨ret_i (ix_hit k (by rw [unhide HL]; exact hlt) (by rw [unhide HY, unhide HX]) (unhide HA)).symm, rfl⟩
      · have hb : (y == x) = false := by simp [hxy]
        have HX := hide hxy
        clear hxy
        go_wp2
        go_round
        case rel =>
          refine ⟨k + 1, by go_num, by omega, fun j hj => ?_⟩
          by_cases hjk : j < k
          · exact unhide HA j hjk
          · obtain rfl : j = k := by omega
            rw [unhide HY]
            exact unhide HX
        case measure => simp [intOf]; omega
    · go_wp2
      go_ret
      exact ⟨ret_i (ix_miss (fun j hj => unhide HA j (by rw [unhide HL] at hj; omega))).symm, rfl⟩
end Go.Proofs.Ytdkchihomllokaa

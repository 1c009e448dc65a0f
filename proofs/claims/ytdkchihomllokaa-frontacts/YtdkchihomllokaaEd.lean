/-
  The contracts of slices.Index and slices.Contains at edges, of slices.IndexFunc at isLoop, and of firstTwice. Conditions: the edges lie in memory as told.
-/
import Derived.Test.YtdkchihomllokaaSm
namespace Go.Proofs.Ytdkchihomllokaa
open Go.RowKit
set_option linter.unusedVariables false
set_option maxRecDepth 20000

/-- the first place at which p holds, or -1 -/
def ixp (n : Nat) (p : Nat → Bool) : Int := match (List.range n).find? p with | some i => (i : Int) | none => -1
theorem ixp_hit {n : Nat} {p : Nat → Bool} (m : Nat) (hm : m < n) (h : p m = true) (hb : ∀ j, j < m → p j = false) : ixp n p = (m : Int) := by
  have : (List.range n).find? p = some m := by
    rw [List.find?_range_eq_some]
    exact ⟨h, by simpa using hm, fun j hj => by simp [hb j hj]⟩
  simp [ixp, this]
theorem ixp_miss {n : Nat} {p : Nat → Bool} (hb : ∀ j, j < n → p j = false) : ixp n p = -1 := by
  have : (List.range n).find? p = none := by
    rw [List.find?_eq_none]
    intro j hj
    simp [hb j (List.mem_range.1 hj)]
  simp [ixp, this]
theorem ixp_cases (n : Nat) (p : Nat → Bool) : (ixp n p = -1 ∧ ∀ j, j < n → p j = false) ∨ ∃ m : Nat, ixp n p = m ∧ m < n ∧ p m = true ∧ ∀ j, j < m → p j = false := by
  cases h : (List.range n).find? p with
  | none =>
    left
    refine ⟨by simp [ixp, h], fun j hj => ?_⟩
    have := List.find?_eq_none.1 h j (List.mem_range.2 hj)
    simpa using this
  | some m =>
    right
    obtain ⟨h1, h2, h3⟩ := List.find?_range_eq_some.1 h
    exact ⟨m, by simp [ixp, h], by simpa using h2, h1, fun j hj => by simpa using h3 j hj⟩

set_option maxHeartbeats 1000000 in
theorem indexE_any (w : World) (a : Option Addr) (n c : Nat) (es : List (Int × Int)) {B : Nat} (x y : Int) (h : Es B w a n es) :
    Calls Try.prog 84 #[.slice a n c, .agg #[.int .i64 x, .int .i64 y]] w fun e w' => e = .returned (.int .i64 (ixp n fun j => es.getD j (0, 0) == (x, y))) ∧ Below w.heap.size w w' := by
  obtain ⟨hl, hn, hc⟩ := h
  have HC := hide hc
  have HL := hide hl
  clear hc hl
  go_enter Try.func84, Try.ntmps84
  go_wp2
  go_loopw [8] (fun i wr => ∃ k m : Nat, i = .int .i64 k ∧ k ≤ n ∧ wr = (w.alloc (.cells #[.int .i64 x, .int .i64 y] 62)).drewN m ∧ Hid (∀ j, j < k → (es.getD j (0, 0) == (x, y)) = false)) (fun i wr => n - (intOf i).toNat)
  case atStart => exact ⟨0, 0, rfl, by omega, rfl, fun j hj => by omega⟩
  case round =>
    obtain ⟨k, m, rfl, hk, rfl, HA⟩ := hrel
    by_cases hlt : k < n
    · obtain ⟨g, off, ha, _, hg, d0, d1⟩ := unhide HC k hlt
      subst ha
      obtain ⟨ed, hed⟩ : ∃ x, es.getD k (0, 0) = x := ⟨_, rfl⟩
      rw [hed] at d0 d1
      have HED := hide hed
      clear hed
      obtain ⟨p, q⟩ := ed
      simp only at d0 d1
      have e0 : (w.alloc (.cells #[.int .i64 x, .int .i64 y] 62)).cell? ⟨g, off + k * 2, none⟩ = some (.int .i64 p) := by rw [cell_old _ _ _ hg]; exact d0
      have e1 : (w.alloc (.cells #[.int .i64 x, .int .i64 y] 62)).cell? ⟨g, off + k * 2 + 1, none⟩ = some (.int .i64 q) := by rw [cell_old _ _ _ hg]; exact d1
      clear d0 d1
      have hlt2 : (k : Int) < (n : Int) := by omega
      by_cases hxp : x = p
      · by_cases hyq : y = q
        · have HX := hide hxp
          have HY := hide hyq
          subst hxp
          subst hyq
          go_wp2
          go_quiet (fail)
          go_wp2
          go_ret
          exact ⟨ret_i (ixp_hit k hlt (by rw [unhide HED]; simp) (unhide HA)).symm, below_draws (below_draws ((Below.refl _ _).alloc (Nat.le_refl _) _) _) _⟩
        · subst hxp
          have hb : (y == q) = false := by simp [hyq]
          have HY := hide hyq
          clear hyq
          go_wp2
          go_quiet (fail)
          go_wp2
          go_roundw
          case rel =>
            refine ⟨k + 1, _, by go_num, by omega, rfl, fun j hj => ?_⟩
            by_cases hjk : j < k
            · exact unhide HA j hjk
            · obtain rfl : j = k := by omega
              rw [unhide HED]
              simp
              exact fun h => unhide HY h.symm
          case measure => simp [intOf]; omega
      · have hb : (x == p) = false := by simp [hxp]
        have HY := hide hxp
        clear hxp
        go_wp2
        go_quiet (fail)
        go_wp2
        go_roundw
        case rel =>
          refine ⟨k + 1, _, by go_num, by omega, rfl, fun j hj => ?_⟩
          by_cases hjk : j < k
          · exact unhide HA j hjk
          · obtain rfl : j = k := by omega
            rw [unhide HED]
            simp
            exact fun h => absurd h.symm (unhide HY)
        case measure => simp [intOf]; omega
    · go_wp2
      go_ret
      exact ⟨ret_i (ixp_miss (fun j hj => unhide HA j (by omega))).symm, below_draws ((Below.refl _ _).alloc (Nat.le_refl _) _) _⟩

set_option maxHeartbeats 1000000 in
theorem containsE_any (w : World) (a : Option Addr) (n c : Nat) (es : List (Int × Int)) {B : Nat} (x y : Int) (h : Es B w a n es) :
    Calls Try.prog 63 #[.slice a n c, .agg #[.int .i64 x, .int .i64 y]] w fun e w' => e = .returned (.bool (decide (0 ≤ ixp n fun j => es.getD j (0, 0) == (x, y)))) ∧ Below w.heap.size w w' := by
  have HE := hide h
  clear h
  go_enter Try.func63, Try.ntmps63
  go_wp2_with fail
  refine (indexE_any _ a n c es x y ((unhide HE).below ((Below.refl _ _).alloc (Nat.le_refl _) _))).mono ?_
  rintro e w' ⟨rfl, hb⟩
  obtain ⟨r, hr⟩ : ∃ r, (ixp n fun j => es.getD j (0, 0) == (x, y)) = r := ⟨_, rfl⟩
  rw [hr]
  have HR := hide hr
  have HB := hide hb
  clear hb hr
  go_wp2
  go_ret
  exact ⟨ret_b (by rw [unhide HR]), ((Below.refl _ _).alloc (Nat.le_refl _) _).trans ((unhide HB).mono (by simp))⟩

set_option maxHeartbeats 1000000 in
theorem indexLoop_any (w : World) (a : Option Addr) (n c : Nat) (es : List (Int × Int)) {B : Nat} (cap : Array Value) (hcap : cap = #[]) (h : Es B w a n es) :
    Calls Try.prog 45 #[.slice a n c, .func (.func 46) #[] cap] w fun e w' => e = .returned (.int .i64 (ixp n fun j => (es.getD j (0, 0)).1 == (es.getD j (0, 0)).2)) ∧ Below w.heap.size w w' := by
  subst hcap
  obtain ⟨hl, hn, hc⟩ := h
  have HC := hide hc
  have HL := hide hl
  clear hc hl
  go_enter Try.func45, Try.ntmps45
  go_wp2
  go_loopw [8] (fun i wr => ∃ k : Nat, i = .int .i64 k ∧ k ≤ n ∧ Below w.heap.size w wr ∧ Hid (∀ j, j < k → ((es.getD j (0, 0)).1 == (es.getD j (0, 0)).2) = false)) (fun i wr => n - (intOf i).toNat)
  case atStart => exact ⟨0, rfl, by omega, Below.refl _ _, fun j hj => by omega⟩
  case round =>
    obtain ⟨k, rfl, hk, hb, HA⟩ := hrel
    by_cases hlt : k < n
    · obtain ⟨g, off, ha, _, hg, d0, d1⟩ := unhide HC k hlt
      subst ha
      obtain ⟨ed, hed⟩ : ∃ x, es.getD k (0, 0) = x := ⟨_, rfl⟩
      rw [hed] at d0 d1
      have HED := hide hed
      clear hed
      obtain ⟨p, q⟩ := ed
      simp only at d0 d1
      have e0 : wr.cell? ⟨g, off + k * 2, none⟩ = some (.int .i64 p) := by rw [hb.cell (p := ⟨g, off + k * 2, none⟩) hg]; exact d0
      have e1 : wr.cell? ⟨g, off + k * 2 + 1, none⟩ = some (.int .i64 q) := by rw [hb.cell (p := ⟨g, off + k * 2 + 1, none⟩) hg]; exact d1
      have HB := hide hb
      have hz : g < wr.heap.size := by have := hb.size; omega
      clear d0 d1 hb
      have hlt2 : (k : Int) < (n : Int) := by omega
      by_cases hpq : p = q
      · have hbq : (p == q) = true := by simp [hpq]
        have HP := hide hpq
        clear hpq
        go_wp2_with fail
        refine (isLoop_any _ p q).mono ?_
        rintro e w' ⟨rfl, hb1⟩
        have HB1 := hide hb1
        clear hb1
        go_wp2_with fail
        go_ret
        exact ⟨ret_i (ixp_hit k hlt (by rw [unhide HED]; exact hbq) (unhide HA)).symm, (unhide HB).trans ((unhide HB1).mono (unhide HB).size)⟩
      · have hbq : (p == q) = false := by simp [hpq]
        have HP := hide hpq
        clear hpq
        go_wp2_with fail
        refine (isLoop_any _ p q).mono ?_
        rintro e w' ⟨rfl, hb1⟩
        have HB1 := hide hb1
        clear hb1
        go_wp2_with fail
        go_roundw
        case rel =>
          refine ⟨k + 1, by go_num, by omega, (unhide HB).trans ((unhide HB1).mono (unhide HB).size), fun j hj => ?_⟩
          by_cases hjk : j < k
          · exact unhide HA j hjk
          · obtain rfl : j = k := by omega
            rw [unhide HED]
            exact hbq
        case measure => simp [intOf]; omega
    · go_wp2
      go_ret
      exact ⟨ret_i (ixp_miss (fun j hj => unhide HA j (by omega))).symm, hb⟩
end Go.Proofs.Ytdkchihomllokaa

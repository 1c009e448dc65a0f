/-
  The contract of the document's Same: whether two lists are one, begun elsewhere perhaps. Conditions: the lists lie in memory as told.
-/
import Derived.Test.YtfggihoabengjaaRs
namespace Go.Proofs.Ytfggihoabengjaa
open Go.RowKit
set_option linter.unusedVariables false
set_option maxRecDepth 20000

set_option maxHeartbeats 4000000 in
/-- the document's Same: it only reads -/
theorem refsame_any (w : World) (a1 a2 : Option Addr) (n1 n2 c1 c2 : Nat) (hm : n1 ≤ 1000) (xs ys : List Int) (h1 : Ns w a1 n1 xs) (h2 : Ns w a2 n2 ys) :
    Calls Try.prog 5 #[.slice a1 n1 c1, .slice a2 n2 c2] w fun e w' => e = .returned (.bool (rotB xs ys)) ∧ ∃ m, w' = w.drewN m := by
  have H1 := hide h1
  have H2 := hide h2
  have hl1 := h1.1
  have hl2 := h2.1
  clear h1 h2
  by_cases hn : n1 = n2
  case neg =>
    have t1 : ((n1 : Int) != (n2 : Int)) = true := by simp; omega
    have HR := hide (rotB_no (a := xs) (b := ys) (fun h => hn (by rw [← hl1, ← hl2, h.1])))
    clear hl1 hl2
    go_enter Try.func5, Try.ntmps5
    go_wp2_with fail
    go_ret
    exact ⟨ret_b (unhide HR).symm, 0, rfl⟩
  subst hn
  have t1 : ((n1 : Int) != (n1 : Int)) = false := by simp
  have HR := hide (show RotL xs ys ↔ (n1 = 0 ∨ ∃ k, k < n1 ∧ ∀ i, i < n1 → xs.getD ((i + k) % n1) 0 = ys.getD i 0) by
    unfold RotL RotAt
    rw [hl1, hl2]
    simp)
  clear hl1 hl2
  go_enter Try.func5, Try.ntmps5
  go_wp2_with fail
  go_loopw [5] (fun i wr => ∃ k m : Nat, i = .int .i64 k ∧ k ≤ n1 ∧ wr = w.drewN m ∧ Hid (∀ j, j < k → ¬ ∀ i, i < n1 → xs.getD ((i + j) % n1) 0 = ys.getD i 0)) (fun i wr => n1 - (intOf i).toNat)
  case atStart => exact ⟨0, 0, rfl, by omega, rfl, fun j h => by omega⟩
  case round =>
    obtain ⟨k, m, rfl, hk, rfl, HA⟩ := hrel
    by_cases hlt : k < n1
    · have hlt2 : (k : Int) < (n1 : Int) := by omega
      go_wp2_with fail
      go_loopw [6, 7] (fun b i wr => ∃ (q : Bool) (j m2 : Nat), b = .bool q ∧ i = .int .i64 j ∧ j ≤ n1 ∧ wr = w.drewN m2 ∧ Hid (q = true ↔ ∀ i, i < j → xs.getD ((i + k) % n1) 0 = ys.getD i 0)) (fun b i wr => n1 - (intOf i).toNat)
      case atStart => exact ⟨true, 0, m, rfl, rfl, by omega, rfl, by constructor; (· intro _ i hi; omega); (· intro _; rfl)⟩
      case round =>
        obtain ⟨q, j, m2, rfl, rfl, hj, rfl, HQ⟩ := hrel
        by_cases hjn : j < n1
        · have hjn2 : (j : Int) < (n1 : Int) := by omega
          have hp : (j + k) % n1 < n1 := Nat.mod_lt _ (by omega)
          obtain ⟨g, off, ha, hg, d0⟩ := (unhide H1).2.2 ((j + k) % n1) hp
          obtain ⟨g2, off2, ha2, hg2, d2⟩ := (unhide H2).2.2 j hjn
          subst ha
          subst ha2
          obtain ⟨x, hx⟩ : ∃ x, xs.getD ((j + k) % n1) 0 = x := ⟨_, rfl⟩
          obtain ⟨y, hy⟩ : ∃ y, ys.getD j 0 = y := ⟨_, rfl⟩
          rw [hx] at d0
          rw [hy] at d2
          have HX := hide hx
          have HY := hide hy
          have hsu : (∀ i, i < j + 1 → xs.getD ((i + k) % n1) 0 = ys.getD i 0) ↔ ((∀ i, i < j → xs.getD ((i + k) % n1) 0 = ys.getD i 0) ∧ x = y) := by
            rw [← hx, ← hy]
            constructor
            · exact fun h => ⟨fun i hi => h i (by omega), h j (by omega)⟩
            · rintro ⟨h, h2⟩ i hi
              by_cases hij : i = j
              · rw [hij]; exact h2
              · exact h i (by omega)
          have HSU := hide hsu
          clear hx hy hsu
          have hW : IntKind.i64.wrap ((j : Int) + (k : Int)) = (j : Int) + (k : Int) := by rw [IntKind.wrap_i64]; omega
          have hT : ((j : Int) + (k : Int)).tmod (n1 : Int) = (((j + k) % n1 : Nat) : Int) := by rw [← Int.natCast_add, Int.ofNat_tmod]
          have hW2 : IntKind.i64.wrap (((j + k) % n1 : Nat) : Int) = (((j + k) % n1 : Nat) : Int) := by rw [IntKind.wrap_i64]; omega
          have hN0 : ¬ (n1 : Int) = 0 := by omega
          have hp2 : (((j + k) % n1 : Nat) : Int) < (n1 : Int) := by omega
          generalize (j + k) % n1 = p at *
          cases q with
          | true =>
            cases hxy : (x == y) with
            | true =>
              go_wp2_with fail
              go_quiet (fail)
              go_wp2_with fail
              go_roundw
              case rel => exact ⟨true, j + 1, _, rfl, by go_num, by omega, (by first | rfl | exact World.drewN_drewN _ _ _), hide (by rw [unhide HSU, ← unhide HQ]; simpa using hxy)⟩
              case measure => simp [intOf]; omega
            | false =>
              go_wp2_with fail
              go_quiet (fail)
              go_wp2_with fail
              go_roundw
              case rel => exact ⟨false, j + 1, _, rfl, by go_num, by omega, (by first | rfl | exact World.drewN_drewN _ _ _), hide (by rw [unhide HSU, ← unhide HQ]; simpa using hxy)⟩
              case measure => simp [intOf]; omega
          | false =>
            go_wp2_with fail
            go_quiet (fail)
            go_wp2_with fail
            go_roundw
            case rel => exact ⟨false, j + 1, _, rfl, by go_num, by omega, (by first | rfl | exact World.drewN_drewN _ _ _), hide (by rw [unhide HSU, ← unhide HQ]; simp)⟩
            case measure => simp [intOf]; omega
        · obtain rfl : j = n1 := by omega
          cases q with
          | true =>
            go_wp2_with fail
            go_ret
            exact ⟨ret_b (rotB_yes ((unhide HR).2 (.inr ⟨k, hlt, (unhide HQ).1 (by trivial)⟩))).symm, _, rfl⟩
          | false =>
            go_wp2_with fail
            go_roundw
            case rel =>
              refine ⟨k + 1, _, by go_num, by omega, rfl, fun i hi hall => ?_⟩
              by_cases hik : i = k
              · subst hik
                exact absurd ((unhide HQ).2 hall) (by simp)
              · exact unhide HA i (by omega) hall
            case measure => simp [intOf]; omega
    · obtain rfl : k = n1 := by omega
      by_cases h0 : k = 0
      · have t2 : ((k : Int) == 0) = true := by simp [h0]
        have HR2 := hide (rotB_yes (a := xs) (b := ys) ((unhide HR).2 (.inl h0)))
        clear h0
        go_wp2_with fail
        go_ret
        exact ⟨ret_b (by rw [unhide HR2]), _, rfl⟩
      · have t2 : ((k : Int) == 0) = false := by rw [beq_eq_false_iff_ne]; omega
        have HR2 := hide (rotB_no (a := xs) (b := ys) (fun h => by
          rcases (unhide HR).1 h with h | ⟨j, hj, h⟩
          · exact h0 h
          · exact unhide HA j hj h))
        clear h0
        go_wp2_with fail
        go_ret
        exact ⟨ret_b (by rw [unhide HR2]), _, rfl⟩
end Go.Proofs.Ytfggihoabengjaa


/-
  Every graph has a fault's number (0: none). No conditions beyond the theorem's own.
-/
import Derived.Test.YtgbdnpmpkilcoaaChkP
namespace Go.Proofs.Ytgbdnpmpkilcoaa
open Go.RowKit
set_option linter.unusedVariables false

theorem fault_any {v : Nat} {es : List (Nat × Nat)} (hp : Plain v es) : ∃ c p l, IsFault v es c p l := by
  by_cases h1 : 0 ≤ lpI es
  · exact ⟨_, _, _, .inl ⟨h1, rfl, rfl, rfl⟩⟩
  · by_cases h2 : 0 ≤ twI es
    · exact ⟨_, _, _, .inr (.inl ⟨by omega, h2, rfl, rfl, rfl⟩)⟩
    · cases hs : Pl.start v es with
      | none =>
        by_cases h3 : 1 < (bare (Pl.ins es) v).length
        · exact ⟨_, _, _, .inr (.inr (.inr (.inl ⟨by omega, by omega, hs, rfl, rfl, h3, rfl⟩)))⟩
        · exact ⟨_, _, _, .inr (.inr (.inr (.inr ⟨by omega, by omega, hs, rfl, rfl, by omega, rfl⟩)))⟩
      | some a0 =>
        have hne : Pl.ring v es a0 ≠ [] := by
          have hw := Pl.Way.ends hp.ends (v + 1) [] a0 (Pl.Way.nil (start_left hs)) (by simp)
          intro he
          unfold Pl.ring at he
          rw [List.drop_eq_nil_iff] at he
          have hlt := List.findIdx_lt_length_of_exists (p := (· == (Pl.walkF v es (v + 1) [] a0).2)) ⟨_, hw.2, by simp⟩
          omega
        have hmin : ∀ l : List Nat, l ≠ [] → ∃ m, Pl.LeastAt l m := by
          intro l
          induction l with
          | nil => intro h; exact absurd rfl h
          | cons x l ih =>
            intro _
            by_cases hl : l = []
            · subst hl
              refine ⟨0, by simp, fun j hj => ?_⟩
              obtain rfl : j = 0 := by simpa using hj
              exact Nat.le_refl _
            · obtain ⟨m, hm1, hm2⟩ := ih hl
              by_cases hx : x ≤ l.getD m 0
              · refine ⟨0, by simp, fun j hj => ?_⟩
                cases j with
                | zero => exact Nat.le_refl _
                | succ j =>
                  have := hm2 j (by simpa using hj)
                  simp only [List.getD_cons_zero, List.getD_cons_succ]
                  omega
              · refine ⟨m + 1, by simpa using hm1, fun j hj => ?_⟩
                cases j with
                | zero =>
                  simp only [List.getD_cons_zero, List.getD_cons_succ]
                  omega
                | succ j =>
                  simp only [List.getD_cons_succ]
                  exact hm2 j (by simpa using hj)
        obtain ⟨m, hm⟩ := hmin _ hne
        exact ⟨_, _, _, .inr (.inr (.inl ⟨by omega, by omega, rfl, rfl, a0, m, hs, hm, rfl⟩))⟩

end Go.Proofs.Ytgbdnpmpkilcoaa

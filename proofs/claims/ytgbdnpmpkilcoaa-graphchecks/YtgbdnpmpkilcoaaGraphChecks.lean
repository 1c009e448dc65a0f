/-
  For every graph the statement GraphChecks answers true, and its argument reads as it read before. Conditions: none (the statement's own row).
-/
import Derived.Test.YtgbdnpmpkilcoaaWalkChecks
namespace Go.Proofs.Ytgbdnpmpkilcoaa.graphChecks
open Go.ChangeShapes Go.WideShapes Go.ChangeAt Go.RowKit
set_option linter.unusedVariables false

theorem walk (w : World) (v0 : Value) (h0 : GraphIn w v0) :
    Calls Try.prog 3 #[v0] w fun e w' => e = .returned (.bool true) ∧ Below w.heap.size w w' := by
  obtain ⟨V, a, n, cap, zs, rfl, hnc, hno, hE⟩ := h0
  by_cases hbig : 200 < n
  · exact checks_big w V a n cap hbig
  · have hE' : Es 0 w a n zs := hE.resolve_left (by omega)
    by_cases hG : Good V n zs
    · obtain ⟨v, es, rfl, rfl, rfl, hp⟩ := plain_of_good hE'.1 hG
      have key : ∃ c p l, IsFault v es c p l := by
        by_cases h1 : 0 ≤ lpI es
        · exact ⟨_, _, _, .inl ⟨h1, rfl, rfl, rfl⟩⟩
        · by_cases h2 : 0 ≤ twI es
          · exact ⟨_, _, _, .inr (.inl ⟨by omega, h2, rfl, rfl, rfl⟩)⟩
          · cases hs : Pl.start v es with
            | none =>
              by_cases h3 : 1 < (bare (Pl.ins es) v).length
              · exact ⟨_, _, _, .inr (.inr (.inr (.inl ⟨by omega, by omega, hs, rfl, rfl, h3, rfl⟩)))⟩
              · exact ⟨_, _, _, .inr (.inr (.inr (.inr ⟨by omega, by omega, hs, rfl, rfl, by omega, rfl⟩)))⟩
            | some a0 =>
              have hne : Pl.ring v es a0 ≠ [] := by
                have hw := Pl.Way.ends hp.ends (v + 1) [] a0 (Pl.Way.nil (start_left hs)) (by simp)
                intro he
                unfold Pl.ring at he
                rw [List.drop_eq_nil_iff] at he
                have hlt := List.findIdx_lt_length_of_exists (p := (· == (Pl.walkF v es (v + 1) [] a0).2)) ⟨_, hw.2, by simp⟩
                omega
              have hmin : ∀ l : List Nat, l ≠ [] → ∃ m, Pl.LeastAt l m := by
                intro l
                induction l with
                | nil => intro h; exact absurd rfl h
                | cons x l ih =>
                  intro _
                  by_cases hl : l = []
                  · subst hl
                    refine ⟨0, by simp, fun j hj => ?_⟩
                    obtain rfl : j = 0 := by simpa using hj
                    exact Nat.le_refl _
                  · obtain ⟨m, hm1, hm2⟩ := ih hl
                    by_cases hx : x ≤ l.getD m 0
                    · refine ⟨0, by simp, fun j hj => ?_⟩
                      cases j with
                      | zero => exact Nat.le_refl _
                      | succ j =>
                        have := hm2 j (by simpa using hj)
                        simp only [List.getD_cons_zero, List.getD_cons_succ]
                        omega
                    · refine ⟨m + 1, by simpa using hm1, fun j hj => ?_⟩
                      cases j with
                      | zero =>
                        simp only [List.getD_cons_zero, List.getD_cons_succ]
                        omega
                      | succ j =>
                        simp only [List.getD_cons_succ]
                        exact hm2 j (by simpa using hj)
              obtain ⟨m, hm⟩ := hmin _ hne
              exact ⟨_, _, _, .inr (.inr (.inl ⟨by omega, by omega, rfl, rfl, a0, m, hs, hm, rfl⟩))⟩
      obtain ⟨c, p, l, hF⟩ := key
      refine checks_all w v a es.length cap (toI es) hE' (by omega) true (by simp [hG]) c p l.length (toIs l) ?_ ?_
      · intro u hu
        refine (check_good u v a cap es hu hno hnc hp).mono ?_
        rintro e u' ⟨⟨c', p', l', fa, fc, hF', rfl, hN⟩, hb⟩
        obtain ⟨rfl, rfl, rfl⟩ := hF.only hp hF'
        exact ⟨⟨fa, fc, rfl, hN⟩, hb⟩
      · intro u hu
        refine (refCheck_good u v a cap es hu hp).mono ?_
        rintro e u' ⟨⟨c', p', l', fa, fc, hF', rfl, hN⟩, hb⟩
        obtain ⟨rfl, rfl, rfl⟩ := hF.only hp hF'
        exact ⟨⟨fa, fc, rfl, hN⟩, hb⟩
    · refine checks_all w V a n cap zs hE' (by omega) false (by simp [hG]) 1 0 0 [] ?_ ?_
      · intro u hu
        refine (check_bad u V a n cap zs hu hG).mono ?_
        rintro e u' ⟨rfl, hb⟩
        exact ⟨⟨none, 0, rfl, Ns.nil _ _⟩, hb⟩
      · intro u hu
        refine (refCheck_bad u V a n cap zs hu hG).mono ?_
        rintro e u' ⟨rfl, hb⟩
        exact ⟨⟨none, 0, rfl, Ns.nil _ _⟩, hb⟩

set_option maxRecDepth 100000 in
theorem lifted (os : Os) (started : os.Started) (H : Type) (enc : TypeId × Value → H) :
    ReturnsInHanded {} Try.checked os 3 .any (Rows.graphChecksSpec.pre6 enc Try.prog Try.f3 Rows.graphChecksRow.domain false) (Rows.graphChecksSpec.post enc Try.prog Try.f3 false true false false) := by
  refine returnsInHanded_of_change (C := Try.checked) own started (by kernel_rfl) Try.func3
    (ChangeSpec.witness6 (enc := enc) (C := Try.checked) false ⟨#[], #[.agg #[.int .i64 0, .slice none 0 0]], []⟩ 8 (by kernel_rfl) (by kernel_rfl) (by kernel_rfl) (by kernel_rfl)) ?_
  intro W base args ds gs before hval0 hW hcnd _
  have hval : ∀ (j : Nat) t v, Try.f3.params[j]? = some t → args[j]? = some v → Value.okWide Try.prog W .any base t v := hval0
  have hW' := hW
  obtain ⟨p, q, hA0, hV, rfl, hfz, hnd⟩ := hW
  have hA : DataW.TrodAll enc Try.prog W 0 (fun _ => true) true Try.f3.params.toList args.toList ds p := hA0
  rw [Try.params3] at hA hval
  obtain ⟨v0, vs0, d0, ds0, p0, q0, hargs, rfl, rfl, h0, r0⟩ := trodAll_cons hA
  obtain ⟨rfl, rfl, rfl⟩ := trodAll_nil r0
  obtain rfl : args = #[v0] := by cases args; simp_all
  obtain ⟨rfl, rfl⟩ := trodVars_none hV
  have lt0 : ∀ x ∈ p0, x.block < W.heap.size := by obtain ⟨m, hm⟩ := h0; exact DataW.trod_lt m _ _ _ hm
  have g0 := graph_open (hval 0 24 v0 rfl rfl) h0
  clear hA0 hval0
  refine (walk W v0 g0).mono fun e W' ⟨he, bel⟩ => ?_
  subst he
  exact ⟨_, rfl, _, _, _, [], _, [], hW', trodAll_mk1 (shut_bool Try.underlying4 _), (trodAll_cons_mk (Below.trod laidOut (by kernel_rfl) (of_decide_eq_true (by kernel_rfl)) h0 bel lt0) trodAll_mk0), rfl, bel.frame _, fun h => by cases h⟩

theorem over : Rows.graphChecksRow.holds Try.pinned (OpenSpec.ofChange Rows.graphChecksSpec) :=
  OpenClaim.holds_of_wide 3 Try.f3 rfl rfl rfl rfl rfl rfl rfl ⟨rfl, rfl, rfl, rfl, rfl⟩ rfl rfl rfl rfl rfl (by kernel_rfl) Try.func3 (by kernel_rfl)
    (of_decide_eq_true (by kernel_rfl)) (by unfold Func.isWrapper; first | (rw [if_pos (by decide +kernel)]; kernel_rfl) | (rw [if_neg (by decide +kernel)]; exact ⟨rfl, rfl⟩))
    (fun os started H enc _ => lifted os started H enc)

theorem proved : Rows.GraphChecksSaid := over
#print axioms proved
end Go.Proofs.Ytgbdnpmpkilcoaa.graphChecks

/-
  For every graph and every names and order the statement GraphNames answers true, and its arguments read as they read before. Conditions: none (the statement's own row).
-/
import Derived.Test.YtgbdnpmpkilcoaaWalkNames
namespace Go.Proofs.Ytgbdnpmpkilcoaa.graphNames
open Go.ChangeShapes Go.WideShapes Go.ChangeAt Go.RowKit
set_option linter.unusedVariables false

theorem walk (w : World) (v0 v1 v2 : Value) (h0 : GraphIn w v0) (h1 : IntsIn w v1) (h2 : IntsIn w v2) :
    Calls Try.prog 5 #[v0, v1, v2] w fun e w' => e = .returned (.bool true) ∧ Below w.heap.size w w' := by
  obtain ⟨V, a, n, cap, es, rfl, hnc, hno, hE⟩ := h0
  obtain ⟨na, m, mc, xs, rfl, hmc, _, hN⟩ := h1
  obtain ⟨oa, k, kc, ys, rfl, hkc, _, hO⟩ := h2
  by_cases hbig : 200 < n ∨ 100 < m ∨ 200 < k
  · exact names_big w V a na oa n cap m mc k kc hbig
  · have hE' : Es 0 w a n es := hE.resolve_left (by omega)
    have hN' : Ns w na m xs := hN.resolve_left (by omega)
    have hO' : Ns w oa k ys := hO.resolve_left (by omega)
    by_cases hg : Good V n es ∧ IsPerm V.toNat xs ∧ IsPerm n ys
    · obtain ⟨hG, hp1, hp2⟩ := hg
      obtain ⟨v, ed, rfl, rfl, rfl, hp⟩ := plain_of_good hE'.1 hG
      rw [Int.toNat_natCast] at hp1
      obtain ⟨ns, rfl, _, _, _⟩ := perm_nat hp1
      obtain ⟨os, rfl, _, _, _⟩ := perm_nat hp2
      have e1 : m = v := by rw [← hN'.1]; exact hp1.1
      have e2 : k = ed.length := by rw [← hO'.1]; exact hp2.1
      subst e1
      subst e2
      exact names_good w m a na oa cap mc kc ed ns os hE' hp hN' hO' hmc hkc hp1 hp2
    · exact names_bad w V a na oa n cap m mc k kc es xs ys hE' hN' hO' hmc hkc (by omega) (by omega) (by omega) hg

set_option maxRecDepth 100000 in
theorem lifted (os : Os) (started : os.Started) (H : Type) (enc : TypeId × Value → H) :
    ReturnsInHanded {} Try.checked os 5 .any (Rows.graphNamesSpec.pre6 enc Try.prog Try.f5 Rows.graphNamesRow.domain false) (Rows.graphNamesSpec.post enc Try.prog Try.f5 false true false false) := by
  refine returnsInHanded_of_change (C := Try.checked) own started (by kernel_rfl) Try.func5
    (ChangeSpec.witness6 (enc := enc) (C := Try.checked) false ⟨#[], #[.agg #[.int .i64 0, .slice none 0 0], .slice none 0 0, .slice none 0 0], []⟩ 8 (by kernel_rfl) (by kernel_rfl) (by kernel_rfl) (by kernel_rfl)) ?_
  intro W base args ds gs before hval0 hW hcnd _
  have hval : ∀ (j : Nat) t v, Try.f5.params[j]? = some t → args[j]? = some v → Value.okWide Try.prog W .any base t v := hval0
  have hW' := hW
  obtain ⟨p, q, hA0, hV, rfl, hfz, hnd⟩ := hW
  have hA : DataW.TrodAll enc Try.prog W 0 (fun _ => true) true Try.f5.params.toList args.toList ds p := hA0
  rw [Try.params5] at hA hval
  obtain ⟨v0, vs0, d0, ds0, p0, q0, hargs, rfl, rfl, h0, r0⟩ := trodAll_cons hA
  obtain ⟨v1, vs1, d1, ds1, p1, q1, rfl, rfl, rfl, h1, r1⟩ := trodAll_cons r0
  obtain ⟨v2, vs2, d2, ds2, p2, q2, rfl, rfl, rfl, h2, r2⟩ := trodAll_cons r1
  obtain ⟨rfl, rfl, rfl⟩ := trodAll_nil r2
  obtain rfl : args = #[v0, v1, v2] := by cases args; simp_all
  obtain ⟨rfl, rfl⟩ := trodVars_none hV
  have lt0 : ∀ x ∈ p0, x.block < W.heap.size := by obtain ⟨m, hm⟩ := h0; exact DataW.trod_lt m _ _ _ hm
  have lt1 : ∀ x ∈ p1, x.block < W.heap.size := by obtain ⟨m, hm⟩ := h1; exact DataW.trod_lt m _ _ _ hm
  have lt2 : ∀ x ∈ p2, x.block < W.heap.size := by obtain ⟨m, hm⟩ := h2; exact DataW.trod_lt m _ _ _ hm
  have g0 := graph_open (hval 0 24 v0 rfl rfl) h0
  have g1 := ints_open (hval 1 28 v1 rfl rfl) h1
  have g2 := ints_open (hval 2 28 v2 rfl rfl) h2
  clear hA0 hval0
  refine (walk W v0 v1 v2 g0 g1 g2).mono fun e W' ⟨he, bel⟩ => ?_
  subst he
  exact ⟨_, rfl, _, _, _, [], _, [], hW', trodAll_mk1 (shut_bool Try.underlying4 _),
    (trodAll_cons_mk (Below.trod laidOut (by kernel_rfl) (of_decide_eq_true (by kernel_rfl)) h0 bel lt0) (trodAll_cons_mk (Below.trod laidOut (by kernel_rfl) (of_decide_eq_true (by kernel_rfl)) h1 bel lt1) (trodAll_cons_mk (Below.trod laidOut (by kernel_rfl) (of_decide_eq_true (by kernel_rfl)) h2 bel lt2) trodAll_mk0))),
    rfl, bel.frame _, fun h => by cases h⟩

theorem over : Rows.graphNamesRow.holds Try.pinned (OpenSpec.ofChange Rows.graphNamesSpec) :=
  OpenClaim.holds_of_wide 5 Try.f5 rfl rfl rfl rfl rfl rfl rfl ⟨rfl, rfl, rfl, rfl, rfl⟩ rfl rfl rfl rfl rfl (by kernel_rfl) Try.func5 (by kernel_rfl)
    (of_decide_eq_true (by kernel_rfl)) (by unfold Func.isWrapper; first | (rw [if_pos (by decide +kernel)]; kernel_rfl) | (rw [if_neg (by decide +kernel)]; exact ⟨rfl, rfl⟩))
    (fun os started H enc _ => lifted os started H enc)

theorem proved : Rows.GraphNamesSaid := over
#print axioms proved
end Go.Proofs.Ytgbdnpmpkilcoaa.graphNames

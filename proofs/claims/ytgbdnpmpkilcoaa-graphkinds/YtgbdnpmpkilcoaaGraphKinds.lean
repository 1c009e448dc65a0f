/-
  For every graph and every names and order the statement GraphKinds answers true, and its arguments read as they read before. Conditions: none (the statement's own row).
-/
import Derived.Test.YtgbdnpmpkilcoaaWalkKinds
namespace Go.Proofs.Ytgbdnpmpkilcoaa.graphKinds
open Go.ChangeShapes Go.WideShapes Go.ChangeAt Go.RowKit
set_option linter.unusedVariables false

theorem walk (w : World) (v0 v1 v2 : Value) (h0 : GraphIn w v0) (h1 : IntsIn w v1) (h2 : IntsIn w v2) :
    Calls Try.prog 6 #[v0, v1, v2] w fun e w' => e = .returned (.bool true) ∧ Below w.heap.size w w' := by
  obtain ⟨V, a, n, cap, zs, rfl, hnc, hno, hE⟩ := h0
  obtain ⟨na, m, mc, xs, rfl, hmc, _, hN⟩ := h1
  obtain ⟨oa, k, kc, ys, rfl, hkc, _, hO⟩ := h2
  by_cases hG0 : n ≤ 200 ∧ Good V n zs
  case neg => exact kinds_no w V a na oa n cap m mc k kc zs hE hG0
  obtain ⟨hn, hG⟩ := hG0
  have hE' : Es 0 w a n zs := hE.resolve_left (by omega)
  obtain ⟨v, es, rfl, rfl, rfl, hp⟩ := plain_of_good hE'.1 hG
  have hv := hp.v64
  have hn128 := hp.n128
  have tell : ∀ (la : Option Addr) (m mc t : Nat) (xs : List Int), t ≤ 1000 → (1000 < m ∨ Ns w la m xs) → ∃ b : Bool, (b = true → m = t ∧ Ns w la m xs ∧ IsPerm t xs) ∧ ∀ u, Below w.heap.size w u → Calls Try.prog 26 #[.slice la m mc, .int .i64 t] u fun e w' => e = .returned (.bool b) ∧ w' = u := by
    intro la m mc t xs ht hNs
    by_cases hm : m = t
    · have hN' : Ns w la m xs := hNs.resolve_left (by omega)
      by_cases hP : IsPerm t xs
      · refine ⟨true, fun _ => ⟨hm, hN', hP⟩, fun u hu => ?_⟩
        refine (each_any u la m mc t xs (hN'.below hu) ht).mono ?_
        rintro e w' ⟨⟨r, rfl, hr⟩, rfl⟩
        obtain rfl : r = true := hr.2 hP
        exact ⟨rfl, rfl⟩
      · refine ⟨false, (fun h => by cases h), fun u hu => ?_⟩
        refine (each_any u la m mc t xs (hN'.below hu) ht).mono ?_
        rintro e w' ⟨⟨r, rfl, hr⟩, rfl⟩
        obtain rfl : r = false := by
          cases r with
          | false => rfl
          | true => exact absurd (hr.1 rfl) hP
        exact ⟨rfl, rfl⟩
    · exact ⟨false, (fun h => by cases h), fun u hu => each_len u la m mc t hm⟩
  obtain ⟨b1, hb1, hc1⟩ := tell na m mc v xs (by omega) hN
  obtain ⟨b2, hb2, hc2⟩ := tell oa k kc es.length ys (by omega) hO
  cases hb : (b1 && b2) with
  | false => exact kinds_skip w v a na oa es.length cap m mc k kc (toI es) hE' (good_of_plain hp) b1 b2 hb hc1 (fun _ => hc2)
  | true =>
    obtain ⟨h1, h2⟩ : b1 = true ∧ b2 = true := by simpa using hb
    obtain ⟨rfl, hN', hp1⟩ := hb1 h1
    obtain ⟨rfl, hO', hp2⟩ := hb2 h2
    obtain ⟨ns, rfl, n1, n2, n3⟩ := perm_nat hp1
    obtain ⟨os, rfl, o1, o2, o3⟩ := perm_nat hp2
    exact kinds_good w m a na oa es.length cap mc kc es ns os rfl hE' hno hnc hp hN' hO' hmc hkc hp1 hp2 ⟨n1, n2, n3⟩ ⟨o1, o2, o3⟩

set_option maxRecDepth 100000 in
theorem lifted (os : Os) (started : os.Started) (H : Type) (enc : TypeId × Value → H) :
    ReturnsInHanded {} Try.checked os 6 .any (Rows.graphKindsSpec.pre6 enc Try.prog Try.f6 Rows.graphKindsRow.domain false) (Rows.graphKindsSpec.post enc Try.prog Try.f6 false true false false) := by
  refine returnsInHanded_of_change (C := Try.checked) own started (by kernel_rfl) Try.func6
    (ChangeSpec.witness6 (enc := enc) (C := Try.checked) false ⟨#[], #[.agg #[.int .i64 0, .slice none 0 0], .slice none 0 0, .slice none 0 0], []⟩ 8 (by kernel_rfl) (by kernel_rfl) (by kernel_rfl) (by kernel_rfl)) ?_
  intro W base args ds gs before hval0 hW hcnd _
  have hval : ∀ (j : Nat) t v, Try.f6.params[j]? = some t → args[j]? = some v → Value.okWide Try.prog W .any base t v := hval0
  have hW' := hW
  obtain ⟨p, q, hA0, hV, rfl, hfz, hnd⟩ := hW
  have hA : DataW.TrodAll enc Try.prog W 0 (fun _ => true) true Try.f6.params.toList args.toList ds p := hA0
  rw [Try.params6] at hA hval
  obtain ⟨v0, vs0, d0, ds0, p0, q0, hargs, rfl, rfl, h0, r0⟩ := trodAll_cons hA
  obtain ⟨v1, vs1, d1, ds1, p1, q1, rfl, rfl, rfl, h1, r1⟩ := trodAll_cons r0
  obtain ⟨v2, vs2, d2, ds2, p2, q2, rfl, rfl, rfl, h2, r2⟩ := trodAll_cons r1
  obtain ⟨rfl, rfl, rfl⟩ := trodAll_nil r2
  obtain rfl : args = #[v0, v1, v2] := by cases args; simp_all
  obtain ⟨rfl, rfl⟩ := trodVars_none hV
  have lt0 : ∀ x ∈ p0, x.block < W.heap.size := by obtain ⟨m, hm⟩ := h0; exact DataW.trod_lt m _ _ _ hm
  have lt1 : ∀ x ∈ p1, x.block < W.heap.size := by obtain ⟨m, hm⟩ := h1; exact DataW.trod_lt m _ _ _ hm
  have lt2 : ∀ x ∈ p2, x.block < W.heap.size := by obtain ⟨m, hm⟩ := h2; exact DataW.trod_lt m _ _ _ hm
  have g0 := graph_open (hval 0 24 v0 rfl rfl) h0
  have g1 := ints_open (hval 1 28 v1 rfl rfl) h1
  have g2 := ints_open (hval 2 28 v2 rfl rfl) h2
  clear hA0 hval0
  refine (walk W v0 v1 v2 g0 g1 g2).mono fun e W' ⟨he, bel⟩ => ?_
  subst he
  exact ⟨_, rfl, _, _, _, [], _, [], hW', trodAll_mk1 (shut_bool Try.underlying4 _),
    (trodAll_cons_mk (Below.trod laidOut (by kernel_rfl) (of_decide_eq_true (by kernel_rfl)) h0 bel lt0) (trodAll_cons_mk (Below.trod laidOut (by kernel_rfl) (of_decide_eq_true (by kernel_rfl)) h1 bel lt1) (trodAll_cons_mk (Below.trod laidOut (by kernel_rfl) (of_decide_eq_true (by kernel_rfl)) h2 bel lt2) trodAll_mk0))),
    rfl, bel.frame _, fun h => by cases h⟩

theorem over : Rows.graphKindsRow.holds Try.pinned (OpenSpec.ofChange Rows.graphKindsSpec) :=
  OpenClaim.holds_of_wide 6 Try.f6 rfl rfl rfl rfl rfl rfl rfl ⟨rfl, rfl, rfl, rfl, rfl⟩ rfl rfl rfl rfl rfl (by kernel_rfl) Try.func6 (by kernel_rfl)
    (of_decide_eq_true (by kernel_rfl)) (by unfold Func.isWrapper; first | (rw [if_pos (by decide +kernel)]; kernel_rfl) | (rw [if_neg (by decide +kernel)]; exact ⟨rfl, rfl⟩))
    (fun os started H enc _ => lifted os started H enc)

theorem proved : Rows.GraphKindsSaid := over
#print axioms proved
end Go.Proofs.Ytgbdnpmpkilcoaa.graphKinds

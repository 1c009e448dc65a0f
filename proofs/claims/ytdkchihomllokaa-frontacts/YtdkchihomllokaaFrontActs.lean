/-
  For every graph and every list of acts the statement FrontActs answers true, and its arguments read as they read before. Conditions: none (the statement's own row).
-/
import Derived.Test.YtdkchihomllokaaJf9
import Derived.Test.YtdkchihomllokaaOa9
namespace Go.Proofs.Ytdkchihomllokaa.frontActs
open Go.ChangeShapes Go.WideShapes Go.ChangeAt Go.RowKit
set_option linter.unusedVariables false

theorem walk (w : World) (v0 v1 : Value) (h0 : GraphAll w v0) (h1 : ActsIn w v1) :
    Calls Try.prog 3 #[v0, v1] w fun e w' => e = .returned (.bool true) ∧ Below w.heap.size w w' := by
  obtain ⟨V, a, n, cap, zs, rfl, hnc, hno, hE⟩ := h0
  obtain ⟨ac, an, acap, rfl, _, hA⟩ := h1
  by_cases h1 : 80 < an
  · exact acts_big1 w V a n cap ac an acap h1
  by_cases h2 : 100 < n
  · exact acts_big2 w V a n cap ac an acap h1 h2
  by_cases hG : Good V n zs
  · obtain ⟨v, es, rfl, rfl, rfl, hp⟩ := plain_of_good hE.1 hG
    obtain ⟨c, p, l, hF⟩ := fault_is hp
    have hgc : GoodC w (v : Nat) a es.length cap c := fun u hu => by
      refine (refCheck_good u v a cap es (hE.below hu) hp).mono ?_
      rintro e u' ⟨⟨c', p', l', ra, rc, hF', rfl, hN⟩, hb⟩
      obtain ⟨rfl, rfl, rfl⟩ := hF.only hp hF'
      exact ⟨⟨_, _, _, _, rfl⟩, hb⟩
    have hkc : NewC w (v : Nat) a es.length cap c p := fun u hu => by
      refine (check_good u v a cap es (hE.below hu) hno hnc hp).mono ?_
      rintro e u' ⟨⟨c', p', l', ra, rc, hF', rfl, hN⟩, hb⟩
      obtain ⟨rfl, rfl, rfl⟩ := hF.only hp hF'
      exact ⟨⟨_, _, _, rfl⟩, hb⟩
    by_cases hc : c = 0
    · subst hc
      have hok : IsFault v es 0 0 [] := by
        rcases hF with ⟨_, h, _⟩ | ⟨_, _, h, _⟩ | ⟨_, _, h, _⟩ | ⟨_, _, _, h, _⟩ | ⟨h1, h2, h3, h4, rfl, h5, rfl⟩
        · cases h
        · cases h
        · cases h
        · cases h
        · exact .inr (.inr (.inr (.inr ⟨h1, h2, h3, rfl, rfl, h5, rfl⟩)))
      obtain ⟨src, hsrc⟩ := one_source hp hok
      exact acts_good w v a cap es hE hno hnc hp hok hgc src hsrc ac an acap hA (by omega) (by omega)
    · exact acts_bad w v a es.length cap c p hc hgc hkc ac an acap h1 h2
  · refine acts_bad w V a n cap 1 0 (by decide) (fun u hu => ?_) (fun u hu => ?_) ac an acap h1 h2
    · refine (refCheck_bad u V a n cap zs (hE.below hu) hG).mono ?_
      rintro e u' ⟨rfl, hb⟩
      exact ⟨⟨_, _, _, _, rfl⟩, hb⟩
    · refine (check_bad u V a n cap zs (hE.below hu) hG).mono ?_
      rintro e u' ⟨rfl, hb⟩
      exact ⟨⟨_, _, _, rfl⟩, hb⟩

set_option maxRecDepth 100000 in
theorem lifted (os : Os) (started : os.Started) (H : Type) (enc : TypeId × Value → H) :
    ReturnsInHanded {} Try.checked os 3 .any (Rows.frontActsSpec.pre6 enc Try.prog Try.f3 Rows.frontActsRow.domain false) (Rows.frontActsSpec.post enc Try.prog Try.f3 false true false false) := by
  refine returnsInHanded_of_change_sized (C := Try.checked) own started (by kernel_rfl) Try.func3
    (ChangeSpec.witness6 (enc := enc) (C := Try.checked) false ⟨#[], #[.agg #[.int .i64 0, .slice none 0 0], .slice none 0 0], []⟩ 8 (by kernel_rfl) (by kernel_rfl) (by kernel_rfl) (by kernel_rfl)) ?_
  intro W base args ds gs before hval0 hW hcnd hsz0 _
  have hval : ∀ (j : Nat) t v, Try.f3.params[j]? = some t → args[j]? = some v → Value.okWide Try.prog W .any base t v := hval0
  have hsz1 : (DataW.weightsEach Try.prog (Try.f3.params.toList ++ Rows.frontActsSpec.plain.varTypes Try.prog) (ds ++ gs)).all (· ≤ reachBytes) = true := hsz0
  have hW' := hW
  obtain ⟨p, q, hA0, hV, rfl, hfz, hnd⟩ := hW
  have hA : DataW.TrodAll enc Try.prog W 0 (fun _ => true) true Try.f3.params.toList args.toList ds p := hA0
  rw [Try.params3] at hA hval hsz1
  obtain ⟨v0, vs0, d0, ds0, p0, q0, hargs, rfl, rfl, h0, r0⟩ := trodAll_cons hA
  obtain ⟨v1, vs1, d1, ds1, p1, q1, rfl, rfl, rfl, h1, r1⟩ := trodAll_cons r0
  obtain ⟨rfl, rfl, rfl⟩ := trodAll_nil r1
  obtain rfl : args = #[v0, v1] := by cases args; simp_all
  obtain ⟨rfl, rfl⟩ := trodVars_none hV
  have lt0 : ∀ x ∈ p0, x.block < W.heap.size := by obtain ⟨m, hm⟩ := h0; exact DataW.trod_lt m _ _ _ hm
  have lt1 : ∀ x ∈ p1, x.block < W.heap.size := by obtain ⟨m, hm⟩ := h1; exact DataW.trod_lt m _ _ _ hm
  have s0 : (DataW.weights Try.prog 24 d0).all (· ≤ reachBytes) = true := List.all_eq_true.2 fun z hz => List.all_eq_true.1 hsz1 z (DataW.weights_mem_each (j := 0) (t := 24) rfl rfl z hz)
  have s1 : (DataW.weights Try.prog 25 d1).all (· ≤ reachBytes) = true := List.all_eq_true.2 fun z hz => List.all_eq_true.1 hsz1 z (DataW.weights_mem_each (j := 1) (t := 25) rfl rfl z hz)
  have g0 := graph_all (hval 0 24 v0 rfl rfl) h0 s0
  have g1 := acts_open (hval 1 25 v1 rfl rfl) h1 s1
  clear hA0 hval0
  refine (walk W v0 v1 g0 g1).mono fun e W' ⟨he, bel⟩ => ?_
  subst he
  exact ⟨_, rfl, _, _, _, [], _, [], hW', trodAll_mk1 (shut_bool Try.underlying4 _), (trodAll_cons_mk (Below.trod laidOut (by kernel_rfl) (of_decide_eq_true (by kernel_rfl)) h0 bel lt0) (trodAll_cons_mk (Below.trod laidOut (by kernel_rfl) (of_decide_eq_true (by kernel_rfl)) h1 bel lt1) trodAll_mk0)), rfl, bel.frame _, fun h => by cases h⟩

theorem over : Rows.frontActsRow.holds Try.pinned (OpenSpec.ofChange Rows.frontActsSpec) :=
  OpenClaim.holds_of_wide 3 Try.f3 rfl rfl rfl rfl rfl rfl rfl ⟨rfl, rfl, rfl, rfl, rfl⟩ rfl rfl rfl rfl rfl (by kernel_rfl) Try.func3 (by kernel_rfl)
    (of_decide_eq_true (by kernel_rfl)) (by unfold Func.isWrapper; first | (rw [if_pos (by decide +kernel)]; kernel_rfl) | (rw [if_neg (by decide +kernel)]; exact ⟨rfl, rfl⟩))
    (fun os started H enc _ => lifted os started H enc)

theorem proved : Rows.FrontActsSaid := over
#print axioms proved
end Go.Proofs.Ytdkchihomllokaa.frontActs




/-
  For every graph and every two numbers the statement BlockGrows answers true, and its arguments read as they read before. Conditions: none (the statement's own row).
-/
import Derived.Test.YtanieejckjekhaaWg
import Derived.Test.YtanieejckjekhaaLawOpen
import Derived.Test.YtanieejckjekhaaRows
namespace Go.Proofs.Ytanieejckjekhaa.blockGrows
open Go.ChangeShapes Go.WideShapes Go.ChangeAt Go.RowKit
set_option linter.unusedVariables false
set_option maxRecDepth 20000

set_option maxHeartbeats 4000000 in
theorem loose (w : World) (V : Int) (a : Option Addr) (n cap : Nat) (zs : List (Int × Int)) (x0 y0 : Int) (h : 200 < n ∨ Es 0 w a n zs) (hl : LooseP V n zs) :
    Calls Try.prog 6 #[.agg #[.int .i64 V, .slice a n cap], .int .i64 x0, .int .i64 y0] w fun e w' => e = .returned (.bool true) ∧ Below w.heap.size w w' := by
  have HE := hide h
  have HL := hide hl
  have HB0 := hide (Bg.start w (.int .i64 V) (.slice a n cap))
  clear h hl
  go_enter Try.func6, Try.ntmps6
  go_wp2_with fail
  refine (speaks_any _).mono ?_
  rintro e w1 ⟨rfl, hb1⟩
  have HB1 := hide ((unhide HB0).step hb1)
  obtain ⟨g0, g1⟩ := (unhide HB1).cells
  clear hb1 HB0
  go_wp2_with fail
  refine (loose_any w1 V a n cap zs (B := 0) ((unhide HE).imp id fun h => h.below (unhide HB1).bel)).mono ?_
  rintro e w2 ⟨⟨r, rfl, hr⟩, hb2⟩
  have hrt : r = true := hr.2 (unhide HL)
  subst hrt
  have HB2 := hide ((unhide HB1).step hb2)
  clear hb2 HB1 g0 g1 hr
  go_wp2_with fail
  go_ret
  exact ⟨rfl, (unhide HB2).bel⟩

theorem int_open {W : World} {base : Nat} {v : Value} (hv : Value.okWide Try.prog W .any base 3 v) : ∃ x : Int, v = .int .i64 x := by
  obtain ⟨x, hx⟩ := okWide_int Try.underlying3 hv
  exact ⟨x, hx⟩

theorem walk (w : World) (v0 v1 v2 : Value) (h0 : GraphIn w v0) (h1 : ∃ x : Int, v1 = .int .i64 x) (h2 : ∃ x : Int, v2 = .int .i64 x) :
    Calls Try.prog 6 #[v0, v1, v2] w fun e w' => e = .returned (.bool true) ∧ Below w.heap.size w w' := by
  obtain ⟨V, a, n, cap, zs, rfl, hnc, hno, hE⟩ := h0
  obtain ⟨x0, rfl⟩ := h1
  obtain ⟨y0, rfl⟩ := h2
  by_cases hl : LooseP V n zs
  · exact loose w V a n cap zs x0 y0 hE hl
  · have hn : n ≤ 40 := Nat.le_of_not_lt fun h => hl (.inl h)
    have hE' : Es 0 w a n zs := hE.resolve_left (by omega)
    obtain ⟨v, es, rfl, rfl, hne, hp, hnl, _, _⟩ := tight hE'.1 hl
    exact grows_walk w v a n cap es x0 y0 hE' hne.symm hno hp hnl hl hn

set_option maxRecDepth 100000 in
theorem lifted (os : Os) (started : os.Started) (H : Type) (enc : TypeId × Value → H) :
    ReturnsInHanded {} Try.checked os 6 .any (Rows.blockGrowsSpec.pre6 enc Try.prog Try.f6 Rows.blockGrowsRow.domain false) (Rows.blockGrowsSpec.post enc Try.prog Try.f6 false true false false) := by
  refine returnsInHanded_of_change (C := Try.checked) own started (by kernel_rfl) Try.func6
    (ChangeSpec.witness6 (enc := enc) (C := Try.checked) false ⟨#[], #[.agg #[.int .i64 0, .slice none 0 0], .int .i64 0, .int .i64 0], []⟩ 8 (by kernel_rfl) (by kernel_rfl) (by kernel_rfl) (by kernel_rfl)) ?_
  intro W base args ds gs before hval0 hW hcnd _
  have hval : ∀ (j : Nat) t v, Try.f6.params[j]? = some t → args[j]? = some v → Value.okWide Try.prog W .any base t v := hval0
  have hW' := hW
  obtain ⟨p, q, hA0, hV, rfl, hfz, hnd⟩ := hW
  have hA : DataW.TrodAll enc Try.prog W 0 (fun _ => true) true Try.f6.params.toList args.toList ds p := hA0
  rw [Try.params6] at hA hval
  obtain ⟨v0, vs0, d0, ds0, p0, q0, hargs, rfl, rfl, h0, r0⟩ := trodAll_cons hA
  obtain ⟨v1, vs1, d1, ds1, p1, q1, rfl, rfl, rfl, h1, r1⟩ := trodAll_cons r0
  obtain ⟨v2, vs2, d2, ds2, p2, q2, rfl, rfl, rfl, h2, r2⟩ := trodAll_cons r1
  obtain ⟨rfl, rfl, rfl⟩ := trodAll_nil r2
  obtain rfl : args = #[v0, v1, v2] := by cases args; simp_all
  obtain ⟨rfl, rfl⟩ := trodVars_none hV
  have lt0 : ∀ x ∈ p0, x.block < W.heap.size := by obtain ⟨m, hm⟩ := h0; exact DataW.trod_lt m _ _ _ hm
  have lt1 : ∀ x ∈ p1, x.block < W.heap.size := by obtain ⟨m, hm⟩ := h1; exact DataW.trod_lt m _ _ _ hm
  have lt2 : ∀ x ∈ p2, x.block < W.heap.size := by obtain ⟨m, hm⟩ := h2; exact DataW.trod_lt m _ _ _ hm
  have g0 := graph_open (hval 0 24 v0 rfl rfl) h0
  have g1 := int_open (hval 1 3 v1 rfl rfl)
  have g2 := int_open (hval 2 3 v2 rfl rfl)
  clear hA0 hval0
  refine (walk W v0 v1 v2 g0 g1 g2).mono fun e W' ⟨he, bel⟩ => ?_
  subst he
  exact ⟨_, rfl, _, _, _, [], _, [], hW', trodAll_mk1 (shut_bool Try.underlying4 _),
    (trodAll_cons_mk (Below.trod laidOut (by kernel_rfl) (of_decide_eq_true (by kernel_rfl)) h0 bel lt0) (trodAll_cons_mk (Below.trod laidOut (by kernel_rfl) (of_decide_eq_true (by kernel_rfl)) h1 bel lt1) (trodAll_cons_mk (Below.trod laidOut (by kernel_rfl) (of_decide_eq_true (by kernel_rfl)) h2 bel lt2) trodAll_mk0))),
    rfl, bel.frame _, fun h => by cases h⟩

theorem over : Rows.blockGrowsRow.holds Try.pinned (OpenSpec.ofChange Rows.blockGrowsSpec) :=
  OpenClaim.holds_of_wide 6 Try.f6 rfl rfl rfl rfl rfl rfl rfl ⟨rfl, rfl, rfl, rfl, rfl⟩ rfl rfl rfl rfl rfl (by kernel_rfl) Try.func6 (by kernel_rfl)
    (of_decide_eq_true (by kernel_rfl)) (by unfold Func.isWrapper; first | (rw [if_pos (by decide +kernel)]; kernel_rfl) | (rw [if_neg (by decide +kernel)]; exact ⟨rfl, rfl⟩))
    (fun os started H enc _ => lifted os started H enc)

theorem proved : Rows.BlockGrowsSaid := over
#print axioms proved
end Go.Proofs.Ytanieejckjekhaa.blockGrows


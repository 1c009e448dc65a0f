/-
  For every graph the statement BlockTree answers true, and its argument reads as it read before. Conditions: none (the statement's own row).
-/
import Derived.Test.YtbecmaandhadhaaWbt
import Derived.Test.YtbecmaandhadhaaLawOpen
import Derived.Test.YtbecmaandhadhaaRows
namespace Go.Proofs.Ytbecmaandhadhaa.blockTree
open Go.ChangeShapes Go.WideShapes Go.ChangeAt Go.RowKit
set_option linter.unusedVariables false
set_option maxRecDepth 20000

theorem walk (w : World) (v0 : Value) (h0 : GraphIn w v0) :
    Calls Try.prog 4 #[v0] w fun e w' => e = .returned (.bool true) ∧ Below w.heap.size w w' := by
  obtain ⟨V, a, n, cap, zs, rfl, hnc, hno, hE⟩ := h0
  by_cases hl : LooseP V n zs
  · exact pt.btree_loose w V a n cap zs hE hl
  · have hn : n ≤ 40 := Nat.le_of_not_lt fun h => hl (.inl h)
    have hE' : Es 0 w a n zs := hE.resolve_left (by omega)
    obtain ⟨v, es, rfl, rfl, hne, hp, hnl, _, _⟩ := tight hE'.1 hl
    obtain ⟨L, hL⟩ := isBl_ex (V := v) (es := es) ⟨hnl, fun i hi => hp.at hi⟩
    rcases Nat.eq_zero_or_pos n with h0 | h0
    · subst h0
      exact pt.btree_none w v a cap es hE' hne.symm hno hp hnl L hL hl
    · exact pt.btree_some w v a n cap es hE' hne.symm hno hp hnl L hL hl hn h0

set_option maxRecDepth 100000 in
theorem lifted (os : Os) (started : os.Started) (H : Type) (enc : TypeId × Value → H) :
    ReturnsInHanded {} Try.checked os 4 .any (Rows.blockTreeSpec.pre6 enc Try.prog Try.f4 Rows.blockTreeRow.domain false) (Rows.blockTreeSpec.post enc Try.prog Try.f4 false true false false) := by
  refine returnsInHanded_of_change (C := Try.checked) own started (by kernel_rfl) Try.func4
    (ChangeSpec.witness6 (enc := enc) (C := Try.checked) false ⟨#[], #[.agg #[.int .i64 0, .slice none 0 0]], []⟩ 8 (by kernel_rfl) (by kernel_rfl) (by kernel_rfl) (by kernel_rfl)) ?_
  intro W base args ds gs before hval0 hW hcnd _
  have hval : ∀ (j : Nat) t v, Try.f4.params[j]? = some t → args[j]? = some v → Value.okWide Try.prog W .any base t v := hval0
  have hW' := hW
  obtain ⟨p, q, hA0, hV, rfl, hfz, hnd⟩ := hW
  have hA : DataW.TrodAll enc Try.prog W 0 (fun _ => true) true Try.f4.params.toList args.toList ds p := hA0
  rw [Try.params4] at hA hval
  obtain ⟨v0, vs0, d0, ds0, p0, q0, hargs, rfl, rfl, h0, r0⟩ := trodAll_cons hA
  obtain ⟨rfl, rfl, rfl⟩ := trodAll_nil r0
  obtain rfl : args = #[v0] := by cases args; simp_all
  obtain ⟨rfl, rfl⟩ := trodVars_none hV
  have lt0 : ∀ x ∈ p0, x.block < W.heap.size := by obtain ⟨m, hm⟩ := h0; exact DataW.trod_lt m _ _ _ hm
  have g0 := graph_open (hval 0 24 v0 rfl rfl) h0
  clear hA0 hval0
  refine (walk W v0 g0).mono fun e W' ⟨he, bel⟩ => ?_
  subst he
  exact ⟨_, rfl, _, _, _, [], _, [], hW', trodAll_mk1 (shut_bool Try.underlying4 _),
    (trodAll_cons_mk (Below.trod laidOut (by kernel_rfl) (of_decide_eq_true (by kernel_rfl)) h0 bel lt0) trodAll_mk0),
    rfl, bel.frame _, fun h => by cases h⟩

theorem over : Rows.blockTreeRow.holds Try.pinned (OpenSpec.ofChange Rows.blockTreeSpec) :=
  OpenClaim.holds_of_wide 4 Try.f4 rfl rfl rfl rfl rfl rfl rfl ⟨rfl, rfl, rfl, rfl, rfl⟩ rfl rfl rfl rfl rfl (by kernel_rfl) Try.func4 (by kernel_rfl)
    (of_decide_eq_true (by kernel_rfl)) (by unfold Func.isWrapper; first | (rw [if_pos (by decide +kernel)]; kernel_rfl) | (rw [if_neg (by decide +kernel)]; exact ⟨rfl, rfl⟩))
    (fun os started H enc _ => lifted os started H enc)

theorem proved : Rows.BlockTreeSaid := over
#print axioms proved
end Go.Proofs.Ytbecmaandhadhaa.blockTree



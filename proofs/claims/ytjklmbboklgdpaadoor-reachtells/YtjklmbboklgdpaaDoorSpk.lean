/-
  The statements' own first look (speaks) tells true: the document's example. And Transitive tells nothing of a graph that may not be. Conditions: the table of math/bits holds what its initialiser lays.
-/
import Derived.Test.YtjklmbboklgdpaaDoorTr
namespace Go.Proofs.YtjklmbboklgdpaaDoor
open Go.RowKit
set_option linter.unusedVariables false

theorem star_stuck {R : Nat → Nat → Prop} {S : Nat → Prop} {i j : Nat} (h : Star R i j) (h0 : S i) (hs : ∀ a b, S a → R a b → S b) : S j := h.ind h0 fun a b _ ha hr => hs a b ha hr

def exEs : List (Nat × Nat) := [(0, 1), (1, 2), (0, 2)]
theorem ex_tr : IsTr exEs 3 [2] := by
  have h0 : ¬ Trv exEs 0 := by
    intro h
    have h' : Star (Via [(1, 2), (0, 2)]) 0 1 := h
    have := star_stuck (S := fun x => x ≠ 1) h' (by decide) (by intro a b ha hr; unfold Via at hr; simp at hr; omega)
    exact this rfl
  have h1 : ¬ Trv exEs 1 := by
    intro h
    have h' : Star (Via [(0, 1), (0, 2)]) 1 2 := h
    have := star_stuck (S := fun x => x = 1) h' rfl (by intro a b ha hr; unfold Via at hr; simp at hr; omega)
    cases this
  have h2 : Trv exEs 2 := by
    have h' : Star (Via [(0, 1), (1, 2)]) 0 2 := (Star.refl.step (show Via [(0, 1), (1, 2)] 0 1 by simp [Via])).step (show Via [(0, 1), (1, 2)] 1 2 by simp [Via])
    exact h'
  exact ((IsTr.nil exEs).no h0 |>.no h1).yes h2
theorem ex_plain : Plain 3 exEs := ⟨by decide, by decide, by decide, by decide⟩
def exCells : Array Value := #[.int .i64 0, .int .i64 1, .int .i64 1, .int .i64 2, .int .i64 0, .int .i64 2]
theorem ex_es {u wk : World} (h : Bt 45 exCells u wk) : Es 0 wk (some ⟨u.heap.size, 0, none⟩) exEs.length (toI exEs) := by
  refine ⟨rfl, by decide, fun k hk => ⟨u.heap.size, 0, rfl, Nat.zero_le _, h.lt, ?_⟩⟩
  have hk3 : k < 3 := hk
  match k, hk3 with
  | 0, _ => exact ⟨h.cell 0 rfl, h.cell 1 rfl⟩
  | 1, _ => exact ⟨h.cell 2 rfl, h.cell 3 rfl⟩
  | 2, _ => exact ⟨h.cell 4 rfl, h.cell 5 rfl⟩

set_option maxHeartbeats 2000000 in
theorem speaks_any (w : World) (hT : Tab w) : Calls Tryd.prog 7 #[] w fun e w' => e = .returned (.bool true) ∧ Below w.heap.size w w' := by
  have HTR := hide (fun (u : World) (hT : Tab u) (a : Option Addr) (h : Es 0 u a exEs.length (toI exEs)) => show Calls Tryd.prog 14 #[.agg #[.int .i64 3, .slice a 3 3]] u fun e w' => (∃ a1 c1, e = .returned (.slice a1 1 c1) ∧ Ns w' a1 1 [2]) ∧ Below u.heap.size u w' from by
    refine (trans_any u hT 3 a 3 exEs h (Nat.le_refl _) ex_plain).mono ?_
    rintro e w' ⟨⟨v, l, rfl, hl, ho⟩, hb⟩
    obtain rfl := hl.only ex_tr
    obtain ⟨a1, c1, rfl, _, hn⟩ := ns_of_owns ho (by decide)
    exact ⟨⟨a1, c1, rfl, hn⟩, hb⟩)
  have HT := hide hT
  clear hT
  go_enter Tryd.func7, Tryd.ntmps7
  go_wp2_with fail
  have X0 := hide ((Bt.start 45 exCells w).step (b_al (.cells #[.int .i64 3, .slice (some ⟨w.heap.size, 0, none⟩) 3 3] 33)))
  refine (unhide HTR _ ((unhide HT).below (unhide X0).bel) _ (ex_es (unhide X0))).mono ?_
  rintro e w1 ⟨⟨a1, c1, rfl, h1⟩, hb⟩
  have X1 := hide ((unhide X0).step hb)
  have N1 := hide h1
  clear hb h1 X0 HTR
  go_wp2_with fail
  refine (same_yes _ a1 _ 1 c1 1 [2] ((unhide N1).below (b_al _)) (ns_one w1 2)).mono ?_
  rintro e w2 ⟨rfl, m, hw2⟩
  have X2 := hide (((unhide X1).step (b_al (.cells #[.int .i64 2] 3))).step (below_refl_draws _ m))
  rw [← hw2] at X2
  clear hw2 X1 N1
  go_wp2_with fail
  refine (of_any _ _ 2 2 [1, 5] (ns_two w2 1 5)).mono ?_
  rintro e w3 ⟨rfl, hw3⟩
  obtain rfl := hw3.symm
  clear hw3
  have X3 := hide ((unhide X2).step (b_al (.cells #[.int .i64 1, .int .i64 5] 3)))
  clear X2
  generalize (w2.alloc (.cells #[.int .i64 1, .int .i64 5] 3)) = wa at X3 ⊢
  go_wp2_with fail
  refine (has_any _ _ (ofS_lt _) 5).mono ?_
  rintro e w4 ⟨rfl, hb⟩
  have X4 := hide ((unhide X3).step hb)
  clear hb X3
  have hh : hasI (ofS [1, 5]) 5 = true := by decide
  rw [hh]
  go_wp2_with fail
  go_ret
  exact ⟨rfl, (unhide X4).bel⟩

set_option maxHeartbeats 1000000 in
theorem trans_no (w : World) (V : Int) (a : Option Addr) (n cap : Nat) (zs : List (Int × Int)) {B : Nat} (h : Es B w a n zs) (hno : ¬ Good V n zs) :
    Calls Tryd.prog 14 #[.agg #[.int .i64 V, .slice a n cap]] w fun e w' => e = .returned (.slice none 0 0) ∧ Below w.heap.size w w' := by
  have HB0 := hide (Bg.start w (.int .i64 V) (.slice a n cap))
  have HE := hide h
  clear h
  go_enter Tryd.func14, Tryd.ntmps14
  go_wp2_with fail
  refine (may_no _ V a n cap zs ((unhide HE).below (unhide HB0).bel) hno).mono ?_
  rintro e w1 ⟨rfl, hb1⟩
  have HB1 := hide ((unhide HB0).step hb1)
  clear hb1 HB0
  go_wp2_with fail
  go_ret
  exact ⟨rfl, (unhide HB1).bel⟩
end Go.Proofs.YtjklmbboklgdpaaDoor


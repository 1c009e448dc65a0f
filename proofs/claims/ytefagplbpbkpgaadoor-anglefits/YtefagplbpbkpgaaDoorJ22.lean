/-
  The walk of the statement AngleFits. Conditions: the graph and the lists lie in memory as told; the table of math/bits lies where it should.
-/
import Derived.Test.YtefagplbpbkpgaaDoorJ21
import Derived.Test.YtefagplbpbkpgaaDoorJ15
import Derived.Test.YtefagplbpbkpgaaDoorJ16
import Derived.Test.YtefagplbpbkpgaaDoorJ11
namespace Go.Proofs.YtefagplbpbkpgaaDoor
open Go.RowKit
set_option linter.unusedVariables false
set_option maxRecDepth 20000
set_option maxHeartbeats 4000000 in
theorem af_great (w : World) (hT : pt.Tab w) (V : Int) (a : Option Addr) (n cap : Nat) (ra : Option Addr) (m rc : Nat) (rs : List (List Int)) (hr : Rq w ra m rs) (hg : GreatP 14 n m rs) :
    Calls Tryd.prog 4 #[.agg #[.int .i64 V, .slice a n cap], .slice ra m rc] w fun e w' => e = .returned (.bool true) ∧ Below w.heap.size w w' := by
  have HR := hide hr
  have HG := hide hg
  have HB0 := hide (Bg.start w (.int .i64 V) (.slice a n cap))
  have HSP := hide (speaks_any _ (hT.below (unhide HB0).bel))
  clear hr hg hT
  go_enter Tryd.func4, Tryd.ntmps4
  go_wp2_with fail
  refine (unhide HSP).mono ?_
  rintro e w1 ⟨rfl, hb1⟩
  have HB1 := hide ((unhide HB0).step hb1)
  obtain ⟨g0, g1⟩ := (unhide HB1).cells
  clear hb1 HB0 HSP
  go_wp2_with fail
  refine (great_any w1 V a n cap ra m rc rs ((unhide HR).below (unhide HB1).bel) 14 (by decide)).mono ?_
  rintro e w2 ⟨⟨r, rfl, hr⟩, hb2⟩
  have hrt : r = true := hr.2 (unhide HG)
  subst hrt
  have HB2 := hide ((unhide HB1).step hb2)
  clear hb2 HB1 g0 g1 hr
  go_wp2_with fail
  go_ret
  exact ⟨rfl, (unhide HB2).bel⟩
set_option maxHeartbeats 8000000 in
theorem af_odd (w : World) (hT : pt.Tab w) (V : Int) (a : Option Addr) (n cap : Nat) (ra : Option Addr) (m rc : Nat) (rs : List (List Int)) (hq : Rq w ra m rs) (hg : ¬ GreatP 14 n m rs) (hno : NoCan w V a n cap ra m rc)
    (ho : ∀ u, Below w.heap.size w u → Calls Tryd.prog 9 #[.agg #[.int .i64 V, .slice a n cap], .slice ra m rc] u fun e w' => e = .returned (.bool true) ∧ Below u.heap.size u w') :
    Calls Tryd.prog 4 #[.agg #[.int .i64 V, .slice a n cap], .slice ra m rc] w fun e w' => e = .returned (.bool true) ∧ Below w.heap.size w w' := by
  have HR := hide hq
  have HG := hide hg
  have HB0 := hide (Bg.start w (.int .i64 V) (.slice a n cap))
  have HSP := hide (speaks_any _ (hT.below (unhide HB0).bel))
  have HNO := hide hno
  have HO := hide ho
  clear hq hg hT hno ho
  go_enter Tryd.func4, Tryd.ntmps4
  go_wp2_with fail
  refine (unhide HSP).mono ?_
  rintro e w1 ⟨rfl, hb1⟩
  have HB1 := hide ((unhide HB0).step hb1)
  obtain ⟨g0, g1⟩ := (unhide HB1).cells
  clear hb1 HB0 HSP
  go_wp2_with fail
  refine (great_any w1 V a n cap ra m rc rs ((unhide HR).below (unhide HB1).bel) 14 (by decide)).mono ?_
  rintro e w2 ⟨⟨r, rfl, hr⟩, hb2⟩
  have hrt : r = false := by
    cases r with
    | false => rfl
    | true => exact absurd (hr.1 rfl) (unhide HG)
  subst hrt
  have HB2 := hide ((unhide HB1).step hb2)
  clear hb2 HB1 g0 g1 hr
  obtain ⟨g0, g1⟩ := (unhide HB2).cells
  go_wp2_with fail
  refine (assign_no w2 V a n cap ra m rc ((unhide HNO).below (unhide HB2).bel)).mono ?_
  unfold NoAns
  rintro e w3 ⟨rfl, hb3⟩
  have HB3 := hide ((unhide HB2).step hb3)
  clear hb3 HB2 g0 g1
  obtain ⟨g0, g1⟩ := (unhide HB3).cells
  go_wp2_with fail
  refine (unhide HO w3 (unhide HB3).bel).mono ?_
  rintro e w4 ⟨rfl, hb4⟩
  have HB4 := hide ((unhide HB3).step hb4)
  clear hb4 HB3 g0 g1
  go_wp2_with fail
  go_ret
  exact ⟨by first | rfl | simp, (unhide HB4).bel⟩
set_option maxHeartbeats 8000000 in
theorem af_alone (w : World) (V : Nat) (a : Option Addr) (cap : Nat) (es : List (Nat × Nat)) (ra : Option Addr) (m rc : Nat) (q : List (List Nat)) (N : Nat → Nat) (c g : Nat) (h : Gd w V a 0 cap es ra m rc q N c g) (hq : Rq w ra m (rowsI q)) (hg : ¬ GreatP 14 0 m (rowsI q)) (hn : Nice V es c g)
    (ho : ∀ u, Below w.heap.size w u → Calls Tryd.prog 9 #[.agg #[.int .i64 V, .slice a 0 cap], .slice ra m rc] u fun e w' => e = .returned (.bool false) ∧ Below u.heap.size u w') :
    Calls Tryd.prog 4 #[.agg #[.int .i64 V, .slice a 0 cap], .slice ra m rc] w fun e w' => e = .returned (.bool true) ∧ Below w.heap.size w w' := by
  obtain ⟨F, hF⟩ := fc_ex h.pm
  have HR := hide hq
  have HG := hide hg
  have HB0 := hide (Bg.start w (.int .i64 V) (.slice a 0 cap))
  have HSP := hide (speaks_any _ (h.tab.below (unhide HB0).bel))
  have HAL := hide (fun (u : World) (hu : Below w.heap.size w u) => assign_alone u V a cap es ra m rc q N c g (h.below hu) hn F hF)
  have HO := hide ho
  clear hq hg h hn ho hF
  go_enter Tryd.func4, Tryd.ntmps4
  go_wp2_with fail
  refine (unhide HSP).mono ?_
  rintro e w1 ⟨rfl, hb1⟩
  have HB1 := hide ((unhide HB0).step hb1)
  obtain ⟨g0, g1⟩ := (unhide HB1).cells
  clear hb1 HB0 HSP
  go_wp2_with fail
  refine (great_any w1 V a 0 cap ra m rc _ ((unhide HR).below (unhide HB1).bel) 14 (by decide)).mono ?_
  rintro e w2 ⟨⟨r, rfl, hr⟩, hb2⟩
  have hrt : r = false := by
    cases r with
    | false => rfl
    | true => exact absurd (hr.1 rfl) (unhide HG)
  subst hrt
  have HB2 := hide ((unhide HB1).step hb2)
  clear hb2 HB1 g0 g1 hr
  obtain ⟨g0, g1⟩ := (unhide HB2).cells
  go_wp2_with fail
  refine (unhide HAL w2 (unhide HB2).bel).mono ?_
  rintro e w3 ⟨⟨gq, rfl, hc, hgq⟩, hb3⟩
  have HB3 := hide ((unhide HB2).step hb3)
  have HCQ := hide hc
  clear hb3 HB2 g0 g1 hc
  obtain ⟨g0, g1⟩ := (unhide HB3).cells
  go_wp2_with fail
  refine (unhide HO w3 (unhide HB3).bel).mono ?_
  rintro e w4 ⟨rfl, hb4⟩
  have HB4 := hide ((unhide HB3).step hb4)
  have c4 : w4.cell? ⟨gq, 0, none⟩ = some (.int .i64 (-1)) := by rw [hb4.cell (p := ⟨gq, 0, none⟩) hgq]; exact unhide HCQ
  clear hb4 HB3 g0 g1
  obtain ⟨g0, g1⟩ := (unhide HB4).cells
  go_wp2_with fail
  go_ret
  exact ⟨by first | rfl | simp, (unhide HB4).bel⟩
set_option maxHeartbeats 8000000 in
theorem af_none (w : World) (hT : pt.Tab w) (V : Nat) (a : Option Addr) (n cap : Nat) (ra : Option Addr) (m rc : Nat) (rs : List (List Int)) (hq : Rq w ra m rs) (hg : ¬ GreatP 14 n m rs) (hn0 : 0 < n)
    (ho : ∀ u, Below w.heap.size w u → Calls Tryd.prog 9 #[.agg #[.int .i64 V, .slice a n cap], .slice ra m rc] u fun e w' => e = .returned (.bool false) ∧ Below u.heap.size u w')
    (ha : ∀ u, Below w.heap.size w u → Calls Tryd.prog 14 #[.agg #[.int .i64 V, .slice a n cap], .slice ra m rc] u fun e w' => e = NoAns ∧ Below u.heap.size u w')
    (hu : ∀ u, Below w.heap.size w u → Calls Tryd.prog 15 #[.agg #[.int .i64 V, .slice a n cap], .slice ra m rc] u fun e w' => e = .returned (.int .i64 (-1)) ∧ Below u.heap.size u w') :
    Calls Tryd.prog 4 #[.agg #[.int .i64 V, .slice a n cap], .slice ra m rc] w fun e w' => e = .returned (.bool true) ∧ Below w.heap.size w w' := by
  have HR := hide hq
  have HG := hide hg
  have HB0 := hide (Bg.start w (.int .i64 V) (.slice a n cap))
  have HSP := hide (speaks_any _ (hT.below (unhide HB0).bel))
  have HA := hide ha
  have HU := hide hu
  have HO := hide ho
  have tn : ((n : Int) == 0) = false := by rw [beq_eq_false_iff_ne]; omega
  clear hq hg hT ha hu ho
  go_enter Tryd.func4, Tryd.ntmps4
  go_wp2_with fail
  refine (unhide HSP).mono ?_
  rintro e w1 ⟨rfl, hb1⟩
  have HB1 := hide ((unhide HB0).step hb1)
  obtain ⟨g0, g1⟩ := (unhide HB1).cells
  clear hb1 HB0 HSP
  go_wp2_with fail
  refine (great_any w1 V a n cap ra m rc rs ((unhide HR).below (unhide HB1).bel) 14 (by decide)).mono ?_
  rintro e w2 ⟨⟨r, rfl, hr⟩, hb2⟩
  have hrt : r = false := by
    cases r with
    | false => rfl
    | true => exact absurd (hr.1 rfl) (unhide HG)
  subst hrt
  have HB2 := hide ((unhide HB1).step hb2)
  clear hb2 HB1 g0 g1 hr
  obtain ⟨g0, g1⟩ := (unhide HB2).cells
  go_wp2_with fail
  refine (unhide HA w2 (unhide HB2).bel).mono ?_
  unfold NoAns
  rintro e w3 ⟨rfl, hb3⟩
  have HB3 := hide ((unhide HB2).step hb3)
  clear hb3 HB2 g0 g1
  obtain ⟨g0, g1⟩ := (unhide HB3).cells
  go_wp2_with fail
  refine (unhide HO w3 (unhide HB3).bel).mono ?_
  rintro e w4 ⟨rfl, hb4⟩
  have HB4 := hide ((unhide HB3).step hb4)
  clear hb4 HB3 g0 g1
  obtain ⟨g0, g1⟩ := (unhide HB4).cells
  go_wp2_with fail
  refine (unhide HU w4 (unhide HB4).bel).mono ?_
  rintro e w5 ⟨rfl, hb5⟩
  have HB5 := hide ((unhide HB4).step hb5)
  clear hb5 HB4 g0 g1
  obtain ⟨g0, g1⟩ := (unhide HB5).cells
  go_wp2_with fail
  go_ret
  exact ⟨by first | rfl | simp, (unhide HB5).bel⟩
end Go.Proofs.YtefagplbpbkpgaaDoor
/-
  The walk of the statement AngleFits where some assignment is told. Conditions: the graph and the lists lie in memory as told; what is told is told.
-/
namespace Go.Proofs.YtefagplbpbkpgaaDoor
open Go.RowKit
set_option linter.unusedVariables false
set_option maxRecDepth 20000
/-- each source and sink has an angle of its own, and all the room is taken -/
def Full (A : Nat → Nat → Nat) (H Kf V : Nat) (E : List Nat) (o : Nat) (gr : Nat → Int) : Prop :=
  (∀ x, x < V → (x ∈ E → ∃ h, h < H ∧ A h 1 = x ∧ gr x = (h : Int)) ∧ (¬ x ∈ E → gr x = -1)) ∧ ∀ f, f < Kf → occ (fun h => A h 2) gr f V = capF (rmF A H) o f
theorem occ_le (fa : Nat → Nat) (gr : Nat → Int) (f : Nat) : ∀ V, occ fa gr f V ≤ V := by
  intro V
  induction V with
  | zero => exact Int.le_refl _
  | succ V ih =>
    unfold occ ind
    split <;> omega
theorem take_snoc {E : List Nat} {k : Nat} (h : k < E.length) : E.take (k + 1) = E.take k ++ [E.getD k 0] := by
  rw [List.take_add_one]
  simp [List.getD, h]
set_option maxHeartbeats 16000000 in
theorem af_some (w : World) (hT : pt.Tab w) (V : Nat) (a : Option Addr) (n cap : Nat) (ra : Option Addr) (m rc : Nat) (rs : List (List Int)) (hq : Rq w ra m rs) (hg : ¬ GreatP 14 n m rs) (hn0 : 0 < n)
    (A : Nat → Nat → Nat) (H Kf o : Nat) (E : List Nat) (hoK : o < Kf) (hV : V ≤ 64) (hH : H ≤ 256) (hKf : Kf ≤ 256) (hEl : E.length ≤ 128) (hEV : ∀ x ∈ E, x < V) (hA2 : ∀ t, t < H → A t 2 < Kf)
    (hod : ∀ u, Below w.heap.size w u → Calls Tryd.prog 9 #[.agg #[.int .i64 V, .slice a n cap], .slice ra m rc] u fun e w' => e = .returned (.bool false) ∧ Below u.heap.size u w')
    (ha : ∀ u, Below w.heap.size w u → Calls Tryd.prog 14 #[.agg #[.int .i64 V, .slice a n cap], .slice ra m rc] u fun e w' => (∃ gG gc gr, e = .returned (.tuple #[.int .i64 (o : Nat), .slice (some ⟨gG, 0, none⟩) V gc, .bool true]) ∧ RowZ w' gG V gr ∧ u.heap.size ≤ gG ∧ Full A H Kf V E o gr) ∧ Below u.heap.size u w')
    (hu : ∀ u, Below w.heap.size w u → Calls Tryd.prog 15 #[.agg #[.int .i64 V, .slice a n cap], .slice ra m rc] u fun e w' => e = .returned (.int .i64 (o : Nat)) ∧ Below u.heap.size u w')
    (han : ∀ u, Below w.heap.size w u → Calls Tryd.prog 12 #[.agg #[.int .i64 V, .slice a n cap], .slice ra m rc] u fun e w' => (∃ v, e = .returned v ∧ w'.ownsRow u.heap.size 36 4 v H (acells A H)) ∧ Below u.heap.size u w')
    (hrm : ∀ u, Below w.heap.size w u → Calls Tryd.prog 16 #[.agg #[.int .i64 V, .slice a n cap], .slice ra m rc, .int .i64 (o : Nat)] u fun e w' => (∃ gr, e = .returned (.slice (some ⟨gr, 0, none⟩) Kf Kf) ∧ u.heap.size ≤ gr ∧ RowZ w' gr Kf (rkF A o H)) ∧ Below u.heap.size u w')
    (hen : ∀ u, Below w.heap.size w u → Calls Tryd.prog 17 #[.agg #[.int .i64 V, .slice a n cap]] u fun e w' => (∃ v, e = .returned v ∧ w'.ownsRow u.heap.size 3 1 v E.length (zcells (toIs E))) ∧ Below u.heap.size u w') :
    Calls Tryd.prog 4 #[.agg #[.int .i64 V, .slice a n cap], .slice ra m rc] w fun e w' => e = .returned (.bool true) ∧ Below w.heap.size w w' := by
  have HR := hide hq
  have HG := hide hg
  have HB0 := hide (Bg.start w (.int .i64 V) (.slice a n cap))
  have HSP := hide (speaks_any _ (hT.below (unhide HB0).bel))
  have HA := hide ha
  have HU := hide hu
  have HO := hide hod
  have HAN := hide han
  have HRM := hide hrm
  have HEN := hide hen
  have HEV := hide hEV
  have HA2 := hide hA2
  have HCB := hide (show ∀ f, -1 ≤ capF (rmF A H) o f ∧ capF (rmF A H) o f ≤ 300 from fun f => by
    have := hc_le A H f
    unfold capF rmF
    split <;> omega)
  have tn : ((n : Int) == 0) = false := by rw [beq_eq_false_iff_ne]; omega
  have t0 : ((o : Int) != (o : Int)) = false := by simp
  have tv : ((V : Int) != (V : Int)) = false := by simp
  have ho0 : (0 : Int) ≤ (o : Int) := by omega
  obtain ⟨mE, hmE⟩ : ∃ mE, E.length = mE := ⟨_, rfl⟩
  rw [hmE] at HEN hEl
  have HME := hide hmE
  obtain ⟨i0, hi0, hz0, hz1, hz2⟩ := info_parts info4
  have HI := hide hi0
  have HZ0 := hide hz0
  have HZ1 := hide hz1
  have hzb : i0.bytes * V ≤ 281474976710656 := by rw [hz2]; omega
  clear hq hg hT ha hu hod han hrm hen hEV hA2 hmE hi0 hz0 hz1 hz2
  go_enter Tryd.func4, Tryd.ntmps4
  go_wp2_with fail
  refine (unhide HSP).mono ?_
  rintro e w1 ⟨rfl, hb1⟩
  have HB1 := hide ((unhide HB0).step hb1)
  obtain ⟨g0, g1⟩ := (unhide HB1).cells
  clear hb1 HB0 HSP
  go_wp2_with fail
  refine (great_any w1 V a n cap ra m rc rs ((unhide HR).below (unhide HB1).bel) 14 (by decide)).mono ?_
  rintro e w2 ⟨⟨r, rfl, hr⟩, hb2⟩
  have hrt : r = false := by
    cases r with
    | false => rfl
    | true => exact absurd (hr.1 rfl) (unhide HG)
  subst hrt
  have HB2 := hide ((unhide HB1).step hb2)
  clear hb2 HB1 g0 g1 hr
  obtain ⟨g0, g1⟩ := (unhide HB2).cells
  go_wp2_with fail
  refine (unhide HA w2 (unhide HB2).bel).mono ?_
  rintro e w3 ⟨⟨gG, gc, gr, rfl, hrow, hgG, hfull⟩, hb3⟩
  have HB3 := hide ((unhide HB2).step hb3)
  have hwG : w.heap.size < gG := by have := (unhide HB2).lt; omega
  have HRG3 := hide hrow
  have HFU := hide hfull
  clear hb3 HB2 g0 g1 hrow hgG hfull HA HR HG
  obtain ⟨g0, g1⟩ := (unhide HB3).cells
  go_wp2_with fail
  refine (unhide HO w3 (unhide HB3).bel).mono ?_
  rintro e w4 ⟨rfl, hb4⟩
  have HB4 := hide ((unhide HB3).step hb4)
  have HRG4 := hide ((unhide HRG3).below hb4)
  clear hb4 HB3 g0 g1 HRG3 HO
  obtain ⟨g0, g1⟩ := (unhide HB4).cells
  go_wp2_with fail
  refine (unhide HU w4 (unhide HB4).bel).mono ?_
  rintro e w5 ⟨rfl, hb5⟩
  have HB5 := hide ((unhide HB4).step hb5)
  have HRG5 := hide ((unhide HRG4).below hb5)
  clear hb5 HB4 g0 g1 HRG4 HU
  obtain ⟨g0, g1⟩ := (unhide HB5).cells
  go_upto_region 17 with fail
  have XD := hide ((unhide HB5).step b_dr)
  have HRG6 := hide (Row.keep (unhide HRG5) (w' := w5.drew) rfl)
  refine wp_region_held_drew (S := fun u => u.cell? ⟨w.heap.size, 0, none⟩ = some (.int .i64 (V : Int)) ∧ u.cell? ⟨w.heap.size, 1, none⟩ = some (.slice a n cap)) (by kernel_rfl) (unhide XD).cells (fun hS => ?_)
  generalize w5.drew = wd at XD HRG6 hS ⊢
  clear g0 g1 HB5 HRG5
  refine wpAnyH_take (i := 0) (v := ?_) rfl (by kernel_rfl) (by kernel_rfl) (by kernel_rfl) (fun _ _ _ h => h) (Or.inl ⟨by rfl, ?_⟩) hS ?_
  rotate_left
  · intro u hu; (try dsimp only at hu); go_simp; try with_reducible rfl
  simp only [Act.put, List.getElem_toArray, List.getElem_cons_zero, List.setIfInBounds_toArray, List.set_cons_zero, List.set_cons_succ]
  refine wpAnyH_take (i := 1) (v := ?_) rfl (by kernel_rfl) (by kernel_rfl) (by kernel_rfl) (fun _ _ _ h => h) (Or.inl ⟨by rfl, ?_⟩) hS ?_
  rotate_left
  · intro u hu; (try dsimp only at hu); go_simp; try with_reducible rfl
  simp only [Act.put, List.getElem_toArray, List.getElem_cons_zero, List.getElem_cons_succ, List.setIfInBounds_toArray, List.set_cons_zero, List.set_cons_succ]
  refine wpAnyH_take (i := 3) (v := ?_) rfl (by kernel_rfl) (by kernel_rfl) (by kernel_rfl) (fun _ _ _ h => h) (Or.inl ⟨by rfl, ?_⟩) hS ?_
  rotate_left
  · intro u hu; (try dsimp only at hu); go_simp; try with_reducible rfl
  simp only [Act.put, List.getElem_toArray, List.getElem_cons_zero, List.getElem_cons_succ, List.setIfInBounds_toArray, List.set_cons_zero, List.set_cons_succ]
  refine wpAnyH_take (i := 4) (v := ?_) rfl (by kernel_rfl) (by kernel_rfl) (by kernel_rfl) (fun _ _ _ h => h) (Or.inl ⟨by rfl, ?_⟩) hS ?_
  rotate_left
  · intro u hu; (try dsimp only at hu); go_simp; try with_reducible rfl
  simp only [Act.put, List.getElem_toArray, List.getElem_cons_zero, List.getElem_cons_succ, List.setIfInBounds_toArray, List.set_cons_zero, List.set_cons_succ]
  refine wpAnyH_take (i := 5) (v := ?_) rfl (by kernel_rfl) (by kernel_rfl) (by kernel_rfl) (fun _ _ _ h => h) (Or.inl ⟨by rfl, ?_⟩) hS ?_
  rotate_left
  · intro u hu; (try dsimp only at hu); go_simp; try with_reducible rfl
  simp only [Act.put, List.getElem_toArray, List.getElem_cons_zero, List.getElem_cons_succ, List.setIfInBounds_toArray, List.set_cons_zero, List.set_cons_succ]
  refine wpAnyH_ready (rs := [2]) (by kernel_rfl) (by simp) ?_
  refine AllReadyH.cons rfl (fun K hK => ?_) AllReadyH.nil
  go_simp
  go_wp2_with (go_at_call 12; refine (unhide HAN _ (unhide XD).bel).mono ?_; rintro e w6 ⟨⟨v, rfl, ho⟩, hb6⟩; have X6 := hide ((unhide XD).step hb6); have HRG7 := hide ((unhide HRG6).below hb6); have HAW := hide (as_of_owns ho hH); clear hb6 ho)
  obtain ⟨la, lc, rfl, _, hw6⟩ := unhide HAW
  have HAS6 := hide hw6
  refine hK.out _ _ (unhide X6).cells (fun hS2 => ?_)
  clear hK K hS HAW hw6 HRG6 XD HAN
  refine wpAnyH_ready (rs := [6]) (by kernel_rfl) (by simp) ?_
  refine AllReadyH.cons rfl (fun K hK => ?_) AllReadyH.nil
  go_simp
  go_wp2_with (go_at_call 16; refine (unhide HRM _ (unhide X6).bel).mono ?_; rintro e w7 ⟨⟨gR, rfl, hgR, hrow⟩, hb7⟩; have X7 := hide ((unhide X6).step hb7); have HRG8 := hide ((unhide HRG7).below hb7); have HRR := hide hrow; have HB67 := hide hb7; have hGR : gG < gR := (by have := (unhide HRG7).lt; omega); have hR7 := hrow.lt; clear hb7 hrow)
  refine hK.out _ _ (unhide X7).cells (fun hS3 => ?_)
  clear hK K hS2 HRG7 X6 HRM
  refine wpAnyH_take (i := 7) (v := ?_) rfl (by kernel_rfl) (by kernel_rfl) (by kernel_rfl) (fun _ _ _ h => h) (Or.inl ⟨by rfl, ?_⟩) hS3 ?_
  rotate_left
  · intro u hu; (try dsimp only at hu); go_simp; try with_reducible rfl
  simp only [Act.put, List.getElem_toArray, List.getElem_cons_zero, List.getElem_cons_succ, List.setIfInBounds_toArray, List.set_cons_zero, List.set_cons_succ]
  refine wpAnyH_take (i := 8) (v := ?_) rfl (by kernel_rfl) (by kernel_rfl) (by kernel_rfl) (fun _ _ _ h => h) (Or.inl ⟨by rfl, ?_⟩) hS3 ?_
  rotate_left
  · intro u hu; (try dsimp only at hu); go_simp; try with_reducible rfl
  simp only [Act.put, List.getElem_toArray, List.getElem_cons_zero, List.getElem_cons_succ, List.setIfInBounds_toArray, List.set_cons_zero, List.set_cons_succ]
  refine wpAnyH_done (by kernel_rfl) ?_ _
  clear hS3
  obtain ⟨g0, g1⟩ := (unhide X7).cells
  go_wp2_with (refine wpList_make_full _ rfl (.tmp 98) (.tmp 98) 42 rfl w7.heap.size 4 i0 (.bool false) 1 Tryd.underlying42 (unhide HI) (unhide HZ0) (unhide HZ1) .i64 .i64 _ _ V rfl rfl rfl rfl hzb ?m1 (Nat.le_refl _) ?_)
  case m1 => unfold maxLen; omega
  intro w8 hown8 hg8
  rw [toList_madeCells_one] at hown8
  have hb8 : Below w7.heap.size w7 w8 := ⟨hg8.os, hg8.tape, hg8.output, hg8.size, fun k hk => hg8.block k hk (by simp)⟩
  have hs67 := (unhide HB67).size
  obtain ⟨gE, hgE⟩ : ∃ g, w7.heap.size = g := ⟨_, rfl⟩
  have HRE8 := hide (show pt.RowB w8 gE V (fun _ => false) by rw [← hgE]; exact pt.Row.of_owns hown8)
  have HB8 := hide ((unhide X7).step hb8)
  have HRG9 := hide ((unhide HRG8).below hb8)
  have HRR8 := hide (Row.below (unhide HRR) hb8)
  have HB68 := hide ((unhide HB67).trans (hb8.mono hs67))
  have hE8 := (unhide HRE8).lt
  rw [hgE] at hR7 hs67 ⊢
  clear hown8 hg8 hb8 X7 HRG8 HRR HB67 g0 g1 hgE
  obtain ⟨g0, g1⟩ := (unhide HB8).cells
  go_wp2_with fail
  refine (unhide HEN w8 (unhide HB8).bel).mono ?_
  rintro e w9 ⟨⟨v, rfl, ho⟩, hb9⟩
  obtain ⟨ea, ec, rfl, _, hns⟩ := ns_of_owns ho (by omega)
  have HEA := hide (fun (u : World) (hu : But gE w9 u) (t : Nat) (ht : t < mE) => show ∃ g' off, ea = some ⟨g', off, none⟩ ∧ ¬ g' = gE ∧ u.cell? ⟨g', off + t, none⟩ = some (.int .i64 (E.getD t 0 : Nat)) from by
    obtain ⟨g', off, ha', hg', c0⟩ := hns.2.2 t ht
    have hbl := (ho.lt g' (by rw [ha']; rfl)).1
    have hne : g' ≠ gE := by omega
    refine ⟨g', off, ha', hne, ?_⟩
    rw [World.cell?_of_block (w := w9) (hu.far g' hg' hne), c0, toIs_getD])
  have HRE9 := hide (show pt.RowB w9 gE V (fun x => decide (x ∈ E.take 0)) from (Row.below (unhide HRE8) hb9).congr fun t ht => by simp)
  have HRG := hide ((unhide HRG9).below hb9)
  have HRR9 := hide (Row.below (unhide HRR8) hb9)
  have HB69 := hide ((unhide HB68).trans (hb9.mono (unhide HB68).size))
  have HB9 := hide ((unhide HB8).step hb9).bel
  have HBE0 := hide (But.refl gE w9)
  have hG9 := (unhide HRG).lt
  have hR9 := (unhide HRR9).lt
  clear ho hns hb9 HB8 HRG9 HRR8 HB68 HRE8 g0 g1 HEN
  go_wp2_with fail
  go_loopw [103] (fun i wr => ∃ k : Nat, i = .int .i64 k ∧ k ≤ mE ∧ Hid (pt.RowB wr gE V (fun x => decide (x ∈ E.take k))) ∧ Hid (But gE w9 wr)) (fun i wr => mE - (intOf i).toNat)
  case atStart => exact ⟨0, rfl, by omega, HRE9, HBE0⟩
  case round =>
    clear HRE9 HBE0
    obtain ⟨k, rfl, hk, HRE, HBE⟩ := hrel
    by_cases hkE : k < mE
    · have hkE2 : (k : Int) < (mE : Int) := by omega
      obtain ⟨ge, oe, hea, hne, c0⟩ := unhide HEA wr (unhide HBE) k hkE
      subst hea
      obtain ⟨x, hx⟩ : ∃ x, E.getD k 0 = x := ⟨_, rfl⟩
      rw [hx] at c0
      have hkL : k < E.length := by rw [unhide HME]; exact hkE
      have hxV : x < V := unhide HEV x (by rw [← hx]; exact getD_mem hkL)
      have hxV2 : (x : Int) < (V : Int) := by omega
      have HTK := hide ((take_snoc hkL).trans (by rw [hx]))
      have r0 := Row.cell (unhide HRE) hxV
      have r1 := Row.fz (unhide HRE) x
      have HRE2 := hide (show pt.RowB (wr.setCell ⟨gE, x, none⟩ (.bool true)) gE V (fun y => decide (y ∈ E.take (k + 1))) from (rowB_set (unhide HRE) x true).congr fun t ht => by
        rw [unhide HTK]
        unfold upd
        by_cases e : t = x
        · rw [if_pos e]; simp [e]
        · rw [if_neg e]; simp [e])
      have HBE2 := hide ((unhide HBE).trans (But.set x (.bool true)))
      clear hx hkL
      go_wp2_with fail
      go_roundw
      case rel => exact ⟨k + 1, by go_num, by omega, HRE2, HBE2⟩
      case measure => simp [intOf]; omega
    · have HBK := hide (unhide HBE).bel
      have HREF := hide (show pt.RowB wr gE V (fun x => decide (x ∈ E)) from by
        have := unhide HRE
        rwa [show E.take k = E by rw [List.take_of_length_le]; rw [unhide HME]; omega] at this)
      have HRGF := hide (Row.keep (unhide HRG) ((unhide HBE).far gG hG9 (by omega)))
      have HRRF := hide (show RowZ wr gR Kf (fun f => capF (rmF A H) o f - occ (fun h => A h 2) gr f 0) from (Row.keep (unhide HRR9) ((unhide HBE).far gR hR9 (by omega))).congr fun f hf => by
        rw [rkF_capF]; simp [occ])
      have HASF := hide ((unhide HAS6).below ((unhide HB69).trans ((unhide HBE).bel.mono hs67)))
      have HBF := hide (show Below w.heap.size w wr from (unhide HB9).trans ((unhide HBE).bel.mono (by omega)))
      have HBR0 := hide (But.refl gR wr)
      have hRr := (unhide HRRF).lt
      have hEr := Row.lt (unhide HREF)
      have hGr := (unhide HRGF).lt
      have hAL := hide (show ∀ t, t < H → ∀ g off, la = some ⟨g, off, none⟩ → g ≠ gR from fun t ht g off hla => by
        obtain ⟨g', off', h1, h2, _⟩ := (unhide HAS6).2 t ht
        rw [hla] at h1
        cases h1
        omega)
      obtain rfl : k = mE := by omega
      obtain ⟨wx, hwx⟩ : ∃ wx, wx = wr := ⟨wr, rfl⟩
      subst hwx
      clear HRE HBE HRG HRR9 HB69 HB9 HBK HEA
      go_wp2_with fail
      go_loopw [113] (fun i wt => ∃ x : Nat, i = .int .i64 x ∧ x ≤ V ∧ Hid (RowZ wt gR Kf (fun f => capF (rmF A H) o f - occ (fun h => A h 2) gr f x)) ∧ Hid (But gR wx wt)) (fun i wt => V - (intOf i).toNat)
      case atStart => exact ⟨0, rfl, by omega, HRRF, HBR0⟩
      case round =>
        clear HRRF HBR0
        obtain ⟨x, rfl, hx, HRR, HBR⟩ := hrel
        by_cases hxV : x < V
        · have hxV2 : (x : Int) < (V : Int) := by omega
          have e0 := Row.cell (Row.keep (unhide HREF) ((unhide HBR).far gE hEr (by omega))) hxV
          have z0 := Row.cell (Row.keep (unhide HRGF) ((unhide HBR).far gG hGr (by omega))) hxV
          by_cases hxE : x ∈ E
          · obtain ⟨h, hh, h1, h2⟩ := ((unhide HFU).1 x hxV).1 hxE
            obtain ⟨ga, oa, hla, hga, q0, q1, q2, q3⟩ := (unhide HASF).2 h hh
            have hne := unhide hAL h hh ga oa hla
            have far := (unhide HBR).far ga hga hne
            replace q1 : wr.cell? ⟨ga, oa + h * 4 + 1, none⟩ = some (.int .i64 (x : Nat)) := by rw [World.cell?_of_block (w := wx) far, q1, h1]
            replace q2 : wr.cell? ⟨ga, oa + h * 4 + 2, none⟩ = some (.int .i64 (A h 2 : Nat)) := by rw [World.cell?_of_block (w := wx) far]; exact q2
            subst hla
            have hf := unhide HA2 h hh
            have HSU := hide (fun f => show occ (fun h => A h 2) gr f (x + 1) = occ (fun h => A h 2) gr f x + (if A h 2 = f then 1 else 0) from by
              show occ (fun h => A h 2) gr f x + ind (fun h => A h 2) (gr x) f = _
              rw [h2, ind_some])
            rw [h2] at z0
            dsimp only at e0
            rw [decide_eq_true hxE] at e0
            have r0 := (unhide HRR).cell hf
            have hb1 := occ_nonneg (fun h => A h 2) gr (A h 2) x
            have hb2 := occ_le (fun h => A h 2) gr (A h 2) x
            have hb3 := unhide HCB (A h 2)
            dsimp only at r0
            obtain ⟨f, hfe⟩ : ∃ f, A h 2 = f := ⟨_, rfl⟩
            rw [hfe] at q2 hf r0 hb1 hb2 hb3
            have HFE := hide hfe
            obtain ⟨z, hz⟩ : ∃ z, capF (rmF A H) o f - occ (fun h => A h 2) gr f x = z := ⟨_, rfl⟩
            have hW : IntKind.i64.wrap (z - 1) = z - 1 := by rw [IntKind.wrap_i64]; omega
            have HZE := hide hz
            rw [hz] at r0
            have r1 := (unhide HRR).fz f
            have HRN := hide (show RowZ (wr.setCell ⟨gR, f, none⟩ (.int .i64 (z - 1))) gR Kf (fun f => capF (rmF A H) o f - occ (fun h => A h 2) gr f (x + 1)) from (RowZ.set (unhide HRR) f (z - 1)).congr fun t ht => by
              have := unhide HSU t
              rw [unhide HFE] at this
              dsimp only
              rw [this]
              unfold upd
              by_cases e : t = f
              · subst e
                rw [if_pos rfl, if_pos rfl, ← unhide HZE]
                congr 1; omega
              · rw [if_neg e, if_neg (fun e' => e e'.symm), Int.add_zero])
            have HBN := hide ((unhide HBR).trans (But.set f (.int .i64 (z - 1))))
            have u1 : ((x : Int) != (x : Int)) = false := by simp
            have u2 : ¬ (h : Int) < 0 := by omega
            have u3 : ¬ (H : Int) ≤ (h : Int) := by omega
            have u4 : (h : Int) < (H : Int) := by omega
            have u5 : (f : Int) < (Kf : Int) := by omega
            clear hfe hz h1 h2 q0 q3 far hb1 hb2 hb3 hga
            go_wp2_with fail
            go_roundw
            case rel => exact ⟨x + 1, by go_num, by omega, HRN, HBN⟩
            case measure => simp [intOf]; omega
          · have h2 := ((unhide HFU).1 x hxV).2 hxE
            have HRN := hide (show RowZ wr gR Kf (fun f => capF (rmF A H) o f - occ (fun h => A h 2) gr f (x + 1)) from (unhide HRR).congr fun t ht => by
              have : occ (fun h => A h 2) gr t (x + 1) = occ (fun h => A h 2) gr t x := by
                show occ (fun h => A h 2) gr t x + ind (fun h => A h 2) (gr x) t = _
                rw [h2]; simp [ind]
              dsimp only
              rw [this])
            rw [h2] at z0
            dsimp only at e0
            rw [decide_eq_false hxE] at e0
            clear h2
            go_wp2_with fail
            go_roundw
            case rel => exact ⟨x + 1, by go_num, by omega, HRN, HBR⟩
            case measure => simp [intOf]; omega
        · obtain rfl : x = V := by omega
          have HRZ := hide (show RowZ wr gR Kf (fun _ => 0) from (unhide HRR).congr fun t ht => by
            dsimp only
            rw [(unhide HFU).2 t ht, Int.sub_self])
          have HBZ := hide (show Below w.heap.size w wr from (unhide HBF).trans ((unhide HBR).bel.mono (by omega)))
          clear HRR HBR
          obtain ⟨wy, hwy⟩ : ∃ wy, wy = wr := ⟨wr, rfl⟩
          subst hwy
          go_wp2_with fail
          go_loopw [155] (fun i wv => ∃ k : Nat, i = .int .i64 k ∧ k ≤ Kf ∧ wv = wy) (fun i wv => Kf - (intOf i).toNat)
          case atStart => exact ⟨0, rfl, by omega, rfl⟩
          case round =>
            obtain ⟨j, rfl, hj, rfl⟩ := hrel
            by_cases hjK : j < Kf
            · have hjK2 : (j : Int) < (Kf : Int) := by omega
              have r0 := (unhide HRZ).cell hjK
              go_wp2_with fail
              go_roundw
              case rel => exact ⟨j + 1, by go_num, by omega, (by first | rfl | trivial)⟩
              case measure => simp [intOf]; omega
            · obtain rfl : j = Kf := by omega
              go_wp2_with fail
              go_ret
              exact ⟨rfl, unhide HBZ⟩
end Go.Proofs.YtefagplbpbkpgaaDoor
/-
  The walk of the statement AngleFits, whole. Conditions: the graph and the lists lie in memory as told; the table of math/bits lies where it should.
-/
namespace Go.Proofs.YtefagplbpbkpgaaDoor
open Go.RowKit
set_option linter.unusedVariables false
set_option maxRecDepth 20000
theorem told_as {G : Prop} {e : Ending} (b : Bool) (hb : b = true ↔ G) (h : Told G e) : e = .returned (.bool b) := by
  obtain ⟨r, rfl, hr⟩ := h
  have : r = b := by
    rw [Bool.eq_iff_iff, hr, hb]
  rw [this]
theorem least_of {P : Nat → Prop} : ∀ K, (∃ o, o < K ∧ P o ∧ ∀ o', o' < o → ¬ P o') ∨ ∀ o, o < K → ¬ P o := by
  intro K
  induction K with
  | zero => exact .inr fun o h => by omega
  | succ K ih =>
    rcases ih with ⟨o, h1, h2, h3⟩ | hno
    · exact .inl ⟨o, by omega, h2, h3⟩
    · by_cases h : P K
      · exact .inl ⟨K, by omega, h, hno⟩
      · refine .inr fun o ho => ?_
        rcases Nat.lt_or_ge o K with h1 | h1
        · exact hno o h1
        · obtain rfl : o = K := by omega
          exact h
set_option maxHeartbeats 4000000 in
theorem af_good (w : World) (V : Nat) (a : Option Addr) (n cap : Nat) (es : List (Nat × Nat)) (ra : Option Addr) (m rc : Nat) (q : List (List Nat)) (N : Nat → Nat) (c g : Nat) (h : Gd w V a n cap es ra m rc q N c g) (hq : Rq w ra m (rowsI q)) (hg : ¬ GreatP 14 n m (rowsI q)) (hn : Nice V es c g) :
    Calls Tryd.prog 4 #[.agg #[.int .i64 V, .slice a n cap], .slice ra m rc] w fun e w' => e = .returned (.bool true) ∧ Below w.heap.size w w' := by
  have hn14 : n ≤ 14 := Nat.le_of_not_lt fun h => hg (.inl h)
  have hl200 : ∀ k, k < m → ((rowsI q).getD k []).length ≤ 200 := fun k hk => Nat.le_of_not_lt fun h => hg (.inr (.inr ⟨k, hk, h⟩))
  have hv64 := h.plain.v64
  obtain ⟨F, hF⟩ := fc_ex h.pm
  have HO : ∀ u, Below w.heap.size w u → Calls Tryd.prog 9 #[.agg #[.int .i64 (V : Int), .slice a n cap], .slice ra m rc] u fun e w' => e = .returned (.bool false) ∧ Below u.heap.size u w' := fun u hu => (odd_good u V a n cap es ra m rc q N c g (h.below hu) (fun k hk => by have := hl200 k hk; omega)).mono fun e w' hh => ⟨told_as false (by simp [hn]) hh.1, hh.2⟩
  rcases Nat.eq_zero_or_pos n with h0 | h0
  · subst h0
    exact af_alone w V a cap es ra m rc q N c g h hq hg hn HO
  by_cases hB : Bim (angI (pt.stV es) F N) (2 * n) V
  · have hne := h.ne
    subst hne
    have hal : ∀ x, x < V → ¬ ((Pl.ins es x).isEmpty = true ∧ (Pl.outs es x).isEmpty = true) := fun x hx => no_alone h.ro h.cnt hn.2.1 h0 hx
    have hA2 : ∀ t, t < 2 * es.length → angI (pt.stV es) F N t 2 < (facesF N (2 * es.length) (2 * es.length)).length := fun t ht => (hF.cov (oth t) (oth_lt ht)).1
    have hFl := facesF_len N (2 * es.length) (2 * es.length)
    have heul : 2 * c + es.length = V + cyc N (2 * es.length) + emp q V := by
      have := h.eul
      rw [hn.1] at this
      omega
    have htot : ∀ o, o < (facesF N (2 * es.length) (2 * es.length)).length → smF (capF (rmF (angI (pt.stV es) F N) (2 * es.length)) o) (facesF N (2 * es.length) (2 * es.length)).length = (cn (isEnd es) V : Int) := fun o ho =>
      room_total h.ro h.nx h.pm hF hB h.cnt hn.2.1 h0 h.plain.v1 heul ho
    have hchE : ∀ x, x < V → isEnd es x = true → selA (angI (pt.stV es) F N) x (2 * es.length) ≠ [] := fun x hx _ => ch_ne h.ro hal hx
    have hfit : ∀ o, o < (facesF N (2 * es.length) (2 * es.length)).length → _ := fun o ho => fits_try (es := es) (H := 2 * es.length) (cap := capF (rmF (angI (pt.stV es) F N) (2 * es.length)) o) hal hA2 hchE (htot o ho)
    have hrm : ∀ f, f < (facesF N (2 * es.length) (2 * es.length)).length → 0 ≤ rmF (angI (pt.stV es) F N) (2 * es.length) f := fun f hf => room_pos h.ro h.nx h.pm hF hn.2.2 hf
    have hasg := fun (u : World) (hu : Below w.heap.size w u) => assign_yes u V a es.length cap es ra m rc q N c g (h.below hu) hn F hF hB h0 hrm
    have hout := fun (u : World) (hu : Below w.heap.size w u) => outer_any u V a es.length cap es ra m rc q N c g (h.below hu) F hF hB
    rcases least_of (P := fun o => TryL (angI (pt.stV es) F N) (2 * es.length) (facesF N (2 * es.length) (2 * es.length)).length (endsL es V) (capF (rmF (angI (pt.stV es) F N) (2 * es.length)) o)) (facesF N (2 * es.length) (2 * es.length)).length with ⟨o, hoK, hP, hmin⟩ | hnone
    · refine af_some w h.tab V a es.length cap ra m rc _ hq hg h0 (angI (pt.stV es) F N) (2 * es.length) (facesF N (2 * es.length) (2 * es.length)).length o (endsL es V) hoK hv64 (by omega) (by omega) ?_ (fun x hx => (mem_ends.1 hx).1) hA2 HO ?_ ?_ ?_ ?_ ?_
      · have := bare_len (Pl.ins es) V
        have := bare_len (Pl.outs es) V
        simp [endsL]; omega
      · intro u hu
        refine (hasg u hu).mono ?_
        rintro e w' ⟨hans, hb⟩
        refine ⟨?_, hb⟩
        rcases hans with ⟨outer, gG, gc, gr, rfl, h1, h2, h3, h4, h5, h6⟩ | ⟨_, hno⟩
        · have hfo : TryL (angI (pt.stV es) F N) (2 * es.length) (facesF N (2 * es.length) (2 * es.length)).length (endsL es V) (capF (rmF (angI (pt.stV es) F N) (2 * es.length)) outer) := (hfit outer h1).2.1 ⟨gr, h4, h5⟩
          obtain rfl : outer = o := by
            rcases Nat.lt_trichotomy outer o with hl | hl | hl
            · exact absurd hfo (hmin outer hl)
            · exact hl
            · exact absurd ((hfit o hoK).2.2 hP) (h6 o hl)
          refine ⟨gG, gc, gr, rfl, h2, h3, fun x hx => ⟨fun hE => ?_, fun hE => ?_⟩, (hfit outer h1).1 gr h4 h5⟩
          · have he := (mem_ends.1 hE).2
            have hch : chF es (angI (pt.stV es) F N) (2 * es.length) x = selA (angI (pt.stV es) F N) x (2 * es.length) := by
              unfold chF
              rw [if_pos he]
            have hsx := h4 x hx
            rw [hch] at hsx
            obtain ⟨b, hb1, hb2⟩ := hsx.2.resolve_left fun e => hchE x hx he (hsx.1.1 e)
            exact ⟨b, (mem_selA.1 hb1).1, (mem_selA.1 hb1).2, hb2⟩
          · refine (h4 x hx).1.2 ?_
            unfold chF
            rw [if_neg fun he => hE (mem_ends.2 ⟨hx, he⟩)]
        · exact absurd ((hfit o hoK).2.2 hP) (hno o hoK)
      · intro u hu
        refine (hout u hu).mono ?_
        rintro e w' ⟨⟨z, rfl, hz⟩, hb⟩
        refine ⟨?_, hb⟩
        rcases hz with ⟨o', h1, rfl, h2, h3⟩ | ⟨rfl, h1⟩
        · obtain rfl : o' = o := by
            rcases Nat.lt_trichotomy o' o with hl | hl | hl
            · exact absurd h2 (hmin o' hl)
            · exact hl
            · exact absurd hP (h3 o hl)
          rfl
        · exact absurd hP (h1 o hoK)
      · exact fun u hu => refangles_any u V a es.length cap es ra m rc q N c g (h.below hu) F hF
      · exact fun u hu => refrooms_any u V a es.length cap es ra m rc q N c g (h.below hu) F hF o hoK
      · intro u hu
        have := refends_any u V a es.length cap es ((h.below hu).edges) h.ne h.pl
        rwa [show toIs (bare (Pl.ins es) V) ++ toIs (bare (Pl.outs es) V) = toIs (endsL es V) by simp [toIs, endsL], show (bare (Pl.ins es) V).length + (bare (Pl.outs es) V).length = (endsL es V).length by simp [endsL]] at this
    · refine af_none w h.tab V a es.length cap ra m rc _ hq hg h0 HO ?_ ?_
      · intro u hu
        refine (hasg u hu).mono ?_
        rintro e w' ⟨hans, hb⟩
        refine ⟨?_, hb⟩
        rcases hans with ⟨outer, gG, gc, gr, rfl, h1, h2, h3, h4, h5, h6⟩ | ⟨he, _⟩
        · exact absurd ((hfit outer h1).2.1 ⟨gr, h4, h5⟩) (hnone outer h1)
        · exact he
      · intro u hu
        refine (hout u hu).mono ?_
        rintro e w' ⟨⟨z, rfl, hz⟩, hb⟩
        refine ⟨?_, hb⟩
        rcases hz with ⟨o', h1, rfl, h2, h3⟩ | ⟨rfl, h1⟩
        · exact absurd h2 (hnone o' h1)
        · rfl
  · exact af_none w h.tab V a n cap ra m rc _ hq hg h0 HO (fun u hu => assign_notbim u V a n cap es ra m rc q N c g (h.below hu) hn F hF hB) (fun u hu => outer_no u V a n cap es ra m rc q N c g (h.below hu) F hF hB)
theorem af_any (w : World) (hT : pt.Tab w) (V : Int) (a : Option Addr) (n cap : Nat) (zs : List (Int × Int)) (h : 200 < n ∨ Es 0 w a n zs) (hno : a = none → n = 0 ∧ cap = 0) (ra : Option Addr) (m rc : Nat) (rs : List (List Int)) (hq : Rq w ra m rs) :
    Calls Tryd.prog 4 #[.agg #[.int .i64 V, .slice a n cap], .slice ra m rc] w fun e w' => e = .returned (.bool true) ∧ Below w.heap.size w w' := by
  by_cases hg : GreatP 14 n m rs
  · exact af_great w hT V a n cap ra m rc rs hq hg
  have hn14 : n ≤ 14 := Nat.le_of_not_lt fun h => hg (.inl h)
  have hm70 : m ≤ 70 := Nat.le_of_not_lt fun h => hg (.inr (.inl h))
  have hl200 : ∀ k, k < m → (rs.getD k []).length ≤ 200 := fun k hk => Nat.le_of_not_lt fun h => hg (.inr (.inr ⟨k, hk, h⟩))
  have hE : Es 0 w a n zs := h.resolve_left (by omega)
  have hr : Rr w ra m rs := hq.rr (by omega) fun k hk => by have := hl200 k hk; omega
  by_cases hrot : IsRot V n zs rs
  · obtain ⟨v, es, rfl, rfl, hne, hp⟩ := pt.plain_of_good hE.1 hrot.good
    subst hne
    obtain ⟨q, rfl, ro⟩ := pt.ro_of hp hrot
    obtain ⟨c, hc⟩ := pt.cnt_ex v es
    obtain ⟨g, hgg⟩ := pt.euler ro (pt.nx_behind ro) (pt.nx_pm ro (pt.nx_behind ro)) hc
    have gd : Gd w v a es.length cap es ra m rc q (pt.nxF es q) c g := ⟨hT, hE, hno, rfl, hp, hr, hrot, ro, pt.nx_behind ro, hc, hgg⟩
    by_cases hnice : Nice v es c g
    · exact af_good w v a _ cap es ra m rc q _ c g gd hq hg hnice
    · refine af_odd w hT v a _ cap ra m rc _ hq hg (gd.noCan hnice) fun u hu => (odd_good u v a _ cap es ra m rc q _ c g (gd.below hu) (fun k hk => by have := hl200 k hk; omega)).mono fun e w' hh => ⟨told_as true (by simp [hnice]) hh.1, hh.2⟩
  · exact af_odd w hT V a n cap ra m rc rs hq hg (noCan_bad hE hr hrot) fun u hu => odd_bad u V a n cap zs (hE.below hu) ra m rc rs (hr.below hu) (fun k hk => by have := hl200 k hk; omega) (by omega) hrot
end Go.Proofs.YtefagplbpbkpgaaDoor

/-
  The walk of the statement AngleTells. Conditions: the graph and the lists lie in memory as told; the table of math/bits lies where it should.
-/
import Derived.Test.YtefagplbpbkpgaaDoorJ15
import Derived.Test.YtefagplbpbkpgaaDoorJ16
import Derived.Test.YtefagplbpbkpgaaDoorJ11
namespace Go.Proofs.YtefagplbpbkpgaaDoor
open Go.RowKit
set_option linter.unusedVariables false
set_option maxRecDepth 20000
set_option maxHeartbeats 4000000 in
theorem at_great (w : World) (hT : pt.Tab w) (V : Int) (a : Option Addr) (n cap : Nat) (ra : Option Addr) (m rc : Nat) (rs : List (List Int)) (hr : Rq w ra m rs) (hg : GreatP 60 n m rs) :
    Calls Tryd.prog 3 #[.agg #[.int .i64 V, .slice a n cap], .slice ra m rc] w fun e w' => e = .returned (.bool true) ∧ Below w.heap.size w w' := by
  have HR := hide hr
  have HG := hide hg
  have HB0 := hide (Bg.start w (.int .i64 V) (.slice a n cap))
  have HSP := hide (speaks_any _ (hT.below (unhide HB0).bel))
  clear hr hg hT
  go_enter Tryd.func3, Tryd.ntmps3
  go_wp2_with fail
  refine (unhide HSP).mono ?_
  rintro e w1 ⟨rfl, hb1⟩
  have HB1 := hide ((unhide HB0).step hb1)
  obtain ⟨g0, g1⟩ := (unhide HB1).cells
  clear hb1 HB0 HSP
  go_wp2_with fail
  refine (great_any w1 V a n cap ra m rc rs ((unhide HR).below (unhide HB1).bel) 60 (by decide)).mono ?_
  rintro e w2 ⟨⟨r, rfl, hr⟩, hb2⟩
  have hrt : r = true := hr.2 (unhide HG)
  subst hrt
  have HB2 := hide ((unhide HB1).step hb2)
  clear hb2 HB1 g0 g1 hr
  go_wp2_with fail
  go_ret
  exact ⟨rfl, (unhide HB2).bel⟩
set_option maxHeartbeats 8000000 in
theorem at_odd (w : World) (hT : pt.Tab w) (V : Int) (a : Option Addr) (n cap : Nat) (ra : Option Addr) (m rc : Nat) (rs : List (List Int)) (hq : Rq w ra m rs) (hg : ¬ GreatP 60 n m rs) (hno : NoCan w V a n cap ra m rc)
    (ho : ∀ u, Below w.heap.size w u → Calls Tryd.prog 9 #[.agg #[.int .i64 V, .slice a n cap], .slice ra m rc] u fun e w' => e = .returned (.bool true) ∧ Below u.heap.size u w') :
    Calls Tryd.prog 3 #[.agg #[.int .i64 V, .slice a n cap], .slice ra m rc] w fun e w' => e = .returned (.bool true) ∧ Below w.heap.size w w' := by
  have HR := hide hq
  have HG := hide hg
  have HB0 := hide (Bg.start w (.int .i64 V) (.slice a n cap))
  have HSP := hide (speaks_any _ (hT.below (unhide HB0).bel))
  have HNO := hide hno
  have HO := hide ho
  clear hq hg hT hno ho
  go_enter Tryd.func3, Tryd.ntmps3
  go_wp2_with fail
  refine (unhide HSP).mono ?_
  rintro e w1 ⟨rfl, hb1⟩
  have HB1 := hide ((unhide HB0).step hb1)
  obtain ⟨g0, g1⟩ := (unhide HB1).cells
  clear hb1 HB0 HSP
  go_wp2_with fail
  refine (great_any w1 V a n cap ra m rc rs ((unhide HR).below (unhide HB1).bel) 60 (by decide)).mono ?_
  rintro e w2 ⟨⟨r, rfl, hr⟩, hb2⟩
  have hrt : r = false := by
    cases r with
    | false => rfl
    | true => exact absurd (hr.1 rfl) (unhide HG)
  subst hrt
  have HB2 := hide ((unhide HB1).step hb2)
  clear hb2 HB1 g0 g1 hr
  obtain ⟨g0, g1⟩ := (unhide HB2).cells
  go_wp2_with fail
  refine (unhide HO w2 (unhide HB2).bel).mono ?_
  rintro e w3 ⟨rfl, hb3⟩
  have HB3 := hide ((unhide HB2).step hb3)
  clear hb3 HB2 g0 g1
  obtain ⟨g0, g1⟩ := (unhide HB3).cells
  go_wp2_with fail
  refine (bim_no w3 V a n cap ra m rc ((unhide HNO).below (unhide HB3).bel)).mono ?_
  rintro e w4 ⟨rfl, hb4⟩
  have HB4 := hide ((unhide HB3).step hb4)
  clear hb4 HB3 g0 g1
  obtain ⟨g0, g1⟩ := (unhide HB4).cells
  go_wp2_with fail
  refine (angles_no w4 V a n cap ra m rc ((unhide HNO).below (unhide HB4).bel)).mono ?_
  rintro e w5 ⟨rfl, hb5⟩
  have HB5 := hide ((unhide HB4).step hb5)
  clear hb5 HB4 g0 g1
  go_wp2_with fail
  go_ret
  exact ⟨by first | rfl | simp, (unhide HB5).bel⟩
theorem told_is {G : Prop} {e : Ending} (b : Bool) (hb : b = true ↔ G) (h : Told G e) : e = .returned (.bool b) := by
  obtain ⟨r, rfl, hr⟩ := h
  have : r = b := by
    rw [Bool.eq_iff_iff, hr, hb]
  rw [this]
set_option maxHeartbeats 16000000 in
theorem at_good (w : World) (V : Nat) (a : Option Addr) (n cap : Nat) (es : List (Nat × Nat)) (ra : Option Addr) (m rc : Nat) (q : List (List Nat)) (N : Nat → Nat) (c g : Nat) (h : Gd w V a n cap es ra m rc q N c g) (hq : Rq w ra m (rowsI q)) (hg : ¬ GreatP 60 n m (rowsI q)) (hn : Nice V es c g) :
    Calls Tryd.prog 3 #[.agg #[.int .i64 V, .slice a n cap], .slice ra m rc] w fun e w' => e = .returned (.bool true) ∧ Below w.heap.size w w' := by
  have hn60 : n ≤ 60 := Nat.le_of_not_lt fun h => hg (.inl h)
  have hl200 : ∀ k, k < m → ((rowsI q).getD k []).length ≤ 200 := fun k hk => Nat.le_of_not_lt fun h => hg (.inr (.inr ⟨k, hk, h⟩))
  obtain ⟨F, hF⟩ := fc_ex h.pm
  have HR := hide hq
  have HG := hide hg
  have HB0 := hide (Bg.start w (.int .i64 V) (.slice a n cap))
  have HSP := hide (speaks_any _ (h.tab.below (unhide HB0).bel))
  have HO := hide (fun (u : World) (hu : Below w.heap.size w u) => odd_good u V a n cap es ra m rc q N c g (h.below hu) (fun k hk => by have := hl200 k hk; omega))
  have HA := hide (fun (u : World) (hu : Below w.heap.size w u) => angles_yes u V a n cap es ra m rc q N c g (h.below hu) hn F hF)
  have HRA := hide (fun (u : World) (hu : Below w.heap.size w u) => refangles_any u V a n cap es ra m rc q N c g (h.below hu) F hF)
  obtain ⟨bb, hbb⟩ : ∃ bb : Bool, (bb = true ↔ Bim (angI (pt.stV es) F N) (2 * n) V) := by
    by_cases hB : Bim (angI (pt.stV es) F N) (2 * n) V
    · exact ⟨true, by simp [hB]⟩
    · exact ⟨false, by simp [hB]⟩
  have HBI := hide (fun (u : World) (hu : Below w.heap.size w u) => show Calls Tryd.prog 10 #[.agg #[.int .i64 V, .slice a n cap], .slice ra m rc] u fun e w' => e = .returned (.bool bb) ∧ Below u.heap.size u w' from (bim_yes u V a n cap es ra m rc q N c g (h.below hu) hn F hF).mono fun e w' hh => ⟨told_is bb hbb hh.1, hh.2⟩)
  have HRB := hide (fun (u : World) (hu : Below w.heap.size w u) => show Calls Tryd.prog 13 #[.agg #[.int .i64 V, .slice a n cap], .slice ra m rc] u fun e w' => e = .returned (.bool bb) ∧ Below u.heap.size u w' from (refbim_any u V a n cap es ra m rc q N c g (h.below hu) F hF).mono fun e w' hh => ⟨told_is bb hbb hh.1, hh.2⟩)
  have HN := hide hn
  clear h hq hg hn hl200 hF hbb
  obtain ⟨A, hA⟩ : ∃ A, angI (pt.stV es) F N = A := ⟨_, rfl⟩
  rw [hA] at HA HRA
  obtain ⟨H, hH⟩ : ∃ H, 2 * n = H := ⟨_, rfl⟩
  rw [hH] at HA HRA
  have hH256 : H ≤ 256 := by omega
  have t0 : ((H : Int) != (H : Int)) = false := by simp
  have tb : (bb != bb) = false := by simp
  clear hA hH
  go_enter Tryd.func3, Tryd.ntmps3
  go_wp2_with fail
  refine (unhide HSP).mono ?_
  rintro e w1 ⟨rfl, hb1⟩
  have HB1 := hide ((unhide HB0).step hb1)
  obtain ⟨g0, g1⟩ := (unhide HB1).cells
  clear hb1 HB0 HSP
  go_wp2_with fail
  refine (great_any w1 V a n cap ra m rc _ ((unhide HR).below (unhide HB1).bel) 60 (by decide)).mono ?_
  rintro e w2 ⟨⟨r, rfl, hr⟩, hb2⟩
  have hrt : r = false := by
    cases r with
    | false => rfl
    | true => exact absurd (hr.1 rfl) (unhide HG)
  subst hrt
  have HB2 := hide ((unhide HB1).step hb2)
  clear hb2 HB1 g0 g1 hr
  obtain ⟨g0, g1⟩ := (unhide HB2).cells
  go_wp2_with fail
  refine (unhide HO w2 (unhide HB2).bel).mono ?_
  rintro e w3 ⟨⟨r, rfl, hr⟩, hb3⟩
  have hrt : r = false := by
    cases r with
    | false => rfl
    | true => exact absurd (unhide HN) (hr.1 rfl)
  subst hrt
  have HB3 := hide ((unhide HB2).step hb3)
  clear hb3 HB2 g0 g1 hr
  go_upto_region 7 with fail
  have XD := hide ((unhide HB3).step b_dr)
  refine wp_region_held_drew (S := fun u => u.cell? ⟨w.heap.size, 0, none⟩ = some (.int .i64 (V : Int)) ∧ u.cell? ⟨w.heap.size, 1, none⟩ = some (.slice a n cap)) (by kernel_rfl) (unhide XD).cells (fun hS => ?_)
  generalize w3.drew = wd at XD hS ⊢
  clear HB3
  refine wpAnyH_take (i := 0) (v := ?_) rfl (by kernel_rfl) (by kernel_rfl) (by kernel_rfl) (fun _ _ _ h => h) (Or.inl ⟨by rfl, ?_⟩) hS ?_
  rotate_left
  · intro u hu; (try dsimp only at hu); go_simp; try with_reducible rfl
  simp only [Act.put, List.getElem_toArray, List.getElem_cons_zero, List.setIfInBounds_toArray, List.set_cons_zero, List.set_cons_succ]
  refine wpAnyH_take (i := 1) (v := ?_) rfl (by kernel_rfl) (by kernel_rfl) (by kernel_rfl) (fun _ _ _ h => h) (Or.inl ⟨by rfl, ?_⟩) hS ?_
  rotate_left
  · intro u hu; (try dsimp only at hu); go_simp; try with_reducible rfl
  simp only [Act.put, List.getElem_toArray, List.getElem_cons_zero, List.getElem_cons_succ, List.setIfInBounds_toArray, List.set_cons_zero, List.set_cons_succ]
  refine wpAnyH_take (i := 3) (v := ?_) rfl (by kernel_rfl) (by kernel_rfl) (by kernel_rfl) (fun _ _ _ h => h) (Or.inl ⟨by rfl, ?_⟩) hS ?_
  rotate_left
  · intro u hu; (try dsimp only at hu); go_simp; try with_reducible rfl
  simp only [Act.put, List.getElem_toArray, List.getElem_cons_zero, List.getElem_cons_succ, List.setIfInBounds_toArray, List.set_cons_zero, List.set_cons_succ]
  refine wpAnyH_take (i := 4) (v := ?_) rfl (by kernel_rfl) (by kernel_rfl) (by kernel_rfl) (fun _ _ _ h => h) (Or.inl ⟨by rfl, ?_⟩) hS ?_
  rotate_left
  · intro u hu; (try dsimp only at hu); go_simp; try with_reducible rfl
  simp only [Act.put, List.getElem_toArray, List.getElem_cons_zero, List.getElem_cons_succ, List.setIfInBounds_toArray, List.set_cons_zero, List.set_cons_succ]
  refine wpAnyH_ready (rs := [2]) (by kernel_rfl) (by simp) ?_
  refine AllReadyH.cons rfl (fun K hK => ?_) AllReadyH.nil
  go_simp
  go_wp2_with (go_at_call 11; refine (unhide HA _ (unhide XD).bel).mono ?_; rintro e w4 ⟨⟨ga, rfl, hga, hrow⟩, hb4⟩; have X4 := hide ((unhide XD).step hb4); have HR4 := hide (hrow.as hH256); clear hb4 hrow hga)
  refine hK.out _ _ (unhide X4).cells (fun hS2 => ?_)
  clear hK K hS
  refine wpAnyH_ready (rs := [5]) (by kernel_rfl) (by simp) ?_
  refine AllReadyH.cons rfl (fun K hK => ?_) AllReadyH.nil
  go_simp
  go_wp2_with (go_at_call 12; refine (unhide HRA _ (unhide X4).bel).mono ?_; rintro e w5 ⟨⟨v, rfl, ho⟩, hb5⟩; have X5 := hide ((unhide X4).step hb5); have HR5 := hide ((unhide HR4).below hb5); have HW5 := hide (as_of_owns ho hH256); clear hb5 ho)
  obtain ⟨va, vc, rfl, hvc, hw5⟩ := unhide HW5
  refine hK.out _ _ (unhide X5).cells (fun hS3 => ?_)
  clear hK K hS2 HW5 HR4 X4 XD
  have HWA := hide hw5
  clear hw5 hvc
  refine wpAnyH_take (i := 6) (v := ?_) rfl (by kernel_rfl) (by kernel_rfl) (by kernel_rfl) (fun _ _ _ h => h) (Or.inl ⟨by rfl, ?_⟩) hS3 ?_
  rotate_left
  · intro u hu; (try dsimp only at hu); go_simp; try with_reducible rfl
  simp only [Act.put, List.getElem_toArray, List.getElem_cons_zero, List.getElem_cons_succ, List.setIfInBounds_toArray, List.set_cons_zero, List.set_cons_succ]
  refine wpAnyH_take (i := 7) (v := ?_) rfl (by kernel_rfl) (by kernel_rfl) (by kernel_rfl) (fun _ _ _ h => h) (Or.inl ⟨by rfl, ?_⟩) hS3 ?_
  rotate_left
  · intro u hu; (try dsimp only at hu); go_simp; try with_reducible rfl
  simp only [Act.put, List.getElem_toArray, List.getElem_cons_zero, List.getElem_cons_succ, List.setIfInBounds_toArray, List.set_cons_zero, List.set_cons_succ]
  refine wpAnyH_done (by kernel_rfl) ?_ _
  go_upto_region 8 with fail
  have YD := hide ((unhide X5).step b_dr)
  refine wp_region_held_drew (S := fun u => u.cell? ⟨w.heap.size, 0, none⟩ = some (.int .i64 (V : Int)) ∧ u.cell? ⟨w.heap.size, 1, none⟩ = some (.slice a n cap)) (by kernel_rfl) (unhide YD).cells (fun hS => ?_)
  have HR6 := hide ((unhide HR5).below (b_dr (w := w5)))
  have HW6 := hide ((unhide HWA).below (b_dr (w := w5)))
  generalize w5.drew = we at YD HR6 HW6 hS ⊢
  clear hS3 HR5 HWA X5
  refine wpAnyH_take (i := 0) (v := ?_) rfl (by kernel_rfl) (by kernel_rfl) (by kernel_rfl) (fun _ _ _ h => h) (Or.inl ⟨by rfl, ?_⟩) hS ?_
  rotate_left
  · intro u hu; (try dsimp only at hu); go_simp; try with_reducible rfl
  simp only [Act.put, List.getElem_toArray, List.getElem_cons_zero, List.setIfInBounds_toArray, List.set_cons_zero, List.set_cons_succ]
  refine wpAnyH_take (i := 1) (v := ?_) rfl (by kernel_rfl) (by kernel_rfl) (by kernel_rfl) (fun _ _ _ h => h) (Or.inl ⟨by rfl, ?_⟩) hS ?_
  rotate_left
  · intro u hu; (try dsimp only at hu); go_simp; try with_reducible rfl
  simp only [Act.put, List.getElem_toArray, List.getElem_cons_zero, List.getElem_cons_succ, List.setIfInBounds_toArray, List.set_cons_zero, List.set_cons_succ]
  refine wpAnyH_take (i := 2) (v := ?_) rfl (by kernel_rfl) (by kernel_rfl) (by kernel_rfl) (fun _ _ _ h => h) (Or.inl ⟨by rfl, ?_⟩) hS ?_
  rotate_left
  · intro u hu; (try dsimp only at hu); go_simp; try with_reducible rfl
  simp only [Act.put, List.getElem_toArray, List.getElem_cons_zero, List.getElem_cons_succ, List.setIfInBounds_toArray, List.set_cons_zero, List.set_cons_succ]
  refine wpAnyH_take (i := 3) (v := ?_) rfl (by kernel_rfl) (by kernel_rfl) (by kernel_rfl) (fun _ _ _ h => h) (Or.inl ⟨by rfl, ?_⟩) hS ?_
  rotate_left
  · intro u hu; (try dsimp only at hu); go_simp; try with_reducible rfl
  simp only [Act.put, List.getElem_toArray, List.getElem_cons_zero, List.getElem_cons_succ, List.setIfInBounds_toArray, List.set_cons_zero, List.set_cons_succ]
  refine wpAnyH_take (i := 4) (v := ?_) rfl (by kernel_rfl) (by kernel_rfl) (by kernel_rfl) (fun _ _ _ h => h) (Or.inl ⟨by rfl, ?_⟩) hS ?_
  rotate_left
  · intro u hu; (try dsimp only at hu); go_simp; try with_reducible rfl
  simp only [Act.put, List.getElem_toArray, List.getElem_cons_zero, List.getElem_cons_succ, List.setIfInBounds_toArray, List.set_cons_zero, List.set_cons_succ]
  refine wpAnyH_take (i := 5) (v := ?_) rfl (by kernel_rfl) (by kernel_rfl) (by kernel_rfl) (fun _ _ _ h => h) (Or.inl ⟨by rfl, ?_⟩) hS ?_
  rotate_left
  · intro u hu; (try dsimp only at hu); go_simp; try with_reducible rfl
  simp only [Act.put, List.getElem_toArray, List.getElem_cons_zero, List.getElem_cons_succ, List.setIfInBounds_toArray, List.set_cons_zero, List.set_cons_succ]
  refine wpAnyH_take (i := 6) (v := ?_) rfl (by kernel_rfl) (by kernel_rfl) (by kernel_rfl) (fun _ _ _ h => h) (Or.inl ⟨by rfl, ?_⟩) hS ?_
  rotate_left
  · intro u hu; (try dsimp only at hu); go_simp; try with_reducible rfl
  simp only [Act.put, List.getElem_toArray, List.getElem_cons_zero, List.getElem_cons_succ, List.setIfInBounds_toArray, List.set_cons_zero, List.set_cons_succ]
  refine wpAnyH_take (i := 7) (v := ?_) rfl (by kernel_rfl) (by kernel_rfl) (by kernel_rfl) (fun _ _ _ h => h) (Or.inl ⟨by rfl, ?_⟩) hS ?_
  rotate_left
  · intro u hu; (try dsimp only at hu); go_simp; try with_reducible rfl
  simp only [Act.put, List.getElem_toArray, List.getElem_cons_zero, List.getElem_cons_succ, List.setIfInBounds_toArray, List.set_cons_zero, List.set_cons_succ]
  refine wpAnyH_take (i := 9) (v := ?_) rfl (by kernel_rfl) (by kernel_rfl) (by kernel_rfl) (fun _ _ _ h => h) (Or.inl ⟨by rfl, ?_⟩) hS ?_
  rotate_left
  · intro u hu; (try dsimp only at hu); go_simp; try with_reducible rfl
  simp only [Act.put, List.getElem_toArray, List.getElem_cons_zero, List.getElem_cons_succ, List.setIfInBounds_toArray, List.set_cons_zero, List.set_cons_succ]
  refine wpAnyH_take (i := 10) (v := ?_) rfl (by kernel_rfl) (by kernel_rfl) (by kernel_rfl) (fun _ _ _ h => h) (Or.inl ⟨by rfl, ?_⟩) hS ?_
  rotate_left
  · intro u hu; (try dsimp only at hu); go_simp; try with_reducible rfl
  simp only [Act.put, List.getElem_toArray, List.getElem_cons_zero, List.getElem_cons_succ, List.setIfInBounds_toArray, List.set_cons_zero, List.set_cons_succ]
  refine wpAnyH_ready (rs := [8]) (by kernel_rfl) (by simp) ?_
  refine AllReadyH.cons rfl (fun K hK => ?_) AllReadyH.nil
  go_simp
  go_wp2_with (go_at_call 10; refine (unhide HBI _ (unhide YD).bel).mono ?_; rintro e w6 ⟨rfl, hb6⟩; have X6 := hide ((unhide YD).step hb6); have HR7 := hide ((unhide HR6).below hb6); have HW7 := hide ((unhide HW6).below hb6); clear hb6)
  refine hK.out _ _ (unhide X6).cells (fun hS2 => ?_)
  clear hK K hS HR6 HW6 YD
  refine wpAnyH_ready (rs := [11]) (by kernel_rfl) (by simp) ?_
  refine AllReadyH.cons rfl (fun K hK => ?_) AllReadyH.nil
  go_simp
  go_wp2_with (go_at_call 13; refine (unhide HRB _ (unhide X6).bel).mono ?_; rintro e w7 ⟨rfl, hb7⟩; have X7 := hide ((unhide X6).step hb7); have HR8 := hide ((unhide HR7).below hb7); have HW8 := hide ((unhide HW7).below hb7); clear hb7)
  refine hK.out _ _ (unhide X7).cells (fun hS3 => ?_)
  clear hK K hS2 HR7 HW7 X6
  refine wpAnyH_take (i := 12) (v := ?_) rfl (by kernel_rfl) (by kernel_rfl) (by kernel_rfl) (fun _ _ _ h => h) (Or.inl ⟨by rfl, ?_⟩) hS3 ?_
  rotate_left
  · intro u hu; (try dsimp only at hu); go_simp; try with_reducible rfl
  simp only [Act.put, List.getElem_toArray, List.getElem_cons_zero, List.getElem_cons_succ, List.setIfInBounds_toArray, List.set_cons_zero, List.set_cons_succ]
  refine wpAnyH_take (i := 13) (v := ?_) rfl (by kernel_rfl) (by kernel_rfl) (by kernel_rfl) (fun _ _ _ h => h) (Or.inl ⟨by rfl, ?_⟩) hS3 ?_
  rotate_left
  · intro u hu; (try dsimp only at hu); go_simp; try with_reducible rfl
  simp only [Act.put, List.getElem_toArray, List.getElem_cons_zero, List.getElem_cons_succ, List.setIfInBounds_toArray, List.set_cons_zero, List.set_cons_succ]
  refine wpAnyH_done (by kernel_rfl) ?_ _
  have HBu := hide (Below.refl w7.heap.size w7)
  have HBW := hide (unhide X7).bel
  clear hS3 X7
  go_wp2_with fail
  go_loopw [50] (fun i wr => ∃ k : Nat, i = .int .i64 k ∧ k ≤ H ∧ Hid (Below w7.heap.size w7 wr)) (fun i wr => H - (intOf i).toNat)
  case atStart => exact ⟨0, rfl, by omega, HBu⟩
  case round =>
    clear HBu
    obtain ⟨k, rfl, hk, HBu⟩ := hrel
    by_cases hkH : k < H
    · have hkH2 : (k : Int) < (H : Int) := by omega
      obtain ⟨ga2, oa, ha, hg2, c0, c1, c2, c3⟩ := ((unhide HR8).below (unhide HBu)).2 k hkH
      cases ha
      rw [Nat.zero_add] at c0 c1 c2 c3
      obtain ⟨gv, ov, hv, hgv, d0, d1, d2, d3⟩ := ((unhide HW8).below (unhide HBu)).2 k hkH
      subst hv
      generalize A k 0 = a0 at c0 d0
      generalize A k 1 = a1 at c1 d1
      generalize A k 2 = a2 at c2 d2
      generalize A k 3 = a3 at c3 d3
      obtain ⟨gb, hgb⟩ : ∃ gb, wr.heap.size = gb := ⟨_, rfl⟩
      obtain ⟨wa, hwa⟩ : ∃ wa, wr.alloc (.cells #[.int .i64 (a0 : Int), .int .i64 (a1 : Int), .int .i64 (a2 : Int), .int .i64 (a3 : Int)] 35) = wa := ⟨_, rfl⟩
      have hba : Below wr.heap.size wr wa := by rw [← hwa]; exact b_al _
      have HGA := hide (show wa.drew.heap[gb]? = some (.cells #[.int .i64 (a0 : Int), .int .i64 (a1 : Int), .int .i64 (a2 : Int), .int .i64 (a3 : Int)] 35 (0, 0)) by rw [← hwa, ← hgb]; exact at_new _ _ _)
      have HBA := hide ((unhide HBu).trans ((bto hba (b_dr (w := wa))).mono (unhide HBu).size))
      have D0 : wa.drew.cell? ⟨gv, ov + k * 4, none⟩ = some (.int .i64 (a0 : Int)) := by rw [(bto hba (b_dr (w := wa))).cell (p := ⟨gv, ov + k * 4, none⟩) hgv]; exact d0
      have D1 : wa.drew.cell? ⟨gv, ov + k * 4 + 1, none⟩ = some (.int .i64 (a1 : Int)) := by rw [(bto hba (b_dr (w := wa))).cell (p := ⟨gv, ov + k * 4 + 1, none⟩) hgv]; exact d1
      have D2 : wa.drew.cell? ⟨gv, ov + k * 4 + 2, none⟩ = some (.int .i64 (a2 : Int)) := by rw [(bto hba (b_dr (w := wa))).cell (p := ⟨gv, ov + k * 4 + 2, none⟩) hgv]; exact d2
      have D3 : wa.drew.cell? ⟨gv, ov + k * 4 + 3, none⟩ = some (.int .i64 (a3 : Int)) := by rw [(bto hba (b_dr (w := wa))).cell (p := ⟨gv, ov + k * 4 + 3, none⟩) hgv]; exact d3
      have B4 := box4 (unhide HGA)
      have HGB := hide hgb
      have HWA := hide hwa
      have u0 : ((a0 : Int) != (a0 : Int)) = false := by simp
      have u1 : ((a1 : Int) != (a1 : Int)) = false := by simp
      have u2 : ((a2 : Int) != (a2 : Int)) = false := by simp
      have u3 : ((a3 : Int) != (a3 : Int)) = false := by simp
      clear hba hgb hwa
      go_upto_region 13 with fail
      rw [unhide HGB, unhide HWA]
      clear c0 c1 c2 c3 d0 d1 d2 d3 hg2 hgv HGB HWA
      refine wp_region_held_drew (S := fun u => (u.cell? ⟨gb, 0, none⟩ = some (.int .i64 (a0 : Int)) ∧ u.cell? ⟨gb, 1, none⟩ = some (.int .i64 (a1 : Int)) ∧ u.cell? ⟨gb, 2, none⟩ = some (.int .i64 (a2 : Int)) ∧ u.cell? ⟨gb, 3, none⟩ = some (.int .i64 (a3 : Int))) ∧ u.cell? ⟨gv, ov + k * 4, none⟩ = some (.int .i64 (a0 : Int)) ∧ u.cell? ⟨gv, ov + k * 4 + 1, none⟩ = some (.int .i64 (a1 : Int)) ∧ u.cell? ⟨gv, ov + k * 4 + 2, none⟩ = some (.int .i64 (a2 : Int)) ∧ u.cell? ⟨gv, ov + k * 4 + 3, none⟩ = some (.int .i64 (a3 : Int))) (by kernel_rfl) ⟨B4, D0, D1, D2, D3⟩ (fun hS => ?_)
      generalize wa.drew = wd at HBA hS ⊢
      clear B4 D0 D1 D2 D3
      refine wpAnyH_take (i := 0) (v := ?_) rfl (by kernel_rfl) (by kernel_rfl) (by kernel_rfl) (fun _ _ _ h => h) (Or.inl ⟨by rfl, ?_⟩) hS ?_
      rotate_left
      · intro u hu; (try dsimp only at hu); go_simp; try with_reducible rfl
      simp only [Act.put, List.getElem_toArray, List.getElem_cons_zero, List.setIfInBounds_toArray, List.set_cons_zero, List.set_cons_succ]
      refine wpAnyH_take (i := 1) (v := ?_) rfl (by kernel_rfl) (by kernel_rfl) (by kernel_rfl) (fun _ _ _ h => h) (Or.inl ⟨by rfl, ?_⟩) hS ?_
      rotate_left
      · intro u hu; (try dsimp only at hu); go_simp; try with_reducible rfl
      simp only [Act.put, List.getElem_toArray, List.getElem_cons_zero, List.getElem_cons_succ, List.setIfInBounds_toArray, List.set_cons_zero, List.set_cons_succ]
      refine wpAnyH_take (i := 2) (v := ?_) rfl (by kernel_rfl) (by kernel_rfl) (by kernel_rfl) (fun _ _ _ h => h) (Or.inl ⟨by rfl, ?_⟩) hS ?_
      rotate_left
      · intro u hu; (try dsimp only at hu); go_simp; try with_reducible rfl
      simp only [Act.put, List.getElem_toArray, List.getElem_cons_zero, List.getElem_cons_succ, List.setIfInBounds_toArray, List.set_cons_zero, List.set_cons_succ]
      refine wpAnyH_take (i := 3) (v := ?_) rfl (by kernel_rfl) (by kernel_rfl) (by kernel_rfl) (fun _ _ _ h => h) (Or.inl ⟨by rfl, ?_⟩) hS ?_
      rotate_left
      · intro u hu; (try dsimp only at hu); go_simp; try with_reducible rfl
      simp only [Act.put, List.getElem_toArray, List.getElem_cons_zero, List.getElem_cons_succ, List.setIfInBounds_toArray, List.set_cons_zero, List.set_cons_succ]
      refine wpAnyH_take (i := 4) (v := ?_) rfl (by kernel_rfl) (by kernel_rfl) (by kernel_rfl) (fun _ _ _ h => h) (Or.inl ⟨by rfl, ?_⟩) hS ?_
      rotate_left
      · intro u hu; (try dsimp only at hu); go_simp; try with_reducible rfl
      simp only [Act.put, List.getElem_toArray, List.getElem_cons_zero, List.getElem_cons_succ, List.setIfInBounds_toArray, List.set_cons_zero, List.set_cons_succ]
      refine wpAnyH_take (i := 5) (v := ?_) rfl (by kernel_rfl) (by kernel_rfl) (by kernel_rfl) (fun _ _ _ h => h) (Or.inl ⟨by rfl, ?_⟩) hS ?_
      rotate_left
      · intro u hu; (try dsimp only at hu); go_simp; try with_reducible rfl
      simp only [Act.put, List.getElem_toArray, List.getElem_cons_zero, List.getElem_cons_succ, List.setIfInBounds_toArray, List.set_cons_zero, List.set_cons_succ]
      refine wpAnyH_take (i := 6) (v := ?_) rfl (by kernel_rfl) (by kernel_rfl) (by kernel_rfl) (fun _ _ _ h => h) (Or.inl ⟨by rfl, ?_⟩) hS ?_
      rotate_left
      · intro u hu; (try dsimp only at hu); go_simp; try with_reducible rfl
      simp only [Act.put, List.getElem_toArray, List.getElem_cons_zero, List.getElem_cons_succ, List.setIfInBounds_toArray, List.set_cons_zero, List.set_cons_succ]
      refine wpAnyH_take (i := 7) (v := ?_) rfl (by kernel_rfl) (by kernel_rfl) (by kernel_rfl) (fun _ _ _ h => h) (Or.inl ⟨by rfl, ?_⟩) hS ?_
      rotate_left
      · intro u hu; (try dsimp only at hu); go_simp; try with_reducible rfl
      simp only [Act.put, List.getElem_toArray, List.getElem_cons_zero, List.getElem_cons_succ, List.setIfInBounds_toArray, List.set_cons_zero, List.set_cons_succ]
      refine wpAnyH_take (i := 8) (v := ?_) rfl (by kernel_rfl) (by kernel_rfl) (by kernel_rfl) (fun _ _ _ h => h) (Or.inl ⟨by rfl, ?_⟩) hS ?_
      rotate_left
      · intro u hu; (try dsimp only at hu); go_simp; try with_reducible rfl
      simp only [Act.put, List.getElem_toArray, List.getElem_cons_zero, List.getElem_cons_succ, List.setIfInBounds_toArray, List.set_cons_zero, List.set_cons_succ]
      refine wpAnyH_take (i := 9) (v := ?_) rfl (by kernel_rfl) (by kernel_rfl) (by kernel_rfl) (fun _ _ _ h => h) (Or.inl ⟨by rfl, ?_⟩) hS ?_
      rotate_left
      · intro u hu; (try dsimp only at hu); go_simp; try with_reducible rfl
      simp only [Act.put, List.getElem_toArray, List.getElem_cons_zero, List.getElem_cons_succ, List.setIfInBounds_toArray, List.set_cons_zero, List.set_cons_succ]
      refine wpAnyH_take (i := 10) (v := ?_) rfl (by kernel_rfl) (by kernel_rfl) (by kernel_rfl) (fun _ _ _ h => h) (Or.inl ⟨by rfl, ?_⟩) hS ?_
      rotate_left
      · intro u hu; (try dsimp only at hu); go_simp; try with_reducible rfl
      simp only [Act.put, List.getElem_toArray, List.getElem_cons_zero, List.getElem_cons_succ, List.setIfInBounds_toArray, List.set_cons_zero, List.set_cons_succ]
      refine wpAnyH_take (i := 11) (v := ?_) rfl (by kernel_rfl) (by kernel_rfl) (by kernel_rfl) (fun _ _ _ h => h) (Or.inl ⟨by rfl, ?_⟩) hS ?_
      rotate_left
      · intro u hu; (try dsimp only at hu); go_simp; try with_reducible rfl
      simp only [Act.put, List.getElem_toArray, List.getElem_cons_zero, List.getElem_cons_succ, List.setIfInBounds_toArray, List.set_cons_zero, List.set_cons_succ]
      refine wpAnyH_take (i := 12) (v := ?_) rfl (by kernel_rfl) (by kernel_rfl) (by kernel_rfl) (fun _ _ _ h => h) (Or.inl ⟨by rfl, ?_⟩) hS ?_
      rotate_left
      · intro u hu; (try dsimp only at hu); go_simp; try with_reducible rfl
      simp only [Act.put, List.getElem_toArray, List.getElem_cons_zero, List.getElem_cons_succ, List.setIfInBounds_toArray, List.set_cons_zero, List.set_cons_succ]
      refine wpAnyH_take (i := 13) (v := ?_) rfl (by kernel_rfl) (by kernel_rfl) (by kernel_rfl) (fun _ _ _ h => h) (Or.inl ⟨by rfl, ?_⟩) hS ?_
      rotate_left
      · intro u hu; (try dsimp only at hu); go_simp; try with_reducible rfl
      simp only [Act.put, List.getElem_toArray, List.getElem_cons_zero, List.getElem_cons_succ, List.setIfInBounds_toArray, List.set_cons_zero, List.set_cons_succ]
      refine wpAnyH_take (i := 14) (v := ?_) rfl (by kernel_rfl) (by kernel_rfl) (by kernel_rfl) (fun _ _ _ h => h) (Or.inl ⟨by rfl, ?_⟩) hS ?_
      rotate_left
      · intro u hu; (try dsimp only at hu); go_simp; try with_reducible rfl
      simp only [Act.put, List.getElem_toArray, List.getElem_cons_zero, List.getElem_cons_succ, List.setIfInBounds_toArray, List.set_cons_zero, List.set_cons_succ]
      refine wpAnyH_take (i := 15) (v := ?_) rfl (by kernel_rfl) (by kernel_rfl) (by kernel_rfl) (fun _ _ _ h => h) (Or.inl ⟨by rfl, ?_⟩) hS ?_
      rotate_left
      · intro u hu; (try dsimp only at hu); go_simp; try with_reducible rfl
      simp only [Act.put, List.getElem_toArray, List.getElem_cons_zero, List.getElem_cons_succ, List.setIfInBounds_toArray, List.set_cons_zero, List.set_cons_succ]
      refine wpAnyH_take (i := 16) (v := ?_) rfl (by kernel_rfl) (by kernel_rfl) (by kernel_rfl) (fun _ _ _ h => h) (Or.inl ⟨by rfl, ?_⟩) hS ?_
      rotate_left
      · intro u hu; (try dsimp only at hu); go_simp; try with_reducible rfl
      simp only [Act.put, List.getElem_toArray, List.getElem_cons_zero, List.getElem_cons_succ, List.setIfInBounds_toArray, List.set_cons_zero, List.set_cons_succ]
      refine wpAnyH_take (i := 17) (v := ?_) rfl (by kernel_rfl) (by kernel_rfl) (by kernel_rfl) (fun _ _ _ h => h) (Or.inl ⟨by rfl, ?_⟩) hS ?_
      rotate_left
      · intro u hu; (try dsimp only at hu); go_simp; try with_reducible rfl
      simp only [Act.put, List.getElem_toArray, List.getElem_cons_zero, List.getElem_cons_succ, List.setIfInBounds_toArray, List.set_cons_zero, List.set_cons_succ]
      refine wpAnyH_take (i := 18) (v := ?_) rfl (by kernel_rfl) (by kernel_rfl) (by kernel_rfl) (fun _ _ _ h => h) (Or.inl ⟨by rfl, ?_⟩) hS ?_
      rotate_left
      · intro u hu; (try dsimp only at hu); go_simp; try with_reducible rfl
      simp only [Act.put, List.getElem_toArray, List.getElem_cons_zero, List.getElem_cons_succ, List.setIfInBounds_toArray, List.set_cons_zero, List.set_cons_succ]
      refine wpAnyH_take (i := 19) (v := ?_) rfl (by kernel_rfl) (by kernel_rfl) (by kernel_rfl) (fun _ _ _ h => h) (Or.inl ⟨by rfl, ?_⟩) hS ?_
      rotate_left
      · intro u hu; (try dsimp only at hu); go_simp; try with_reducible rfl
      simp only [Act.put, List.getElem_toArray, List.getElem_cons_zero, List.getElem_cons_succ, List.setIfInBounds_toArray, List.set_cons_zero, List.set_cons_succ]
      refine wpAnyH_take (i := 20) (v := ?_) rfl (by kernel_rfl) (by kernel_rfl) (by kernel_rfl) (fun _ _ _ h => h) (Or.inl ⟨by rfl, ?_⟩) hS ?_
      rotate_left
      · intro u hu; (try dsimp only at hu); go_simp; try with_reducible rfl
      simp only [Act.put, List.getElem_toArray, List.getElem_cons_zero, List.getElem_cons_succ, List.setIfInBounds_toArray, List.set_cons_zero, List.set_cons_succ]
      refine wpAnyH_take (i := 21) (v := ?_) rfl (by kernel_rfl) (by kernel_rfl) (by kernel_rfl) (fun _ _ _ h => h) (Or.inl ⟨by rfl, ?_⟩) hS ?_
      rotate_left
      · intro u hu; (try dsimp only at hu); go_simp; try with_reducible rfl
      simp only [Act.put, List.getElem_toArray, List.getElem_cons_zero, List.getElem_cons_succ, List.setIfInBounds_toArray, List.set_cons_zero, List.set_cons_succ]
      refine wpAnyH_take (i := 22) (v := ?_) rfl (by kernel_rfl) (by kernel_rfl) (by kernel_rfl) (fun _ _ _ h => h) (Or.inl ⟨by rfl, ?_⟩) hS ?_
      rotate_left
      · intro u hu; (try dsimp only at hu); go_simp; try with_reducible rfl
      simp only [Act.put, List.getElem_toArray, List.getElem_cons_zero, List.getElem_cons_succ, List.setIfInBounds_toArray, List.set_cons_zero, List.set_cons_succ]
      refine wpAnyH_take (i := 23) (v := ?_) rfl (by kernel_rfl) (by kernel_rfl) (by kernel_rfl) (fun _ _ _ h => h) (Or.inl ⟨by rfl, ?_⟩) hS ?_
      rotate_left
      · intro u hu; (try dsimp only at hu); go_simp; try with_reducible rfl
      simp only [Act.put, List.getElem_toArray, List.getElem_cons_zero, List.getElem_cons_succ, List.setIfInBounds_toArray, List.set_cons_zero, List.set_cons_succ]
      refine wpAnyH_take (i := 24) (v := ?_) rfl (by kernel_rfl) (by kernel_rfl) (by kernel_rfl) (fun _ _ _ h => h) (Or.inl ⟨by rfl, ?_⟩) hS ?_
      rotate_left
      · intro u hu; (try dsimp only at hu); go_simp; try with_reducible rfl
      simp only [Act.put, List.getElem_toArray, List.getElem_cons_zero, List.getElem_cons_succ, List.setIfInBounds_toArray, List.set_cons_zero, List.set_cons_succ]
      refine wpAnyH_take (i := 25) (v := ?_) rfl (by kernel_rfl) (by kernel_rfl) (by kernel_rfl) (fun _ _ _ h => h) (Or.inl ⟨by rfl, ?_⟩) hS ?_
      rotate_left
      · intro u hu; (try dsimp only at hu); go_simp; try with_reducible rfl
      simp only [Act.put, List.getElem_toArray, List.getElem_cons_zero, List.getElem_cons_succ, List.setIfInBounds_toArray, List.set_cons_zero, List.set_cons_succ]
      refine wpAnyH_take (i := 26) (v := ?_) rfl (by kernel_rfl) (by kernel_rfl) (by kernel_rfl) (fun _ _ _ h => h) (Or.inl ⟨by rfl, ?_⟩) hS ?_
      rotate_left
      · intro u hu; (try dsimp only at hu); go_simp; try with_reducible rfl
      simp only [Act.put, List.getElem_toArray, List.getElem_cons_zero, List.getElem_cons_succ, List.setIfInBounds_toArray, List.set_cons_zero, List.set_cons_succ]
      refine wpAnyH_take (i := 27) (v := ?_) rfl (by kernel_rfl) (by kernel_rfl) (by kernel_rfl) (fun _ _ _ h => h) (Or.inl ⟨by rfl, ?_⟩) hS ?_
      rotate_left
      · intro u hu; (try dsimp only at hu); go_simp; try with_reducible rfl
      simp only [Act.put, List.getElem_toArray, List.getElem_cons_zero, List.getElem_cons_succ, List.setIfInBounds_toArray, List.set_cons_zero, List.set_cons_succ]
      refine wpAnyH_take (i := 28) (v := ?_) rfl (by kernel_rfl) (by kernel_rfl) (by kernel_rfl) (fun _ _ _ h => h) (Or.inl ⟨by rfl, ?_⟩) hS ?_
      rotate_left
      · intro u hu; (try dsimp only at hu); go_simp; try with_reducible rfl
      simp only [Act.put, List.getElem_toArray, List.getElem_cons_zero, List.getElem_cons_succ, List.setIfInBounds_toArray, List.set_cons_zero, List.set_cons_succ]
      refine wpAnyH_take (i := 29) (v := ?_) rfl (by kernel_rfl) (by kernel_rfl) (by kernel_rfl) (fun _ _ _ h => h) (Or.inl ⟨by rfl, ?_⟩) hS ?_
      rotate_left
      · intro u hu; (try dsimp only at hu); go_simp; try with_reducible rfl
      simp only [Act.put, List.getElem_toArray, List.getElem_cons_zero, List.getElem_cons_succ, List.setIfInBounds_toArray, List.set_cons_zero, List.set_cons_succ]
      refine wpAnyH_take (i := 30) (v := ?_) rfl (by kernel_rfl) (by kernel_rfl) (by kernel_rfl) (fun _ _ _ h => h) (Or.inl ⟨by rfl, ?_⟩) hS ?_
      rotate_left
      · intro u hu; (try dsimp only at hu); go_simp; try with_reducible rfl
      simp only [Act.put, List.getElem_toArray, List.getElem_cons_zero, List.getElem_cons_succ, List.setIfInBounds_toArray, List.set_cons_zero, List.set_cons_succ]
      refine wpAnyH_take (i := 31) (v := ?_) rfl (by kernel_rfl) (by kernel_rfl) (by kernel_rfl) (fun _ _ _ h => h) (Or.inl ⟨by rfl, ?_⟩) hS ?_
      rotate_left
      · intro u hu; (try dsimp only at hu); go_simp; try with_reducible rfl
      simp only [Act.put, List.getElem_toArray, List.getElem_cons_zero, List.getElem_cons_succ, List.setIfInBounds_toArray, List.set_cons_zero, List.set_cons_succ]
      refine wpAnyH_take (i := 32) (v := ?_) rfl (by kernel_rfl) (by kernel_rfl) (by kernel_rfl) (fun _ _ _ h => h) (Or.inl ⟨by rfl, ?_⟩) hS ?_
      rotate_left
      · intro u hu; (try dsimp only at hu); go_simp; try with_reducible rfl
      simp only [Act.put, List.getElem_toArray, List.getElem_cons_zero, List.getElem_cons_succ, List.setIfInBounds_toArray, List.set_cons_zero, List.set_cons_succ]
      refine wpAnyH_take (i := 33) (v := ?_) rfl (by kernel_rfl) (by kernel_rfl) (by kernel_rfl) (fun _ _ _ h => h) (Or.inl ⟨by rfl, ?_⟩) hS ?_
      rotate_left
      · intro u hu; (try dsimp only at hu); go_simp; try with_reducible rfl
      simp only [Act.put, List.getElem_toArray, List.getElem_cons_zero, List.getElem_cons_succ, List.setIfInBounds_toArray, List.set_cons_zero, List.set_cons_succ]
      refine wpAnyH_take (i := 34) (v := ?_) rfl (by kernel_rfl) (by kernel_rfl) (by kernel_rfl) (fun _ _ _ h => h) (Or.inl ⟨by rfl, ?_⟩) hS ?_
      rotate_left
      · intro u hu; (try dsimp only at hu); go_simp; try with_reducible rfl
      simp only [Act.put, List.getElem_toArray, List.getElem_cons_zero, List.getElem_cons_succ, List.setIfInBounds_toArray, List.set_cons_zero, List.set_cons_succ]
      refine wpAnyH_take (i := 35) (v := ?_) rfl (by kernel_rfl) (by kernel_rfl) (by kernel_rfl) (fun _ _ _ h => h) (Or.inl ⟨by rfl, ?_⟩) hS ?_
      rotate_left
      · intro u hu; (try dsimp only at hu); go_simp; try with_reducible rfl
      simp only [Act.put, List.getElem_toArray, List.getElem_cons_zero, List.getElem_cons_succ, List.setIfInBounds_toArray, List.set_cons_zero, List.set_cons_succ]
      refine wpAnyH_take (i := 36) (v := ?_) rfl (by kernel_rfl) (by kernel_rfl) (by kernel_rfl) (fun _ _ _ h => h) (Or.inl ⟨by rfl, ?_⟩) hS ?_
      rotate_left
      · intro u hu; (try dsimp only at hu); go_simp; try with_reducible rfl
      simp only [Act.put, List.getElem_toArray, List.getElem_cons_zero, List.getElem_cons_succ, List.setIfInBounds_toArray, List.set_cons_zero, List.set_cons_succ]
      refine wpAnyH_take (i := 37) (v := ?_) rfl (by kernel_rfl) (by kernel_rfl) (by kernel_rfl) (fun _ _ _ h => h) (Or.inl ⟨by rfl, ?_⟩) hS ?_
      rotate_left
      · intro u hu; (try dsimp only at hu); go_simp; try with_reducible rfl
      simp only [Act.put, List.getElem_toArray, List.getElem_cons_zero, List.getElem_cons_succ, List.setIfInBounds_toArray, List.set_cons_zero, List.set_cons_succ]
      refine wpAnyH_done (by kernel_rfl) ?_ _
      clear hS
      go_wp2_with fail
      go_roundw
      case rel => exact ⟨k + 1, by go_num, by omega, HBA⟩
      case measure => simp [intOf]; omega
    · obtain rfl : k = H := by omega
      have HBF := hide ((unhide HBW).trans ((unhide HBu).mono (unhide HBW).size))
      go_wp2_with fail
      go_ret
      exact ⟨rfl, unhide HBF⟩
theorem at_any' (w : World) (hT : pt.Tab w) (V : Int) (a : Option Addr) (n cap : Nat) (zs : List (Int × Int)) (h : 200 < n ∨ Es 0 w a n zs) (hno : a = none → n = 0 ∧ cap = 0) (ra : Option Addr) (m rc : Nat) (rs : List (List Int)) (hq : Rq w ra m rs) :
    Calls Tryd.prog 3 #[.agg #[.int .i64 V, .slice a n cap], .slice ra m rc] w fun e w' => e = .returned (.bool true) ∧ Below w.heap.size w w' := by
  by_cases hg : GreatP 60 n m rs
  · exact at_great w hT V a n cap ra m rc rs hq hg
  have hn60 : n ≤ 60 := Nat.le_of_not_lt fun h => hg (.inl h)
  have hm70 : m ≤ 70 := Nat.le_of_not_lt fun h => hg (.inr (.inl h))
  have hl200 : ∀ k, k < m → (rs.getD k []).length ≤ 200 := fun k hk => Nat.le_of_not_lt fun h => hg (.inr (.inr ⟨k, hk, h⟩))
  have hE : Es 0 w a n zs := h.resolve_left (by omega)
  have hr : Rr w ra m rs := hq.rr (by omega) fun k hk => by have := hl200 k hk; omega
  by_cases hrot : IsRot V n zs rs
  · obtain ⟨v, es, rfl, rfl, hne, hp⟩ := pt.plain_of_good hE.1 hrot.good
    subst hne
    obtain ⟨q, rfl, ro⟩ := pt.ro_of hp hrot
    obtain ⟨c, hc⟩ := pt.cnt_ex v es
    obtain ⟨g, hgg⟩ := pt.euler ro (pt.nx_behind ro) (pt.nx_pm ro (pt.nx_behind ro)) hc
    have gd : Gd w v a es.length cap es ra m rc q (pt.nxF es q) c g := ⟨hT, hE, hno, rfl, hp, hr, hrot, ro, pt.nx_behind ro, hc, hgg⟩
    by_cases hnice : Nice v es c g
    · exact at_good w v a _ cap es ra m rc q _ c g gd hq hg hnice
    · refine at_odd w hT v a _ cap ra m rc _ hq hg (gd.noCan hnice) fun u hu => (odd_good u v a _ cap es ra m rc q _ c g (gd.below hu) (fun k hk => by have := hl200 k hk; omega)).mono fun e w' hh => ⟨told_is true (by simp [hnice]) hh.1, hh.2⟩
  · exact at_odd w hT V a n cap ra m rc rs hq hg (noCan_bad hE hr hrot) fun u hu => odd_bad u V a n cap zs (hE.below hu) ra m rc rs (hr.below hu) (fun k hk => by have := hl200 k hk; omega) (by omega) hrot
end Go.Proofs.YtefagplbpbkpgaaDoor

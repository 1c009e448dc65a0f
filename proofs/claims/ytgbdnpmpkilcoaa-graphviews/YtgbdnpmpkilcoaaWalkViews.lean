/-
  The walk of the statement GraphViews of a graph that may be. Conditions: its argument lies in memory as its reading says.
-/
import Derived.Test.YtgbdnpmpkilcoaaWalkViews1
import Derived.Deep.CutBlock
import Derived.Deep.CutRange
import Derived.Deep.RegionHeldLaw
namespace Go.Proofs.Ytgbdnpmpkilcoaa
open Go.RowKit
set_option linter.unusedVariables false
set_option linter.unusedSimpArgs false

theorem Vx.box {w u : World} {b : Nat} {W : Int} {V : Nat} {es : List (Nat × Nat)} {a : Option Addr} {n cap : Nat} {ea : Option Addr} {ec : Nat} (h : Vx w u b W V es a n cap ea ec) :
    u.cell? ⟨w.heap.size, 0, none⟩ = some (.int .i64 W) ∧ u.cell? ⟨w.heap.size, 1, none⟩ = some (.slice a n cap) := ⟨h.cells.1, h.cells.2.1⟩
theorem Vx.box4 {w u : World} {b : Nat} {W : Int} {V : Nat} {es : List (Nat × Nat)} {a : Option Addr} {n cap : Nat} {ea : Option Addr} {ec : Nat} (h : Vx w u b W V es a n cap ea ec) (hn : n = es.length) :
    u.cell? ⟨w.heap.size, 0, none⟩ = some (.int .i64 W) ∧ u.cell? ⟨w.heap.size, 1, none⟩ = some (.slice a n cap) ∧ u.cell? ⟨b, 0, none⟩ = some (.int .i64 V) ∧ u.cell? ⟨b, 1, none⟩ = some (.slice ea n ec) := by
  have := h.cells
  rw [← hn] at this
  exact this
set_option maxHeartbeats 16000000 in
set_option maxRecDepth 20000 in
theorem views_good (w : World) (V : Nat) (a : Option Addr) (n cap : Nat) (es : List (Nat × Nat)) (hn : n = es.length) (h : Es 0 w a es.length (toI es)) (hno : a = none → es.length = 0 ∧ cap = 0) (hp : Plain V es) :
    Calls Try.prog 4 #[.agg #[.int .i64 V, .slice a n cap]] w fun e w' => e = .returned (.bool true) ∧ Below w.heap.size w w' := by
  have hv64 := hp.v64
  have hn128 := hp.n128
  have hG := good_of_plain hp
  rw [← hn] at h hno hn128 hG
  have HB0 := hide (Bg.start w (.int .i64 V) (.slice a n cap))
  have HE := hide h
  have HNO := hide hno
  have HP := hide hp
  have HF := hide hp.fits
  have HN := hide hn
  have HG := hide hG
  have h1' : decide ((200 : Int) < (n : Int)) = false := by simp; omega
  have HG1 := hide h1'
  clear h hno hp hn hG h1'
  go_enter Try.func4, Try.ntmps4
  go_wp2_with fail
  refine (speaks_any _).mono ?_
  rintro e w1 ⟨rfl, hb1⟩
  have HB1 := hide ((unhide HB0).step hb1)
  obtain ⟨g0, g1⟩ := (unhide HB1).cells
  clear hb1
  go_wp2_with fail
  refine (great_any _ V a n cap).mono ?_
  rintro e w2 ⟨rfl, hb2⟩
  rw [unhide HG1]
  have HB2 := hide ((unhide HB1).step hb2)
  clear hb2 g0 g1
  obtain ⟨g0, g1⟩ := (unhide HB2).cells
  have hof := of_good w2 V a cap es (by rw [← unhide HN]; exact (unhide HE).below (unhide HB2).bel) (by rw [← unhide HN]; exact unhide HNO) (unhide HP)
  rw [← unhide HN] at hof
  have HOF := hide hof
  clear hof
  go_wp2_with fail
  refine (unhide HOF).mono ?_
  rintro e w3 ⟨⟨b, ea, ec, va, vc, ia, ic, ra, rc, rfl, hbb, hvw⟩, hb3⟩
  have hX3 : Vx w w3 b V V es a n cap ea ec := ⟨((unhide HB2).step hb3).bel, ((unhide HB2).step hb3).gb, _, _, _, _, _, _, hvw⟩
  have X3 := hide hX3
  clear hb3 g0 g1 hvw hbb HOF
  obtain ⟨g0, g1, g2, g3⟩ := hX3.cells
  clear hX3
  go_wp2_with fail
  refine (refMay_any w3 V a n cap (toI es) ((unhide HE).below (unhide X3).bel)).mono ?_
  rintro e w4 ⟨⟨r, rfl, hr⟩, hb4⟩
  obtain rfl : r = true := hr.2 (unhide HG)
  have X4 := hide ((unhide X3).step hb4)
  clear g0 g1 g2 g3 hr hb4
  obtain ⟨wo, rfl⟩ : ∃ wo, wo = w4 := ⟨_, rfl⟩
  go_wp2_with fail
  go_loopw [6] (fun x wr => ∃ z : Int, x = .int .i64 z ∧ -1 ≤ z ∧ z ≤ V + 1 ∧ Hid (Vx w wr b V V es a n cap ea ec)) (fun x wr => V + 2 - (intOf x + 1).toNat)
  case atStart => exact ⟨-1, rfl, by omega, by omega, X4⟩
  case round =>
    obtain ⟨z, rfl, hz1, hz2, XR⟩ := hrel
    obtain ⟨g0, g1, g2, g3⟩ := (unhide XR).cells
    by_cases hzV : z ≤ (V : Int)
    · have hX0 : Vx w wr.drew b V V es a n cap ea ec := (unhide XR).step ((Below.refl _ _).drew)
      have X0 := hide hX0
      clear hX0 X3 X4
      obtain ⟨q1, hq1⟩ : ∃ q, (ends es true z es.length).length = q := ⟨_, rfl⟩
      obtain ⟨q2, hq2⟩ : ∃ q, (ends es false z es.length).length = q := ⟨_, rfl⟩
      have HQ1 := hide hq1
      have HQ2 := hide hq2
      clear hq1 hq2
      have ho : ∀ u, Vx w u b V V es a n cap ea ec → Calls Try.prog 18 #[.pointer (some ⟨b, 0, none⟩), .int .i64 z] u fun e u' => (∃ ra rc, e = .returned (.slice ra q1 rc) ∧ Ns u' ra q1 (toIs (ends es true z es.length))) ∧ Below u.heap.size u u' := fun u hu => by
        rw [← unhide HQ1]; exact vx_outs hu (unhide HF) z
      have hi : ∀ u, Vx w u b V V es a n cap ea ec → Calls Try.prog 19 #[.pointer (some ⟨b, 0, none⟩), .int .i64 z] u fun e u' => (∃ ra rc, e = .returned (.slice ra q2 rc) ∧ Ns u' ra q2 (toIs (ends es false z es.length))) ∧ Below u.heap.size u u' := fun u hu => by
        rw [← unhide HQ2]; exact vx_ins hu (unhide HF) z
      have hro : ∀ u, Vx w u b V V es a n cap ea ec → Calls Try.prog 22 #[.agg #[.int .i64 V, .slice a n cap], .int .i64 z, .bool true] u fun e u' => (∃ ra rc, e = .returned (.slice ra q1 rc) ∧ Ns u' ra q1 (toIs (ends es true z es.length))) ∧ Below u.heap.size u u' := fun u hu => by
        rw [← unhide HQ1, unhide HN]; exact rf_ends u V a cap es (by rw [← unhide HN]; exact (unhide HE).below hu.bel) (unhide HF) z true
      have hri : ∀ u, Vx w u b V V es a n cap ea ec → Calls Try.prog 22 #[.agg #[.int .i64 V, .slice a n cap], .int .i64 z, .bool false] u fun e u' => (∃ ra rc, e = .returned (.slice ra q2 rc) ∧ Ns u' ra q2 (toIs (ends es false z es.length))) ∧ Below u.heap.size u u' := fun u hu => by
        rw [← unhide HQ2, unhide HN]; exact rf_ends u V a cap es (by rw [← unhide HN]; exact (unhide HE).below hu.bel) (unhide HF) z false
      have HO := hide ho
      have HI := hide hi
      have HRO := hide hro
      have HRI := hide hri
      clear ho hi hro hri
      obtain ⟨l1, hl1⟩ : ∃ l, toIs (ends es true z es.length) = l := ⟨_, rfl⟩
      obtain ⟨l2, hl2⟩ : ∃ l, toIs (ends es false z es.length) = l := ⟨_, rfl⟩
      rw [hl1] at HO HRO
      rw [hl2] at HI HRI
      clear hl1 hl2
      go_upto_region 14 with fail
      go_cut [102] from 59 to 122 (fun v wx => v = .bool false ∧ Hid (Vx w wx b V V es a n cap ea ec))
      case first =>
        refine wp_region_held_drew (S := fun u => u.cell? ⟨w.heap.size, 0, none⟩ = some (.int .i64 V) ∧ u.cell? ⟨w.heap.size, 1, none⟩ = some (.slice a n cap)) (by kernel_rfl) (unhide X0).box (fun hS0 => ?_)
        refine wpAnyH_take (i := 0) (v := ?_) rfl (by kernel_rfl) (by kernel_rfl) (by kernel_rfl) (fun _ _ _ h => h) (Or.inl ⟨by rfl, ?_⟩) hS0 ?_
        rotate_left
        · intro u hu; (try dsimp only at hu); go_simp; try with_reducible rfl
        simp only [Act.put, List.getElem_toArray, List.getElem_cons_zero, List.getElem_cons_succ, List.setIfInBounds_toArray, List.set_cons_zero, List.set_cons_succ]
        refine wpAnyH_take (i := 1) (v := ?_) rfl (by kernel_rfl) (by kernel_rfl) (by kernel_rfl) (fun _ _ _ h => h) (Or.inl ⟨by rfl, ?_⟩) hS0 ?_
        rotate_left
        · intro u hu; (try dsimp only at hu); go_simp; try with_reducible rfl
        simp only [Act.put, List.getElem_toArray, List.getElem_cons_zero, List.getElem_cons_succ, List.setIfInBounds_toArray, List.set_cons_zero, List.set_cons_succ]
        refine wpAnyH_take (i := 3) (v := ?_) rfl (by kernel_rfl) (by kernel_rfl) (by kernel_rfl) (fun _ _ _ h => h) (Or.inl ⟨by rfl, ?_⟩) hS0 ?_
        rotate_left
        · intro u hu; (try dsimp only at hu); go_simp; try with_reducible rfl
        simp only [Act.put, List.getElem_toArray, List.getElem_cons_zero, List.getElem_cons_succ, List.setIfInBounds_toArray, List.set_cons_zero, List.set_cons_succ]
        refine wpAnyH_take (i := 4) (v := ?_) rfl (by kernel_rfl) (by kernel_rfl) (by kernel_rfl) (fun _ _ _ h => h) (Or.inl ⟨by rfl, ?_⟩) hS0 ?_
        rotate_left
        · intro u hu; (try dsimp only at hu); go_simp; try with_reducible rfl
        simp only [Act.put, List.getElem_toArray, List.getElem_cons_zero, List.getElem_cons_succ, List.setIfInBounds_toArray, List.set_cons_zero, List.set_cons_succ]
        refine wpAnyH_ready (rs := [2]) (by kernel_rfl) (by simp) ?_
        refine AllReadyH.cons rfl (fun K hK => ?_) AllReadyH.nil
        go_simp
        go_wp2_with (go_at_call 18; refine (unhide HO _ (unhide X0)).mono ?_; rintro e wx1 ⟨⟨a1, c1, rfl, n1⟩, hb⟩; have X1 := hide ((unhide X0).step hb); have N1 := hide n1; clear hb n1 X0)
        refine hK.out _ _ (unhide X1).box (fun hS1 => ?_)
        clear hK K hS0
        refine wpAnyH_ready (rs := [5]) (by kernel_rfl) (by simp) ?_
        refine AllReadyH.cons rfl (fun K hK => ?_) AllReadyH.nil
        go_simp
        go_wp2_with (go_at_call 22; refine (unhide HRO _ (unhide X1)).mono ?_; rintro e wx2 ⟨⟨a2, c2, rfl, n2⟩, hb⟩; have X2 := hide ((unhide X1).step hb); have N2 := hide n2; have M1 := hide ((unhide N1).below hb); clear N1; clear hb n2 X1)
        refine hK.out _ _ (unhide X2).box (fun hS2 => ?_)
        clear hK K hS1
        refine wpAnyH_ready (rs := [6]) (by kernel_rfl) (by simp) ?_
        refine AllReadyH.cons rfl (fun K hK => ?_) AllReadyH.nil
        go_simp
        go_wp2_with (go_at_call 14; refine (sameE _ a1 a2 q1 c1 c2 l1 (unhide M1) (unhide N2)).mono ?_; rintro e wx3 ⟨rfl, hb⟩; have X3 := hide ((unhide X2).step hb); clear hb X2 M1 N2)
        refine hK.out _ _ (unhide X3).box (fun hS3 => ?_)
        clear hK K hS2
        refine wpAnyH_take (i := 7) (v := ?_) rfl (by kernel_rfl) (by kernel_rfl) (by kernel_rfl) (fun _ _ _ h => h) (Or.inl ⟨by rfl, ?_⟩) hS3 ?_
        rotate_left
        · intro u hu; (try dsimp only at hu); go_simp; try with_reducible rfl
        simp only [Act.put, List.getElem_toArray, List.getElem_cons_zero, List.getElem_cons_succ, List.setIfInBounds_toArray, List.set_cons_zero, List.set_cons_succ]
        refine wpAnyH_take (i := 8) (v := ?_) rfl (by kernel_rfl) (by kernel_rfl) (by kernel_rfl) (fun _ _ _ h => h) (Or.inl ⟨by rfl, ?_⟩) hS3 ?_
        rotate_left
        · intro u hu; (try dsimp only at hu); go_simp; try with_reducible rfl
        simp only [Act.put, List.getElem_toArray, List.getElem_cons_zero, List.getElem_cons_succ, List.setIfInBounds_toArray, List.set_cons_zero, List.set_cons_succ]
        refine wpAnyH_take (i := 9) (v := undef) rfl (by kernel_rfl) (by kernel_rfl) (by kernel_rfl) (fun _ _ _ h => h) (Or.inr ⟨by rfl, rfl⟩) hS3 ?_
        simp only [Act.put, List.getElem_toArray, List.getElem_cons_zero, List.getElem_cons_succ, List.setIfInBounds_toArray, List.set_cons_zero, List.set_cons_succ]
        refine wpAnyH_take (i := 10) (v := undef) rfl (by kernel_rfl) (by kernel_rfl) (by kernel_rfl) (fun _ _ _ h => h) (Or.inr ⟨by rfl, rfl⟩) hS3 ?_
        simp only [Act.put, List.getElem_toArray, List.getElem_cons_zero, List.getElem_cons_succ, List.setIfInBounds_toArray, List.set_cons_zero, List.set_cons_succ]
        refine wpAnyH_take (i := 11) (v := ?_) rfl (by kernel_rfl) (by kernel_rfl) (by kernel_rfl) (fun _ _ _ h => h) (Or.inl ⟨by rfl, ?_⟩) hS3 ?_
        rotate_left
        · intro u hu; (try dsimp only at hu); go_simp; try with_reducible rfl
        simp only [Act.put, List.getElem_toArray, List.getElem_cons_zero, List.getElem_cons_succ, List.setIfInBounds_toArray, List.set_cons_zero, List.set_cons_succ]
        refine wpAnyH_take (i := 12) (v := ?_) rfl (by kernel_rfl) (by kernel_rfl) (by kernel_rfl) (fun _ _ _ h => h) (Or.inl ⟨by rfl, ?_⟩) hS3 ?_
        rotate_left
        · intro u hu; (try dsimp only at hu); go_simp; try with_reducible rfl
        simp only [Act.put, List.getElem_toArray, List.getElem_cons_zero, List.getElem_cons_succ, List.setIfInBounds_toArray, List.set_cons_zero, List.set_cons_succ]
        refine wpAnyH_take (i := 13) (v := undef) rfl (by kernel_rfl) (by kernel_rfl) (by kernel_rfl) (fun _ _ _ h => h) (Or.inr ⟨by rfl, rfl⟩) hS3 ?_
        simp only [Act.put, List.getElem_toArray, List.getElem_cons_zero, List.getElem_cons_succ, List.setIfInBounds_toArray, List.set_cons_zero, List.set_cons_succ]
        refine wpAnyH_take (i := 14) (v := undef) rfl (by kernel_rfl) (by kernel_rfl) (by kernel_rfl) (fun _ _ _ h => h) (Or.inr ⟨by rfl, rfl⟩) hS3 ?_
        simp only [Act.put, List.getElem_toArray, List.getElem_cons_zero, List.getElem_cons_succ, List.setIfInBounds_toArray, List.set_cons_zero, List.set_cons_succ]
        refine wpAnyH_take (i := 15) (v := undef) rfl (by kernel_rfl) (by kernel_rfl) (by kernel_rfl) (fun _ _ _ h => h) (Or.inr ⟨by rfl, rfl⟩) hS3 ?_
        simp only [Act.put, List.getElem_toArray, List.getElem_cons_zero, List.getElem_cons_succ, List.setIfInBounds_toArray, List.set_cons_zero, List.set_cons_succ]
        refine wpAnyH_take (i := 16) (v := undef) rfl (by kernel_rfl) (by kernel_rfl) (by kernel_rfl) (fun _ _ _ h => h) (Or.inr ⟨by rfl, rfl⟩) hS3 ?_
        simp only [Act.put, List.getElem_toArray, List.getElem_cons_zero, List.getElem_cons_succ, List.setIfInBounds_toArray, List.set_cons_zero, List.set_cons_succ]
        refine wpAnyH_take (i := 17) (v := ?_) rfl (by kernel_rfl) (by kernel_rfl) (by kernel_rfl) (fun _ _ _ h => h) (Or.inl ⟨by rfl, ?_⟩) hS3 ?_
        rotate_left
        · intro u hu; (try dsimp only at hu); go_simp; try with_reducible rfl
        simp only [Act.put, List.getElem_toArray, List.getElem_cons_zero, List.getElem_cons_succ, List.setIfInBounds_toArray, List.set_cons_zero, List.set_cons_succ]
        refine wpAnyH_take (i := 18) (v := ?_) rfl (by kernel_rfl) (by kernel_rfl) (by kernel_rfl) (fun _ _ _ h => h) (Or.inl ⟨by rfl, ?_⟩) hS3 ?_
        rotate_left
        · intro u hu; (try dsimp only at hu); go_simp; try with_reducible rfl
        simp only [Act.put, List.getElem_toArray, List.getElem_cons_zero, List.getElem_cons_succ, List.setIfInBounds_toArray, List.set_cons_zero, List.set_cons_succ]
        refine wpAnyH_take (i := 19) (v := ?_) rfl (by kernel_rfl) (by kernel_rfl) (by kernel_rfl) (fun _ _ _ h => h) (Or.inl ⟨by rfl, ?_⟩) hS3 ?_
        rotate_left
        · intro u hu; (try dsimp only at hu); go_simp; try with_reducible rfl
        simp only [Act.put, List.getElem_toArray, List.getElem_cons_zero, List.getElem_cons_succ, List.setIfInBounds_toArray, List.set_cons_zero, List.set_cons_succ]
        refine wpAnyH_take (i := 20) (v := ?_) rfl (by kernel_rfl) (by kernel_rfl) (by kernel_rfl) (fun _ _ _ h => h) (Or.inl ⟨by rfl, ?_⟩) hS3 ?_
        rotate_left
        · intro u hu; (try dsimp only at hu); go_simp; try with_reducible rfl
        simp only [Act.put, List.getElem_toArray, List.getElem_cons_zero, List.getElem_cons_succ, List.setIfInBounds_toArray, List.set_cons_zero, List.set_cons_succ]
        refine wpAnyH_take (i := 22) (v := ?_) rfl (by kernel_rfl) (by kernel_rfl) (by kernel_rfl) (fun _ _ _ h => h) (Or.inl ⟨by rfl, ?_⟩) hS3 ?_
        rotate_left
        · intro u hu; (try dsimp only at hu); go_simp; try with_reducible rfl
        simp only [Act.put, List.getElem_toArray, List.getElem_cons_zero, List.getElem_cons_succ, List.setIfInBounds_toArray, List.set_cons_zero, List.set_cons_succ]
        refine wpAnyH_take (i := 23) (v := ?_) rfl (by kernel_rfl) (by kernel_rfl) (by kernel_rfl) (fun _ _ _ h => h) (Or.inl ⟨by rfl, ?_⟩) hS3 ?_
        rotate_left
        · intro u hu; (try dsimp only at hu); go_simp; try with_reducible rfl
        simp only [Act.put, List.getElem_toArray, List.getElem_cons_zero, List.getElem_cons_succ, List.setIfInBounds_toArray, List.set_cons_zero, List.set_cons_succ]
        refine wpAnyH_ready (rs := [21]) (by kernel_rfl) (by simp) ?_
        refine AllReadyH.cons rfl (fun K hK => ?_) AllReadyH.nil
        go_simp
        go_wp2_with (go_at_call 19; refine (unhide HI _ (unhide X3)).mono ?_; rintro e wx4 ⟨⟨a4, c4, rfl, n4⟩, hb⟩; have X4 := hide ((unhide X3).step hb); have N4 := hide n4; clear hb n4 X3)
        refine hK.out _ _ (unhide X4).box (fun hS4 => ?_)
        clear hK K hS3
        refine wpAnyH_ready (rs := [24]) (by kernel_rfl) (by simp) ?_
        refine AllReadyH.cons rfl (fun K hK => ?_) AllReadyH.nil
        go_simp
        go_wp2_with (go_at_call 22; refine (unhide HRI _ (unhide X4)).mono ?_; rintro e wx5 ⟨⟨a5, c5, rfl, n5⟩, hb⟩; have X5 := hide ((unhide X4).step hb); have N5 := hide n5; have M4 := hide ((unhide N4).below hb); clear N4; clear hb n5 X4)
        refine hK.out _ _ (unhide X5).box (fun hS5 => ?_)
        clear hK K hS4
        refine wpAnyH_ready (rs := [25]) (by kernel_rfl) (by simp) ?_
        refine AllReadyH.cons rfl (fun K hK => ?_) AllReadyH.nil
        go_simp
        go_wp2_with (go_at_call 14; refine (sameE _ a4 a5 q2 c4 c5 l2 (unhide M4) (unhide N5)).mono ?_; rintro e wx6 ⟨rfl, hb⟩; have X6 := hide ((unhide X5).step hb); clear hb X5 M4 N5)
        refine hK.out _ _ (unhide X6).box (fun hS6 => ?_)
        clear hK K hS5
        refine wpAnyH_take (i := 26) (v := ?_) rfl (by kernel_rfl) (by kernel_rfl) (by kernel_rfl) (fun _ _ _ h => h) (Or.inl ⟨by rfl, ?_⟩) hS6 ?_
        rotate_left
        · intro u hu; (try dsimp only at hu); go_simp; try with_reducible rfl
        simp only [Act.put, List.getElem_toArray, List.getElem_cons_zero, List.getElem_cons_succ, List.setIfInBounds_toArray, List.set_cons_zero, List.set_cons_succ]
        refine wpAnyH_take (i := 27) (v := ?_) rfl (by kernel_rfl) (by kernel_rfl) (by kernel_rfl) (fun _ _ _ h => h) (Or.inl ⟨by rfl, ?_⟩) hS6 ?_
        rotate_left
        · intro u hu; (try dsimp only at hu); go_simp; try with_reducible rfl
        simp only [Act.put, List.getElem_toArray, List.getElem_cons_zero, List.getElem_cons_succ, List.setIfInBounds_toArray, List.set_cons_zero, List.set_cons_succ]
        refine wpAnyH_take (i := 28) (v := undef) rfl (by kernel_rfl) (by kernel_rfl) (by kernel_rfl) (fun _ _ _ h => h) (Or.inr ⟨by rfl, rfl⟩) hS6 ?_
        simp only [Act.put, List.getElem_toArray, List.getElem_cons_zero, List.getElem_cons_succ, List.setIfInBounds_toArray, List.set_cons_zero, List.set_cons_succ]
        refine wpAnyH_take (i := 29) (v := undef) rfl (by kernel_rfl) (by kernel_rfl) (by kernel_rfl) (fun _ _ _ h => h) (Or.inr ⟨by rfl, rfl⟩) hS6 ?_
        simp only [Act.put, List.getElem_toArray, List.getElem_cons_zero, List.getElem_cons_succ, List.setIfInBounds_toArray, List.set_cons_zero, List.set_cons_succ]
        refine wpAnyH_take (i := 30) (v := ?_) rfl (by kernel_rfl) (by kernel_rfl) (by kernel_rfl) (fun _ _ _ h => h) (Or.inl ⟨by rfl, ?_⟩) hS6 ?_
        rotate_left
        · intro u hu; (try dsimp only at hu); go_simp; try with_reducible rfl
        simp only [Act.put, List.getElem_toArray, List.getElem_cons_zero, List.getElem_cons_succ, List.setIfInBounds_toArray, List.set_cons_zero, List.set_cons_succ]
        refine wpAnyH_take (i := 31) (v := ?_) rfl (by kernel_rfl) (by kernel_rfl) (by kernel_rfl) (fun _ _ _ h => h) (Or.inl ⟨by rfl, ?_⟩) hS6 ?_
        rotate_left
        · intro u hu; (try dsimp only at hu); go_simp; try with_reducible rfl
        simp only [Act.put, List.getElem_toArray, List.getElem_cons_zero, List.getElem_cons_succ, List.setIfInBounds_toArray, List.set_cons_zero, List.set_cons_succ]
        refine wpAnyH_take (i := 32) (v := undef) rfl (by kernel_rfl) (by kernel_rfl) (by kernel_rfl) (fun _ _ _ h => h) (Or.inr ⟨by rfl, rfl⟩) hS6 ?_
        simp only [Act.put, List.getElem_toArray, List.getElem_cons_zero, List.getElem_cons_succ, List.setIfInBounds_toArray, List.set_cons_zero, List.set_cons_succ]
        refine wpAnyH_take (i := 33) (v := undef) rfl (by kernel_rfl) (by kernel_rfl) (by kernel_rfl) (fun _ _ _ h => h) (Or.inr ⟨by rfl, rfl⟩) hS6 ?_
        simp only [Act.put, List.getElem_toArray, List.getElem_cons_zero, List.getElem_cons_succ, List.setIfInBounds_toArray, List.set_cons_zero, List.set_cons_succ]
        refine wpAnyH_take (i := 34) (v := undef) rfl (by kernel_rfl) (by kernel_rfl) (by kernel_rfl) (fun _ _ _ h => h) (Or.inr ⟨by rfl, rfl⟩) hS6 ?_
        simp only [Act.put, List.getElem_toArray, List.getElem_cons_zero, List.getElem_cons_succ, List.setIfInBounds_toArray, List.set_cons_zero, List.set_cons_succ]
        refine wpAnyH_take (i := 35) (v := undef) rfl (by kernel_rfl) (by kernel_rfl) (by kernel_rfl) (fun _ _ _ h => h) (Or.inr ⟨by rfl, rfl⟩) hS6 ?_
        simp only [Act.put, List.getElem_toArray, List.getElem_cons_zero, List.getElem_cons_succ, List.setIfInBounds_toArray, List.set_cons_zero, List.set_cons_succ]
        refine wpAnyH_take (i := 36) (v := ?_) rfl (by kernel_rfl) (by kernel_rfl) (by kernel_rfl) (fun _ _ _ h => h) (Or.inl ⟨by rfl, ?_⟩) hS6 ?_
        rotate_left
        · intro u hu; (try dsimp only at hu); go_simp; try with_reducible rfl
        simp only [Act.put, List.getElem_toArray, List.getElem_cons_zero, List.getElem_cons_succ, List.setIfInBounds_toArray, List.set_cons_zero, List.set_cons_succ]
        refine wpAnyH_take (i := 37) (v := ?_) rfl (by kernel_rfl) (by kernel_rfl) (by kernel_rfl) (fun _ _ _ h => h) (Or.inl ⟨by rfl, ?_⟩) hS6 ?_
        rotate_left
        · intro u hu; (try dsimp only at hu); go_simp; try with_reducible rfl
        simp only [Act.put, List.getElem_toArray, List.getElem_cons_zero, List.getElem_cons_succ, List.setIfInBounds_toArray, List.set_cons_zero, List.set_cons_succ]
        refine wpAnyH_done (by kernel_rfl) ?_ _
        go_wp2_with fail
        go_meet
        exact ⟨rfl, X6⟩
      case rest =>
        obtain ⟨rfl, XC⟩ := hcut
        clear g0 g1 g2 g3
        obtain ⟨g0, g1, g2, g3⟩ := (unhide XC).cells
        by_cases hin : 0 ≤ z ∧ z < (V : Int)
        · obtain ⟨hz0, hzl⟩ := hin
          have hd1 : decide (z < 0) = false := decide_eq_false (by omega)
          have hd2 : (z == (V : Int)) = false := by rw [beq_eq_false_iff_ne]; omega
          go_wp2_with fail
          go_roundw
          case rel => exact ⟨z + 1, by go_num, by omega, by omega, XC⟩
          case measure => simp [intOf]; omega
        · have hib : inB z V = false := decide_eq_false hin
          have hqq : q1 = 0 ∧ q2 = 0 := ⟨by rw [← unhide HQ1, ends_none (unhide HF) hib]; rfl, by rw [← unhide HQ2, ends_none (unhide HF) hib]; rfl⟩
          obtain ⟨rfl, rfl⟩ := hqq
          clear hib
          by_cases hneg : z < 0
          · have hd1 : decide (z < 0) = true := decide_eq_true hneg
            go_wp2_with fail
            refine (unhide HO _ (unhide XC)).mono ?_
            rintro e wy1 ⟨⟨a7, c7, rfl, _⟩, hb⟩
            have XD := hide ((unhide XC).step hb)
            clear hb g0 g1 g2 g3
            obtain ⟨g0, g1, g2, g3⟩ := (unhide XD).cells
            go_wp2_with fail
            refine (unhide HI _ (unhide XD)).mono ?_
            rintro e wy2 ⟨⟨a8, c8, rfl, _⟩, hb⟩
            have XE := hide ((unhide XD).step hb)
            clear hb g0 g1 g2 g3
            go_wp2_with fail
            go_roundw
            case rel => exact ⟨z + 1, by go_num, by omega, by omega, XE⟩
            case measure => simp [intOf]; omega
          · obtain rfl : z = (V : Int) := by omega
            have hd1 : decide ((V : Int) < 0) = false := decide_eq_false (by omega)
            go_wp2_with fail
            refine (unhide HO _ (unhide XC)).mono ?_
            rintro e wy1 ⟨⟨a7, c7, rfl, _⟩, hb⟩
            have XD := hide ((unhide XC).step hb)
            clear hb g0 g1 g2 g3
            obtain ⟨g0, g1, g2, g3⟩ := (unhide XD).cells
            go_wp2_with fail
            refine (unhide HI _ (unhide XD)).mono ?_
            rintro e wy2 ⟨⟨a8, c8, rfl, _⟩, hb⟩
            have XE := hide ((unhide XD).step hb)
            clear hb g0 g1 g2 g3
            go_wp2_with fail
            go_roundw
            case rel => exact ⟨(V : Int) + 1, by go_num, by omega, by omega, XE⟩
            case measure => simp [intOf]; omega
    · have hd0 : decide (z ≤ (V : Int)) = false := decide_eq_false hzV
      clear X3 X4
      obtain ⟨q3, hq3⟩ : ∃ q, (bare (Pl.ins es) V).length = q := ⟨_, rfl⟩
      obtain ⟨q4, hq4⟩ : ∃ q, (bare (Pl.outs es) V).length = q := ⟨_, rfl⟩
      obtain ⟨q5, hq5⟩ : ∃ q, (ordL V (Pl.order V es)).length = q := ⟨_, rfl⟩
      obtain ⟨l3, hl3⟩ : ∃ l, toIs (bare (Pl.ins es) V) = l := ⟨_, rfl⟩
      obtain ⟨l4, hl4⟩ : ∃ l, toIs (bare (Pl.outs es) V) = l := ⟨_, rfl⟩
      obtain ⟨l5, hl5⟩ : ∃ l, toIs (ordL V (Pl.order V es)) = l := ⟨_, rfl⟩
      obtain ⟨ob, hob⟩ : ∃ o, decide (V ≤ (Pl.order V es).length) = o := ⟨_, rfl⟩
      have t1 : ∀ u, Vx w u b V V es a n cap ea ec → Calls Try.prog 20 #[.pointer (some ⟨b, 0, none⟩)] u fun e u' => (∃ ra rc, e = .returned (.slice ra q3 rc) ∧ Ns u' ra q3 l3) ∧ Below u.heap.size u u' := fun u hu => by
        rw [← hq3, ← hl3]; exact vx_sources hu (unhide HF)
      have t2 : ∀ u, Vx w u b V V es a n cap ea ec → Calls Try.prog 24 #[.agg #[.int .i64 V, .slice a n cap], .bool true] u fun e u' => (∃ ra rc, e = .returned (.slice ra q3 rc) ∧ Ns u' ra q3 l3) ∧ Below u.heap.size u u' := fun u hu => by
        rw [← hq3, ← hl3, unhide HN]; exact rf_bare u V a cap es (by rw [← unhide HN]; exact (unhide HE).below hu.bel) (unhide HP) true
      have t3 : ∀ u, Vx w u b V V es a n cap ea ec → Calls Try.prog 21 #[.pointer (some ⟨b, 0, none⟩)] u fun e u' => (∃ ra rc, e = .returned (.slice ra q4 rc) ∧ Ns u' ra q4 l4) ∧ Below u.heap.size u u' := fun u hu => by
        rw [← hq4, ← hl4]; exact vx_sinks hu (unhide HF)
      have t4 : ∀ u, Vx w u b V V es a n cap ea ec → Calls Try.prog 24 #[.agg #[.int .i64 V, .slice a n cap], .bool false] u fun e u' => (∃ ra rc, e = .returned (.slice ra q4 rc) ∧ Ns u' ra q4 l4) ∧ Below u.heap.size u u' := fun u hu => by
        rw [← hq4, ← hl4, unhide HN]; exact rf_bare u V a cap es (by rw [← unhide HN]; exact (unhide HE).below hu.bel) (unhide HP) false
      have t5 : ∀ u, Vx w u b V V es a n cap ea ec → Calls Try.prog 16 #[.pointer (some ⟨b, 0, none⟩)] u fun e u' => (∃ ra rc, e = .returned (.tuple #[.slice ra q5 rc, .bool ob]) ∧ Ns u' ra q5 l5) ∧ Below u.heap.size u u' := fun u hu => by
        rw [← hq5, ← hl5, ← hob]; exact vx_order hu (unhide HF)
      have t6 : ∀ u, Vx w u b V V es a n cap ea ec → Calls Try.prog 23 #[.agg #[.int .i64 V, .slice a n cap]] u fun e u' => (∃ ra rc, e = .returned (.tuple #[.slice ra q5 rc, .bool ob]) ∧ Ns u' ra q5 l5) ∧ Below u.heap.size u u' := fun u hu => by
        rw [← hq5, ← hl5, ← hob, unhide HN]; exact rf_order u V a cap es (by rw [← unhide HN]; exact (unhide HE).below hu.bel) (unhide HP)
      have t7 : ∀ u, Vx w u b V V es a n cap ea ec → Calls Try.prog 17 #[.agg #[.int .i64 V, .slice ea n ec], .agg #[.int .i64 V, .slice a n cap]] u fun e u' => e = .returned (.bool true) ∧ Below u.heap.size u u' := fun u hu => by
        have h2 : Es 0 u a es.length (toI es) := by rw [← unhide HN]; exact (unhide HE).below hu.bel
        have h3 := vx_same hu (c2 := cap) h2
        rw [← unhide HN] at h3
        exact h3
      have T1 := hide t1
      have T2 := hide t2
      have T3 := hide t3
      have T4 := hide t4
      have T5 := hide t5
      have T6 := hide t6
      have T7 := hide t7
      clear t1 t2 t3 t4 t5 t6 t7 hq3 hq4 hq5 hl3 hl4 hl5 hob
      go_wp2_with fail
      refine (unhide T5 _ (unhide XR)).mono ?_
      rintro e wx1 ⟨⟨a1, c1, rfl, n1⟩, hb⟩
      have X1 := hide ((unhide XR).step hb)
      have N1 := hide n1
      clear hb n1 g0 g1 g2 g3
      obtain ⟨g0, g1, g2, g3⟩ := (unhide X1).cells
      go_wp2_with fail
      refine (unhide T6 _ (unhide X1)).mono ?_
      rintro e wx2 ⟨⟨a2, c2, rfl, n2⟩, hb⟩
      have X2 := hide (((unhide X1).step hb).step ((Below.refl _ _).drew))
      have N2 := hide (n2.below ((Below.refl _ _).drew))
      have M1 := hide (((unhide N1).below hb).below ((Below.refl _ _).drew))
      clear hb n2 g0 g1 g2 g3
      go_wp2_with fail
      cases ob
      all_goals
        refine wp_region_held_drew (S := fun u => u.cell? ⟨w.heap.size, 0, none⟩ = some (.int .i64 V) ∧ u.cell? ⟨w.heap.size, 1, none⟩ = some (.slice a n cap) ∧ u.cell? ⟨b, 0, none⟩ = some (.int .i64 V) ∧ u.cell? ⟨b, 1, none⟩ = some (.slice ea n ec)) (by kernel_rfl) ((unhide X2).box4 (unhide HN)) (fun hS0 => ?_)
        refine wpAnyH_take (i := 0) (v := ?_) rfl (by kernel_rfl) (by kernel_rfl) (by kernel_rfl) (fun _ _ _ h => h) (Or.inl ⟨by rfl, ?_⟩) hS0 ?_
        rotate_left
        · intro u hu; (try dsimp only at hu); go_simp; try with_reducible rfl
        simp only [Act.put, List.getElem_toArray, List.getElem_cons_zero, List.getElem_cons_succ, List.setIfInBounds_toArray, List.set_cons_zero, List.set_cons_succ]
        refine wpAnyH_take (i := 1) (v := ?_) rfl (by kernel_rfl) (by kernel_rfl) (by kernel_rfl) (fun _ _ _ h => h) (Or.inl ⟨by rfl, ?_⟩) hS0 ?_
        rotate_left
        · intro u hu; (try dsimp only at hu); go_simp; try with_reducible rfl
        simp only [Act.put, List.getElem_toArray, List.getElem_cons_zero, List.getElem_cons_succ, List.setIfInBounds_toArray, List.set_cons_zero, List.set_cons_succ]
        refine wpAnyH_take (i := 2) (v := ?_) rfl (by kernel_rfl) (by kernel_rfl) (by kernel_rfl) (fun _ _ _ h => h) (Or.inl ⟨by rfl, ?_⟩) hS0 ?_
        rotate_left
        · intro u hu; (try dsimp only at hu); go_simp; try with_reducible rfl
        simp only [Act.put, List.getElem_toArray, List.getElem_cons_zero, List.getElem_cons_succ, List.setIfInBounds_toArray, List.set_cons_zero, List.set_cons_succ]
        refine wpAnyH_take (i := 3) (v := ?_) rfl (by kernel_rfl) (by kernel_rfl) (by kernel_rfl) (fun _ _ _ h => h) (Or.inl ⟨by rfl, ?_⟩) hS0 ?_
        rotate_left
        · intro u hu; (try dsimp only at hu); go_simp; try with_reducible rfl
        simp only [Act.put, List.getElem_toArray, List.getElem_cons_zero, List.getElem_cons_succ, List.setIfInBounds_toArray, List.set_cons_zero, List.set_cons_succ]
        refine wpAnyH_take (i := 4) (v := ?_) rfl (by kernel_rfl) (by kernel_rfl) (by kernel_rfl) (fun _ _ _ h => h) (Or.inl ⟨by rfl, ?_⟩) hS0 ?_
        rotate_left
        · intro u hu; (try dsimp only at hu); go_simp; try with_reducible rfl
        simp only [Act.put, List.getElem_toArray, List.getElem_cons_zero, List.getElem_cons_succ, List.setIfInBounds_toArray, List.set_cons_zero, List.set_cons_succ]
        refine wpAnyH_take (i := 5) (v := ?_) rfl (by kernel_rfl) (by kernel_rfl) (by kernel_rfl) (fun _ _ _ h => h) (Or.inl ⟨by rfl, ?_⟩) hS0 ?_
        rotate_left
        · intro u hu; (try dsimp only at hu); go_simp; try with_reducible rfl
        simp only [Act.put, List.getElem_toArray, List.getElem_cons_zero, List.getElem_cons_succ, List.setIfInBounds_toArray, List.set_cons_zero, List.set_cons_succ]
        refine wpAnyH_ready (rs := [6]) (by kernel_rfl) (by simp) ?_
        refine AllReadyH.cons rfl (fun K hK => ?_) AllReadyH.nil
        go_simp
        go_wp2_with (go_at_call 14; refine (sameE _ a1 a2 q5 c1 c2 l5 (unhide M1) (unhide N2)).mono ?_; rintro e wx3 ⟨rfl, hb⟩; have X3 := hide ((unhide X2).step hb); clear hb X2 M1 N2)
        refine hK.out _ _ ((unhide X3).box4 (unhide HN)) (fun hS1 => ?_)
        clear hK K hS0
        refine wpAnyH_take (i := 7) (v := ?_) rfl (by kernel_rfl) (by kernel_rfl) (by kernel_rfl) (fun _ _ _ h => h) (Or.inl ⟨by rfl, ?_⟩) hS1 ?_
        rotate_left
        · intro u hu; (try dsimp only at hu); go_simp; try with_reducible rfl
        simp only [Act.put, List.getElem_toArray, List.getElem_cons_zero, List.getElem_cons_succ, List.setIfInBounds_toArray, List.set_cons_zero, List.set_cons_succ]
        refine wpAnyH_take (i := 8) (v := ?_) rfl (by kernel_rfl) (by kernel_rfl) (by kernel_rfl) (fun _ _ _ h => h) (Or.inl ⟨by rfl, ?_⟩) hS1 ?_
        rotate_left
        · intro u hu; (try dsimp only at hu); go_simp; try with_reducible rfl
        simp only [Act.put, List.getElem_toArray, List.getElem_cons_zero, List.getElem_cons_succ, List.setIfInBounds_toArray, List.set_cons_zero, List.set_cons_succ]
        refine wpAnyH_take (i := 9) (v := ?_) rfl (by kernel_rfl) (by kernel_rfl) (by kernel_rfl) (fun _ _ _ h => h) (Or.inl ⟨by rfl, ?_⟩) hS1 ?_
        rotate_left
        · intro u hu; (try dsimp only at hu); go_simp; try with_reducible rfl
        simp only [Act.put, List.getElem_toArray, List.getElem_cons_zero, List.getElem_cons_succ, List.setIfInBounds_toArray, List.set_cons_zero, List.set_cons_succ]
        refine wpAnyH_take (i := 11) (v := ?_) rfl (by kernel_rfl) (by kernel_rfl) (by kernel_rfl) (fun _ _ _ h => h) (Or.inl ⟨by rfl, ?_⟩) hS1 ?_
        rotate_left
        · intro u hu; (try dsimp only at hu); go_simp; try with_reducible rfl
        simp only [Act.put, List.getElem_toArray, List.getElem_cons_zero, List.getElem_cons_succ, List.setIfInBounds_toArray, List.set_cons_zero, List.set_cons_succ]
        refine wpAnyH_ready (rs := [10]) (by kernel_rfl) (by simp) ?_
        refine AllReadyH.cons rfl (fun K hK => ?_) AllReadyH.nil
        go_simp
        go_wp2_with (go_at_call 20; refine (unhide T1 _ (unhide X3)).mono ?_; rintro e wx4 ⟨⟨a4, c4, rfl, n4⟩, hb⟩; have X4 := hide ((unhide X3).step hb); have N4 := hide n4; clear hb n4 X3)
        refine hK.out _ _ ((unhide X4).box4 (unhide HN)) (fun hS2 => ?_)
        clear hK K hS1
        refine wpAnyH_ready (rs := [12]) (by kernel_rfl) (by simp) ?_
        refine AllReadyH.cons rfl (fun K hK => ?_) AllReadyH.nil
        go_simp
        go_wp2_with (go_at_call 24; refine (unhide T2 _ (unhide X4)).mono ?_; rintro e wx5 ⟨⟨a5, c5, rfl, n5⟩, hb⟩; have X5 := hide ((unhide X4).step hb); have N5 := hide n5; have M4 := hide ((unhide N4).below hb); clear N4; clear hb n5 X4)
        refine hK.out _ _ ((unhide X5).box4 (unhide HN)) (fun hS3 => ?_)
        clear hK K hS2
        refine wpAnyH_ready (rs := [13]) (by kernel_rfl) (by simp) ?_
        refine AllReadyH.cons rfl (fun K hK => ?_) AllReadyH.nil
        go_simp
        go_wp2_with (go_at_call 14; refine (sameE _ a4 a5 q3 c4 c5 l3 (unhide M4) (unhide N5)).mono ?_; rintro e wx6 ⟨rfl, hb⟩; have X6 := hide ((unhide X5).step hb); clear hb X5 M4 N5)
        refine hK.out _ _ ((unhide X6).box4 (unhide HN)) (fun hS4 => ?_)
        clear hK K hS3
        refine wpAnyH_take (i := 14) (v := ?_) rfl (by kernel_rfl) (by kernel_rfl) (by kernel_rfl) (fun _ _ _ h => h) (Or.inl ⟨by rfl, ?_⟩) hS4 ?_
        rotate_left
        · intro u hu; (try dsimp only at hu); go_simp; try with_reducible rfl
        simp only [Act.put, List.getElem_toArray, List.getElem_cons_zero, List.getElem_cons_succ, List.setIfInBounds_toArray, List.set_cons_zero, List.set_cons_succ]
        refine wpAnyH_take (i := 15) (v := ?_) rfl (by kernel_rfl) (by kernel_rfl) (by kernel_rfl) (fun _ _ _ h => h) (Or.inl ⟨by rfl, ?_⟩) hS4 ?_
        rotate_left
        · intro u hu; (try dsimp only at hu); go_simp; try with_reducible rfl
        simp only [Act.put, List.getElem_toArray, List.getElem_cons_zero, List.getElem_cons_succ, List.setIfInBounds_toArray, List.set_cons_zero, List.set_cons_succ]
        refine wpAnyH_take (i := 16) (v := ?_) rfl (by kernel_rfl) (by kernel_rfl) (by kernel_rfl) (fun _ _ _ h => h) (Or.inl ⟨by rfl, ?_⟩) hS4 ?_
        rotate_left
        · intro u hu; (try dsimp only at hu); go_simp; try with_reducible rfl
        simp only [Act.put, List.getElem_toArray, List.getElem_cons_zero, List.getElem_cons_succ, List.setIfInBounds_toArray, List.set_cons_zero, List.set_cons_succ]
        refine wpAnyH_take (i := 18) (v := ?_) rfl (by kernel_rfl) (by kernel_rfl) (by kernel_rfl) (fun _ _ _ h => h) (Or.inl ⟨by rfl, ?_⟩) hS4 ?_
        rotate_left
        · intro u hu; (try dsimp only at hu); go_simp; try with_reducible rfl
        simp only [Act.put, List.getElem_toArray, List.getElem_cons_zero, List.getElem_cons_succ, List.setIfInBounds_toArray, List.set_cons_zero, List.set_cons_succ]
        refine wpAnyH_ready (rs := [17]) (by kernel_rfl) (by simp) ?_
        refine AllReadyH.cons rfl (fun K hK => ?_) AllReadyH.nil
        go_simp
        go_wp2_with (go_at_call 21; refine (unhide T3 _ (unhide X6)).mono ?_; rintro e wx7 ⟨⟨a7, c7, rfl, n7⟩, hb⟩; have X7 := hide ((unhide X6).step hb); have N7 := hide n7; clear hb n7 X6)
        refine hK.out _ _ ((unhide X7).box4 (unhide HN)) (fun hS5 => ?_)
        clear hK K hS4
        refine wpAnyH_ready (rs := [19]) (by kernel_rfl) (by simp) ?_
        refine AllReadyH.cons rfl (fun K hK => ?_) AllReadyH.nil
        go_simp
        go_wp2_with (go_at_call 24; refine (unhide T4 _ (unhide X7)).mono ?_; rintro e wx8 ⟨⟨a8, c8, rfl, n8⟩, hb⟩; have X8 := hide ((unhide X7).step hb); have N8 := hide n8; have M7 := hide ((unhide N7).below hb); clear N7; clear hb n8 X7)
        refine hK.out _ _ ((unhide X8).box4 (unhide HN)) (fun hS6 => ?_)
        clear hK K hS5
        refine wpAnyH_ready (rs := [20]) (by kernel_rfl) (by simp) ?_
        refine AllReadyH.cons rfl (fun K hK => ?_) AllReadyH.nil
        go_simp
        go_wp2_with (go_at_call 14; refine (sameE _ a7 a8 q4 c7 c8 l4 (unhide M7) (unhide N8)).mono ?_; rintro e wx9 ⟨rfl, hb⟩; have X9 := hide ((unhide X8).step hb); clear hb X8 M7 N8)
        refine hK.out _ _ ((unhide X9).box4 (unhide HN)) (fun hS7 => ?_)
        clear hK K hS6
        refine wpAnyH_take (i := 21) (v := ?_) rfl (by kernel_rfl) (by kernel_rfl) (by kernel_rfl) (fun _ _ _ h => h) (Or.inl ⟨by rfl, ?_⟩) hS7 ?_
        rotate_left
        · intro u hu; (try dsimp only at hu); go_simp; try with_reducible rfl
        simp only [Act.put, List.getElem_toArray, List.getElem_cons_zero, List.getElem_cons_succ, List.setIfInBounds_toArray, List.set_cons_zero, List.set_cons_succ]
        refine wpAnyH_take (i := 22) (v := ?_) rfl (by kernel_rfl) (by kernel_rfl) (by kernel_rfl) (fun _ _ _ h => h) (Or.inl ⟨by rfl, ?_⟩) hS7 ?_
        rotate_left
        · intro u hu; (try dsimp only at hu); go_simp; try with_reducible rfl
        simp only [Act.put, List.getElem_toArray, List.getElem_cons_zero, List.getElem_cons_succ, List.setIfInBounds_toArray, List.set_cons_zero, List.set_cons_succ]
        refine wpAnyH_take (i := 23) (v := ?_) rfl (by kernel_rfl) (by kernel_rfl) (by kernel_rfl) (fun _ _ _ h => h) (Or.inl ⟨by rfl, ?_⟩) hS7 ?_
        rotate_left
        · intro u hu; (try dsimp only at hu); go_simp; try with_reducible rfl
        simp only [Act.put, List.getElem_toArray, List.getElem_cons_zero, List.getElem_cons_succ, List.setIfInBounds_toArray, List.set_cons_zero, List.set_cons_succ]
        refine wpAnyH_take (i := 24) (v := ?_) rfl (by kernel_rfl) (by kernel_rfl) (by kernel_rfl) (fun _ _ _ h => h) (Or.inl ⟨by rfl, ?_⟩) hS7 ?_
        rotate_left
        · intro u hu; (try dsimp only at hu); go_simp; try with_reducible rfl
        simp only [Act.put, List.getElem_toArray, List.getElem_cons_zero, List.getElem_cons_succ, List.setIfInBounds_toArray, List.set_cons_zero, List.set_cons_succ]
        refine wpAnyH_take (i := 25) (v := ?_) rfl (by kernel_rfl) (by kernel_rfl) (by kernel_rfl) (fun _ _ _ h => h) (Or.inl ⟨by rfl, ?_⟩) hS7 ?_
        rotate_left
        · intro u hu; (try dsimp only at hu); go_simp; try with_reducible rfl
        simp only [Act.put, List.getElem_toArray, List.getElem_cons_zero, List.getElem_cons_succ, List.setIfInBounds_toArray, List.set_cons_zero, List.set_cons_succ]
        refine wpAnyH_take (i := 26) (v := ?_) rfl (by kernel_rfl) (by kernel_rfl) (by kernel_rfl) (fun _ _ _ h => h) (Or.inl ⟨by rfl, ?_⟩) hS7 ?_
        rotate_left
        · intro u hu; (try dsimp only at hu); go_simp; try with_reducible rfl
        simp only [Act.put, List.getElem_toArray, List.getElem_cons_zero, List.getElem_cons_succ, List.setIfInBounds_toArray, List.set_cons_zero, List.set_cons_succ]
        refine wpAnyH_take (i := 27) (v := ?_) rfl (by kernel_rfl) (by kernel_rfl) (by kernel_rfl) (fun _ _ _ h => h) (Or.inl ⟨by rfl, ?_⟩) hS7 ?_
        rotate_left
        · intro u hu; (try dsimp only at hu); go_simp; try with_reducible rfl
        simp only [Act.put, List.getElem_toArray, List.getElem_cons_zero, List.getElem_cons_succ, List.setIfInBounds_toArray, List.set_cons_zero, List.set_cons_succ]
        refine wpAnyH_ready (rs := [28]) (by kernel_rfl) (by simp) ?_
        refine AllReadyH.cons rfl (fun K hK => ?_) AllReadyH.nil
        go_simp
        go_wp2_with (go_at_call 17; refine (unhide T7 _ (unhide X9)).mono ?_; rintro e wx10 ⟨rfl, hb⟩; have X10 := hide ((unhide X9).step hb); clear hb X9)
        refine hK.out _ _ ((unhide X10).box4 (unhide HN)) (fun hS8 => ?_)
        clear hK K hS7
        refine wpAnyH_take (i := 29) (v := ?_) rfl (by kernel_rfl) (by kernel_rfl) (by kernel_rfl) (fun _ _ _ h => h) (Or.inl ⟨by rfl, ?_⟩) hS8 ?_
        rotate_left
        · intro u hu; (try dsimp only at hu); go_simp; try with_reducible rfl
        simp only [Act.put, List.getElem_toArray, List.getElem_cons_zero, List.getElem_cons_succ, List.setIfInBounds_toArray, List.set_cons_zero, List.set_cons_succ]
        refine wpAnyH_take (i := 30) (v := ?_) rfl (by kernel_rfl) (by kernel_rfl) (by kernel_rfl) (fun _ _ _ h => h) (Or.inl ⟨by rfl, ?_⟩) hS8 ?_
        rotate_left
        · intro u hu; (try dsimp only at hu); go_simp; try with_reducible rfl
        simp only [Act.put, List.getElem_toArray, List.getElem_cons_zero, List.getElem_cons_succ, List.setIfInBounds_toArray, List.set_cons_zero, List.set_cons_succ]
        refine wpAnyH_done (by kernel_rfl) ?_ _
        go_wp2_with fail
        go_ret
        exact ⟨rfl, (unhide X10).bel⟩
end Go.Proofs.Ytgbdnpmpkilcoaa

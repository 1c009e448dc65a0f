/-
  The contract of the walk's from: it goes as the plain walk goes. Conditions: the walk and the view lie in memory as told.
-/
import Derived.Test.YtbecmaandhadhaaAl
namespace Go.Proofs.Ytbecmaandhadhaa
open Go.RowKit
set_option linter.unusedVariables false
set_option maxRecDepth 20000

/-- a row of numbers that was handed back -/
def RowTold (w' : World) (xs : List Nat) (e : Ending) : Prop := ∃ a c, e = .returned (.slice a xs.length c) ∧ (a = none → xs.length = 0 ∧ c = 0) ∧ Ns w' a xs.length (toIs xs)
theorem told_of_owns {w : World} {base : Nat} {v : Value} {xs : List Nat} (h : w.ownsRow base 3 1 v xs.length (zcells (toIs xs))) (hb : xs.length ≤ 1000) : RowTold w xs (.returned v) := by
  obtain ⟨a, c, hv, hc, hN⟩ := ns_of_owns h (by omega)
  subst hv
  refine ⟨a, c, rfl, fun ha => ?_, hN⟩
  subst ha
  have := none_cap h
  omega
theorem outs_in (w : World) (b V : Nat) (es : List (Nat × Nat)) (ea : Option Addr) (ec : Nat) (oa : Option Addr) (oc : Nat) (ia : Option Addr) (ic : Nat) (ra : Option Addr) (rc : Nat) (ord : List Nat) (x : Nat)
    (h : Vw w b V es ea ec oa oc ia ic ra rc ord) (hp : Plain V es) (hx : x < V) :
    Calls Try.prog 43 #[.pointer (some ⟨b, 0, none⟩), .int .i64 x] w fun e w' => RowTold w' (Pl.outs es x) e ∧ Below w.heap.size w w' := by
  refine (outs_any w b V es ea ec oa oc ia ic ra rc ord x h hp).mono ?_
  rintro e w' ⟨he, hb⟩
  rcases he with ⟨y, v, hxy, hy, rfl, ho⟩ | ⟨hi, _⟩
  · obtain rfl : x = y := by omega
    have := Pl.sel_len es (fun e => e.1 == x) es.length
    have := hp.n128
    exact ⟨told_of_owns ho (by unfold Pl.outs; omega), hb⟩
  · simp [inB] at hi
    omega
theorem ins_in (w : World) (b V : Nat) (es : List (Nat × Nat)) (ea : Option Addr) (ec : Nat) (oa : Option Addr) (oc : Nat) (ia : Option Addr) (ic : Nat) (ra : Option Addr) (rc : Nat) (ord : List Nat) (x : Nat)
    (h : Vw w b V es ea ec oa oc ia ic ra rc ord) (hp : Plain V es) (hx : x < V) :
    Calls Try.prog 44 #[.pointer (some ⟨b, 0, none⟩), .int .i64 x] w fun e w' => RowTold w' (Pl.ins es x) e ∧ Below w.heap.size w w' := by
  refine (ins_any w b V es ea ec oa oc ia ic ra rc ord x h hp).mono ?_
  rintro e w' ⟨he, hb⟩
  rcases he with ⟨y, v, hxy, hy, rfl, ho⟩ | ⟨hi, _⟩
  · obtain rfl : x = y := by omega
    have := Pl.sel_len es (fun e => e.2 == x) es.length
    have := hp.n128
    exact ⟨told_of_owns ho (by unfold Pl.ins; omega), hb⟩
  · simp [inB] at hi
    omega
theorem Wk.far {A B : Nat} {w w' : World} {q gc vb V : Nat} {S : Df.St} {R : Nat → Value} {bv : Value} (h : Wk A B w q gc vb V S R bv) {base : Nat} {v : Value} {xs : List Nat} {a : Option Addr} {c : Nat} (hb : w.heap.size ≤ base) (ho : w'.ownsRow base 3 1 v xs.length (zcells (toIs xs))) (hv : v = .slice a xs.length c) (hx : xs.length ≤ 1000) :
    Ls w' q gc (R 0) bv a xs := by
  obtain ⟨a', c', hv', hc, hN⟩ := ns_of_owns ho (by omega)
  rw [hv] at hv'
  simp only [Value.slice.injEq, true_and] at hv'
  obtain ⟨rfl, rfl⟩ := hv'
  refine ⟨hN, fun p hp => ?_⟩
  subst hp
  have hlt := ho.lt p.block (by rw [hv]; rfl)
  have h1 := h.q_lt
  have h2 := h.c_lt
  refine ⟨by omega, by omega, fun e => ?_, fun e => ?_, hlt.2⟩
  · have := (h.row_lt (j := 0) (by omega) e).2; omega
  · have := (h.bv_lt e).2; omega

set_option maxHeartbeats 16000000 in
theorem from_step (A : Nat) (wv : World) (q gc vb V : Nat) (es : List (Nat × Nat)) (hpl : Plain V es) (hg : Df.Gr V es) (ea : Option Addr) (ec : Nat) (oa : Option Addr) (oc : Nat) (ia : Option Addr) (ic : Nat) (ra : Option Addr) (rc : Nat) (ord : List Nat) (hv : VwS A wv vb V es ea ec oa oc ia ic ra rc ord)
    (f : Nat) (hF : FromC A wv q gc vb V es f) : FromC A wv q gc vb V es (f + 1) := by
  intro x b bi S w R0 bv0 hbi hx hp hs hu hz hw hb
  have hV := hpl.v64
  have hm := hpl.n128
  have hT := hz.time
  obtain ⟨c0, c1, c2, _, _⟩ := hw.cells
  have hfz := hw.fz 1
  obtain ⟨t, ht⟩ : ∃ t, S.time = t := ⟨_, rfl⟩
  rw [ht] at hT c1
  have HTM := hide ht
  have HPL := hide hpl
  have HG := hide hg
  have HV := hide hv
  have HF := hide hF
  have HBI := hide hbi
  have HP := hide hp
  have HS := hide hs
  have HU := hide hu
  have HZ := hide hz
  have HW := hide hw
  have HB := hide hb
  have hx2 : (x : Int) < (V : Int) := by omega
  have HE := hide (show (Df.fromF es (f + 1) x b S) = Df.leaveF x (Df.loopF es f x b S (Df.adj es x).length) from Df.fromF_succ es f x b S)
  clear hpl hg hv hF hbi hp hs hu hz hw hb ht
  rw [unhide HE]
  go_enter Try.func24, Try.ntmps24
  go_upto_region 2 with fail
  have HK1 := hide (show Wk A wv.heap.size (w.setCell ⟨q, 1, none⟩ (.int .i64 ((t : Int) + 1))) q gc vb V { S with time := t + 1 } R0 bv0 from (unhide HW).time (t + 1))
  have HR1 := hide (show Fr q gc (R0 0) bv0 w (R0 0) bv0 (w.setCell ⟨q, 1, none⟩ (.int .i64 ((t : Int) + 1))) from Fr.setq _ _ (fun _ h => h) fun _ h => h)
  clear c0 c1 c2 hfz
  generalize w.setCell ⟨q, 1, none⟩ (.int .i64 ((t : Int) + 1)) = w1 at HK1 HR1 ⊢
  obtain ⟨_, d1, d2, _, _⟩ := (unhide HK1).cells
  have HKD := hide ((unhide HK1).more (w' := w1.drew) (Below.refl _ _).drew)
  have HRD := hide ((unhide HR1).trans (Fr.of_below (show Below w1.heap.size w1 w1.drew from (Below.refl _ _).drew)))
  refine wp_region_held_drew (S := fun u => u.cell? ⟨q, 1, none⟩ = some (.int .i64 ((t : Int) + 1)) ∧ u.cell? ⟨q, 2, none⟩ = some (.slice (some ⟨gc, 0, none⟩) V V)) (by kernel_rfl) ⟨d1, d2⟩ (fun hS => ?_)
  clear d1 d2 HK1 HR1
  generalize w1.drew = wd at HKD HRD hS ⊢
  refine wpAnyH_take (i := 0) (v := ?_) rfl (by kernel_rfl) (by kernel_rfl) (by kernel_rfl) (fun _ _ _ h => h) (Or.inl ⟨by rfl, ?_⟩) hS ?_
  rotate_left
  · intro u hu; (try dsimp only at hu); go_simp; try with_reducible rfl
  simp only [Act.put, List.getElem_toArray, List.getElem_cons_zero, List.setIfInBounds_toArray, List.set_cons_zero, List.set_cons_succ]
  refine wpAnyH_take (i := 1) (v := ?_) rfl (by kernel_rfl) (by kernel_rfl) (by kernel_rfl) (fun _ _ _ h => h) (Or.inl ⟨by rfl, ?_⟩) hS ?_
  rotate_left
  · intro u hu; (try dsimp only at hu); go_simp; try with_reducible rfl
  simp only [Act.put, List.getElem_toArray, List.getElem_cons_zero, List.getElem_cons_succ, List.setIfInBounds_toArray, List.set_cons_zero, List.set_cons_succ]
  refine wpAnyH_take (i := 2) (v := ?_) rfl (by kernel_rfl) (by kernel_rfl) (by kernel_rfl) (fun _ _ _ h => h) (Or.inl ⟨by rfl, ?_⟩) hS ?_
  rotate_left
  · intro u hu; (try dsimp only at hu); go_simp; try with_reducible rfl
  simp only [Act.put, List.getElem_toArray, List.getElem_cons_zero, List.getElem_cons_succ, List.setIfInBounds_toArray, List.set_cons_zero, List.set_cons_succ]
  refine wpAnyH_take (i := 3) (v := ?_) rfl (by kernel_rfl) (by kernel_rfl) (by kernel_rfl) (fun _ _ _ h => h) (Or.inl ⟨by rfl, ?_⟩) hS ?_
  rotate_left
  · intro u hu; (try dsimp only at hu); go_simp; try with_reducible rfl
  simp only [Act.put, List.getElem_toArray, List.getElem_cons_zero, List.getElem_cons_succ, List.setIfInBounds_toArray, List.set_cons_zero, List.set_cons_succ]
  refine wpAnyH_take (i := 4) (v := ?_) rfl (by kernel_rfl) (by kernel_rfl) (by kernel_rfl) (fun _ _ _ h => h) (Or.inl ⟨by rfl, ?_⟩) hS ?_
  rotate_left
  · intro u hu; (try dsimp only at hu); go_simp; try with_reducible rfl
  simp only [Act.put, List.getElem_toArray, List.getElem_cons_zero, List.getElem_cons_succ, List.setIfInBounds_toArray, List.set_cons_zero, List.set_cons_succ]
  refine wpAnyH_take (i := 5) (v := ?_) rfl (by kernel_rfl) (by kernel_rfl) (by kernel_rfl) (fun _ _ _ h => h) (Or.inl ⟨by rfl, ?_⟩) hS ?_
  rotate_left
  · intro u hu; (try dsimp only at hu); go_simp; try with_reducible rfl
  simp only [Act.put, List.getElem_toArray, List.getElem_cons_zero, List.getElem_cons_succ, List.setIfInBounds_toArray, List.set_cons_zero, List.set_cons_succ]
  refine wpAnyH_take (i := 6) (v := ?_) rfl (by kernel_rfl) (by kernel_rfl) (by kernel_rfl) (fun _ _ _ h => h) (Or.inl ⟨by rfl, ?_⟩) hS ?_
  rotate_left
  · intro u hu; (try dsimp only at hu); go_simp; try with_reducible rfl
  simp only [Act.put, List.getElem_toArray, List.getElem_cons_zero, List.getElem_cons_succ, List.setIfInBounds_toArray, List.set_cons_zero, List.set_cons_succ]
  refine wpAnyH_take (i := 7) (v := ?_) rfl (by kernel_rfl) (by kernel_rfl) (by kernel_rfl) (fun _ _ _ h => h) (Or.inl ⟨by rfl, ?_⟩) hS ?_
  rotate_left
  · intro u hu; (try dsimp only at hu); go_simp; try with_reducible rfl
  simp only [Act.put, List.getElem_toArray, List.getElem_cons_zero, List.getElem_cons_succ, List.setIfInBounds_toArray, List.set_cons_zero, List.set_cons_succ]
  refine wpAnyH_take (i := 8) (v := ?_) rfl (by kernel_rfl) (by kernel_rfl) (by kernel_rfl) (fun _ _ _ h => h) (Or.inl ⟨by rfl, ?_⟩) hS ?_
  rotate_left
  · intro u hu; (try dsimp only at hu); go_simp; try with_reducible rfl
  simp only [Act.put, List.getElem_toArray, List.getElem_cons_zero, List.getElem_cons_succ, List.setIfInBounds_toArray, List.set_cons_zero, List.set_cons_succ]
  refine wpAnyH_take (i := 9) (v := ?_) rfl (by kernel_rfl) (by kernel_rfl) (by kernel_rfl) (fun _ _ _ h => h) (Or.inl ⟨by rfl, ?_⟩) hS ?_
  rotate_left
  · intro u hu; (try dsimp only at hu); go_simp; try with_reducible rfl
  simp only [Act.put, List.getElem_toArray, List.getElem_cons_zero, List.getElem_cons_succ, List.setIfInBounds_toArray, List.set_cons_zero, List.set_cons_succ]
  have e1 := (unhide HKD).ct hx
  have e2 := (unhide HKD).come.fz x
  have e3 := (unhide HKD).qc
  refine wpAnyH_ready (rs := [10]) (by kernel_rfl) (by simp) ?_
  refine AllReadyH.cons rfl (fun K hK => ?_) AllReadyH.nil
  go_simp
  have HK2 := hide (show Wk A wv.heap.size (wd.setCell ⟨gc, x, none⟩ (.int .i64 ((t : Int) + 1))) q gc vb V (Df.enterF x b S) R0 bv0 from ((unhide HKD).come' x (t + 1)).ghost (by show S.time + 1 = t + 1; rw [unhide HTM]) (by show Df.upd S.come x (S.time + 1) = _; rw [unhide HTM]) rfl rfl)
  have HR2 := hide ((unhide HRD).trans (Fr.setc (q := q) x (.int .i64 ((t : Int) + 1))))
  have hS2 : (wd.setCell ⟨gc, x, none⟩ (.int .i64 ((t : Int) + 1))).cell? ⟨q, 1, none⟩ = some (.int .i64 ((t : Int) + 1)) ∧ (wd.setCell ⟨gc, x, none⟩ (.int .i64 ((t : Int) + 1))).cell? ⟨q, 2, none⟩ = some (.slice (some ⟨gc, 0, none⟩) V V) := by
    rw [cell_set_far _ _ _ _ e3, cell_set_far _ _ _ _ e3]
    exact hS
  refine hK.out _ _ hS2 (fun hS3 => ?_)
  clear hK K hS hS3 e1 e2 e3 HKD HRD
  refine wpAnyH_done (by kernel_rfl) ?_ _
  generalize wd.setCell ⟨gc, x, none⟩ (.int .i64 ((t : Int) + 1)) = w2 at HK2 HR2 hS2 ⊢
  obtain ⟨d1, d2⟩ := hS2
  obtain ⟨d0, _⟩ := (unhide HK2).cells
  clear d2
  go_upto_region 4 with fail
  clear d1
  have HK3 := hide ((unhide HK2).more (w' := w2.drew) (Below.refl _ _).drew)
  have HR3 := hide ((unhide HR2).trans (Fr.of_below (show Below w2.heap.size w2 w2.drew from (Below.refl _ _).drew)))
  have HB3 := hide ((unhide HR3).bel (unhide HW) (unhide HB))
  refine wp_region_held_drew (S := fun u => u.cell? ⟨q, 0, none⟩ = some (.pointer (some ⟨vb, 0, none⟩))) (by kernel_rfl) d0 (fun hS => ?_)
  clear d0 HK2 HR2
  generalize w2.drew = w3 at HK3 HR3 HB3 hS ⊢
  refine wpAnyH_take (i := 0) (v := ?_) rfl (by kernel_rfl) (by kernel_rfl) (by kernel_rfl) (fun _ _ _ h => h) (Or.inl ⟨by rfl, ?_⟩) hS ?_
  rotate_left
  · intro u hu; (try dsimp only at hu); go_simp; try with_reducible rfl
  simp only [Act.put, List.getElem_toArray, List.getElem_cons_zero, List.setIfInBounds_toArray, List.set_cons_zero, List.set_cons_succ]
  refine wpAnyH_take (i := 1) (v := ?_) rfl (by kernel_rfl) (by kernel_rfl) (by kernel_rfl) (fun _ _ _ h => h) (Or.inl ⟨by rfl, ?_⟩) hS ?_
  rotate_left
  · intro u hu; (try dsimp only at hu); go_simp; try with_reducible rfl
  simp only [Act.put, List.getElem_toArray, List.getElem_cons_zero, List.getElem_cons_succ, List.setIfInBounds_toArray, List.set_cons_zero, List.set_cons_succ]
  refine wpAnyH_take (i := 2) (v := ?_) rfl (by kernel_rfl) (by kernel_rfl) (by kernel_rfl) (fun _ _ _ h => h) (Or.inl ⟨by rfl, ?_⟩) hS ?_
  rotate_left
  · intro u hu; (try dsimp only at hu); go_simp; try with_reducible rfl
  simp only [Act.put, List.getElem_toArray, List.getElem_cons_zero, List.getElem_cons_succ, List.setIfInBounds_toArray, List.set_cons_zero, List.set_cons_succ]
  refine wpAnyH_take (i := 3) (v := ?_) rfl (by kernel_rfl) (by kernel_rfl) (by kernel_rfl) (fun _ _ _ h => h) (Or.inl ⟨by rfl, ?_⟩) hS ?_
  rotate_left
  · intro u hu; (try dsimp only at hu); go_simp; try with_reducible rfl
  simp only [Act.put, List.getElem_toArray, List.getElem_cons_zero, List.getElem_cons_succ, List.setIfInBounds_toArray, List.set_cons_zero, List.set_cons_succ]
  refine wpAnyH_take (i := 4) (v := ?_) rfl (by kernel_rfl) (by kernel_rfl) (by kernel_rfl) (fun _ _ _ h => h) (Or.inl ⟨by rfl, ?_⟩) hS ?_
  rotate_left
  · intro u hu; (try dsimp only at hu); go_simp; try with_reducible rfl
  simp only [Act.put, List.getElem_toArray, List.getElem_cons_zero, List.getElem_cons_succ, List.setIfInBounds_toArray, List.set_cons_zero, List.set_cons_succ]
  refine wpAnyH_take (i := 6) (v := ?_) rfl (by kernel_rfl) (by kernel_rfl) (by kernel_rfl) (fun _ _ _ h => h) (Or.inl ⟨by rfl, ?_⟩) hS ?_
  rotate_left
  · intro u hu; (try dsimp only at hu); go_simp; try with_reducible rfl
  simp only [Act.put, List.getElem_toArray, List.getElem_cons_zero, List.getElem_cons_succ, List.setIfInBounds_toArray, List.set_cons_zero, List.set_cons_succ]
  refine wpAnyH_take (i := 7) (v := ?_) rfl (by kernel_rfl) (by kernel_rfl) (by kernel_rfl) (fun _ _ _ h => h) (Or.inl ⟨by rfl, ?_⟩) hS ?_
  rotate_left
  · intro u hu; (try dsimp only at hu); go_simp; try with_reducible rfl
  simp only [Act.put, List.getElem_toArray, List.getElem_cons_zero, List.getElem_cons_succ, List.setIfInBounds_toArray, List.set_cons_zero, List.set_cons_succ]
  refine wpAnyH_take (i := 8) (v := ?_) rfl (by kernel_rfl) (by kernel_rfl) (by kernel_rfl) (fun _ _ _ h => h) (Or.inl ⟨by rfl, ?_⟩) hS ?_
  rotate_left
  · intro u hu; (try dsimp only at hu); go_simp; try with_reducible rfl
  simp only [Act.put, List.getElem_toArray, List.getElem_cons_zero, List.getElem_cons_succ, List.setIfInBounds_toArray, List.set_cons_zero, List.set_cons_succ]
  refine wpAnyH_take (i := 9) (v := ?_) rfl (by kernel_rfl) (by kernel_rfl) (by kernel_rfl) (fun _ _ _ h => h) (Or.inl ⟨by rfl, ?_⟩) hS ?_
  rotate_left
  · intro u hu; (try dsimp only at hu); go_simp; try with_reducible rfl
  simp only [Act.put, List.getElem_toArray, List.getElem_cons_zero, List.getElem_cons_succ, List.setIfInBounds_toArray, List.set_cons_zero, List.set_cons_succ]
  refine wpAnyH_take (i := 10) (v := ?_) rfl (by kernel_rfl) (by kernel_rfl) (by kernel_rfl) (fun _ _ _ h => h) (Or.inl ⟨by rfl, ?_⟩) hS ?_
  rotate_left
  · intro u hu; (try dsimp only at hu); go_simp; try with_reducible rfl
  simp only [Act.put, List.getElem_toArray, List.getElem_cons_zero, List.getElem_cons_succ, List.setIfInBounds_toArray, List.set_cons_zero, List.set_cons_succ]
  refine wpAnyH_take (i := 15) (v := ?_) rfl (by kernel_rfl) (by kernel_rfl) (by kernel_rfl) (fun _ _ _ h => h) (Or.inl ⟨by rfl, ?_⟩) hS ?_
  rotate_left
  · intro u hu; (try dsimp only at hu); go_simp; try with_reducible rfl
  simp only [Act.put, List.getElem_toArray, List.getElem_cons_zero, List.getElem_cons_succ, List.setIfInBounds_toArray, List.set_cons_zero, List.set_cons_succ]
  refine wpAnyH_ready (rs := [5]) (by kernel_rfl) (by simp) ?_
  refine AllReadyH.cons rfl (fun K hK => ?_) AllReadyH.nil
  go_simp
  go_wp2_with (go_at_call 43; refine (outs_in _ vb V es ea ec oa oc ia ic ra rc ord x ((unhide HV) _ (unhide HK3).sz (unhide HB3)) (unhide HPL) hx).mono ?_; rintro en w4 ⟨⟨a1, l1, rfl, hno1, hns1⟩, hb4⟩; have HB4 := hide hb4; have HN1 := hide hns1; have HO1 := hide hno1; have hS4 := cell_q hS hb4; clear hb4 hns1 hno1)
  refine hK.out _ _ hS4 (fun hS2 => ?_)
  clear hK K hS hS2
  refine wpAnyH_ready (rs := [11]) (by kernel_rfl) (by simp) ?_
  refine AllReadyH.cons rfl (fun K hK => ?_) AllReadyH.nil
  go_simp
  go_wp2_with (go_at_call 44; refine (ins_in _ vb V es ea ec oa oc ia ic ra rc ord x ((unhide HV) _ (Nat.le_trans (unhide HK3).sz (unhide HB4).size) ((unhide HB3).more (unhide HK3).sz (unhide HB4))) (unhide HPL) hx).mono ?_; rintro en w5 ⟨⟨a2, l2, rfl, hno2, hns2⟩, hb5⟩; have HB5 := hide hb5; have HN2 := hide hns2; have HO2 := hide hno2; have hS5 := cell_q hS4 hb5; have HM1 := hide ((unhide HN1).below hb5); clear hb5 hns2 hno2 HN1)
  refine hK.out _ _ hS5 (fun hS2 => ?_)
  clear hK K hS4 hS2
  obtain ⟨n1, hn1⟩ : ∃ n1, (Pl.outs es x).length = n1 := ⟨_, rfl⟩
  obtain ⟨n2, hn2⟩ : ∃ n2, (Pl.ins es x).length = n2 := ⟨_, rfl⟩
  have hn1b : n1 ≤ 128 := by have := Pl.sel_len es (fun e => e.1 == x) es.length; unfold Pl.outs at hn1; omega
  have hn2b : n2 ≤ 128 := by have := Pl.sel_len es (fun e => e.2 == x) es.length; unfold Pl.ins at hn2; omega
  rw [hn1] at HM1 HO1
  rw [hn2] at HN2 HO2
  rw [hn1, hn2]
  have HL1 := hide hn1
  have HL2 := hide hn2
  clear hn1 hn2
  refine wpAnyH_ready (rs := [12]) (by kernel_rfl) (by simp) ?_
  refine AllReadyH.cons rfl (fun K hK => ?_) AllReadyH.nil
  go_simp
  have HBW := hide (show Below w5.heap.size w5 (w5.alloc (.cells #[.slice a1 n1 l1, .slice a2 n2 l2] 29)) from (Below.refl _ _).alloc (Nat.le_refl _) _)
  have HWN := hide (show (w5.alloc (.cells #[.slice a1 n1 l1, .slice a2 n2 l2] 29)).heap[w5.heap.size]? = some (.cells #[.slice a1 n1 l1, .slice a2 n2 l2] 29 (0, 0)) from (MapKept.heap_alloc w5 _).1)
  have hS6 := cell_q hS5 (unhide HBW)
  refine hK.out _ _ hS6 (fun hS2 => ?_)
  clear hK K hS5 hS2
  generalize w5.alloc (.cells #[.slice a1 n1 l1, .slice a2 n2 l2] 29) = w6 at HBW HWN hS6 ⊢
  refine wpAnyH_ready (rs := [13]) (by kernel_rfl) (by simp) ?_
  refine AllReadyH.cons rfl (fun K hK => ?_) AllReadyH.nil
  go_simp
  go_wp2_with (go_at_call 42; refine (concat_any w6 w5.heap.size 2 a1 a2 n1 l1 n2 l2 (toIs (Pl.outs es x)) (toIs (Pl.ins es x)) (by simp [World.cell?, unhide HWN]) (by simp [World.cell?, unhide HWN]) (heap_lt (unhide HWN)) ((unhide HM1).below (unhide HBW)) ((unhide HN2).below (unhide HBW)) (unhide HO1) (unhide HO2) (by omega) (by omega)).mono ?_; rintro en w7 ⟨⟨v7, rfl, ho7⟩, hb7⟩; have HO7 := hide ho7; have HB7 := hide hb7; have hS7 := cell_q hS6 hb7; clear ho7 hb7)
  refine hK.out _ _ hS7 (fun hS2 => ?_)
  clear hK K hS6 hS2
  have hlen : n1 + n2 = (Df.adj es x).length := by unfold Df.adj; rw [List.length_append, unhide HL1, unhide HL2]
  have ho7 := unhide HO7
  rw [show toIs (Pl.outs es x) ++ toIs (Pl.ins es x) = toIs (Df.adj es x) by simp [toIs, Df.adj], hlen] at ho7
  obtain ⟨a7, c7, hv7, hc7, _⟩ := ns_of_owns ho7 (by omega)
  have HB37 := hide (show Below w3.heap.size w3 w6 from (unhide HB4).trans (((unhide HB5).mono (unhide HB4).size).trans ((unhide HBW).mono (Nat.le_trans (unhide HB4).size (unhide HB5).size))))
  have HLS := hide ((unhide HK3).far (unhide HB37).size ho7 hv7 (by omega))
  subst hv7
  have HB38 := hide ((unhide HB37).trans ((unhide HB7).mono (unhide HB37).size))
  have HK8 := hide ((unhide HK3).more (unhide HB38))
  have HR8 := hide ((unhide HR3).trans (Fr.of_below (unhide HB38)))
  obtain ⟨N, hN⟩ : ∃ N, (Df.adj es x).length = N := ⟨_, rfl⟩
  rw [hN]
  have hNb : N ≤ 256 := by omega
  have HN := hide hN
  clear hN hlen ho7 hc7 HO7 HB7 HB37 HB38 HK3 HR3 HB3 HB4 HB5 HBW HWN HM1 HN2 HO1 HO2 HL1 HL2
  refine wpAnyH_ready (rs := [14]) (by kernel_rfl) (by simp) ?_
  refine AllReadyH.cons rfl (fun K hK => ?_) AllReadyH.nil
  go_simp
  refine hK.out _ _ hS7 (fun hS2 => ?_)
  clear hK K hS7 hS2
  refine wpAnyH_done (by kernel_rfl) ?_ _
  go_wp2_with fail
  go_loopw [7, 47] (fun lo i wr => ∃ (k : Nat) (R : Nat → Value) (bv : Value), i = .int .i64 k ∧ k ≤ N ∧ lo = .int .i64 ((Df.loopF es f x b S k).1 : Nat) ∧ Hid (Wk A wv.heap.size wr q gc vb V (Df.loopF es f x b S k).2 R bv) ∧ Hid (Fr q gc (R0 0) bv0 w (R 0) bv wr) ∧ Hid (Ls wr q gc (R 0) bv a7 (Df.adj es x))) (fun lo i wr => N - (intOf i).toNat)
  case atStart => exact ⟨0, R0, bv0, rfl, by omega, by rw [Df.loopF_zero, unhide HTM]; rfl, HK8, HR8, HLS⟩
  case round =>
    clear HK8 HR8 HLS
    obtain ⟨k, R, bv, rfl, hk, rfl, HK, HR, HL⟩ := hrel
    by_cases hlt : k < N
    · have hkl : k < (Df.adj es x).length := by rw [unhide HN]; exact hlt
      have hmem : (Df.adj es x).getD k 0 ∈ Df.adj es x := by simp [List.getD, hkl]
      have hlp := Df.loop_lp (unhide HG) (fun x b S => Df.from_post (unhide HG) f x b S) hx (unhide HP) (unhide HU) k (by omega)
      obtain ⟨seg, nb, hsl⟩ := Df.loop_slp (f := f) (unhide HG) hx (unhide HP) (unhide HS) (unhide HU) k (by omega)
      have hsz := Df.loop_sz (f := f) (unhide HG) hx (unhide HP) (unhide HS) (unhide HU) (unhide HZ) k (by omega)
      have hsu := Df.loopF_succ (es := es) (f := f) (x := x) (b := b) (S := S) hkl
      have hBr := (unhide HR).bel (unhide HW) (unhide HB)
      obtain ⟨g, off, ha7, hg7, r0⟩ := ns_at (unhide HL).ns hkl
      subst ha7
      have htP : ∀ i ∈ (Df.adj es x).take k, i ∈ Df.adj es x := fun i hi => List.mem_of_mem_take hi
      obtain ⟨⟨lo, T⟩, hT⟩ : ∃ p, Df.loopF es f x b S k = p := ⟨_, rfl⟩
      rw [hT] at hlp hsl hsz hsu HK ⊢
      obtain ⟨e, hee⟩ : ∃ e, (Df.adj es x).getD k 0 = e := ⟨_, rfl⟩
      rw [hee] at hmem hsu r0
      have hen := Df.en_of_adj hmem
      have hyV := ((unhide HG).lt hen).2
      have hvw := (unhide HV) _ (unhide HK).sz hBr
      have v1 := hvw.c1
      obtain ⟨ge, oe, hea, hge, r1, r2⟩ := es_at hvw.edges hen.1
      subst hea
      have hel : e < es.length := hen.1
      obtain ⟨y, hy⟩ : ∃ y, Df.oth es e x = y := ⟨_, rfl⟩
      obtain ⟨p1, p2, hpp⟩ : ∃ p1 p2, Pl.at' es e = (p1, p2) := ⟨_, _, rfl⟩
      have hsum : p1 + p2 = x + y ∧ p1 < V ∧ p2 < V := by
        have h1 := (unhide HG).ends e hel
        rw [hpp] at h1
        have h2 := (Df.mem_adj.1 hmem).2
        rw [hpp] at h2
        unfold Df.oth at hy
        rw [hpp] at hy
        simp only at h1 h2 hy
        omega
      rw [hpp] at r1 r2
      simp only at r1 r2
      rw [hy] at hyV hen
      obtain ⟨hs1, hs2, hs3⟩ := hsum
      obtain ⟨q0, q1, q2, q3, q4⟩ := (unhide HK).cells
      have ty := (unhide HK).ct hyV
      have tx := (unhide HK).ct hx
      have HLP := hide hlp
      have HSL := hide hsl
      have HSZ := hide hsz
      have HSU := hide hsu
      have HTT := hide hT
      have HMEM := hide hmem
      have HEN := hide hen
      have HY := hide hy
      have HTP := hide htP
      have HBR := hide hBr
      clear hlp hsl hsz hsu hT hmem hen hy hpp hvw hkl htP hBr hee q3 q4 q1
      have hlt2 : (k : Int) < (N : Int) := by omega
      have hel2 : (e : Int) < (es.length : Int) := by omega
      have hyV2 : (y : Int) < (V : Int) := by omega
      have hyI : (p1 : Int) + (p2 : Int) - (x : Int) = (y : Int) := by omega
      have hw1 : (p1 : Int) + (p2 : Int) < 1000 := by omega
      by_cases hskip : e + 1 = b ∨ T.come x < T.come y
      · have hst := Df.stepF_skip (rc := Df.fromF es f) (es := es) (x := x) (b := b) (p := (lo, T)) (e := e) (by rw [unhide HY]; exact hskip)
        have HST := hide ((unhide HSU).trans hst)
        clear hst
        by_cases heb : e + 1 = b
        · have hb1 : ((e : Int) == bi) = true := by rw [beq_iff_eq, unhide HBI]; omega
          clear hskip heb
          go_wp2_with fail
          go_quiet (fail)
          go_wp2_with fail
          go_quiet (fail)
          go_wp2_with fail
          go_roundw
          case rel => exact ⟨k + 1, R, bv, by go_num, by omega, by rw [unhide HST], by rw [unhide HST]; exact (unhide HK).more (below_refl_draws _ _), by exact (unhide HR).trans (Fr.of_below (below_refl_draws _ _)), (unhide HL).step (Fr.of_below (below_refl_draws _ _))⟩
          case measure => simp [intOf]; omega
        · have hb1 : ((e : Int) == bi) = false := by rw [beq_eq_false_iff_ne, unhide HBI]; omega
          have hlt3 : (T.come x : Int) < (T.come y : Int) := by omega
          clear hskip heb
          go_wp2_with fail
          go_quiet (fail)
          go_wp2_with fail
          go_quiet (fail)
          go_wp2_with fail
          go_roundw
          case rel => exact ⟨k + 1, R, bv, by go_num, by omega, by rw [unhide HST], by rw [unhide HST]; exact (unhide HK).more (below_refl_draws _ _), by exact (unhide HR).trans (Fr.of_below (below_refl_draws _ _)), (unhide HL).step (Fr.of_below (below_refl_draws _ _))⟩
          case measure => simp [intOf]; omega
      · have hb1 : ((e : Int) == bi) = false := by rw [beq_eq_false_iff_ne, unhide HBI]; omega
        have hlt3 : ¬ (T.come x : Int) < (T.come y : Int) := by omega
        have HSK := hide hskip
        clear hskip
        obtain ⟨oa1, oc1, h0, _, hoc1⟩ := (unhide HK).ov
        obtain ⟨m, hmm⟩ : ∃ m, T.opn.length = m := ⟨_, rfl⟩
        have hmb := (unhide HSZ).opn
        rw [hmm] at h0 hoc1 hmb
        have H0 := hide h0
        have HM := hide hmm
        have q3 := (unhide HK).cells.2.2.2.1
        rw [h0] at q3
        have fq := (unhide HK).fz 3
        clear h0 hmm
        by_cases hcy : 0 < T.come y
        · have hst := Df.stepF_back (rc := Df.fromF es f) (es := es) (x := x) (b := b) (p := (lo, T)) (e := e) (by rw [unhide HY]; exact unhide HSK) (by rw [unhide HY]; exact hcy)
          rw [unhide HY] at hst
          have HST := hide ((unhide HSU).trans hst)
          clear hst
          have hcy2 : (0 : Int) < (T.come y : Int) := by omega
          go_wp2_with fail
          go_quiet (fail)
          obtain ⟨nq1, rfl⟩ : ∃ j, j = nq := ⟨_, rfl⟩
          go_wp2_with fail
          go_quiet (fail)
          go_upto_region 11 with fail
          have HKD := hide ((unhide HK).more (below_refl_draws wr (nq1 + nq)))
          have HRD := hide ((unhide HR).trans (Fr.of_below (below_refl_draws wr (nq1 + nq))))
          have HLD := hide ((unhide HL).step (Fr.of_below (below_refl_draws wr (nq1 + nq))))
          have HBD := hide ((unhide HRD).bel (unhide HW) (unhide HB))
          clear q0 q2 q3 fq ty tx r0 r1 r2 v1 HK HR HL HBR hg7 hge
          generalize wr.drewN (nq1 + nq) = wd at HKD HRD HLD HBD ⊢
          have q3 := (unhide HKD).cells.2.2.2.1
          rw [unhide H0] at q3
          have q2 := (unhide HKD).cells.2.2.1
          have HTY := hide ((unhide HKD).ct hyV)
          have HOW := hide (show (wd.alloc (.cells #[.int .i64 (e : Int)] 3)).ownsRow wv.heap.size 3 1 (.slice oa1 m oc1) m (zcells (toIs T.opn)) by
            have := (unhide HKD).rows.own 0 (by omega)
            rw [rowsOf_zero, unhide H0, unhide HM] at this
            exact this.alloc _)
          have hBd := (unhide HKD).B_le
          obtain ⟨i0, hi0, hz0, hz1, hz2⟩ := info_parts info3
          have HI := hide hi0
          have HZ0 := hide hz0
          have HZ1 := hide hz1
          have HZ2 := hide hz2
          clear hi0 hz0 hz1 hz2
          have hb63 : m + 1 ≤ maxLen := by unfold maxLen; omega
          have hbby : (m + 1) * 8 ≤ 140737488355328 := by omega
          go_wp2_with (at_builtin; refine wpList_append_lies _ rfl (.tmp 119) (.tmp 121) 29 rfl wv.heap.size 3 i0 (.int .i64 0) 1 8 Try.underlying29 (unhide HI) (unhide HZ0) (unhide HZ1) (unhide HZ2) rfl (by decide) (.slice oa1 m oc1) m (zcells (toIs T.opn)) rfl (unhide HOW) ⟨wd.heap.size, 0, none⟩ 1 1 [.int .i64 e] rfl rfl (cell_one_new _ _ _) (one_int e) (by decide) hb63 hbby ?c6 _ rfl ?_)
          case c6 => simp; omega
          intro g2 cap2 w4' hown4 hg4 hat4 hlt4
          obtain ⟨z1, z2, hk4, hf4⟩ := (unhide HKD).push (unhide HM) rfl (show Below wd.heap.size wd (wd.alloc (.cells #[.int .i64 (e : Int)] 3)) from (Below.refl _ _).alloc (Nat.le_refl _) _) hown4 (by rw [unhide H0]; exact hg4) (by rw [unhide H0]; simpa using hat4)
          rw [unhide H0] at z1
          have HK4 := hide hk4
          have HR4 := hide ((unhide HRD).trans hf4)
          have HL4 := hide ((unhide HLD).step hf4)
          clear hk4 hf4 hown4 hg4 hat4 q2 q3 HOW HKD HRD HLD HBD HTY
          go_upto_region 12 with fail
          generalize w4'.setCell ⟨q, 3, none⟩ (.slice (some ⟨g2, 0, none⟩) (m + 1) cap2) = w5' at HK4 HR4 HL4 ⊢
          clear z1 z2
          have q2 := (unhide HK4).cells.2.2.1
          have ty := (unhide HK4).ct hyV
          go_wp2_with fail
          go_roundw
          case rel =>
            refine ⟨k + 1, _, bv, by go_num, by omega, ?_, by rw [unhide HST]; exact HK4, ?_, ?_⟩
            · rw [unhide HST]
              show _ = Value.int .i64 ((min lo (T.come y) : Nat) : Int)
              congr 1
              omega
            · rw [upd_same]; exact HR4
            · rw [upd_same]; exact HL4
          case measure => simp [intOf]; omega
        · obtain ⟨r, hr⟩ : ∃ r, Df.fromF es f y (e + 1) { T with opn := T.opn ++ [e], par := Df.upd T.par y x } = r := ⟨_, rfl⟩
          obtain ⟨lr, T'⟩ := r
          have hst := Df.stepF_tree (rc := Df.fromF es f) (es := es) (x := x) (b := b) (p := (lo, T)) (e := e) (r := (lr, T')) (by rw [unhide HY]; exact unhide HSK) (by rw [unhide HY]; exact hcy) (by rw [unhide HY]; exact hr)
          have HST := hide ((unhide HSU).trans hst)
          have HRR := hide hr
          clear hst hr
          have hcy0 : T.come y = 0 := by omega
          have hcy2 : ¬ (0 : Int) < (T.come y : Int) := by omega
          go_wp2_with fail
          go_quiet (fail)
          obtain ⟨nq1, rfl⟩ : ∃ j, j = nq := ⟨_, rfl⟩
          go_wp2_with fail
          go_quiet (fail)
          go_upto_region 8 with fail
          have HKD := hide ((unhide HK).more (below_refl_draws wr (nq1 + nq)))
          have HRD := hide ((unhide HR).trans (Fr.of_below (below_refl_draws wr (nq1 + nq))))
          have HLD := hide ((unhide HL).step (Fr.of_below (below_refl_draws wr (nq1 + nq))))
          have HBD := hide ((unhide HRD).bel (unhide HW) (unhide HB))
          clear q0 q2 q3 fq ty tx r0 r1 r2 v1 HK HR HL HBR hg7 hge
          generalize wr.drewN (nq1 + nq) = wd at HKD HRD HLD HBD ⊢
          have hat := Df.enter_at (unhide HP)
          have hpre := Df.lp_pre (o := T.opn ++ [e]) hat (unhide HLP) (unhide HMEM) (by rw [unhide HY]; exact hcy0)
          have hspre := Df.slp_pre (unhide HP) (unhide HS) (unhide HTP) (unhide HMEM) (unhide HLP) (unhide HSL) (by rw [unhide HY]; exact hcy0)
          rw [unhide HY] at hpre hspre
          have hun := Df.sub_unv hx (unhide HP) (unhide HU) (unhide HLP) (T.opn ++ [e]) (Df.upd T.par y x)
          have hszp := (unhide HSZ).push hel hspre
          have HPRE := hide hpre
          have HSPRE := hide hspre
          have HUN := hide hun
          have HSZP := hide hszp
          clear hat hpre hspre hun hszp
          go_wp2_with fail
          refine (along_any A wv q gc vb V es (unhide HG) hV hm f (unhide HF) e x y T wd R bv (Df.upd T.par y x) lr T' hx hyV hel (unhide HPRE) (unhide HSPRE) (unhide HUN) (unhide HSZP) (unhide HRR) (unhide HKD) (unhide HBD)).mono ?_
          rintro en w4' ⟨rfl, R4, bv4, hk4, hf4⟩
          have HK4 := hide hk4
          have HR4 := hide ((unhide HRD).trans hf4)
          have HL4 := hide ((unhide HLD).step hf4)
          clear hk4 hf4 HKD HRD HLD HBD
          go_wp2_with fail
          go_roundw
          case rel =>
            refine ⟨k + 1, R4, bv4, by go_num, by omega, ?_, by rw [unhide HST]; exact HK4, HR4, HL4⟩
            rw [unhide HST]
            show _ = Value.int .i64 ((min lo lr : Nat) : Int)
            congr 1
            omega
          case measure => simp [intOf]; omega
    · obtain rfl : k = N := by omega
      go_wp2_with fail
      go_ret
      refine ⟨?_, R, bv, ?_, unhide HR⟩
      · rw [unhide HN]
        rfl
      · rw [unhide HN]
        exact (unhide HK).ghost rfl rfl rfl rfl

theorem from_any (A : Nat) (wv : World) (q gc vb V : Nat) (es : List (Nat × Nat)) (hpl : Plain V es) (hg : Df.Gr V es) (ea : Option Addr) (ec : Nat) (oa : Option Addr) (oc : Nat) (ia : Option Addr) (ic : Nat) (ra : Option Addr) (rc : Nat) (ord : List Nat) (hv : VwS A wv vb V es ea ec oa oc ia ic ra rc ord) : ∀ f, FromC A wv q gc vb V es f := by
  intro f
  induction f with
  | zero =>
    intro x b bi S w R bv hbi hx hp hs hu hz hw hb
    exfalso
    have : x ∈ (List.range V).filter fun v => S.come v == 0 := by simp [hx, hp.x0]
    have := List.length_pos_of_mem this
    unfold Df.unv at hu
    omega
  | succ f ih => exact from_step A wv q gc vb V es hpl hg ea ec oa oc ia ic ra rc ord hv f ih
end Go.Proofs.Ytbecmaandhadhaa


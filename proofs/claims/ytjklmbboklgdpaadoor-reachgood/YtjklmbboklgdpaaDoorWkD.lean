/-
  The walk of the statement ReachGood. Conditions: the graph lies in memory as told; the table of math/bits holds what its initialiser lays.
-/
import Derived.Test.YtjklmbboklgdpaaDoorSpk
import Derived.Test.YtjklmbboklgdpaaDoorFr
import Derived.Test.YtjklmbboklgdpaaDoorGx
import Derived.Test.YtjklmbboklgdpaaDoorRm
import Derived.OrdersHeld
import Derived.Deep.CutBlock
import Derived.Deep.CutRange
import Derived.Deep.RegionHeld
namespace Go.Proofs.YtjklmbboklgdpaaDoor
open Go.RowKit
set_option linter.unusedVariables false

theorem SameR.all {V : Nat} {xs es : List (Nat × Nat)} (h : SameR xs es) {F : Nat → Nat} (hF : AllReach V es F) : AllReach V xs F := fun x hx => ⟨(hF x hx).1, fun j => by rw [(hF x hx).2, h]⟩

set_option maxHeartbeats 8000000 in
theorem good_walk (w : World) (hT : Tab w) (V : Nat) (a : Option Addr) (n cap : Nat) (es : List (Nat × Nat)) {B : Nat} (h : Es B w a n (toI es)) (hne : es.length = n) (hnil : a = none → n = 0 ∧ cap = 0) (hp : Plain V es) (hn : n ≤ 40) :
    Calls Tryd.prog 5 #[.agg #[.int .i64 V, .slice a n cap]] w fun e w' => e = .returned (.bool true) ∧ Below w.heap.size w w' := by
  have hv64 := hp.v64
  have hv1 := hp.v1
  have HT := hide hT
  have HE := hide h
  have HP := hide hp
  have HN := hide hne
  have hn' : (n : Int) ≤ 40 := by omega
  have HB0 := hide (Bg.start w (.int .i64 V) (.slice a n cap))
  have HMAY := hide fun (w : World) (h : Es B w a n (toI es)) => refmay_yes w V a n cap es h hne hp
  have HTRA := hide (fun (u : World) (hT : Tab u) (xa : Option Addr) (m xc : Nat) (xs : List (Nat × Nat)) (h : Es 0 u xa m (toI xs)) (hc : m ≤ xc) (hl : xs.length = m) (hp : Plain V xs) => show Calls Tryd.prog 14 #[.agg #[.int .i64 V, .slice xa m xc]] u fun e w' => (∃ la ll lc l, e = .returned (.slice la ll lc) ∧ IsTr xs m l ∧ l.length = ll ∧ Ns w' la ll (toIs l)) ∧ Below u.heap.size u w' from by
    subst hl
    refine (trans_any u hT V xa xc xs h hc hp).mono ?_
    rintro e w' ⟨⟨v, l, rfl, hl, ho⟩, hb⟩
    have := hl.len
    have := hp.n128
    obtain ⟨la, lc, rfl, _, hns⟩ := ns_of_owns ho (by omega)
    exact ⟨⟨la, _, lc, l, rfl, hl, rfl, hns⟩, hb⟩)
  have HFRO := hide (fun (u : World) (hT : Tab u) (xa : Option Addr) (m xc : Nat) (xs : List (Nat × Nat)) {B : Nat} (h : Es B u xa m (toI xs)) (hl : xs.length = m) (hp : Plain V xs) (F : Nat → Nat) (hF : AllReach V xs F) => show Calls Tryd.prog 12 #[.agg #[.int .i64 V, .slice xa m xc]] u fun e w' => (∃ g, e = .returned (.slice (some ⟨g, 0, none⟩) V V) ∧ u.heap.size ≤ g ∧ RowU w' g V F) ∧ Below u.heap.size u w' from by
    subst hl
    exact from_all u hT V xa xc xs h hp F hF)
  clear h hp hT hne
  go_enter Tryd.func5, Tryd.ntmps5
  go_wp2_with fail
  refine (speaks_any _ ((unhide HT).below (unhide HB0).bel)).mono ?_
  rintro e w1 ⟨rfl, hb1⟩
  have HB1 := hide ((unhide HB0).step hb1)
  obtain ⟨g0, g1⟩ := (unhide HB1).cells
  clear hb1 HB0
  go_wp2_with fail
  refine (unhide HMAY _ ((unhide HE).below (unhide HB1).bel)).mono ?_
  rintro e w2 ⟨rfl, hb2⟩
  have HB2 := hide ((unhide HB1).step hb2)
  clear hb2 HB1 g0 g1 HMAY
  obtain ⟨g0, g1⟩ := (unhide HB2).cells
  go_upto_region 5 with fail
  clear g0 g1
  go_cut [3] from 24 to 30 (fun v3 wx => ∃ xb xa xc, v3 = .pointer (some ⟨xb, 0, none⟩) ∧ Hid (Gx w wx xb V a n cap xa n xc es))
  case first =>
    have XD := hide ((unhide HB2).step b_dr)
    refine wp_region_held_drew (S := fun u => u.cell? ⟨w.heap.size, 0, none⟩ = some (.int .i64 V) ∧ u.cell? ⟨w.heap.size, 1, none⟩ = some (.slice a n cap)) (by kernel_rfl) (unhide XD).cells (fun hS => ?_)
    generalize w2.drew = u0 at XD hS ⊢
    have HEU := hide ((unhide HE).below (unhide XD).bel)
    have KY := hide (Gm.start u0 true)
    refine wpAnyH_take (i := 0) (v := ?_) rfl (by kernel_rfl) (by kernel_rfl) (by kernel_rfl) (fun _ _ _ h => h) (Or.inl ⟨by rfl, ?_⟩) hS ?_
    rotate_left
    · intro u hu; (try dsimp only at hu); go_simp; try with_reducible rfl
    simp only [Act.put, List.getElem_toArray, List.getElem_cons_zero, List.setIfInBounds_toArray, List.set_cons_zero, List.set_cons_succ]
    refine wpAnyH_take (i := 1) (v := ?_) rfl (by kernel_rfl) (by kernel_rfl) (by kernel_rfl) (fun _ _ _ h => h) (Or.inl ⟨by rfl, ?_⟩) hS ?_
    rotate_left
    · intro u hu; (try dsimp only at hu); go_simp; try with_reducible rfl
    simp only [Act.put, List.getElem_toArray, List.getElem_cons_zero, List.getElem_cons_succ, List.setIfInBounds_toArray, List.set_cons_zero, List.set_cons_succ]
    refine wpAnyH_take (i := 3) (v := ?_) rfl (by kernel_rfl) (by kernel_rfl) (by kernel_rfl) (fun _ _ _ h => h) (Or.inl ⟨by rfl, ?_⟩) hS ?_
    rotate_left
    · intro u hu; (try dsimp only at hu); go_simp; try with_reducible rfl
    simp only [Act.put, List.getElem_toArray, List.getElem_cons_zero, List.getElem_cons_succ, List.setIfInBounds_toArray, List.set_cons_zero, List.set_cons_succ]
    refine wpAnyH_take (i := 4) (v := ?_) rfl (by kernel_rfl) (by kernel_rfl) (by kernel_rfl) (fun _ _ _ h => h) (Or.inl ⟨by rfl, ?_⟩) hS ?_
    rotate_left
    · intro u hu; (try dsimp only at hu); go_simp; try with_reducible rfl
    simp only [Act.put, List.getElem_toArray, List.getElem_cons_zero, List.getElem_cons_succ, List.setIfInBounds_toArray, List.set_cons_zero, List.set_cons_succ]
    refine wpAnyH_ready (rs := [2, 7]) (by kernel_rfl) (by simp) ?_
    refine AllReadyH.cons rfl (fun K hK => ?_) (AllReadyH.cons rfl (fun K hK => ?_) AllReadyH.nil)
    · go_simp
      have KY2 : Hid (Gm u0 (u0.alloc (.cells #[] 45)) true (some (.slice (some ⟨u0.heap.size, 0, none⟩) 0 0)) [] none none) := (unhide KY).row
      refine hK.out _ _ (((unhide XD).step (unhide KY2).bel).cells) (fun hS2 => ?_)
      clear hK K hS KY; have hS := hS2; clear hS2; have KY := KY2; clear KY2
      generalize u0.alloc (.cells #[] 45) = uk1 at KY hS ⊢
      generalize u0.heap.size = bk2 at KY ⊢
      refine wpAnyH_ready (rs := [5, 7]) (by kernel_rfl) (by simp) ?_
      refine AllReadyH.cons rfl (fun K hK => ?_) (AllReadyH.cons rfl (fun K hK => ?_) AllReadyH.nil)
      · rw [if_pos (by rfl)]
        refine Gm.app (unhide KY) (.inl rfl) (.tmp 26) (.tmp 28) rfl rfl a n cap (toI es) rfl hnil ((unhide HEU).below (unhide KY).bel) (by simp; omega) ?_
        intro vk4 uk3 ky2
        rw [List.nil_append] at ky2
        have KY2 : Hid (Gm u0 uk3 false (some vk4) (toI es) none none) := ky2
        clear ky2
        refine hK.out _ _ (((unhide XD).step (unhide KY2).bel).cells) (fun hS2 => ?_)
        clear hK K hS KY; have hS := hS2; clear hS2; have KY := KY2; clear KY2
        simp only [Act.put, List.getElem_toArray, List.getElem_cons_zero, List.getElem_cons_succ, List.setIfInBounds_toArray, List.set_cons_zero, List.set_cons_succ]
        obtain ⟨va, vc, rfl, _⟩ := es_of_owns ((unhide KY).hrow vk4 rfl) (by rw [toI_length, unhide HN]; omega)
        rw [toI_length, unhide HN] at KY ⊢
        refine wpAnyH_take (i := 6) (v := ?_) rfl (by kernel_rfl) (by kernel_rfl) (by kernel_rfl) (fun _ _ _ h => h) (Or.inl ⟨by rfl, ?_⟩) hS ?_
        rotate_left
        · intro u hu; (try dsimp only at hu); go_simp; try with_reducible rfl
        simp only [Act.put, List.getElem_toArray, List.getElem_cons_zero, List.getElem_cons_succ, List.setIfInBounds_toArray, List.set_cons_zero, List.set_cons_succ]
        refine wpAnyH_ready (rs := [7]) (by kernel_rfl) (by simp) ?_
        refine AllReadyH.cons rfl (fun K hK => ?_) AllReadyH.nil
        go_simp
        have KY2 : Hid (Gm u0 (uk3.alloc (.cells #[.int .i64 0, .slice none 0 0] 33)) false (some (.slice va n vc)) (toI es) none (some uk3.heap.size)) := (unhide KY).box
        refine hK.out _ _ (((unhide XD).step (unhide KY2).bel).cells) (fun hS2 => ?_)
        clear hK K hS KY; have hS := hS2; clear hS2; have KY := KY2; clear KY2
        generalize uk3.alloc (.cells #[.int .i64 0, .slice none 0 0] 33) = uk5 at KY hS ⊢
        generalize uk3.heap.size = bk6 at KY ⊢
        obtain ⟨t0, t1, t2, t3⟩ := (unhide KY).boxCells
        refine wpAnyH_ready (rs := [8]) (by kernel_rfl) (by simp) ?_
        refine AllReadyH.cons rfl (fun K hK => ?_) AllReadyH.nil
        go_simp
        have KZ := hide (Gx.made (unhide XD) (unhide KY) (unhide HN))
        refine hK.out _ _ ((unhide KZ).bg.cells) (fun hS2 => ?_)
        clear hK K hS hS2 t0 t1 t2 t3
        refine wpAnyH_done (by kernel_rfl) ?_ _
        go_wp2_with fail
        go_meet
        exact ⟨bk6, va, vc, rfl, KZ⟩
      · go_simp
        have KY2 : Hid (Gm u0 (uk1.alloc (.cells #[.int .i64 0, .slice none 0 0] 33)) true (some (.slice (some ⟨bk2, 0, none⟩) 0 0)) [] none (some uk1.heap.size)) := (unhide KY).box
        refine hK.out _ _ (((unhide XD).step (unhide KY2).bel).cells) (fun hS2 => ?_)
        clear hK K hS KY; have hS := hS2; clear hS2; have KY := KY2; clear KY2
        generalize uk1.alloc (.cells #[.int .i64 0, .slice none 0 0] 33) = uk7 at KY hS ⊢
        generalize uk1.heap.size = bk8 at KY ⊢
        refine wpAnyH_ready (rs := [5]) (by kernel_rfl) (by simp) ?_
        refine AllReadyH.cons rfl (fun K hK => ?_) AllReadyH.nil
        rw [if_pos (by rfl)]
        refine Gm.app (unhide KY) (.inl rfl) (.tmp 26) (.tmp 28) rfl rfl a n cap (toI es) rfl hnil ((unhide HEU).below (unhide KY).bel) (by simp; omega) ?_
        intro vk10 uk9 ky2
        rw [List.nil_append] at ky2
        have KY2 : Hid (Gm u0 uk9 false (some vk10) (toI es) none (some bk8)) := ky2
        clear ky2
        refine hK.out _ _ (((unhide XD).step (unhide KY2).bel).cells) (fun hS2 => ?_)
        clear hK K hS KY; have hS := hS2; clear hS2; have KY := KY2; clear KY2
        simp only [Act.put, List.getElem_toArray, List.getElem_cons_zero, List.getElem_cons_succ, List.setIfInBounds_toArray, List.set_cons_zero, List.set_cons_succ]
        obtain ⟨va, vc, rfl, _⟩ := es_of_owns ((unhide KY).hrow vk10 rfl) (by rw [toI_length, unhide HN]; omega)
        rw [toI_length, unhide HN] at KY ⊢
        refine wpAnyH_take (i := 6) (v := ?_) rfl (by kernel_rfl) (by kernel_rfl) (by kernel_rfl) (fun _ _ _ h => h) (Or.inl ⟨by rfl, ?_⟩) hS ?_
        rotate_left
        · intro u hu; (try dsimp only at hu); go_simp; try with_reducible rfl
        simp only [Act.put, List.getElem_toArray, List.getElem_cons_zero, List.getElem_cons_succ, List.setIfInBounds_toArray, List.set_cons_zero, List.set_cons_succ]
        obtain ⟨t0, t1, t2, t3⟩ := (unhide KY).boxCells
        refine wpAnyH_ready (rs := [8]) (by kernel_rfl) (by simp) ?_
        refine AllReadyH.cons rfl (fun K hK => ?_) AllReadyH.nil
        go_simp
        have KZ := hide (Gx.made (unhide XD) (unhide KY) (unhide HN))
        refine hK.out _ _ ((unhide KZ).bg.cells) (fun hS2 => ?_)
        clear hK K hS hS2 t0 t1 t2 t3
        refine wpAnyH_done (by kernel_rfl) ?_ _
        go_wp2_with fail
        go_meet
        exact ⟨bk8, va, vc, rfl, KZ⟩
    · go_simp
      have KY2 : Hid (Gm u0 (u0.alloc (.cells #[.int .i64 0, .slice none 0 0] 33)) true none [] none (some u0.heap.size)) := (unhide KY).box
      refine hK.out _ _ (((unhide XD).step (unhide KY2).bel).cells) (fun hS2 => ?_)
      clear hK K hS KY; have hS := hS2; clear hS2; have KY := KY2; clear KY2
      generalize u0.alloc (.cells #[.int .i64 0, .slice none 0 0] 33) = uk11 at KY hS ⊢
      generalize u0.heap.size = bk12 at KY ⊢
      refine wpAnyH_ready (rs := [2]) (by kernel_rfl) (by simp) ?_
      refine AllReadyH.cons rfl (fun K hK => ?_) AllReadyH.nil
      go_simp
      have KY2 : Hid (Gm u0 (uk11.alloc (.cells #[] 45)) true (some (.slice (some ⟨uk11.heap.size, 0, none⟩) 0 0)) [] none (some bk12)) := (unhide KY).row
      refine hK.out _ _ (((unhide XD).step (unhide KY2).bel).cells) (fun hS2 => ?_)
      clear hK K hS KY; have hS := hS2; clear hS2; have KY := KY2; clear KY2
      generalize uk11.alloc (.cells #[] 45) = uk13 at KY hS ⊢
      generalize uk11.heap.size = bk14 at KY ⊢
      refine wpAnyH_ready (rs := [5]) (by kernel_rfl) (by simp) ?_
      refine AllReadyH.cons rfl (fun K hK => ?_) AllReadyH.nil
      rw [if_pos (by rfl)]
      refine Gm.app (unhide KY) (.inl rfl) (.tmp 26) (.tmp 28) rfl rfl a n cap (toI es) rfl hnil ((unhide HEU).below (unhide KY).bel) (by simp; omega) ?_
      intro vk16 uk15 ky2
      rw [List.nil_append] at ky2
      have KY2 : Hid (Gm u0 uk15 false (some vk16) (toI es) none (some bk12)) := ky2
      clear ky2
      refine hK.out _ _ (((unhide XD).step (unhide KY2).bel).cells) (fun hS2 => ?_)
      clear hK K hS KY; have hS := hS2; clear hS2; have KY := KY2; clear KY2
      simp only [Act.put, List.getElem_toArray, List.getElem_cons_zero, List.getElem_cons_succ, List.setIfInBounds_toArray, List.set_cons_zero, List.set_cons_succ]
      obtain ⟨va, vc, rfl, _⟩ := es_of_owns ((unhide KY).hrow vk16 rfl) (by rw [toI_length, unhide HN]; omega)
      rw [toI_length, unhide HN] at KY ⊢
      refine wpAnyH_take (i := 6) (v := ?_) rfl (by kernel_rfl) (by kernel_rfl) (by kernel_rfl) (fun _ _ _ h => h) (Or.inl ⟨by rfl, ?_⟩) hS ?_
      rotate_left
      · intro u hu; (try dsimp only at hu); go_simp; try with_reducible rfl
      simp only [Act.put, List.getElem_toArray, List.getElem_cons_zero, List.getElem_cons_succ, List.setIfInBounds_toArray, List.set_cons_zero, List.set_cons_succ]
      obtain ⟨t0, t1, t2, t3⟩ := (unhide KY).boxCells
      refine wpAnyH_ready (rs := [8]) (by kernel_rfl) (by simp) ?_
      refine AllReadyH.cons rfl (fun K hK => ?_) AllReadyH.nil
      go_simp
      have KZ := hide (Gx.made (unhide XD) (unhide KY) (unhide HN))
      refine hK.out _ _ ((unhide KZ).bg.cells) (fun hS2 => ?_)
      clear hK K hS hS2 t0 t1 t2 t3
      refine wpAnyH_done (by kernel_rfl) ?_ _
      go_wp2_with fail
      go_meet
      exact ⟨bk12, va, vc, rfl, KZ⟩
  case rest =>
    obtain ⟨xb, xa0, xc0, rfl, HG0⟩ := hcut
    obtain ⟨q0, q1, q2, q3⟩ := (unhide HG0).cells
    obtain ⟨hmc0, hnil0, _⟩ := owns_slice (unhide HG0).row
    go_wp2_with fail
    refine (unhide HTRA wc ((unhide HT).below (unhide HG0).bg.bel) xa0 n xc0 es ((unhide HG0).es (by omega)) hmc0 (unhide HN) (unhide HP)).mono ?_
    rintro e w4 ⟨⟨la0, ll0, lc0, l0, rfl, hl0, hll0, hns0⟩, hb4⟩
    have HG4 := hide ((unhide HG0).step hb4)
    have HL0 := hide hl0
    have HLL0 := hide hll0
    have HNS0 := hide hns0
    have hlle := hl0.len
    rw [hll0] at hlle
    clear hb4 hl0 hll0 hns0 q0 q1 q2 q3 HG0 hmc0 hnil0
    go_wp2_with fail
    go_loopw [4] (fun v4 wr => ∃ (xa : Option Addr) (m xc : Nat) (xs : List (Nat × Nat)) (la : Option Addr) (ll lc : Nat) (l : List Nat), v4 = .slice la ll lc ∧ m ≤ 40 ∧ ll ≤ m ∧ Hid (Gx w wr xb V a n cap xa m xc xs) ∧ Hid (Plain V xs) ∧ Hid (SameR xs es) ∧ Hid (IsTr xs m l) ∧ Hid (l.length = ll) ∧ Hid (Ns wr la ll (toIs l))) (fun v4 wr => mOf wr xb)
    case atStart => exact ⟨xa0, n, xc0, es, la0, ll0, lc0, l0, rfl, hn, hlle, HG4, HP, fun i j => Iff.rfl, HL0, HLL0, HNS0⟩
    case round =>
      obtain ⟨xa, m, xc, xs, la, ll, lc, l, rfl, hm40, hllm, HG, HPX, HSR, HL, HLL, HNS⟩ := hrel
      obtain ⟨hmc, _, _⟩ := owns_slice (unhide HG).row
      have HMO := hide (unhide HG).mOf
      by_cases hz : ll = 0
      · subst hz
        have hno : ∀ k, k < m → ¬ Trv xs k := by
          intro k hk ht
          have := ((unhide HL).mem k).2 ⟨hk, ht⟩
          rw [List.eq_nil_of_length_eq_zero (unhide HLL)] at this
          cases this
        have HNO := hide hno
        clear hno HLL HL HNS hllm
        have hz0 : ¬ (0 : Int) < ((0 : Nat) : Int) := by omega
        obtain ⟨F, hF⟩ := allReach_ex (unhide HP)
        have HFX := hide ((unhide HSR).all hF)
        have HF := hide hF
        clear hF
        go_wp2_with fail
        have X5 := hide ((unhide HG).step b_dr)
        refine wp_region_held_drew (S := fun u => u.cell? ⟨w.heap.size, 0, none⟩ = some (.int .i64 V) ∧ u.cell? ⟨w.heap.size, 1, none⟩ = some (.slice a n cap) ∧ u.cell? ⟨xb, 0, none⟩ = some (.int .i64 V) ∧ u.cell? ⟨xb, 1, none⟩ = some (.slice xa m xc)) (by kernel_rfl) (unhide X5).cells (fun hS => ?_)
        generalize wr.drew = w5 at X5 hS ⊢
        refine wpAnyH_take (i := 0) (v := ?_) rfl (by kernel_rfl) (by kernel_rfl) (by kernel_rfl) (fun _ _ _ h => h) (Or.inl ⟨by rfl, ?_⟩) hS ?_
        rotate_left
        · intro u hu; (try dsimp only at hu); go_simp; try with_reducible rfl
        simp only [Act.put, List.getElem_toArray, List.getElem_cons_zero, List.setIfInBounds_toArray, List.set_cons_zero, List.set_cons_succ]
        refine wpAnyH_take (i := 2) (v := ?_) rfl (by kernel_rfl) (by kernel_rfl) (by kernel_rfl) (fun _ _ _ h => h) (Or.inl ⟨by rfl, ?_⟩) hS ?_
        rotate_left
        · intro u hu; (try dsimp only at hu); go_simp; try with_reducible rfl
        simp only [Act.put, List.getElem_toArray, List.getElem_cons_zero, List.getElem_cons_succ, List.setIfInBounds_toArray, List.set_cons_zero, List.set_cons_succ]
        refine wpAnyH_ready (rs := [1]) (by kernel_rfl) (by simp) ?_
        refine AllReadyH.cons rfl (fun K hK => ?_) AllReadyH.nil
        go_simp
        go_wp2_with (go_at_call 12; refine (unhide HFRO _ ((unhide HT).below (unhide X5).bg.bel) a n cap es ((unhide HE).below (unhide X5).bg.bel) (unhide HN) (unhide HP) F (unhide HF)).mono ?_; rintro e w6 ⟨⟨g1, rfl, hg1, hr1⟩, hb6⟩; have X6 := hide ((unhide X5).step hb6); have R1 := hide hr1; clear hb6 hr1 hg1 X5)
        refine hK.out _ _ (unhide X6).cells (fun hS2 => ?_)
        clear hK K hS
        refine wpAnyH_ready (rs := [3]) (by kernel_rfl) (by simp) ?_
        refine AllReadyH.cons rfl (fun K hK => ?_) AllReadyH.nil
        go_simp
        go_wp2_with (go_at_call 12; refine (unhide HFRO _ ((unhide HT).below (unhide X6).bg.bel) xa m xc xs ((unhide X6).es (by omega)) (unhide X6).len (unhide HPX) F (unhide HFX)).mono ?_; rintro e w7 ⟨⟨g2, rfl, hg2, hr2⟩, hb7⟩; have X7 := hide ((unhide X6).step hb7); have R2 := hide hr2; have R1' := hide ((unhide R1).below hb7); clear hb7 hr2 hg2 X6 R1)
        refine hK.out _ _ (unhide X7).cells (fun hS3 => ?_)
        clear hK K hS2
        refine wpAnyH_take (i := 4) (v := ?_) rfl (by kernel_rfl) (by kernel_rfl) (by kernel_rfl) (fun _ _ _ h => h) (Or.inl ⟨by rfl, ?_⟩) hS3 ?_
        rotate_left
        · intro u hu; (try dsimp only at hu); go_simp; try with_reducible rfl
        simp only [Act.put, List.getElem_toArray, List.getElem_cons_zero, List.getElem_cons_succ, List.setIfInBounds_toArray, List.set_cons_zero, List.set_cons_succ]
        refine wpAnyH_take (i := 5) (v := ?_) rfl (by kernel_rfl) (by kernel_rfl) (by kernel_rfl) (fun _ _ _ h => h) (Or.inl ⟨by rfl, ?_⟩) hS3 ?_
        rotate_left
        · intro u hu; (try dsimp only at hu); go_simp; try with_reducible rfl
        simp only [Act.put, List.getElem_toArray, List.getElem_cons_zero, List.getElem_cons_succ, List.setIfInBounds_toArray, List.set_cons_zero, List.set_cons_succ]
        refine wpAnyH_done (by kernel_rfl) ?_ _
        clear hS3
        go_wp2_with fail
        obtain ⟨wo, rfl⟩ : ∃ wo, wo = wr := ⟨_, rfl⟩
        go_loopw [77] (fun i wr => ∃ k : Nat, i = .int .i64 k ∧ k ≤ V ∧ Hid (Below w7.heap.size w7 wr)) (fun i wr => V - (intOf i).toNat)
        case atStart => exact ⟨0, rfl, by omega, Below.refl _ _⟩
        case round =>
          obtain ⟨k, rfl, hk, HB⟩ := hrel
          by_cases hlt : k < V
          · have hlt2 : (k : Int) < (V : Int) := by omega
            have r1k := ((unhide R1').below (unhide HB)).cell hlt
            have r2k := ((unhide R2).below (unhide HB)).cell hlt
            generalize F k = fk at *
            go_wp2_with fail
            refine wp_region_held_drew (S := fun u => u.cell? ⟨g1, k, none⟩ = some (.int .u64 (fk : Nat)) ∧ u.cell? ⟨g2, k, none⟩ = some (.int .u64 (fk : Nat))) (by kernel_rfl) ⟨r1k, r2k⟩ (fun hS => ?_)
            refine wpAnyH_take (i := 0) (v := ?_) rfl (by kernel_rfl) (by kernel_rfl) (by kernel_rfl) (fun _ _ _ h => h) (Or.inl ⟨by rfl, ?_⟩) hS ?_
            rotate_left
            · intro u hu; (try dsimp only at hu); go_simp; try with_reducible rfl
            simp only [Act.put, List.getElem_toArray, List.getElem_cons_zero, List.setIfInBounds_toArray, List.set_cons_zero, List.set_cons_succ]
            refine wpAnyH_take (i := 1) (v := ?_) rfl (by kernel_rfl) (by kernel_rfl) (by kernel_rfl) (fun _ _ _ h => h) (Or.inl ⟨by rfl, ?_⟩) hS ?_
            rotate_left
            · intro u hu; (try dsimp only at hu); go_simp; try with_reducible rfl
            simp only [Act.put, List.getElem_toArray, List.getElem_cons_zero, List.getElem_cons_succ, List.setIfInBounds_toArray, List.set_cons_zero, List.set_cons_succ]
            refine wpAnyH_take (i := 2) (v := ?_) rfl (by kernel_rfl) (by kernel_rfl) (by kernel_rfl) (fun _ _ _ h => h) (Or.inl ⟨by rfl, ?_⟩) hS ?_
            rotate_left
            · intro u hu; (try dsimp only at hu); go_simp; try with_reducible rfl
            simp only [Act.put, List.getElem_toArray, List.getElem_cons_zero, List.getElem_cons_succ, List.setIfInBounds_toArray, List.set_cons_zero, List.set_cons_succ]
            refine wpAnyH_take (i := 3) (v := ?_) rfl (by kernel_rfl) (by kernel_rfl) (by kernel_rfl) (fun _ _ _ h => h) (Or.inl ⟨by rfl, ?_⟩) hS ?_
            rotate_left
            · intro u hu; (try dsimp only at hu); go_simp; try with_reducible rfl
            simp only [Act.put, List.getElem_toArray, List.getElem_cons_zero, List.getElem_cons_succ, List.setIfInBounds_toArray, List.set_cons_zero, List.set_cons_succ]
            refine wpAnyH_take (i := 4) (v := ?_) rfl (by kernel_rfl) (by kernel_rfl) (by kernel_rfl) (fun _ _ _ h => h) (Or.inl ⟨by rfl, ?_⟩) hS ?_
            rotate_left
            · intro u hu; (try dsimp only at hu); go_simp; try with_reducible rfl
            simp only [Act.put, List.getElem_toArray, List.getElem_cons_zero, List.getElem_cons_succ, List.setIfInBounds_toArray, List.set_cons_zero, List.set_cons_succ]
            refine wpAnyH_take (i := 5) (v := ?_) rfl (by kernel_rfl) (by kernel_rfl) (by kernel_rfl) (fun _ _ _ h => h) (Or.inl ⟨by rfl, ?_⟩) hS ?_
            rotate_left
            · intro u hu; (try dsimp only at hu); go_simp; try with_reducible rfl
            simp only [Act.put, List.getElem_toArray, List.getElem_cons_zero, List.getElem_cons_succ, List.setIfInBounds_toArray, List.set_cons_zero, List.set_cons_succ]
            refine wpAnyH_take (i := 6) (v := ?_) rfl (by kernel_rfl) (by kernel_rfl) (by kernel_rfl) (fun _ _ _ h => h) (Or.inl ⟨by rfl, ?_⟩) hS ?_
            rotate_left
            · intro u hu; (try dsimp only at hu); go_simp; try with_reducible rfl
            simp only [Act.put, List.getElem_toArray, List.getElem_cons_zero, List.getElem_cons_succ, List.setIfInBounds_toArray, List.set_cons_zero, List.set_cons_succ]
            refine wpAnyH_take (i := 7) (v := ?_) rfl (by kernel_rfl) (by kernel_rfl) (by kernel_rfl) (fun _ _ _ h => h) (Or.inl ⟨by rfl, ?_⟩) hS ?_
            rotate_left
            · intro u hu; (try dsimp only at hu); go_simp; try with_reducible rfl
            simp only [Act.put, List.getElem_toArray, List.getElem_cons_zero, List.getElem_cons_succ, List.setIfInBounds_toArray, List.set_cons_zero, List.set_cons_succ]
            refine wpAnyH_take (i := 8) (v := ?_) rfl (by kernel_rfl) (by kernel_rfl) (by kernel_rfl) (fun _ _ _ h => h) (Or.inl ⟨by rfl, ?_⟩) hS ?_
            rotate_left
            · intro u hu; (try dsimp only at hu); go_simp; try with_reducible rfl
            simp only [Act.put, List.getElem_toArray, List.getElem_cons_zero, List.getElem_cons_succ, List.setIfInBounds_toArray, List.set_cons_zero, List.set_cons_succ]
            refine wpAnyH_done (by kernel_rfl) ?_ _
            clear hS
            go_wp2_with fail
            go_roundw
            case rel => exact ⟨k + 1, by go_num, by omega, (unhide HB).drew⟩
            case measure => simp [intOf]; omega
          · obtain rfl : k = V := by omega
            have X8 := hide ((unhide X7).step (unhide HB))
            obtain ⟨q0, q1, q2, q3⟩ := (unhide X8).cells
            go_wp2_with fail
            clear q0 q1 q2 q3 R1' R2
            obtain ⟨wp, rfl⟩ : ∃ wp, wp = wr := ⟨_, rfl⟩
            go_loopw [93] (fun i wr => ∃ j : Nat, i = .int .i64 j ∧ j ≤ m ∧ Hid (Gx w wr xb k a n cap xa m xc xs)) (fun i wr => m - (intOf i).toNat)
            case atStart => exact ⟨0, rfl, by omega, X8⟩
            case round =>
              obtain ⟨kk, rfl, hkm', HGR⟩ := hrel
              by_cases hkm : kk < m
              · obtain ⟨g, off, hxa, hgl, c0, c1⟩ := es_at (i := kk) (by have := (unhide HGR).es (by omega); rw [← (unhide HGR).len] at this; exact this) (by rw [(unhide HGR).len]; exact hkm)
                subst hxa
                have hends := (unhide HPX).at (i := kk) (by rw [(unhide HGR).len]; exact hkm)
                have hntr := unhide HNO kk hkm
                have htrv : ∀ p q, xs.getD kk (0, 0) = (p, q) → (Trv xs kk ↔ Star (Via (but xs kk)) p q) := fun p q he => by unfold Trv; rw [he]
                have hlp : ∀ p q, xs.getD kk (0, 0) = (p, q) → p ≠ q := fun p q he hpq => hntr (trv_loop (by rw [he]; exact hpq))
                obtain ⟨⟨p, q⟩, hpq⟩ : ∃ e, xs.getD kk (0, 0) = e := ⟨_, rfl⟩
                rw [hpq] at c0 c1 hends
                have hne := hlp p q hpq
                have HTV := hide (htrv p q hpq)
                have HNT := hide hntr
                clear htrv hlp hpq hntr
                obtain ⟨hp, hq⟩ := hends
                simp only at c0 c1 hp hq
                have hkm2 : (kk : Int) < (m : Int) := by omega
                have hneq : ((p : Int) != (q : Int)) = true := by simp; omega
                go_upto_region 25 with fail
                have EB := hide (Bt.start 45 #[.int .i64 (p : Int), .int .i64 (q : Int)] wr)
                have XW := hide ((unhide HGR).step (b_al (.cells #[.int .i64 (p : Int), .int .i64 (q : Int)] 45)))
                clear c0 c1
                generalize (wr.alloc (.cells #[.int .i64 (p : Int), .int .i64 (q : Int)] 45)) = wv at EB XW ⊢
                have HEB := hide (unhide EB).gb
                clear EB
                generalize wr.heap.size = eb at HEB ⊢
                obtain ⟨fs, hfs⟩ : ∃ fs, but xs kk = fs := ⟨_, rfl⟩
                rw [hfs] at HTV
                have HXL := hide (unhide HGR).len
                have HFL := hide (show fs.length = m - 1 by rw [← hfs, but_len (by rw [unhide HXL]; exact hkm), unhide HXL])
                have HFT := hide (show (toI xs).take kk ++ (toI xs).drop (kk + 1) = toI fs by rw [← hfs, but, toI_append, toI_take, toI_drop])
                have HPF := hide (show Plain k fs by rw [← hfs]; exact but_plain (unhide HPX) (by rw [unhide HXL]; exact hkm))
                clear hfs
                go_cut [11] from 98 to 112 (fun v11 wx => ∃ yb va vc, v11 = .pointer (some ⟨yb, 0, none⟩) ∧ Hid (Below wv.heap.size wv wx) ∧ Hid (wx.heap[yb]? = some (.cells #[.int .i64 (k : Int), .slice va (m - 1) vc] 33 (0, 0))) ∧ Hid (wx.ownsRow wv.heap.size 45 2 (.slice va (m - 1) vc) (m - 1) (ecells (toI fs))))
                case first =>
                  have XG := hide ((unhide XW).step b_dr)
                  have XB := hide (show Below wv.heap.size wv wv.drew from b_dr)
                  refine wp_region_held_drew (S := fun u => u.cell? ⟨w.heap.size, 0, none⟩ = some (.int .i64 k) ∧ u.cell? ⟨w.heap.size, 1, none⟩ = some (.slice a n cap) ∧ u.cell? ⟨xb, 0, none⟩ = some (.int .i64 k) ∧ u.cell? ⟨xb, 1, none⟩ = some (.slice (some ⟨g, off, none⟩) m xc)) (by kernel_rfl) (unhide XG).cells (fun hS => ?_)
                  generalize wv.drew = u0 at XG XB hS ⊢
                  have HSV := hide (unhide XB).size
                  have KY := hide (Gm.start u0 true)
                  have E0 := (unhide XG).es (by omega)
                  obtain ⟨o2, hif, ho2⟩ : ∃ o2, (if xc = kk + 1 then some (⟨g, off, none⟩ : Addr) else some ⟨g, off + (kk + 1) * 2, none⟩) = some ⟨g, o2, none⟩ ∧ (m - (kk + 1) = 0 ∨ o2 = off + (kk + 1) * 2) := by
                    by_cases hcc : xc = kk + 1
                    · exact ⟨off, by rw [if_pos hcc], .inl (by omega)⟩
                    · exact ⟨_, by rw [if_neg hcc], .inr rfl⟩
                  have HE1 := hide (E0.take kk (by omega))
                  have HE2 := hide (E0.drop (kk + 1) (m - (kk + 1)) o2 (by omega) ho2)
                  have hkc : (kk : Int) ≤ (xc : Int) := by omega
                  have hk1n : (kk : Int) + 1 ≤ (m : Int) := by omega
                  have hwk : IntKind.i64.wrap ((kk : Int) + 1) = (kk : Int) + 1 := by rw [IntKind.wrap_i64]; omega
                  have hk0 : (0 : Int) ≤ (kk : Int) + 1 := by omega
                  have hk3 : ((kk : Int) + 1).toNat = kk + 1 := by omega
                  clear E0 ho2
                  refine wpAnyH_take (i := 0) (v := ?_) rfl (by kernel_rfl) (by kernel_rfl) (by kernel_rfl) (fun _ _ _ h => h) (Or.inl ⟨by rfl, ?_⟩) hS ?_
                  rotate_left
                  · intro u hu; (try dsimp only at hu); go_simp; try with_reducible rfl
                  simp only [Act.put, List.getElem_toArray, List.getElem_cons_zero, List.setIfInBounds_toArray, List.set_cons_zero, List.set_cons_succ]
                  refine wpAnyH_take (i := 1) (v := ?_) rfl (by kernel_rfl) (by kernel_rfl) (by kernel_rfl) (fun _ _ _ h => h) (Or.inl ⟨by rfl, ?_⟩) hS ?_
                  rotate_left
                  · intro u hu; (try dsimp only at hu); go_simp; try with_reducible rfl
                  simp only [Act.put, List.getElem_toArray, List.getElem_cons_zero, List.getElem_cons_succ, List.setIfInBounds_toArray, List.set_cons_zero, List.set_cons_succ]
                  refine wpAnyH_take (i := 3) (v := ?_) rfl (by kernel_rfl) (by kernel_rfl) (by kernel_rfl) (fun _ _ _ h => h) (Or.inl ⟨by rfl, ?_⟩) hS ?_
                  rotate_left
                  · intro u hu; (try dsimp only at hu); go_simp; try with_reducible rfl
                  simp only [Act.put, List.getElem_toArray, List.getElem_cons_zero, List.getElem_cons_succ, List.setIfInBounds_toArray, List.set_cons_zero, List.set_cons_succ]
                  refine wpAnyH_take (i := 4) (v := ?_) rfl (by kernel_rfl) (by kernel_rfl) (by kernel_rfl) (fun _ _ _ h => h) (Or.inl ⟨by rfl, ?_⟩) hS ?_
                  rotate_left
                  · intro u hu; (try dsimp only at hu); go_simp; try with_reducible rfl
                  simp only [Act.put, List.getElem_toArray, List.getElem_cons_zero, List.getElem_cons_succ, List.setIfInBounds_toArray, List.set_cons_zero, List.set_cons_succ]
                  refine wpAnyH_take (i := 5) (v := ?_) rfl (by kernel_rfl) (by kernel_rfl) (by kernel_rfl) (fun _ _ _ h => h) (Or.inl ⟨by rfl, ?_⟩) hS ?_
                  rotate_left
                  · intro u hu; (try dsimp only at hu); go_simp; try with_reducible rfl
                  simp only [Act.put, List.getElem_toArray, List.getElem_cons_zero, List.getElem_cons_succ, List.setIfInBounds_toArray, List.set_cons_zero, List.set_cons_succ]
                  refine wpAnyH_take (i := 6) (v := ?_) rfl (by kernel_rfl) (by kernel_rfl) (by kernel_rfl) (fun _ _ _ h => h) (Or.inl ⟨by rfl, ?_⟩) hS ?_
                  rotate_left
                  · intro u hu; (try dsimp only at hu); go_simp; try with_reducible rfl
                  simp only [Act.put, List.getElem_toArray, List.getElem_cons_zero, List.getElem_cons_succ, List.setIfInBounds_toArray, List.set_cons_zero, List.set_cons_succ]
                  refine wpAnyH_take (i := 8) (v := ?_) rfl (by kernel_rfl) (by kernel_rfl) (by kernel_rfl) (fun _ _ _ h => h) (Or.inl ⟨by rfl, ?_⟩) hS ?_
                  rotate_left
                  · intro u hu; (try dsimp only at hu); go_simp; try with_reducible rfl
                  simp only [Act.put, List.getElem_toArray, List.getElem_cons_zero, List.getElem_cons_succ, List.setIfInBounds_toArray, List.set_cons_zero, List.set_cons_succ]
                  refine wpAnyH_take (i := 9) (v := ?_) rfl (by kernel_rfl) (by kernel_rfl) (by kernel_rfl) (fun _ _ _ h => h) (Or.inl ⟨by rfl, ?_⟩) hS ?_
                  rotate_left
                  · intro u hu; (try dsimp only at hu); go_simp; try with_reducible rfl
                  simp only [Act.put, List.getElem_toArray, List.getElem_cons_zero, List.getElem_cons_succ, List.setIfInBounds_toArray, List.set_cons_zero, List.set_cons_succ]
                  refine wpAnyH_take (i := 10) (v := ?_) rfl (by kernel_rfl) (by kernel_rfl) (by kernel_rfl) (fun _ _ _ h => h) (Or.inl ⟨by rfl, ?_⟩) hS ?_
                  rotate_left
                  · intro u hu; (try dsimp only at hu); go_simp; try with_reducible rfl
                  simp only [Act.put, List.getElem_toArray, List.getElem_cons_zero, List.getElem_cons_succ, List.setIfInBounds_toArray, List.set_cons_zero, List.set_cons_succ]
                  refine wpAnyH_take (i := 11) (v := ?_) rfl (by kernel_rfl) (by kernel_rfl) (by kernel_rfl) (fun _ _ _ h => h) (Or.inl ⟨by rfl, ?_⟩) hS ?_
                  rotate_left
                  · intro u hu; (try dsimp only at hu); go_simp; try with_reducible rfl
                  simp only [Act.put, List.getElem_toArray, List.getElem_cons_zero, List.getElem_cons_succ, List.setIfInBounds_toArray, List.set_cons_zero, List.set_cons_succ]
                  refine wpAnyH_take (i := 12) (v := ?_) rfl (by kernel_rfl) (by kernel_rfl) (by kernel_rfl) (fun _ _ _ h => h) (Or.inl ⟨by rfl, ?_⟩) hS ?_
                  rotate_left
                  · intro u hu; (try dsimp only at hu); go_simp; try with_reducible rfl
                  simp only [Act.put, List.getElem_toArray, List.getElem_cons_zero, List.getElem_cons_succ, List.setIfInBounds_toArray, List.set_cons_zero, List.set_cons_succ]
                  refine wpAnyH_ready (rs := [2, 15]) (by kernel_rfl) (by simp) ?_
                  refine AllReadyH.cons rfl (fun K hK => ?_) (AllReadyH.cons rfl (fun K hK => ?_) AllReadyH.nil)
                  · go_simp
                    have KY2 : Hid (Gm u0 (u0.alloc (.cells #[] 45)) true (some (.slice (some ⟨u0.heap.size, 0, none⟩) 0 0)) [] none none) := (unhide KY).row
                    refine hK.out _ _ (((unhide XG).step (unhide KY2).bel).cells) (fun hS2 => ?_)
                    clear hK K hS KY; have hS := hS2; clear hS2; have KY := KY2; clear KY2
                    generalize u0.alloc (.cells #[] 45) = uk1 at KY hS ⊢
                    generalize u0.heap.size = bk2 at KY ⊢
                    refine wpAnyH_ready (rs := [7, 15]) (by kernel_rfl) (by simp) ?_
                    refine AllReadyH.cons rfl (fun K hK => ?_) (AllReadyH.cons rfl (fun K hK => ?_) AllReadyH.nil)
                    · rw [if_pos (by rfl)]
                      refine Gm.app (unhide KY) (.inl rfl) (.tmp 100) (.tmp 104) rfl rfl (some ⟨g, off, none⟩) kk xc ((toI xs).take kk) rfl (fun h => by cases h) ((unhide HE1).below (unhide KY).bel) (by simp; omega) ?_
                      intro vk4 uk3 ky2
                      rw [List.nil_append] at ky2
                      have KY2 : Hid (Gm u0 uk3 false (some vk4) ((toI xs).take kk) none none) := ky2
                      clear ky2
                      refine hK.out _ _ (((unhide XG).step (unhide KY2).bel).cells) (fun hS2 => ?_)
                      clear hK K hS KY; have hS := hS2; clear hS2; have KY := KY2; clear KY2
                      simp only [Act.put, List.getElem_toArray, List.getElem_cons_zero, List.getElem_cons_succ, List.setIfInBounds_toArray, List.set_cons_zero, List.set_cons_succ]
                      refine wpAnyH_ready (rs := [13, 15]) (by kernel_rfl) (by simp) ?_
                      refine AllReadyH.cons rfl (fun K hK => ?_) (AllReadyH.cons rfl (fun K hK => ?_) AllReadyH.nil)
                      · rw [if_pos (by rfl)]
                        refine Gm.app (unhide KY) (.inr rfl) (.tmp 105) (.tmp 110) rfl rfl (some ⟨g, o2, none⟩) (m - (kk + 1)) (xc - (kk + 1)) ((toI xs).drop (kk + 1)) rfl (fun h => by cases h) ((unhide HE2).below (unhide KY).bel) (by rw [List.length_take, toI_length, unhide HXL]; omega) ?_
                        intro vk6 uk5 ky2
                        rw [unhide HFT] at ky2
                        have KY2 : Hid (Gm u0 uk5 false (some vk6) (toI fs) none none) := ky2
                        clear ky2
                        refine hK.out _ _ (((unhide XG).step (unhide KY2).bel).cells) (fun hS2 => ?_)
                        clear hK K hS KY; have hS := hS2; clear hS2; have KY := KY2; clear KY2
                        simp only [Act.put, List.getElem_toArray, List.getElem_cons_zero, List.getElem_cons_succ, List.setIfInBounds_toArray, List.set_cons_zero, List.set_cons_succ]
                        obtain ⟨va, vc, rfl, _⟩ := es_of_owns ((unhide KY).hrow vk6 rfl) (by rw [toI_length, unhide HFL]; omega)
                        rw [toI_length, unhide HFL] at KY ⊢
                        refine wpAnyH_take (i := 14) (v := ?_) rfl (by kernel_rfl) (by kernel_rfl) (by kernel_rfl) (fun _ _ _ h => h) (Or.inl ⟨by rfl, ?_⟩) hS ?_
                        rotate_left
                        · intro u hu; (try dsimp only at hu); go_simp; try with_reducible rfl
                        simp only [Act.put, List.getElem_toArray, List.getElem_cons_zero, List.getElem_cons_succ, List.setIfInBounds_toArray, List.set_cons_zero, List.set_cons_succ]
                        refine wpAnyH_ready (rs := [15]) (by kernel_rfl) (by simp) ?_
                        refine AllReadyH.cons rfl (fun K hK => ?_) AllReadyH.nil
                        go_simp
                        have KY2 : Hid (Gm u0 (uk5.alloc (.cells #[.int .i64 0, .slice none 0 0] 33)) false (some (.slice va (m - 1) vc)) (toI fs) none (some uk5.heap.size)) := (unhide KY).box
                        refine hK.out _ _ (((unhide XG).step (unhide KY2).bel).cells) (fun hS2 => ?_)
                        clear hK K hS KY; have hS := hS2; clear hS2; have KY := KY2; clear KY2
                        generalize uk5.alloc (.cells #[.int .i64 0, .slice none 0 0] 33) = uk7 at KY hS ⊢
                        generalize uk5.heap.size = bk8 at KY ⊢
                        obtain ⟨t0, t1, t2, t3⟩ := (unhide KY).boxCells
                        refine wpAnyH_ready (rs := [16]) (by kernel_rfl) (by simp) ?_
                        refine AllReadyH.cons rfl (fun K hK => ?_) AllReadyH.nil
                        go_simp
                        have KZ := hide ((unhide KY).stored (.int .i64 (k : Int)) (.slice va (m - 1) vc))
                        refine hK.out _ _ (((unhide XG).step (unhide KZ).1).cells) (fun hS2 => ?_)
                        clear hK K hS hS2 t0 t1 t2 t3
                        refine wpAnyH_done (by kernel_rfl) ?_ _
                        go_wp2_with fail
                        go_meet
                        exact ⟨bk8, va, vc, rfl, hide (bto (unhide XB) (unhide KZ).1), hide (unhide KZ).2.1, hide (by have h := (unhide KZ).2.2; rw [toI_length, unhide HFL] at h; exact owns_mono h (unhide HSV))⟩
                      · go_simp
                        have KY2 : Hid (Gm u0 (uk3.alloc (.cells #[.int .i64 0, .slice none 0 0] 33)) false (some vk4) ((toI xs).take kk) none (some uk3.heap.size)) := (unhide KY).box
                        refine hK.out _ _ (((unhide XG).step (unhide KY2).bel).cells) (fun hS2 => ?_)
                        clear hK K hS KY; have hS := hS2; clear hS2; have KY := KY2; clear KY2
                        generalize uk3.alloc (.cells #[.int .i64 0, .slice none 0 0] 33) = uk9 at KY hS ⊢
                        generalize uk3.heap.size = bk10 at KY ⊢
                        refine wpAnyH_ready (rs := [13]) (by kernel_rfl) (by simp) ?_
                        refine AllReadyH.cons rfl (fun K hK => ?_) AllReadyH.nil
                        rw [if_pos (by rfl)]
                        refine Gm.app (unhide KY) (.inr rfl) (.tmp 105) (.tmp 110) rfl rfl (some ⟨g, o2, none⟩) (m - (kk + 1)) (xc - (kk + 1)) ((toI xs).drop (kk + 1)) rfl (fun h => by cases h) ((unhide HE2).below (unhide KY).bel) (by rw [List.length_take, toI_length, unhide HXL]; omega) ?_
                        intro vk12 uk11 ky2
                        rw [unhide HFT] at ky2
                        have KY2 : Hid (Gm u0 uk11 false (some vk12) (toI fs) none (some bk10)) := ky2
                        clear ky2
                        refine hK.out _ _ (((unhide XG).step (unhide KY2).bel).cells) (fun hS2 => ?_)
                        clear hK K hS KY; have hS := hS2; clear hS2; have KY := KY2; clear KY2
                        simp only [Act.put, List.getElem_toArray, List.getElem_cons_zero, List.getElem_cons_succ, List.setIfInBounds_toArray, List.set_cons_zero, List.set_cons_succ]
                        obtain ⟨va, vc, rfl, _⟩ := es_of_owns ((unhide KY).hrow vk12 rfl) (by rw [toI_length, unhide HFL]; omega)
                        rw [toI_length, unhide HFL] at KY ⊢
                        refine wpAnyH_take (i := 14) (v := ?_) rfl (by kernel_rfl) (by kernel_rfl) (by kernel_rfl) (fun _ _ _ h => h) (Or.inl ⟨by rfl, ?_⟩) hS ?_
                        rotate_left
                        · intro u hu; (try dsimp only at hu); go_simp; try with_reducible rfl
                        simp only [Act.put, List.getElem_toArray, List.getElem_cons_zero, List.getElem_cons_succ, List.setIfInBounds_toArray, List.set_cons_zero, List.set_cons_succ]
                        obtain ⟨t0, t1, t2, t3⟩ := (unhide KY).boxCells
                        refine wpAnyH_ready (rs := [16]) (by kernel_rfl) (by simp) ?_
                        refine AllReadyH.cons rfl (fun K hK => ?_) AllReadyH.nil
                        go_simp
                        have KZ := hide ((unhide KY).stored (.int .i64 (k : Int)) (.slice va (m - 1) vc))
                        refine hK.out _ _ (((unhide XG).step (unhide KZ).1).cells) (fun hS2 => ?_)
                        clear hK K hS hS2 t0 t1 t2 t3
                        refine wpAnyH_done (by kernel_rfl) ?_ _
                        go_wp2_with fail
                        go_meet
                        exact ⟨bk10, va, vc, rfl, hide (bto (unhide XB) (unhide KZ).1), hide (unhide KZ).2.1, hide (by have h := (unhide KZ).2.2; rw [toI_length, unhide HFL] at h; exact owns_mono h (unhide HSV))⟩
                    · go_simp
                      have KY2 : Hid (Gm u0 (uk1.alloc (.cells #[.int .i64 0, .slice none 0 0] 33)) true (some (.slice (some ⟨bk2, 0, none⟩) 0 0)) [] none (some uk1.heap.size)) := (unhide KY).box
                      refine hK.out _ _ (((unhide XG).step (unhide KY2).bel).cells) (fun hS2 => ?_)
                      clear hK K hS KY; have hS := hS2; clear hS2; have KY := KY2; clear KY2
                      generalize uk1.alloc (.cells #[.int .i64 0, .slice none 0 0] 33) = uk13 at KY hS ⊢
                      generalize uk1.heap.size = bk14 at KY ⊢
                      refine wpAnyH_ready (rs := [7]) (by kernel_rfl) (by simp) ?_
                      refine AllReadyH.cons rfl (fun K hK => ?_) AllReadyH.nil
                      rw [if_pos (by rfl)]
                      refine Gm.app (unhide KY) (.inl rfl) (.tmp 100) (.tmp 104) rfl rfl (some ⟨g, off, none⟩) kk xc ((toI xs).take kk) rfl (fun h => by cases h) ((unhide HE1).below (unhide KY).bel) (by simp; omega) ?_
                      intro vk16 uk15 ky2
                      rw [List.nil_append] at ky2
                      have KY2 : Hid (Gm u0 uk15 false (some vk16) ((toI xs).take kk) none (some bk14)) := ky2
                      clear ky2
                      refine hK.out _ _ (((unhide XG).step (unhide KY2).bel).cells) (fun hS2 => ?_)
                      clear hK K hS KY; have hS := hS2; clear hS2; have KY := KY2; clear KY2
                      simp only [Act.put, List.getElem_toArray, List.getElem_cons_zero, List.getElem_cons_succ, List.setIfInBounds_toArray, List.set_cons_zero, List.set_cons_succ]
                      refine wpAnyH_ready (rs := [13]) (by kernel_rfl) (by simp) ?_
                      refine AllReadyH.cons rfl (fun K hK => ?_) AllReadyH.nil
                      rw [if_pos (by rfl)]
                      refine Gm.app (unhide KY) (.inr rfl) (.tmp 105) (.tmp 110) rfl rfl (some ⟨g, o2, none⟩) (m - (kk + 1)) (xc - (kk + 1)) ((toI xs).drop (kk + 1)) rfl (fun h => by cases h) ((unhide HE2).below (unhide KY).bel) (by rw [List.length_take, toI_length, unhide HXL]; omega) ?_
                      intro vk18 uk17 ky2
                      rw [unhide HFT] at ky2
                      have KY2 : Hid (Gm u0 uk17 false (some vk18) (toI fs) none (some bk14)) := ky2
                      clear ky2
                      refine hK.out _ _ (((unhide XG).step (unhide KY2).bel).cells) (fun hS2 => ?_)
                      clear hK K hS KY; have hS := hS2; clear hS2; have KY := KY2; clear KY2
                      simp only [Act.put, List.getElem_toArray, List.getElem_cons_zero, List.getElem_cons_succ, List.setIfInBounds_toArray, List.set_cons_zero, List.set_cons_succ]
                      obtain ⟨va, vc, rfl, _⟩ := es_of_owns ((unhide KY).hrow vk18 rfl) (by rw [toI_length, unhide HFL]; omega)
                      rw [toI_length, unhide HFL] at KY ⊢
                      refine wpAnyH_take (i := 14) (v := ?_) rfl (by kernel_rfl) (by kernel_rfl) (by kernel_rfl) (fun _ _ _ h => h) (Or.inl ⟨by rfl, ?_⟩) hS ?_
                      rotate_left
                      · intro u hu; (try dsimp only at hu); go_simp; try with_reducible rfl
                      simp only [Act.put, List.getElem_toArray, List.getElem_cons_zero, List.getElem_cons_succ, List.setIfInBounds_toArray, List.set_cons_zero, List.set_cons_succ]
                      obtain ⟨t0, t1, t2, t3⟩ := (unhide KY).boxCells
                      refine wpAnyH_ready (rs := [16]) (by kernel_rfl) (by simp) ?_
                      refine AllReadyH.cons rfl (fun K hK => ?_) AllReadyH.nil
                      go_simp
                      have KZ := hide ((unhide KY).stored (.int .i64 (k : Int)) (.slice va (m - 1) vc))
                      refine hK.out _ _ (((unhide XG).step (unhide KZ).1).cells) (fun hS2 => ?_)
                      clear hK K hS hS2 t0 t1 t2 t3
                      refine wpAnyH_done (by kernel_rfl) ?_ _
                      go_wp2_with fail
                      go_meet
                      exact ⟨bk14, va, vc, rfl, hide (bto (unhide XB) (unhide KZ).1), hide (unhide KZ).2.1, hide (by have h := (unhide KZ).2.2; rw [toI_length, unhide HFL] at h; exact owns_mono h (unhide HSV))⟩
                  · go_simp
                    have KY2 : Hid (Gm u0 (u0.alloc (.cells #[.int .i64 0, .slice none 0 0] 33)) true none [] none (some u0.heap.size)) := (unhide KY).box
                    refine hK.out _ _ (((unhide XG).step (unhide KY2).bel).cells) (fun hS2 => ?_)
                    clear hK K hS KY; have hS := hS2; clear hS2; have KY := KY2; clear KY2
                    generalize u0.alloc (.cells #[.int .i64 0, .slice none 0 0] 33) = uk19 at KY hS ⊢
                    generalize u0.heap.size = bk20 at KY ⊢
                    refine wpAnyH_ready (rs := [2]) (by kernel_rfl) (by simp) ?_
                    refine AllReadyH.cons rfl (fun K hK => ?_) AllReadyH.nil
                    go_simp
                    have KY2 : Hid (Gm u0 (uk19.alloc (.cells #[] 45)) true (some (.slice (some ⟨uk19.heap.size, 0, none⟩) 0 0)) [] none (some bk20)) := (unhide KY).row
                    refine hK.out _ _ (((unhide XG).step (unhide KY2).bel).cells) (fun hS2 => ?_)
                    clear hK K hS KY; have hS := hS2; clear hS2; have KY := KY2; clear KY2
                    generalize uk19.alloc (.cells #[] 45) = uk21 at KY hS ⊢
                    generalize uk19.heap.size = bk22 at KY ⊢
                    refine wpAnyH_ready (rs := [7]) (by kernel_rfl) (by simp) ?_
                    refine AllReadyH.cons rfl (fun K hK => ?_) AllReadyH.nil
                    rw [if_pos (by rfl)]
                    refine Gm.app (unhide KY) (.inl rfl) (.tmp 100) (.tmp 104) rfl rfl (some ⟨g, off, none⟩) kk xc ((toI xs).take kk) rfl (fun h => by cases h) ((unhide HE1).below (unhide KY).bel) (by simp; omega) ?_
                    intro vk24 uk23 ky2
                    rw [List.nil_append] at ky2
                    have KY2 : Hid (Gm u0 uk23 false (some vk24) ((toI xs).take kk) none (some bk20)) := ky2
                    clear ky2
                    refine hK.out _ _ (((unhide XG).step (unhide KY2).bel).cells) (fun hS2 => ?_)
                    clear hK K hS KY; have hS := hS2; clear hS2; have KY := KY2; clear KY2
                    simp only [Act.put, List.getElem_toArray, List.getElem_cons_zero, List.getElem_cons_succ, List.setIfInBounds_toArray, List.set_cons_zero, List.set_cons_succ]
                    refine wpAnyH_ready (rs := [13]) (by kernel_rfl) (by simp) ?_
                    refine AllReadyH.cons rfl (fun K hK => ?_) AllReadyH.nil
                    rw [if_pos (by rfl)]
                    refine Gm.app (unhide KY) (.inr rfl) (.tmp 105) (.tmp 110) rfl rfl (some ⟨g, o2, none⟩) (m - (kk + 1)) (xc - (kk + 1)) ((toI xs).drop (kk + 1)) rfl (fun h => by cases h) ((unhide HE2).below (unhide KY).bel) (by rw [List.length_take, toI_length, unhide HXL]; omega) ?_
                    intro vk26 uk25 ky2
                    rw [unhide HFT] at ky2
                    have KY2 : Hid (Gm u0 uk25 false (some vk26) (toI fs) none (some bk20)) := ky2
                    clear ky2
                    refine hK.out _ _ (((unhide XG).step (unhide KY2).bel).cells) (fun hS2 => ?_)
                    clear hK K hS KY; have hS := hS2; clear hS2; have KY := KY2; clear KY2
                    simp only [Act.put, List.getElem_toArray, List.getElem_cons_zero, List.getElem_cons_succ, List.setIfInBounds_toArray, List.set_cons_zero, List.set_cons_succ]
                    obtain ⟨va, vc, rfl, _⟩ := es_of_owns ((unhide KY).hrow vk26 rfl) (by rw [toI_length, unhide HFL]; omega)
                    rw [toI_length, unhide HFL] at KY ⊢
                    refine wpAnyH_take (i := 14) (v := ?_) rfl (by kernel_rfl) (by kernel_rfl) (by kernel_rfl) (fun _ _ _ h => h) (Or.inl ⟨by rfl, ?_⟩) hS ?_
                    rotate_left
                    · intro u hu; (try dsimp only at hu); go_simp; try with_reducible rfl
                    simp only [Act.put, List.getElem_toArray, List.getElem_cons_zero, List.getElem_cons_succ, List.setIfInBounds_toArray, List.set_cons_zero, List.set_cons_succ]
                    obtain ⟨t0, t1, t2, t3⟩ := (unhide KY).boxCells
                    refine wpAnyH_ready (rs := [16]) (by kernel_rfl) (by simp) ?_
                    refine AllReadyH.cons rfl (fun K hK => ?_) AllReadyH.nil
                    go_simp
                    have KZ := hide ((unhide KY).stored (.int .i64 (k : Int)) (.slice va (m - 1) vc))
                    refine hK.out _ _ (((unhide XG).step (unhide KZ).1).cells) (fun hS2 => ?_)
                    clear hK K hS hS2 t0 t1 t2 t3
                    refine wpAnyH_done (by kernel_rfl) ?_ _
                    go_wp2_with fail
                    go_meet
                    exact ⟨bk20, va, vc, rfl, hide (bto (unhide XB) (unhide KZ).1), hide (unhide KZ).2.1, hide (by have h := (unhide KZ).2.2; rw [toI_length, unhide HFL] at h; exact owns_mono h (unhide HSV))⟩
                case rest =>
                  obtain ⟨yb, va, vc, rfl, HBX, HYB, HYR⟩ := hcut
                  obtain ⟨Fy, hFy⟩ := allReach_ex (unhide HPF)
                  have XC := hide ((unhide XW).step (unhide HBX))
                  have HEC := hide (show wc.heap[eb]? = some (.cells #[.int .i64 (p : Int), .int .i64 (q : Int)] 45 (0, 0)) by rw [(unhide HBX).block eb (heap_lt (unhide HEB))]; exact unhide HEB)
                  have y0 : wc.cell? ⟨yb, 0, none⟩ = some (.int .i64 (k : Int)) := by simp [World.cell?, unhide HYB]
                  have y1 : wc.cell? ⟨yb, 1, none⟩ = some (.slice va (m - 1) vc) := by simp [World.cell?, unhide HYB]
                  have hym : Es 0 wc va (m - 1) (toI fs) := by
                    obtain ⟨a', c', he, hh⟩ := es_of_owns (unhide HYR) (by omega)
                    cases he
                    exact hh.mono (Nat.zero_le _)
                  have HYM := hide hym
                  have hfp := (hFy p hp).1
                  have hfq : (Fy p).testBit q = false := by
                    cases h : (Fy p).testBit q with
                    | false => rfl
                    | true => exact absurd ((unhide HTV).2 (((hFy p hp).2 q).1 h)) (unhide HNT)
                  have HFY := hide hFy
                  clear hym hFy
                  have HHAS := hide (fun (u : World) => show Calls Tryd.prog 9 #[.int .u64 ((Fy p : Nat) : Int), .int .i64 q] u fun e w' => e = .returned (.bool false) ∧ Below u.heap.size u w' from by
                    refine (has_any u (Fy p) hfp q).mono ?_
                    rintro e w' ⟨rfl, hb⟩
                    exact ⟨ret_b (by rw [hasI_nat hfp, hfq]), hb⟩)
                  clear hfp hfq
                  go_wp2_with fail
                  refine (unhide HFRO wc ((unhide HT).below (unhide XC).bg.bel) va (m - 1) vc fs (unhide HYM) (unhide HFL) (unhide HPF) Fy (unhide HFY)).mono ?_
                  rintro e w9 ⟨⟨g3, rfl, hg3, hr3⟩, hb9⟩
                  have X9 := hide ((unhide XC).step hb9)
                  have HE9 := hide (show w9.heap[eb]? = some (.cells #[.int .i64 (p : Int), .int .i64 (q : Int)] 45 (0, 0)) by rw [hb9.block eb (heap_lt (unhide HEC))]; exact unhide HEC)
                  have r3 := hr3.cell hp
                  have HR3 := hide hr3
                  have z0 : w9.cell? ⟨eb, 0, none⟩ = some (.int .i64 (p : Int)) := by simp [World.cell?, unhide HE9]
                  have z1 : w9.cell? ⟨eb, 1, none⟩ = some (.int .i64 (q : Int)) := by simp [World.cell?, unhide HE9]
                  have hp2 : (p : Int) < (k : Int) := by omega
                  clear hb9 hr3 y0 y1 hg3
                  go_wp2_with fail
                  refine wp_region_held_drew (S := fun u => u.cell? ⟨eb, 0, none⟩ = some (.int .i64 (p : Int)) ∧ u.cell? ⟨eb, 1, none⟩ = some (.int .i64 (q : Int)) ∧ u.cell? ⟨g3, p, none⟩ = some (.int .u64 ((Fy p : Nat) : Int))) (by kernel_rfl) ⟨z0, z1, r3⟩ (fun hS => ?_)
                  have X10 := hide ((unhide X9).step b_dr)
                  have X10' := hide (show Below w9.heap.size w9 w9.drew from b_dr)
                  clear z0 z1 r3
                  generalize w9.drew = w10 at X10 X10' hS ⊢
                  refine wpAnyH_take (i := 0) (v := ?_) rfl (by kernel_rfl) (by kernel_rfl) (by kernel_rfl) (fun _ _ _ h => h) (Or.inl ⟨by rfl, ?_⟩) hS ?_
                  rotate_left
                  · intro u hu; (try dsimp only at hu); go_simp; try with_reducible rfl
                  simp only [Act.put, List.getElem_toArray, List.getElem_cons_zero, List.setIfInBounds_toArray, List.set_cons_zero, List.set_cons_succ]
                  refine wpAnyH_take (i := 1) (v := ?_) rfl (by kernel_rfl) (by kernel_rfl) (by kernel_rfl) (fun _ _ _ h => h) (Or.inl ⟨by rfl, ?_⟩) hS ?_
                  rotate_left
                  · intro u hu; (try dsimp only at hu); go_simp; try with_reducible rfl
                  simp only [Act.put, List.getElem_toArray, List.getElem_cons_zero, List.getElem_cons_succ, List.setIfInBounds_toArray, List.set_cons_zero, List.set_cons_succ]
                  refine wpAnyH_take (i := 2) (v := ?_) rfl (by kernel_rfl) (by kernel_rfl) (by kernel_rfl) (fun _ _ _ h => h) (Or.inl ⟨by rfl, ?_⟩) hS ?_
                  rotate_left
                  · intro u hu; (try dsimp only at hu); go_simp; try with_reducible rfl
                  simp only [Act.put, List.getElem_toArray, List.getElem_cons_zero, List.getElem_cons_succ, List.setIfInBounds_toArray, List.set_cons_zero, List.set_cons_succ]
                  refine wpAnyH_take (i := 3) (v := ?_) rfl (by kernel_rfl) (by kernel_rfl) (by kernel_rfl) (fun _ _ _ h => h) (Or.inl ⟨by rfl, ?_⟩) hS ?_
                  rotate_left
                  · intro u hu; (try dsimp only at hu); go_simp; try with_reducible rfl
                  simp only [Act.put, List.getElem_toArray, List.getElem_cons_zero, List.getElem_cons_succ, List.setIfInBounds_toArray, List.set_cons_zero, List.set_cons_succ]
                  refine wpAnyH_take (i := 4) (v := ?_) rfl (by kernel_rfl) (by kernel_rfl) (by kernel_rfl) (fun _ _ _ h => h) (Or.inl ⟨by rfl, ?_⟩) hS ?_
                  rotate_left
                  · intro u hu; (try dsimp only at hu); go_simp; try with_reducible rfl
                  simp only [Act.put, List.getElem_toArray, List.getElem_cons_zero, List.getElem_cons_succ, List.setIfInBounds_toArray, List.set_cons_zero, List.set_cons_succ]
                  refine wpAnyH_take (i := 5) (v := ?_) rfl (by kernel_rfl) (by kernel_rfl) (by kernel_rfl) (fun _ _ _ h => h) (Or.inl ⟨by rfl, ?_⟩) hS ?_
                  rotate_left
                  · intro u hu; (try dsimp only at hu); go_simp; try with_reducible rfl
                  simp only [Act.put, List.getElem_toArray, List.getElem_cons_zero, List.getElem_cons_succ, List.setIfInBounds_toArray, List.set_cons_zero, List.set_cons_succ]
                  refine wpAnyH_take (i := 6) (v := ?_) rfl (by kernel_rfl) (by kernel_rfl) (by kernel_rfl) (fun _ _ _ h => h) (Or.inl ⟨by rfl, ?_⟩) hS ?_
                  rotate_left
                  · intro u hu; (try dsimp only at hu); go_simp; try with_reducible rfl
                  simp only [Act.put, List.getElem_toArray, List.getElem_cons_zero, List.getElem_cons_succ, List.setIfInBounds_toArray, List.set_cons_zero, List.set_cons_succ]
                  refine wpAnyH_take (i := 7) (v := ?_) rfl (by kernel_rfl) (by kernel_rfl) (by kernel_rfl) (fun _ _ _ h => h) (Or.inl ⟨by rfl, ?_⟩) hS ?_
                  rotate_left
                  · intro u hu; (try dsimp only at hu); go_simp; try with_reducible rfl
                  simp only [Act.put, List.getElem_toArray, List.getElem_cons_zero, List.getElem_cons_succ, List.setIfInBounds_toArray, List.set_cons_zero, List.set_cons_succ]
                  refine wpAnyH_take (i := 8) (v := ?_) rfl (by kernel_rfl) (by kernel_rfl) (by kernel_rfl) (fun _ _ _ h => h) (Or.inl ⟨by rfl, ?_⟩) hS ?_
                  rotate_left
                  · intro u hu; (try dsimp only at hu); go_simp; try with_reducible rfl
                  simp only [Act.put, List.getElem_toArray, List.getElem_cons_zero, List.getElem_cons_succ, List.setIfInBounds_toArray, List.set_cons_zero, List.set_cons_succ]
                  refine wpAnyH_take (i := 9) (v := ?_) rfl (by kernel_rfl) (by kernel_rfl) (by kernel_rfl) (fun _ _ _ h => h) (Or.inl ⟨by rfl, ?_⟩) hS ?_
                  rotate_left
                  · intro u hu; (try dsimp only at hu); go_simp; try with_reducible rfl
                  simp only [Act.put, List.getElem_toArray, List.getElem_cons_zero, List.getElem_cons_succ, List.setIfInBounds_toArray, List.set_cons_zero, List.set_cons_succ]
                  refine wpAnyH_take (i := 10) (v := ?_) rfl (by kernel_rfl) (by kernel_rfl) (by kernel_rfl) (fun _ _ _ h => h) (Or.inl ⟨by rfl, ?_⟩) hS ?_
                  rotate_left
                  · intro u hu; (try dsimp only at hu); go_simp; try with_reducible rfl
                  simp only [Act.put, List.getElem_toArray, List.getElem_cons_zero, List.getElem_cons_succ, List.setIfInBounds_toArray, List.set_cons_zero, List.set_cons_succ]
                  refine wpAnyH_take (i := 11) (v := ?_) rfl (by kernel_rfl) (by kernel_rfl) (by kernel_rfl) (fun _ _ _ h => h) (Or.inl ⟨by rfl, ?_⟩) hS ?_
                  rotate_left
                  · intro u hu; (try dsimp only at hu); go_simp; try with_reducible rfl
                  simp only [Act.put, List.getElem_toArray, List.getElem_cons_zero, List.getElem_cons_succ, List.setIfInBounds_toArray, List.set_cons_zero, List.set_cons_succ]
                  refine wpAnyH_take (i := 12) (v := ?_) rfl (by kernel_rfl) (by kernel_rfl) (by kernel_rfl) (fun _ _ _ h => h) (Or.inl ⟨by rfl, ?_⟩) hS ?_
                  rotate_left
                  · intro u hu; (try dsimp only at hu); go_simp; try with_reducible rfl
                  simp only [Act.put, List.getElem_toArray, List.getElem_cons_zero, List.getElem_cons_succ, List.setIfInBounds_toArray, List.set_cons_zero, List.set_cons_succ]
                  refine wpAnyH_ready (rs := [13]) (by kernel_rfl) (by simp) ?_
                  refine AllReadyH.cons rfl (fun K hK => ?_) AllReadyH.nil
                  go_simp
                  go_wp2_with (go_at_call 9; refine (unhide HHAS _).mono ?_; rintro e w11 ⟨rfl, hb11⟩; have X11 := hide ((unhide X10).step hb11); have X11' := hide (bto (unhide X10') hb11); clear hb11)
                  have hS11 : w11.cell? ⟨eb, 0, none⟩ = some (.int .i64 (p : Int)) ∧ w11.cell? ⟨eb, 1, none⟩ = some (.int .i64 (q : Int)) ∧ w11.cell? ⟨g3, p, none⟩ = some (.int .u64 ((Fy p : Nat) : Int)) := by
                    have hh : w11.heap[eb]? = some (.cells #[.int .i64 (p : Int), .int .i64 (q : Int)] 45 (0, 0)) := by rw [(unhide X11').block eb (heap_lt (unhide HE9))]; exact unhide HE9
                    exact ⟨by simp [World.cell?, hh], by simp [World.cell?, hh], ((unhide HR3).below (unhide X11')).cell hp⟩
                  refine hK.out _ _ hS11 (fun hS2 => ?_)
                  clear hK K hS hS11
                  refine wpAnyH_take (i := 14) (v := ?_) rfl (by kernel_rfl) (by kernel_rfl) (by kernel_rfl) (fun _ _ _ h => h) (Or.inl ⟨by rfl, ?_⟩) hS2 ?_
                  rotate_left
                  · intro u hu; (try dsimp only at hu); go_simp; try with_reducible rfl
                  simp only [Act.put, List.getElem_toArray, List.getElem_cons_zero, List.getElem_cons_succ, List.setIfInBounds_toArray, List.set_cons_zero, List.set_cons_succ]
                  refine wpAnyH_done (by kernel_rfl) ?_ _
                  clear hS2
                  go_wp2_with fail
                  go_roundw
                  case rel => exact ⟨kk + 1, by go_num, by omega, X11⟩
                  case measure => simp [intOf]; omega
              · obtain rfl : kk = m := by omega
                go_wp2_with fail
                go_ret
                exact ⟨rfl, (unhide HGR).bg.bel⟩
      · obtain ⟨l1, rfl⟩ : ∃ l1, ll = l1 + 1 := ⟨ll - 1, by omega⟩
        obtain ⟨gl, ol, hla, hgl, cl⟩ := (unhide HNS).2.2 l1 (by omega)
        subst hla
        rw [toIs_getD] at cl
        obtain ⟨kk, hkk⟩ : ∃ kk, l.getD l1 0 = kk := ⟨_, rfl⟩
        rw [hkk] at cl
        have hkm : kk < m ∧ Trv xs kk := by
          have hmem : kk ∈ l := by
            rw [← hkk]
            have : l1 < l.length := by rw [unhide HLL]; omega
            simp [List.getD, this]
          exact ((unhide HL).mem kk).1 hmem
        obtain ⟨hkm, htr⟩ := hkm
        have HTR := hide htr
        clear hkk htr
        obtain ⟨q0, q1, q2, q3⟩ := (unhide HG).cells
        obtain ⟨g, off, hxa, _, _, _, _⟩ := ((unhide HG).es (by omega)).2.2 kk hkm
        subst hxa
        have hl1 : (0 : Int) < ((l1 + 1 : Nat) : Int) := by omega
        have hkm2 : (kk : Int) < (m : Int) := by omega
        have hkm3 : ¬ (m : Int) ≤ (kk : Int) := by omega
        have hll40 : l1 ≤ 40 := by omega
        go_upto_block 1 with fail
        go_cut [] from 36 to 65 (fun wx => ∃ va vc, Hid (Gx w wx xb V a n cap va (m - 1) vc (but xs kk)))
        case first =>
          go_wp2_with fail
          obtain ⟨fs, hfs⟩ : ∃ fs, but xs kk = fs := ⟨_, rfl⟩
          have HXL := hide (unhide HG).len
          have HFL := hide (show fs.length = m - 1 by rw [← hfs, but_len (by rw [unhide HXL]; exact hkm), unhide HXL])
          have HFT := hide (show (toI xs).take kk ++ (toI xs).drop (kk + 1) = toI fs by rw [← hfs, but, toI_append, toI_take, toI_drop])
          have HFS := hide hfs
          clear hfs q0 q1 q2 q3 cl
          have XG := hide ((unhide HG).step b_dr)
          refine wp_region_held_drew (S := fun u => True) (by kernel_rfl) trivial (fun hS => ?_)
          generalize wr.drew = u0 at XG ⊢
          have KY := hide (Gm.start u0 true)
          have E0 := (unhide XG).es (by omega)
          obtain ⟨o2, hif, ho2⟩ : ∃ o2, (if xc = kk + 1 then some (⟨g, off, none⟩ : Addr) else some ⟨g, off + (kk + 1) * 2, none⟩) = some ⟨g, o2, none⟩ ∧ (m - (kk + 1) = 0 ∨ o2 = off + (kk + 1) * 2) := by
            by_cases hcc : xc = kk + 1
            · exact ⟨off, by rw [if_pos hcc], .inl (by omega)⟩
            · exact ⟨_, by rw [if_neg hcc], .inr rfl⟩
          have HE1 := hide (E0.take kk (by omega))
          have HE2 := hide (E0.drop (kk + 1) (m - (kk + 1)) o2 (by omega) ho2)
          have hkc : (kk : Int) ≤ (xc : Int) := by omega
          have hk1n : (kk : Int) + 1 ≤ (m : Int) := by omega
          have hwk : IntKind.i64.wrap ((kk : Int) + 1) = (kk : Int) + 1 := by rw [IntKind.wrap_i64]; omega
          have hk0 : (0 : Int) ≤ (kk : Int) + 1 := by omega
          have hk3 : ((kk : Int) + 1).toNat = kk + 1 := by omega
          clear E0 ho2
          refine wpAnyH_take (i := 1) (v := ?_) rfl (by kernel_rfl) (by kernel_rfl) (by kernel_rfl) (fun _ _ _ h => h) (Or.inl ⟨by rfl, ?_⟩) hS ?_
          rotate_left
          · intro u hu; (try dsimp only at hu); go_simp; try with_reducible rfl
          simp only [Act.put, List.getElem_toArray, List.getElem_cons_zero, List.getElem_cons_succ, List.setIfInBounds_toArray, List.set_cons_zero, List.set_cons_succ]
          refine wpAnyH_take (i := 3) (v := ?_) rfl (by kernel_rfl) (by kernel_rfl) (by kernel_rfl) (fun _ _ _ h => h) (Or.inl ⟨by rfl, ?_⟩) hS ?_
          rotate_left
          · intro u hu; (try dsimp only at hu); go_simp; try with_reducible rfl
          simp only [Act.put, List.getElem_toArray, List.getElem_cons_zero, List.getElem_cons_succ, List.setIfInBounds_toArray, List.set_cons_zero, List.set_cons_succ]
          refine wpAnyH_take (i := 6) (v := ?_) rfl (by kernel_rfl) (by kernel_rfl) (by kernel_rfl) (fun _ _ _ h => h) (Or.inl ⟨by rfl, ?_⟩) hS ?_
          rotate_left
          · intro u hu; (try dsimp only at hu); go_simp; try with_reducible rfl
          simp only [Act.put, List.getElem_toArray, List.getElem_cons_zero, List.getElem_cons_succ, List.setIfInBounds_toArray, List.set_cons_zero, List.set_cons_succ]
          refine wpAnyH_take (i := 8) (v := ?_) rfl (by kernel_rfl) (by kernel_rfl) (by kernel_rfl) (fun _ _ _ h => h) (Or.inl ⟨by rfl, ?_⟩) hS ?_
          rotate_left
          · intro u hu; (try dsimp only at hu); go_simp; try with_reducible rfl
          simp only [Act.put, List.getElem_toArray, List.getElem_cons_zero, List.getElem_cons_succ, List.setIfInBounds_toArray, List.set_cons_zero, List.set_cons_succ]
          refine wpAnyH_take (i := 9) (v := ?_) rfl (by kernel_rfl) (by kernel_rfl) (by kernel_rfl) (fun _ _ _ h => h) (Or.inl ⟨by rfl, ?_⟩) hS ?_
          rotate_left
          · intro u hu; (try dsimp only at hu); go_simp; try with_reducible rfl
          simp only [Act.put, List.getElem_toArray, List.getElem_cons_zero, List.getElem_cons_succ, List.setIfInBounds_toArray, List.set_cons_zero, List.set_cons_succ]
          refine wpAnyH_ready (rs := [0, 2, 7]) (by kernel_rfl) (by simp) ?_
          refine AllReadyH.cons rfl (fun K hK => ?_) (AllReadyH.cons rfl (fun K hK => ?_) (AllReadyH.cons rfl (fun K hK => ?_) AllReadyH.nil))
          · go_simp
            have KY2 : Hid (Gm u0 (u0.alloc (.cells #[] 45)) true (some (.slice (some ⟨u0.heap.size, 0, none⟩) 0 0)) [] none none) := (unhide KY).row
            refine hK.out _ _ (trivial) (fun hS2 => ?_)
            clear hK K hS KY; have hS := hS2; clear hS2; have KY := KY2; clear KY2
            generalize u0.alloc (.cells #[] 45) = uk1 at KY hS ⊢
            generalize u0.heap.size = bk2 at KY ⊢
            refine wpAnyH_ready (rs := [2, 7]) (by kernel_rfl) (by simp) ?_
            refine AllReadyH.cons rfl (fun K hK => ?_) (AllReadyH.cons rfl (fun K hK => ?_) AllReadyH.nil)
            · have c1 := ((unhide XG).step (unhide KY).bel).cells.2.2.2
              go_simp
              refine hK.out _ _ (trivial) (fun hS2 => ?_)
              clear hK K c1 hS2
              refine wpAnyH_take (i := 4) (v := ?_) rfl (by kernel_rfl) (by kernel_rfl) (by kernel_rfl) (fun _ _ _ h => h) (Or.inl ⟨by rfl, ?_⟩) hS ?_
              rotate_left
              · intro u hu; (try dsimp only at hu); go_simp; try with_reducible rfl
              simp only [Act.put, List.getElem_toArray, List.getElem_cons_zero, List.getElem_cons_succ, List.setIfInBounds_toArray, List.set_cons_zero, List.set_cons_succ]
              refine wpAnyH_ready (rs := [5, 7]) (by kernel_rfl) (by simp) ?_
              refine AllReadyH.cons rfl (fun K hK => ?_) (AllReadyH.cons rfl (fun K hK => ?_) AllReadyH.nil)
              · rw [if_pos (by rfl)]
                refine Gm.app (unhide KY) (.inl rfl) (.tmp 53) (.tmp 57) rfl rfl (some ⟨g, off, none⟩) kk xc ((toI xs).take kk) rfl (fun h => by cases h) ((unhide HE1).below (unhide KY).bel) (by simp; omega) ?_
                intro vk5 uk4 ky2
                rw [List.nil_append] at ky2
                have KY2 : Hid (Gm u0 uk4 false (some vk5) ((toI xs).take kk) none none) := ky2
                clear ky2
                refine hK.out _ _ (trivial) (fun hS2 => ?_)
                clear hK K hS KY; have hS := hS2; clear hS2; have KY := KY2; clear KY2
                simp only [Act.put, List.getElem_toArray, List.getElem_cons_zero, List.getElem_cons_succ, List.setIfInBounds_toArray, List.set_cons_zero, List.set_cons_succ]
                refine wpAnyH_ready (rs := [7]) (by kernel_rfl) (by simp) ?_
                refine AllReadyH.cons rfl (fun K hK => ?_) AllReadyH.nil
                have c1 := ((unhide XG).step (unhide KY).bel).cells.2.2.2
                go_simp
                refine hK.out _ _ (trivial) (fun hS2 => ?_)
                clear hK K c1 hS2
                refine wpAnyH_take (i := 10) (v := ?_) rfl (by kernel_rfl) (by kernel_rfl) (by kernel_rfl) (fun _ _ _ h => h) (Or.inl ⟨by rfl, ?_⟩) hS ?_
                rotate_left
                · intro u hu; (try dsimp only at hu); go_simp; try with_reducible rfl
                simp only [Act.put, List.getElem_toArray, List.getElem_cons_zero, List.getElem_cons_succ, List.setIfInBounds_toArray, List.set_cons_zero, List.set_cons_succ]
                refine wpAnyH_ready (rs := [11]) (by kernel_rfl) (by simp) ?_
                refine AllReadyH.cons rfl (fun K hK => ?_) AllReadyH.nil
                rw [if_pos (by rfl)]
                refine Gm.app (unhide KY) (.inr rfl) (.tmp 58) (.tmp 63) rfl rfl (some ⟨g, o2, none⟩) (m - (kk + 1)) (xc - (kk + 1)) ((toI xs).drop (kk + 1)) rfl (fun h => by cases h) ((unhide HE2).below (unhide KY).bel) (by rw [List.length_take, toI_length, unhide HXL]; omega) ?_
                intro vk8 uk7 ky2
                rw [unhide HFT] at ky2
                have KY2 : Hid (Gm u0 uk7 false (some vk8) (toI fs) none none) := ky2
                clear ky2
                refine hK.out _ _ (trivial) (fun hS2 => ?_)
                clear hK K hS KY; have hS := hS2; clear hS2; have KY := KY2; clear KY2
                simp only [Act.put, List.getElem_toArray, List.getElem_cons_zero, List.getElem_cons_succ, List.setIfInBounds_toArray, List.set_cons_zero, List.set_cons_succ]
                obtain ⟨va, vc, rfl, _⟩ := es_of_owns ((unhide KY).hrow vk8 rfl) (by rw [toI_length, unhide HFL]; omega)
                rw [toI_length, unhide HFL] at KY ⊢
                refine wpAnyH_take (i := 12) (v := ?_) rfl (by kernel_rfl) (by kernel_rfl) (by kernel_rfl) (fun _ _ _ h => h) (Or.inl ⟨by rfl, ?_⟩) hS ?_
                rotate_left
                · intro u hu; (try dsimp only at hu); go_simp; try with_reducible rfl
                simp only [Act.put, List.getElem_toArray, List.getElem_cons_zero, List.getElem_cons_succ, List.setIfInBounds_toArray, List.set_cons_zero, List.set_cons_succ]
                have c1 := ((unhide XG).step (unhide KY).bel).cells.2.2.2
                have c2 := ((unhide XG).step (unhide KY).bel).fz 1
                refine wpAnyH_ready (rs := [13]) (by kernel_rfl) (by simp) ?_
                refine AllReadyH.cons rfl (fun K hK => ?_) AllReadyH.nil
                go_simp
                have KZ := hide ((unhide XG).put (unhide KY) (unhide HFL))
                refine hK.out _ _ trivial (fun hS2 => ?_)
                clear hK K hS hS2 c1 c2
                refine wpAnyH_done (by kernel_rfl) ?_ _
                go_wp2_with fail
                go_meet
                exact ⟨va, vc, by rw [unhide HFS]; exact KZ⟩
              · have c1 := ((unhide XG).step (unhide KY).bel).cells.2.2.2
                go_simp
                refine hK.out _ _ (trivial) (fun hS2 => ?_)
                clear hK K c1 hS2
                refine wpAnyH_take (i := 10) (v := ?_) rfl (by kernel_rfl) (by kernel_rfl) (by kernel_rfl) (fun _ _ _ h => h) (Or.inl ⟨by rfl, ?_⟩) hS ?_
                rotate_left
                · intro u hu; (try dsimp only at hu); go_simp; try with_reducible rfl
                simp only [Act.put, List.getElem_toArray, List.getElem_cons_zero, List.getElem_cons_succ, List.setIfInBounds_toArray, List.set_cons_zero, List.set_cons_succ]
                refine wpAnyH_ready (rs := [5]) (by kernel_rfl) (by simp) ?_
                refine AllReadyH.cons rfl (fun K hK => ?_) AllReadyH.nil
                rw [if_pos (by rfl)]
                refine Gm.app (unhide KY) (.inl rfl) (.tmp 53) (.tmp 57) rfl rfl (some ⟨g, off, none⟩) kk xc ((toI xs).take kk) rfl (fun h => by cases h) ((unhide HE1).below (unhide KY).bel) (by simp; omega) ?_
                intro vk11 uk10 ky2
                rw [List.nil_append] at ky2
                have KY2 : Hid (Gm u0 uk10 false (some vk11) ((toI xs).take kk) none none) := ky2
                clear ky2
                refine hK.out _ _ (trivial) (fun hS2 => ?_)
                clear hK K hS KY; have hS := hS2; clear hS2; have KY := KY2; clear KY2
                simp only [Act.put, List.getElem_toArray, List.getElem_cons_zero, List.getElem_cons_succ, List.setIfInBounds_toArray, List.set_cons_zero, List.set_cons_succ]
                refine wpAnyH_ready (rs := [11]) (by kernel_rfl) (by simp) ?_
                refine AllReadyH.cons rfl (fun K hK => ?_) AllReadyH.nil
                rw [if_pos (by rfl)]
                refine Gm.app (unhide KY) (.inr rfl) (.tmp 58) (.tmp 63) rfl rfl (some ⟨g, o2, none⟩) (m - (kk + 1)) (xc - (kk + 1)) ((toI xs).drop (kk + 1)) rfl (fun h => by cases h) ((unhide HE2).below (unhide KY).bel) (by rw [List.length_take, toI_length, unhide HXL]; omega) ?_
                intro vk13 uk12 ky2
                rw [unhide HFT] at ky2
                have KY2 : Hid (Gm u0 uk12 false (some vk13) (toI fs) none none) := ky2
                clear ky2
                refine hK.out _ _ (trivial) (fun hS2 => ?_)
                clear hK K hS KY; have hS := hS2; clear hS2; have KY := KY2; clear KY2
                simp only [Act.put, List.getElem_toArray, List.getElem_cons_zero, List.getElem_cons_succ, List.setIfInBounds_toArray, List.set_cons_zero, List.set_cons_succ]
                obtain ⟨va, vc, rfl, _⟩ := es_of_owns ((unhide KY).hrow vk13 rfl) (by rw [toI_length, unhide HFL]; omega)
                rw [toI_length, unhide HFL] at KY ⊢
                refine wpAnyH_take (i := 12) (v := ?_) rfl (by kernel_rfl) (by kernel_rfl) (by kernel_rfl) (fun _ _ _ h => h) (Or.inl ⟨by rfl, ?_⟩) hS ?_
                rotate_left
                · intro u hu; (try dsimp only at hu); go_simp; try with_reducible rfl
                simp only [Act.put, List.getElem_toArray, List.getElem_cons_zero, List.getElem_cons_succ, List.setIfInBounds_toArray, List.set_cons_zero, List.set_cons_succ]
                have c1 := ((unhide XG).step (unhide KY).bel).cells.2.2.2
                have c2 := ((unhide XG).step (unhide KY).bel).fz 1
                refine wpAnyH_ready (rs := [13]) (by kernel_rfl) (by simp) ?_
                refine AllReadyH.cons rfl (fun K hK => ?_) AllReadyH.nil
                go_simp
                have KZ := hide ((unhide XG).put (unhide KY) (unhide HFL))
                refine hK.out _ _ trivial (fun hS2 => ?_)
                clear hK K hS hS2 c1 c2
                refine wpAnyH_done (by kernel_rfl) ?_ _
                go_wp2_with fail
                go_meet
                exact ⟨va, vc, by rw [unhide HFS]; exact KZ⟩
            · have c1 := ((unhide XG).step (unhide KY).bel).cells.2.2.2
              go_simp
              refine hK.out _ _ (trivial) (fun hS2 => ?_)
              clear hK K c1 hS2
              refine wpAnyH_take (i := 10) (v := ?_) rfl (by kernel_rfl) (by kernel_rfl) (by kernel_rfl) (fun _ _ _ h => h) (Or.inl ⟨by rfl, ?_⟩) hS ?_
              rotate_left
              · intro u hu; (try dsimp only at hu); go_simp; try with_reducible rfl
              simp only [Act.put, List.getElem_toArray, List.getElem_cons_zero, List.getElem_cons_succ, List.setIfInBounds_toArray, List.set_cons_zero, List.set_cons_succ]
              refine wpAnyH_ready (rs := [2]) (by kernel_rfl) (by simp) ?_
              refine AllReadyH.cons rfl (fun K hK => ?_) AllReadyH.nil
              have c1 := ((unhide XG).step (unhide KY).bel).cells.2.2.2
              go_simp
              refine hK.out _ _ (trivial) (fun hS2 => ?_)
              clear hK K c1 hS2
              refine wpAnyH_take (i := 4) (v := ?_) rfl (by kernel_rfl) (by kernel_rfl) (by kernel_rfl) (fun _ _ _ h => h) (Or.inl ⟨by rfl, ?_⟩) hS ?_
              rotate_left
              · intro u hu; (try dsimp only at hu); go_simp; try with_reducible rfl
              simp only [Act.put, List.getElem_toArray, List.getElem_cons_zero, List.getElem_cons_succ, List.setIfInBounds_toArray, List.set_cons_zero, List.set_cons_succ]
              refine wpAnyH_ready (rs := [5]) (by kernel_rfl) (by simp) ?_
              refine AllReadyH.cons rfl (fun K hK => ?_) AllReadyH.nil
              rw [if_pos (by rfl)]
              refine Gm.app (unhide KY) (.inl rfl) (.tmp 53) (.tmp 57) rfl rfl (some ⟨g, off, none⟩) kk xc ((toI xs).take kk) rfl (fun h => by cases h) ((unhide HE1).below (unhide KY).bel) (by simp; omega) ?_
              intro vk17 uk16 ky2
              rw [List.nil_append] at ky2
              have KY2 : Hid (Gm u0 uk16 false (some vk17) ((toI xs).take kk) none none) := ky2
              clear ky2
              refine hK.out _ _ (trivial) (fun hS2 => ?_)
              clear hK K hS KY; have hS := hS2; clear hS2; have KY := KY2; clear KY2
              simp only [Act.put, List.getElem_toArray, List.getElem_cons_zero, List.getElem_cons_succ, List.setIfInBounds_toArray, List.set_cons_zero, List.set_cons_succ]
              refine wpAnyH_ready (rs := [11]) (by kernel_rfl) (by simp) ?_
              refine AllReadyH.cons rfl (fun K hK => ?_) AllReadyH.nil
              rw [if_pos (by rfl)]
              refine Gm.app (unhide KY) (.inr rfl) (.tmp 58) (.tmp 63) rfl rfl (some ⟨g, o2, none⟩) (m - (kk + 1)) (xc - (kk + 1)) ((toI xs).drop (kk + 1)) rfl (fun h => by cases h) ((unhide HE2).below (unhide KY).bel) (by rw [List.length_take, toI_length, unhide HXL]; omega) ?_
              intro vk19 uk18 ky2
              rw [unhide HFT] at ky2
              have KY2 : Hid (Gm u0 uk18 false (some vk19) (toI fs) none none) := ky2
              clear ky2
              refine hK.out _ _ (trivial) (fun hS2 => ?_)
              clear hK K hS KY; have hS := hS2; clear hS2; have KY := KY2; clear KY2
              simp only [Act.put, List.getElem_toArray, List.getElem_cons_zero, List.getElem_cons_succ, List.setIfInBounds_toArray, List.set_cons_zero, List.set_cons_succ]
              obtain ⟨va, vc, rfl, _⟩ := es_of_owns ((unhide KY).hrow vk19 rfl) (by rw [toI_length, unhide HFL]; omega)
              rw [toI_length, unhide HFL] at KY ⊢
              refine wpAnyH_take (i := 12) (v := ?_) rfl (by kernel_rfl) (by kernel_rfl) (by kernel_rfl) (fun _ _ _ h => h) (Or.inl ⟨by rfl, ?_⟩) hS ?_
              rotate_left
              · intro u hu; (try dsimp only at hu); go_simp; try with_reducible rfl
              simp only [Act.put, List.getElem_toArray, List.getElem_cons_zero, List.getElem_cons_succ, List.setIfInBounds_toArray, List.set_cons_zero, List.set_cons_succ]
              have c1 := ((unhide XG).step (unhide KY).bel).cells.2.2.2
              have c2 := ((unhide XG).step (unhide KY).bel).fz 1
              refine wpAnyH_ready (rs := [13]) (by kernel_rfl) (by simp) ?_
              refine AllReadyH.cons rfl (fun K hK => ?_) AllReadyH.nil
              go_simp
              have KZ := hide ((unhide XG).put (unhide KY) (unhide HFL))
              refine hK.out _ _ trivial (fun hS2 => ?_)
              clear hK K hS hS2 c1 c2
              refine wpAnyH_done (by kernel_rfl) ?_ _
              go_wp2_with fail
              go_meet
              exact ⟨va, vc, by rw [unhide HFS]; exact KZ⟩
          · have c1 := ((unhide XG).step (unhide KY).bel).cells.2.2.2
            go_simp
            refine hK.out _ _ (trivial) (fun hS2 => ?_)
            clear hK K c1 hS2
            refine wpAnyH_take (i := 4) (v := ?_) rfl (by kernel_rfl) (by kernel_rfl) (by kernel_rfl) (fun _ _ _ h => h) (Or.inl ⟨by rfl, ?_⟩) hS ?_
            rotate_left
            · intro u hu; (try dsimp only at hu); go_simp; try with_reducible rfl
            simp only [Act.put, List.getElem_toArray, List.getElem_cons_zero, List.getElem_cons_succ, List.setIfInBounds_toArray, List.set_cons_zero, List.set_cons_succ]
            refine wpAnyH_ready (rs := [0, 7]) (by kernel_rfl) (by simp) ?_
            refine AllReadyH.cons rfl (fun K hK => ?_) (AllReadyH.cons rfl (fun K hK => ?_) AllReadyH.nil)
            · go_simp
              have KY2 : Hid (Gm u0 (u0.alloc (.cells #[] 45)) true (some (.slice (some ⟨u0.heap.size, 0, none⟩) 0 0)) [] none none) := (unhide KY).row
              refine hK.out _ _ (trivial) (fun hS2 => ?_)
              clear hK K hS KY; have hS := hS2; clear hS2; have KY := KY2; clear KY2
              generalize u0.alloc (.cells #[] 45) = uk21 at KY hS ⊢
              generalize u0.heap.size = bk22 at KY ⊢
              refine wpAnyH_ready (rs := [5, 7]) (by kernel_rfl) (by simp) ?_
              refine AllReadyH.cons rfl (fun K hK => ?_) (AllReadyH.cons rfl (fun K hK => ?_) AllReadyH.nil)
              · rw [if_pos (by rfl)]
                refine Gm.app (unhide KY) (.inl rfl) (.tmp 53) (.tmp 57) rfl rfl (some ⟨g, off, none⟩) kk xc ((toI xs).take kk) rfl (fun h => by cases h) ((unhide HE1).below (unhide KY).bel) (by simp; omega) ?_
                intro vk24 uk23 ky2
                rw [List.nil_append] at ky2
                have KY2 : Hid (Gm u0 uk23 false (some vk24) ((toI xs).take kk) none none) := ky2
                clear ky2
                refine hK.out _ _ (trivial) (fun hS2 => ?_)
                clear hK K hS KY; have hS := hS2; clear hS2; have KY := KY2; clear KY2
                simp only [Act.put, List.getElem_toArray, List.getElem_cons_zero, List.getElem_cons_succ, List.setIfInBounds_toArray, List.set_cons_zero, List.set_cons_succ]
                refine wpAnyH_ready (rs := [7]) (by kernel_rfl) (by simp) ?_
                refine AllReadyH.cons rfl (fun K hK => ?_) AllReadyH.nil
                have c1 := ((unhide XG).step (unhide KY).bel).cells.2.2.2
                go_simp
                refine hK.out _ _ (trivial) (fun hS2 => ?_)
                clear hK K c1 hS2
                refine wpAnyH_take (i := 10) (v := ?_) rfl (by kernel_rfl) (by kernel_rfl) (by kernel_rfl) (fun _ _ _ h => h) (Or.inl ⟨by rfl, ?_⟩) hS ?_
                rotate_left
                · intro u hu; (try dsimp only at hu); go_simp; try with_reducible rfl
                simp only [Act.put, List.getElem_toArray, List.getElem_cons_zero, List.getElem_cons_succ, List.setIfInBounds_toArray, List.set_cons_zero, List.set_cons_succ]
                refine wpAnyH_ready (rs := [11]) (by kernel_rfl) (by simp) ?_
                refine AllReadyH.cons rfl (fun K hK => ?_) AllReadyH.nil
                rw [if_pos (by rfl)]
                refine Gm.app (unhide KY) (.inr rfl) (.tmp 58) (.tmp 63) rfl rfl (some ⟨g, o2, none⟩) (m - (kk + 1)) (xc - (kk + 1)) ((toI xs).drop (kk + 1)) rfl (fun h => by cases h) ((unhide HE2).below (unhide KY).bel) (by rw [List.length_take, toI_length, unhide HXL]; omega) ?_
                intro vk27 uk26 ky2
                rw [unhide HFT] at ky2
                have KY2 : Hid (Gm u0 uk26 false (some vk27) (toI fs) none none) := ky2
                clear ky2
                refine hK.out _ _ (trivial) (fun hS2 => ?_)
                clear hK K hS KY; have hS := hS2; clear hS2; have KY := KY2; clear KY2
                simp only [Act.put, List.getElem_toArray, List.getElem_cons_zero, List.getElem_cons_succ, List.setIfInBounds_toArray, List.set_cons_zero, List.set_cons_succ]
                obtain ⟨va, vc, rfl, _⟩ := es_of_owns ((unhide KY).hrow vk27 rfl) (by rw [toI_length, unhide HFL]; omega)
                rw [toI_length, unhide HFL] at KY ⊢
                refine wpAnyH_take (i := 12) (v := ?_) rfl (by kernel_rfl) (by kernel_rfl) (by kernel_rfl) (fun _ _ _ h => h) (Or.inl ⟨by rfl, ?_⟩) hS ?_
                rotate_left
                · intro u hu; (try dsimp only at hu); go_simp; try with_reducible rfl
                simp only [Act.put, List.getElem_toArray, List.getElem_cons_zero, List.getElem_cons_succ, List.setIfInBounds_toArray, List.set_cons_zero, List.set_cons_succ]
                have c1 := ((unhide XG).step (unhide KY).bel).cells.2.2.2
                have c2 := ((unhide XG).step (unhide KY).bel).fz 1
                refine wpAnyH_ready (rs := [13]) (by kernel_rfl) (by simp) ?_
                refine AllReadyH.cons rfl (fun K hK => ?_) AllReadyH.nil
                go_simp
                have KZ := hide ((unhide XG).put (unhide KY) (unhide HFL))
                refine hK.out _ _ trivial (fun hS2 => ?_)
                clear hK K hS hS2 c1 c2
                refine wpAnyH_done (by kernel_rfl) ?_ _
                go_wp2_with fail
                go_meet
                exact ⟨va, vc, by rw [unhide HFS]; exact KZ⟩
              · have c1 := ((unhide XG).step (unhide KY).bel).cells.2.2.2
                go_simp
                refine hK.out _ _ (trivial) (fun hS2 => ?_)
                clear hK K c1 hS2
                refine wpAnyH_take (i := 10) (v := ?_) rfl (by kernel_rfl) (by kernel_rfl) (by kernel_rfl) (fun _ _ _ h => h) (Or.inl ⟨by rfl, ?_⟩) hS ?_
                rotate_left
                · intro u hu; (try dsimp only at hu); go_simp; try with_reducible rfl
                simp only [Act.put, List.getElem_toArray, List.getElem_cons_zero, List.getElem_cons_succ, List.setIfInBounds_toArray, List.set_cons_zero, List.set_cons_succ]
                refine wpAnyH_ready (rs := [5]) (by kernel_rfl) (by simp) ?_
                refine AllReadyH.cons rfl (fun K hK => ?_) AllReadyH.nil
                rw [if_pos (by rfl)]
                refine Gm.app (unhide KY) (.inl rfl) (.tmp 53) (.tmp 57) rfl rfl (some ⟨g, off, none⟩) kk xc ((toI xs).take kk) rfl (fun h => by cases h) ((unhide HE1).below (unhide KY).bel) (by simp; omega) ?_
                intro vk30 uk29 ky2
                rw [List.nil_append] at ky2
                have KY2 : Hid (Gm u0 uk29 false (some vk30) ((toI xs).take kk) none none) := ky2
                clear ky2
                refine hK.out _ _ (trivial) (fun hS2 => ?_)
                clear hK K hS KY; have hS := hS2; clear hS2; have KY := KY2; clear KY2
                simp only [Act.put, List.getElem_toArray, List.getElem_cons_zero, List.getElem_cons_succ, List.setIfInBounds_toArray, List.set_cons_zero, List.set_cons_succ]
                refine wpAnyH_ready (rs := [11]) (by kernel_rfl) (by simp) ?_
                refine AllReadyH.cons rfl (fun K hK => ?_) AllReadyH.nil
                rw [if_pos (by rfl)]
                refine Gm.app (unhide KY) (.inr rfl) (.tmp 58) (.tmp 63) rfl rfl (some ⟨g, o2, none⟩) (m - (kk + 1)) (xc - (kk + 1)) ((toI xs).drop (kk + 1)) rfl (fun h => by cases h) ((unhide HE2).below (unhide KY).bel) (by rw [List.length_take, toI_length, unhide HXL]; omega) ?_
                intro vk32 uk31 ky2
                rw [unhide HFT] at ky2
                have KY2 : Hid (Gm u0 uk31 false (some vk32) (toI fs) none none) := ky2
                clear ky2
                refine hK.out _ _ (trivial) (fun hS2 => ?_)
                clear hK K hS KY; have hS := hS2; clear hS2; have KY := KY2; clear KY2
                simp only [Act.put, List.getElem_toArray, List.getElem_cons_zero, List.getElem_cons_succ, List.setIfInBounds_toArray, List.set_cons_zero, List.set_cons_succ]
                obtain ⟨va, vc, rfl, _⟩ := es_of_owns ((unhide KY).hrow vk32 rfl) (by rw [toI_length, unhide HFL]; omega)
                rw [toI_length, unhide HFL] at KY ⊢
                refine wpAnyH_take (i := 12) (v := ?_) rfl (by kernel_rfl) (by kernel_rfl) (by kernel_rfl) (fun _ _ _ h => h) (Or.inl ⟨by rfl, ?_⟩) hS ?_
                rotate_left
                · intro u hu; (try dsimp only at hu); go_simp; try with_reducible rfl
                simp only [Act.put, List.getElem_toArray, List.getElem_cons_zero, List.getElem_cons_succ, List.setIfInBounds_toArray, List.set_cons_zero, List.set_cons_succ]
                have c1 := ((unhide XG).step (unhide KY).bel).cells.2.2.2
                have c2 := ((unhide XG).step (unhide KY).bel).fz 1
                refine wpAnyH_ready (rs := [13]) (by kernel_rfl) (by simp) ?_
                refine AllReadyH.cons rfl (fun K hK => ?_) AllReadyH.nil
                go_simp
                have KZ := hide ((unhide XG).put (unhide KY) (unhide HFL))
                refine hK.out _ _ trivial (fun hS2 => ?_)
                clear hK K hS hS2 c1 c2
                refine wpAnyH_done (by kernel_rfl) ?_ _
                go_wp2_with fail
                go_meet
                exact ⟨va, vc, by rw [unhide HFS]; exact KZ⟩
            · have c1 := ((unhide XG).step (unhide KY).bel).cells.2.2.2
              go_simp
              refine hK.out _ _ (trivial) (fun hS2 => ?_)
              clear hK K c1 hS2
              refine wpAnyH_take (i := 10) (v := ?_) rfl (by kernel_rfl) (by kernel_rfl) (by kernel_rfl) (fun _ _ _ h => h) (Or.inl ⟨by rfl, ?_⟩) hS ?_
              rotate_left
              · intro u hu; (try dsimp only at hu); go_simp; try with_reducible rfl
              simp only [Act.put, List.getElem_toArray, List.getElem_cons_zero, List.getElem_cons_succ, List.setIfInBounds_toArray, List.set_cons_zero, List.set_cons_succ]
              refine wpAnyH_ready (rs := [0]) (by kernel_rfl) (by simp) ?_
              refine AllReadyH.cons rfl (fun K hK => ?_) AllReadyH.nil
              go_simp
              have KY2 : Hid (Gm u0 (u0.alloc (.cells #[] 45)) true (some (.slice (some ⟨u0.heap.size, 0, none⟩) 0 0)) [] none none) := (unhide KY).row
              refine hK.out _ _ (trivial) (fun hS2 => ?_)
              clear hK K hS KY; have hS := hS2; clear hS2; have KY := KY2; clear KY2
              generalize u0.alloc (.cells #[] 45) = uk34 at KY hS ⊢
              generalize u0.heap.size = bk35 at KY ⊢
              refine wpAnyH_ready (rs := [5]) (by kernel_rfl) (by simp) ?_
              refine AllReadyH.cons rfl (fun K hK => ?_) AllReadyH.nil
              rw [if_pos (by rfl)]
              refine Gm.app (unhide KY) (.inl rfl) (.tmp 53) (.tmp 57) rfl rfl (some ⟨g, off, none⟩) kk xc ((toI xs).take kk) rfl (fun h => by cases h) ((unhide HE1).below (unhide KY).bel) (by simp; omega) ?_
              intro vk37 uk36 ky2
              rw [List.nil_append] at ky2
              have KY2 : Hid (Gm u0 uk36 false (some vk37) ((toI xs).take kk) none none) := ky2
              clear ky2
              refine hK.out _ _ (trivial) (fun hS2 => ?_)
              clear hK K hS KY; have hS := hS2; clear hS2; have KY := KY2; clear KY2
              simp only [Act.put, List.getElem_toArray, List.getElem_cons_zero, List.getElem_cons_succ, List.setIfInBounds_toArray, List.set_cons_zero, List.set_cons_succ]
              refine wpAnyH_ready (rs := [11]) (by kernel_rfl) (by simp) ?_
              refine AllReadyH.cons rfl (fun K hK => ?_) AllReadyH.nil
              rw [if_pos (by rfl)]
              refine Gm.app (unhide KY) (.inr rfl) (.tmp 58) (.tmp 63) rfl rfl (some ⟨g, o2, none⟩) (m - (kk + 1)) (xc - (kk + 1)) ((toI xs).drop (kk + 1)) rfl (fun h => by cases h) ((unhide HE2).below (unhide KY).bel) (by rw [List.length_take, toI_length, unhide HXL]; omega) ?_
              intro vk39 uk38 ky2
              rw [unhide HFT] at ky2
              have KY2 : Hid (Gm u0 uk38 false (some vk39) (toI fs) none none) := ky2
              clear ky2
              refine hK.out _ _ (trivial) (fun hS2 => ?_)
              clear hK K hS KY; have hS := hS2; clear hS2; have KY := KY2; clear KY2
              simp only [Act.put, List.getElem_toArray, List.getElem_cons_zero, List.getElem_cons_succ, List.setIfInBounds_toArray, List.set_cons_zero, List.set_cons_succ]
              obtain ⟨va, vc, rfl, _⟩ := es_of_owns ((unhide KY).hrow vk39 rfl) (by rw [toI_length, unhide HFL]; omega)
              rw [toI_length, unhide HFL] at KY ⊢
              refine wpAnyH_take (i := 12) (v := ?_) rfl (by kernel_rfl) (by kernel_rfl) (by kernel_rfl) (fun _ _ _ h => h) (Or.inl ⟨by rfl, ?_⟩) hS ?_
              rotate_left
              · intro u hu; (try dsimp only at hu); go_simp; try with_reducible rfl
              simp only [Act.put, List.getElem_toArray, List.getElem_cons_zero, List.getElem_cons_succ, List.setIfInBounds_toArray, List.set_cons_zero, List.set_cons_succ]
              have c1 := ((unhide XG).step (unhide KY).bel).cells.2.2.2
              have c2 := ((unhide XG).step (unhide KY).bel).fz 1
              refine wpAnyH_ready (rs := [13]) (by kernel_rfl) (by simp) ?_
              refine AllReadyH.cons rfl (fun K hK => ?_) AllReadyH.nil
              go_simp
              have KZ := hide ((unhide XG).put (unhide KY) (unhide HFL))
              refine hK.out _ _ trivial (fun hS2 => ?_)
              clear hK K hS hS2 c1 c2
              refine wpAnyH_done (by kernel_rfl) ?_ _
              go_wp2_with fail
              go_meet
              exact ⟨va, vc, by rw [unhide HFS]; exact KZ⟩
          · have c1 := ((unhide XG).step (unhide KY).bel).cells.2.2.2
            go_simp
            refine hK.out _ _ (trivial) (fun hS2 => ?_)
            clear hK K c1 hS2
            refine wpAnyH_take (i := 10) (v := ?_) rfl (by kernel_rfl) (by kernel_rfl) (by kernel_rfl) (fun _ _ _ h => h) (Or.inl ⟨by rfl, ?_⟩) hS ?_
            rotate_left
            · intro u hu; (try dsimp only at hu); go_simp; try with_reducible rfl
            simp only [Act.put, List.getElem_toArray, List.getElem_cons_zero, List.getElem_cons_succ, List.setIfInBounds_toArray, List.set_cons_zero, List.set_cons_succ]
            refine wpAnyH_ready (rs := [0, 2]) (by kernel_rfl) (by simp) ?_
            refine AllReadyH.cons rfl (fun K hK => ?_) (AllReadyH.cons rfl (fun K hK => ?_) AllReadyH.nil)
            · go_simp
              have KY2 : Hid (Gm u0 (u0.alloc (.cells #[] 45)) true (some (.slice (some ⟨u0.heap.size, 0, none⟩) 0 0)) [] none none) := (unhide KY).row
              refine hK.out _ _ (trivial) (fun hS2 => ?_)
              clear hK K hS KY; have hS := hS2; clear hS2; have KY := KY2; clear KY2
              generalize u0.alloc (.cells #[] 45) = uk41 at KY hS ⊢
              generalize u0.heap.size = bk42 at KY ⊢
              refine wpAnyH_ready (rs := [2]) (by kernel_rfl) (by simp) ?_
              refine AllReadyH.cons rfl (fun K hK => ?_) AllReadyH.nil
              have c1 := ((unhide XG).step (unhide KY).bel).cells.2.2.2
              go_simp
              refine hK.out _ _ (trivial) (fun hS2 => ?_)
              clear hK K c1 hS2
              refine wpAnyH_take (i := 4) (v := ?_) rfl (by kernel_rfl) (by kernel_rfl) (by kernel_rfl) (fun _ _ _ h => h) (Or.inl ⟨by rfl, ?_⟩) hS ?_
              rotate_left
              · intro u hu; (try dsimp only at hu); go_simp; try with_reducible rfl
              simp only [Act.put, List.getElem_toArray, List.getElem_cons_zero, List.getElem_cons_succ, List.setIfInBounds_toArray, List.set_cons_zero, List.set_cons_succ]
              refine wpAnyH_ready (rs := [5]) (by kernel_rfl) (by simp) ?_
              refine AllReadyH.cons rfl (fun K hK => ?_) AllReadyH.nil
              rw [if_pos (by rfl)]
              refine Gm.app (unhide KY) (.inl rfl) (.tmp 53) (.tmp 57) rfl rfl (some ⟨g, off, none⟩) kk xc ((toI xs).take kk) rfl (fun h => by cases h) ((unhide HE1).below (unhide KY).bel) (by simp; omega) ?_
              intro vk45 uk44 ky2
              rw [List.nil_append] at ky2
              have KY2 : Hid (Gm u0 uk44 false (some vk45) ((toI xs).take kk) none none) := ky2
              clear ky2
              refine hK.out _ _ (trivial) (fun hS2 => ?_)
              clear hK K hS KY; have hS := hS2; clear hS2; have KY := KY2; clear KY2
              simp only [Act.put, List.getElem_toArray, List.getElem_cons_zero, List.getElem_cons_succ, List.setIfInBounds_toArray, List.set_cons_zero, List.set_cons_succ]
              refine wpAnyH_ready (rs := [11]) (by kernel_rfl) (by simp) ?_
              refine AllReadyH.cons rfl (fun K hK => ?_) AllReadyH.nil
              rw [if_pos (by rfl)]
              refine Gm.app (unhide KY) (.inr rfl) (.tmp 58) (.tmp 63) rfl rfl (some ⟨g, o2, none⟩) (m - (kk + 1)) (xc - (kk + 1)) ((toI xs).drop (kk + 1)) rfl (fun h => by cases h) ((unhide HE2).below (unhide KY).bel) (by rw [List.length_take, toI_length, unhide HXL]; omega) ?_
              intro vk47 uk46 ky2
              rw [unhide HFT] at ky2
              have KY2 : Hid (Gm u0 uk46 false (some vk47) (toI fs) none none) := ky2
              clear ky2
              refine hK.out _ _ (trivial) (fun hS2 => ?_)
              clear hK K hS KY; have hS := hS2; clear hS2; have KY := KY2; clear KY2
              simp only [Act.put, List.getElem_toArray, List.getElem_cons_zero, List.getElem_cons_succ, List.setIfInBounds_toArray, List.set_cons_zero, List.set_cons_succ]
              obtain ⟨va, vc, rfl, _⟩ := es_of_owns ((unhide KY).hrow vk47 rfl) (by rw [toI_length, unhide HFL]; omega)
              rw [toI_length, unhide HFL] at KY ⊢
              refine wpAnyH_take (i := 12) (v := ?_) rfl (by kernel_rfl) (by kernel_rfl) (by kernel_rfl) (fun _ _ _ h => h) (Or.inl ⟨by rfl, ?_⟩) hS ?_
              rotate_left
              · intro u hu; (try dsimp only at hu); go_simp; try with_reducible rfl
              simp only [Act.put, List.getElem_toArray, List.getElem_cons_zero, List.getElem_cons_succ, List.setIfInBounds_toArray, List.set_cons_zero, List.set_cons_succ]
              have c1 := ((unhide XG).step (unhide KY).bel).cells.2.2.2
              have c2 := ((unhide XG).step (unhide KY).bel).fz 1
              refine wpAnyH_ready (rs := [13]) (by kernel_rfl) (by simp) ?_
              refine AllReadyH.cons rfl (fun K hK => ?_) AllReadyH.nil
              go_simp
              have KZ := hide ((unhide XG).put (unhide KY) (unhide HFL))
              refine hK.out _ _ trivial (fun hS2 => ?_)
              clear hK K hS hS2 c1 c2
              refine wpAnyH_done (by kernel_rfl) ?_ _
              go_wp2_with fail
              go_meet
              exact ⟨va, vc, by rw [unhide HFS]; exact KZ⟩
            · have c1 := ((unhide XG).step (unhide KY).bel).cells.2.2.2
              go_simp
              refine hK.out _ _ (trivial) (fun hS2 => ?_)
              clear hK K c1 hS2
              refine wpAnyH_take (i := 4) (v := ?_) rfl (by kernel_rfl) (by kernel_rfl) (by kernel_rfl) (fun _ _ _ h => h) (Or.inl ⟨by rfl, ?_⟩) hS ?_
              rotate_left
              · intro u hu; (try dsimp only at hu); go_simp; try with_reducible rfl
              simp only [Act.put, List.getElem_toArray, List.getElem_cons_zero, List.getElem_cons_succ, List.setIfInBounds_toArray, List.set_cons_zero, List.set_cons_succ]
              refine wpAnyH_ready (rs := [0]) (by kernel_rfl) (by simp) ?_
              refine AllReadyH.cons rfl (fun K hK => ?_) AllReadyH.nil
              go_simp
              have KY2 : Hid (Gm u0 (u0.alloc (.cells #[] 45)) true (some (.slice (some ⟨u0.heap.size, 0, none⟩) 0 0)) [] none none) := (unhide KY).row
              refine hK.out _ _ (trivial) (fun hS2 => ?_)
              clear hK K hS KY; have hS := hS2; clear hS2; have KY := KY2; clear KY2
              generalize u0.alloc (.cells #[] 45) = uk49 at KY hS ⊢
              generalize u0.heap.size = bk50 at KY ⊢
              refine wpAnyH_ready (rs := [5]) (by kernel_rfl) (by simp) ?_
              refine AllReadyH.cons rfl (fun K hK => ?_) AllReadyH.nil
              rw [if_pos (by rfl)]
              refine Gm.app (unhide KY) (.inl rfl) (.tmp 53) (.tmp 57) rfl rfl (some ⟨g, off, none⟩) kk xc ((toI xs).take kk) rfl (fun h => by cases h) ((unhide HE1).below (unhide KY).bel) (by simp; omega) ?_
              intro vk52 uk51 ky2
              rw [List.nil_append] at ky2
              have KY2 : Hid (Gm u0 uk51 false (some vk52) ((toI xs).take kk) none none) := ky2
              clear ky2
              refine hK.out _ _ (trivial) (fun hS2 => ?_)
              clear hK K hS KY; have hS := hS2; clear hS2; have KY := KY2; clear KY2
              simp only [Act.put, List.getElem_toArray, List.getElem_cons_zero, List.getElem_cons_succ, List.setIfInBounds_toArray, List.set_cons_zero, List.set_cons_succ]
              refine wpAnyH_ready (rs := [11]) (by kernel_rfl) (by simp) ?_
              refine AllReadyH.cons rfl (fun K hK => ?_) AllReadyH.nil
              rw [if_pos (by rfl)]
              refine Gm.app (unhide KY) (.inr rfl) (.tmp 58) (.tmp 63) rfl rfl (some ⟨g, o2, none⟩) (m - (kk + 1)) (xc - (kk + 1)) ((toI xs).drop (kk + 1)) rfl (fun h => by cases h) ((unhide HE2).below (unhide KY).bel) (by rw [List.length_take, toI_length, unhide HXL]; omega) ?_
              intro vk54 uk53 ky2
              rw [unhide HFT] at ky2
              have KY2 : Hid (Gm u0 uk53 false (some vk54) (toI fs) none none) := ky2
              clear ky2
              refine hK.out _ _ (trivial) (fun hS2 => ?_)
              clear hK K hS KY; have hS := hS2; clear hS2; have KY := KY2; clear KY2
              simp only [Act.put, List.getElem_toArray, List.getElem_cons_zero, List.getElem_cons_succ, List.setIfInBounds_toArray, List.set_cons_zero, List.set_cons_succ]
              obtain ⟨va, vc, rfl, _⟩ := es_of_owns ((unhide KY).hrow vk54 rfl) (by rw [toI_length, unhide HFL]; omega)
              rw [toI_length, unhide HFL] at KY ⊢
              refine wpAnyH_take (i := 12) (v := ?_) rfl (by kernel_rfl) (by kernel_rfl) (by kernel_rfl) (fun _ _ _ h => h) (Or.inl ⟨by rfl, ?_⟩) hS ?_
              rotate_left
              · intro u hu; (try dsimp only at hu); go_simp; try with_reducible rfl
              simp only [Act.put, List.getElem_toArray, List.getElem_cons_zero, List.getElem_cons_succ, List.setIfInBounds_toArray, List.set_cons_zero, List.set_cons_succ]
              have c1 := ((unhide XG).step (unhide KY).bel).cells.2.2.2
              have c2 := ((unhide XG).step (unhide KY).bel).fz 1
              refine wpAnyH_ready (rs := [13]) (by kernel_rfl) (by simp) ?_
              refine AllReadyH.cons rfl (fun K hK => ?_) AllReadyH.nil
              go_simp
              have KZ := hide ((unhide XG).put (unhide KY) (unhide HFL))
              refine hK.out _ _ trivial (fun hS2 => ?_)
              clear hK K hS hS2 c1 c2
              refine wpAnyH_done (by kernel_rfl) ?_ _
              go_wp2_with fail
              go_meet
              exact ⟨va, vc, by rw [unhide HFS]; exact KZ⟩
        case rest =>
          obtain ⟨va, vc, HG5⟩ := hcut
          clear q0 q1 q2 q3 cl
          obtain ⟨q0, q1, q2, q3⟩ := (unhide HG5).cells
          obtain ⟨hmc5, _, _⟩ := owns_slice (unhide HG5).row
          have hPX5 := but_plain (unhide HPX) (i := kk) (by rw [(unhide HG).len]; exact hkm)
          have hSR5 := (unhide HSR).but (by rw [(unhide HG).len]; exact hkm) (unhide HTR)
          go_wp2_with fail
          refine (unhide HTRA wc ((unhide HT).below (unhide HG5).bg.bel) va (m - 1) vc (but xs kk) ((unhide HG5).es (by omega)) hmc5 (unhide HG5).len hPX5).mono ?_
          rintro e w6 ⟨⟨la6, ll6, lc6, l6, rfl, hl6, hll6, hns6⟩, hb6⟩
          have HG6 := hide ((unhide HG5).step hb6)
          have HL6 := hide hl6
          have HLL6 := hide hll6
          have HNS6 := hide hns6
          have hlle6 := hl6.len
          rw [hll6] at hlle6
          clear hb6 hl6 hll6 hns6 q0 q1 q2 q3
          go_wp2_with fail
          go_roundw
          case rel => exact ⟨va, m - 1, vc, but xs kk, la6, ll6, lc6, l6, rfl, by omega, hlle6, HG6, hPX5, hSR5, HL6, HLL6, HNS6⟩
          case measure =>
            rw [(unhide HG6).mOf, unhide HMO]
            omega

set_option maxHeartbeats 1000000 in
theorem good_early (w : World) (hT : Tab w) (V : Int) (a : Option Addr) (n cap : Nat) (r : Bool)
    (hM : ∀ u, Below w.heap.size w u → Calls Tryd.prog 13 #[.agg #[.int .i64 V, .slice a n cap]] u fun e w' => e = .returned (.bool r) ∧ Below u.heap.size u w') (hr : r = false ∨ 40 < n) :
    Calls Tryd.prog 5 #[.agg #[.int .i64 V, .slice a n cap]] w fun e w' => e = .returned (.bool true) ∧ Below w.heap.size w w' := by
  have HT := hide hT
  have HM := hide hM
  have HB0 := hide (Bg.start w (.int .i64 V) (.slice a n cap))
  clear hT hM
  go_enter Tryd.func5, Tryd.ntmps5
  go_wp2_with fail
  refine (speaks_any _ ((unhide HT).below (unhide HB0).bel)).mono ?_
  rintro e w1 ⟨rfl, hb1⟩
  have HB1 := hide ((unhide HB0).step hb1)
  obtain ⟨g0, g1⟩ := (unhide HB1).cells
  clear hb1 HB0
  go_wp2_with fail
  refine (unhide HM _ (unhide HB1).bel).mono ?_
  rintro e w2 ⟨rfl, hb2⟩
  have HB2 := hide ((unhide HB1).step hb2)
  clear hb2 HB1 g0 g1
  obtain ⟨g0, g1⟩ := (unhide HB2).cells
  cases r with
  | false =>
    go_wp2_with fail
    go_ret
    exact ⟨rfl, (unhide HB2).bel⟩
  | true =>
    have hn : 40 < n := by
      rcases hr with h | h
      · cases h
      · exact h
    have hn2 : (40 : Int) < (n : Int) := by omega
    go_wp2_with fail
    go_ret
    exact ⟨rfl, (unhide HB2).bel⟩
theorem good_any (w : World) (hT : Tab w) (V : Int) (a : Option Addr) (n cap : Nat) (zs : List (Int × Int)) (hnil : a = none → n = 0 ∧ cap = 0) (h : 200 < n ∨ Es 0 w a n zs) :
    Calls Tryd.prog 5 #[.agg #[.int .i64 V, .slice a n cap]] w fun e w' => e = .returned (.bool true) ∧ Below w.heap.size w w' := by
  rcases h with h | h
  · exact good_early w hT V a n cap false (fun u _ => refmay_big u V a n cap (by omega)) (.inl rfl)
  · by_cases hg : Good V n zs
    · obtain ⟨v, es, rfl, rfl, hn, hp⟩ := plain_of_good h.1 hg
      by_cases h40 : 40 < n
      · exact good_early w hT v a n cap true (fun u hu => refmay_yes u v a n cap es (h.below hu) hn.symm hp) (.inr h40)
      · exact good_walk w hT v a n cap es h hn.symm hnil hp (by omega)
    · exact good_early w hT V a n cap false (fun u hu => refmay_no u V a n cap zs (h.below hu) hg) (.inl rfl)
end Go.Proofs.YtjklmbboklgdpaaDoor


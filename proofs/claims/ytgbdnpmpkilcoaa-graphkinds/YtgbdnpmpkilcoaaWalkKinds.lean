/-
  The walk of the statement GraphKinds under new names. Conditions: its arguments lie in memory as their reading says.
-/
import Derived.Test.YtgbdnpmpkilcoaaWalkKinds1
import Derived.Test.YtgbdnpmpkilcoaaViewsP
import Derived.Test.YtgbdnpmpkilcoaaKindsM
import Derived.Test.YtgbdnpmpkilcoaaRen2
import Derived.Test.YtgbdnpmpkilcoaaFaultAny
import Derived.Test.YtgbdnpmpkilcoaaKindsW
import Derived.Deep.CutBlock
import Derived.Deep.CutRange
namespace Go.Proofs.Ytgbdnpmpkilcoaa
open Go.RowKit
set_option linter.unusedVariables false
set_option linter.unusedSimpArgs false

set_option maxHeartbeats 16000000 in
set_option maxRecDepth 20000 in
theorem kinds_good (w : World) (V : Nat) (a na oa : Option Addr) (n cap nc oc : Nat) (es : List (Nat × Nat)) (ns os : List Nat) (hn : n = es.length) (h : Es 0 w a n (toI es)) (hno : a = none → n = 0 ∧ cap = 0) (hcap : n ≤ cap) (hp : Plain V es) (hns : Ns w na V (toIs ns)) (hos : Ns w oa n (toIs os)) (hnc : V ≤ nc) (hoc : n ≤ oc)
    (hpn : IsPerm V (toIs ns)) (hpo : IsPerm n (toIs os)) (mn : Nm V ns) (mo : Nm es.length os) :
    Calls Try.prog 6 #[.agg #[.int .i64 V, .slice a n cap], .slice na V nc, .slice oa n oc] w fun e w' => e = .returned (.bool true) ∧ Below w.heap.size w w' := by
  have hv64 := hp.v64
  have hn128 := hp.n128
  have hG := good_of_plain hp
  rw [← hn] at hn128 hG
  have HB0 := hide (Bg.start w (.int .i64 V) (.slice a n cap))
  have HE := hide h
  have HNO := hide hno
  have HCAP := hide hcap
  have HP := hide hp
  have HN := hide hn
  have HG := hide hG
  have HNS := hide hns
  have HOS := hide hos
  have HPN := hide hpn
  have HPO := hide hpo
  have MN := hide mn
  have MO := hide mo
  have hre : ∀ u, Below w.heap.size w u → Calls Try.prog 25 #[.agg #[.int .i64 V, .slice a n cap], .slice na V nc, .slice oa n oc] u fun e w' =>
      (∃ a' cap', e = .returned (.tuple #[.agg #[.int .i64 V, .slice a' n cap'], .int .i64 0]) ∧ Es 0 w' a' n (toI (ren ns es os)) ∧ (a' = none → n = 0 ∧ cap' = 0) ∧ n ≤ cap') ∧ Below u.heap.size u w' := by
    intro u hu
    have h1 := rename_good2 u V a cap es na oa nc oc ns os (B := 0) (by rw [← hn]; exact h.below hu) hp (hns.below hu) (by rw [← hn]; exact hos.below hu) hnc (by rw [← hn]; exact hoc) hpn (by rw [← hn]; exact hpo)
    rw [← hn] at h1
    refine h1.mono ?_
    rintro e w' ⟨⟨a', cap', rfl, h2, h3, h4⟩, h5⟩
    exact ⟨⟨a', cap', rfl, es_zero h2, h3, h4⟩, h5⟩
  have HRE := hide hre
  have hpr := ren_plain hp mn mo
  have hlr : (ren ns es os).length = n := by rw [ren_length, mo.len, hn]
  obtain ⟨c, p1, l1, hF1⟩ := fault_any hp
  obtain ⟨c', p2, l2, hF2⟩ := fault_any hpr
  obtain rfl := kind_stays hp mn mo hF1 hF2
  have HF2 := hide hF2
  have HPR := hide hpr
  have HLR := hide hlr
  obtain ⟨q1, hq1⟩ : ∃ q, l1.length = q := ⟨_, rfl⟩
  obtain ⟨q2, hq2⟩ : ∃ q, l2.length = q := ⟨_, rfl⟩
  obtain ⟨xs2, hxs2⟩ : ∃ x, toIs l2 = x := ⟨_, rfl⟩
  have hck1 : ∀ u xb xa xc, Kx w u xb V a n cap xa xc (ren ns es os) → Calls Try.prog 10 #[.agg #[.int .i64 V, .slice a n cap]] u fun e u' => (∃ fa fc, e = .returned (.agg #[.int .i64 c, .int .i64 p1, .slice fa q1 fc])) ∧ Below u.heap.size u u' := by
    intro u xb xa xc hu
    have h1 := check_fresh u V a cap es (B := 0) (by rw [← hn]; exact h.below hu.bel) (by rw [← hn]; exact hno) (by rw [← hn]; exact hcap) hp
    rw [← hn] at h1
    refine h1.mono ?_
    rintro e u' ⟨⟨c'', p', l', fa, fc, hF', rfl, _⟩, hb⟩
    obtain ⟨rfl, rfl, rfl⟩ := hF1.only hp hF'
    exact ⟨⟨fa, fc, by rw [hq1]⟩, hb⟩
  have hck3 : ∀ u xb xa xc, (xa = none → n = 0 ∧ xc = 0) → n ≤ xc → Kx w u xb V a n cap xa xc (ren ns es os) → Calls Try.prog 10 #[.agg #[.int .i64 V, .slice xa n xc]] u fun e u' => (∃ fa fc, e = .returned (.agg #[.int .i64 c, .int .i64 p2, .slice fa q2 fc]) ∧ u'.ownsRow u.heap.size 3 1 (.slice fa q2 fc) q2 (zcells xs2)) ∧ Below u.heap.size u u' := by
    intro u xb xa xc hxn hxc hu
    have h1 := check_fresh u V xa xc (ren ns es os) (B := 0) (by rw [hlr]; exact hu.xes) (by rw [hlr]; exact hxn) (by rw [hlr]; exact hxc) hpr
    rw [hlr] at h1
    refine h1.mono ?_
    rintro e u' ⟨⟨c'', p', l', fa, fc, hF', rfl, hown⟩, hb⟩
    obtain ⟨rfl, rfl, rfl⟩ := hF2.only hpr hF'
    rw [hq2, hxs2] at hown
    exact ⟨⟨fa, fc, by rw [hq2], hown⟩, hb⟩
  have HCK1 := hide hck1
  have HCK3 := hide hck3
  have HQ2 := hide hq2
  have HXS := hide hxs2
  clear hpr hlr hF1 hF2 hck1 hck3 hq1 hq2 hxs2
  clear h hno hcap hp hn hG hns hos hpn hpo mn mo hre
  go_enter Try.func6, Try.ntmps6
  go_wp2_with fail
  refine (speaks_any _).mono ?_
  rintro e w1 ⟨rfl, hb1⟩
  have HB1 := hide ((unhide HB0).step hb1)
  obtain ⟨g0, g1⟩ := (unhide HB1).cells
  clear hb1
  go_wp2_with fail
  refine (refMay_any w1 V a n cap (toI es) ((unhide HE).below (unhide HB1).bel)).mono ?_
  rintro e w2 ⟨⟨r, rfl, hr⟩, hb2⟩
  obtain rfl : r = true := hr.2 (unhide HG)
  have HB2 := hide ((unhide HB1).step hb2)
  clear hb2 g0 g1 hr
  obtain ⟨g0, g1⟩ := (unhide HB2).cells
  go_wp2_with fail
  refine (each_any w2 na V nc V (toIs ns) ((unhide HNS).below (unhide HB2).bel) (by omega)).mono ?_
  rintro e w3 ⟨⟨r, rfl, hr⟩, hw3⟩
  obtain rfl := hw3.symm
  obtain rfl : r = true := hr.2 (unhide HPN)
  clear hr
  go_wp2_with fail
  refine (each_any w2 oa n oc n (toIs os) ((unhide HOS).below (unhide HB2).bel) (by omega)).mono ?_
  rintro e w3 ⟨⟨r, rfl, hr⟩, hw3⟩
  obtain rfl := hw3.symm
  obtain rfl : r = true := hr.2 (unhide HPO)
  clear hr
  go_wp2_with fail
  refine (unhide HRE w2 (unhide HB2).bel).mono ?_
  rintro e w3 ⟨⟨xa, xc, rfl, hxe, hxn, hxc⟩, hb3⟩
  have HXN := hide hxn
  have HXC := hide hxc
  have hX : Kx w (w3.alloc (.cells #[.int .i64 V, .slice xa n xc] 24)) w3.heap.size V a n cap xa xc (ren ns es os) := by
    have hb4 : Below w3.heap.size w3 (w3.alloc (.cells #[.int .i64 V, .slice xa n xc] 24)) := (Below.refl _ _).alloc (Nat.le_refl _) _
    have h5 := ((unhide HB2).step hb3).step hb4
    exact ⟨h5.bel, h5.gb, (MapKept.heap_alloc w3 _).1, hxe.below hb4⟩
  have X0 := hide hX
  clear hX hxe hb3 g0 g1 hxn hxc
  go_upto_region 6 with fail
  generalize w3.alloc (.cells #[.int .i64 V, .slice xa n xc] 24 (0, 0)) = wk0 at X0 ⊢
  generalize w3.heap.size = xb at X0 ⊢
  have XD := hide ((unhide X0).step ((Below.refl _ _).drew))
  have CK1 := hide (fun u => unhide HCK1 u xb xa xc)
  have CK3 := hide (fun u => unhide HCK3 u xb xa xc (unhide HXN) (unhide HXC))
  clear HCK1 HCK3 HB0 HB1 HB2 HRE X0
  go_cut [9, 10] from 45 to 128 (fun v9 v10 wx => ∃ fb hb fa fc ha hc, v9 = .pointer (some ⟨fb, 0, none⟩) ∧ v10 = .pointer (some ⟨hb, 0, none⟩) ∧ Hid (Kx w wx xb V a n cap xa xc (ren ns es os)) ∧ Hid (wx.heap[fb]? = some (faultO (.int .i64 c) (.int .i64 p1) (.slice fa q1 fc))) ∧ Hid (wx.heap[hb]? = some (faultO (.int .i64 c) (.int .i64 p2) (.slice ha q2 hc))) ∧ ∃ base, Hid (wx.ownsRow base 3 1 (.slice ha q2 hc) q2 (zcells xs2)))
  case first =>
    refine wp_region_held_drew (S := fun u => u.cell? ⟨w.heap.size, 0, none⟩ = some (.int .i64 V) ∧ u.cell? ⟨w.heap.size, 1, none⟩ = some (.slice a n cap) ∧ u.cell? ⟨xb, 0, none⟩ = some (.int .i64 V) ∧ u.cell? ⟨xb, 1, none⟩ = some (.slice xa n xc)) (by kernel_rfl) (unhide XD).cells (fun hS => ?_)
    generalize wk0.drew = u0 at XD hS ⊢
    have KY := hide (Ky.start u0 q2 xs2)
    refine wpAnyH_take (i := 0) (v := ?_) rfl (by kernel_rfl) (by kernel_rfl) (by kernel_rfl) (fun _ _ _ h => h) (Or.inl ⟨by rfl, ?_⟩) hS ?_
    rotate_left
    · intro u hu; (try dsimp only at hu); go_simp; try with_reducible rfl
    simp only [Act.put, List.getElem_toArray, List.getElem_cons_zero, List.getElem_cons_succ, List.setIfInBounds_toArray, List.set_cons_zero, List.set_cons_succ]
    refine wpAnyH_take (i := 2) (v := ?_) rfl (by kernel_rfl) (by kernel_rfl) (by kernel_rfl) (fun _ _ _ h => h) (Or.inl ⟨by rfl, ?_⟩) hS ?_
    rotate_left
    · intro u hu; (try dsimp only at hu); go_simp; try with_reducible rfl
    simp only [Act.put, List.getElem_toArray, List.getElem_cons_zero, List.getElem_cons_succ, List.setIfInBounds_toArray, List.set_cons_zero, List.set_cons_succ]
    refine wpAnyH_ready (rs := [1, 4, 5]) (by kernel_rfl) (by simp) ?_
    refine AllReadyH.cons rfl (fun K hK => ?_) (AllReadyH.cons rfl (fun K hK => ?_) (AllReadyH.cons rfl (fun K hK => ?_) (AllReadyH.nil)))
    · go_simp
      go_wp2_with (go_at_call 10; refine (unhide CK1 _ ((unhide XD).step (unhide KY).bel)).mono ?_; rintro e uk1 ⟨⟨fa, fc, rfl⟩, hb⟩; have KY2 := hide ((unhide KY).step hb); clear hb KY; have KY := KY2; clear KY2)
      refine hK.out _ _ ((unhide XD).step (unhide KY).bel).cells (fun hS2 => ?_)
      clear hK K hS; have hS := hS2; clear hS2
      refine wpAnyH_ready (rs := [3, 4, 5]) (by kernel_rfl) (by simp) ?_
      refine AllReadyH.cons rfl (fun K hK => ?_) (AllReadyH.cons rfl (fun K hK => ?_) (AllReadyH.cons rfl (fun K hK => ?_) (AllReadyH.nil)))
      · go_simp
        go_wp2_with (go_at_call 10; refine (unhide CK3 _ ((unhide XD).step (unhide KY).bel)).mono ?_; rintro e uk2 ⟨⟨ha, hc, rfl, hn⟩, hb⟩; have KY2 := hide ((unhide KY).row hb hn); clear hb hn KY; have KY := KY2; clear KY2)
        refine hK.out _ _ ((unhide XD).step (unhide KY).bel).cells (fun hS2 => ?_)
        clear hK K hS; have hS := hS2; clear hS2
        refine wpAnyH_ready (rs := [4, 5]) (by kernel_rfl) (by simp) ?_
        refine AllReadyH.cons rfl (fun K hK => ?_) (AllReadyH.cons rfl (fun K hK => ?_) (AllReadyH.nil))
        · go_simp
          have KY2 : Hid (Ky u0 (uk2.alloc (.cells #[.int .i64 0, .int .i64 0, .slice none 0 0] 30 (0, 0))) q2 xs2 (some uk2.heap.size) none (some (.slice ha q2 hc))) := (unhide KY).makeF
          refine hK.out _ _ ((unhide XD).step (unhide KY2).bel).cells (fun hS2 => ?_)
          clear hK K hS KY; have hS := hS2; clear hS2; have KY := KY2; clear KY2
          generalize uk2.alloc (.cells #[.int .i64 0, .int .i64 0, .slice none 0 0] 30 (0, 0)) = uk3 at KY hS ⊢
          generalize uk2.heap.size = fb at KY ⊢
          refine wpAnyH_ready (rs := [5]) (by kernel_rfl) (by simp) ?_
          refine AllReadyH.cons rfl (fun K hK => ?_) (AllReadyH.nil)
          · go_simp
            have KY2 : Hid (Ky u0 (uk3.alloc (.cells #[.int .i64 0, .int .i64 0, .slice none 0 0] 30 (0, 0))) q2 xs2 (some fb) (some uk3.heap.size) (some (.slice ha q2 hc))) := (unhide KY).makeH
            refine hK.out _ _ ((unhide XD).step (unhide KY2).bel).cells (fun hS2 => ?_)
            clear hK K hS KY; have hS := hS2; clear hS2; have KY := KY2; clear KY2
            generalize uk3.alloc (.cells #[.int .i64 0, .int .i64 0, .slice none 0 0] 30 (0, 0)) = uk4 at KY hS ⊢
            generalize uk3.heap.size = hb at KY ⊢
            obtain ⟨s0, s1, s2, t0, t1, t2⟩ := zero_cells ((unhide KY).f _ rfl).2
            refine wpAnyH_ready (rs := [6]) (by kernel_rfl) (by simp) ?_
            refine AllReadyH.cons rfl (fun K hK => ?_) AllReadyH.nil
            go_simp
            have KF : Hid (Kf u0 (((uk4.setCell ⟨fb, 0, none⟩ (.int .i64 c)).setCell ⟨fb, 1, none⟩ (.int .i64 p1)).setCell ⟨fb, 2, none⟩ (.slice fa q1 fc)) q2 xs2 fb hb (faultO (.int .i64 c) (.int .i64 p1) (.slice fa q1 fc)) (.slice ha q2 hc)) := (unhide KY).store _ _ _
            refine hK.out _ _ ((unhide XD).step (unhide KF).bel).cells (fun hS2 => ?_)
            clear hK K hS s0 s1 s2 t0 t1 t2 KY; have hS := hS2; clear hS2
            generalize (((uk4.setCell ⟨fb, 0, none⟩ (.int .i64 c)).setCell ⟨fb, 1, none⟩ (.int .i64 p1)).setCell ⟨fb, 2, none⟩ (.slice fa q1 fc)) = us at KF hS ⊢
            obtain ⟨s0, s1, s2, t0, t1, t2⟩ := zero_cells (unhide KF).h.2
            refine wpAnyH_ready (rs := [7]) (by kernel_rfl) (by simp) ?_
            refine AllReadyH.cons rfl (fun K hK => ?_) AllReadyH.nil
            go_simp
            have KZ : Hid (Kz u0 (((us.setCell ⟨hb, 0, none⟩ (.int .i64 c)).setCell ⟨hb, 1, none⟩ (.int .i64 p2)).setCell ⟨hb, 2, none⟩ (.slice ha q2 hc)) q2 xs2 fb hb (faultO (.int .i64 c) (.int .i64 p1) (.slice fa q1 fc)) (faultO (.int .i64 c) (.int .i64 p2) (.slice ha q2 hc)) (.slice ha q2 hc)) := (unhide KF).store _ _ _
            refine hK.out _ _ ((unhide XD).step (unhide KZ).bel).cells (fun hS2 => ?_)
            clear hK K hS s0 s1 s2 t0 t1 t2 KF hS2
            refine wpAnyH_done (by kernel_rfl) ?_ _
            go_wp2_with fail
            go_meet
            exact ⟨fb, hb, fa, fc, ha, hc, rfl, rfl, (unhide XD).step (unhide KZ).bel, (unhide KZ).f, (unhide KZ).h, _, (unhide KZ).r⟩
        · go_simp
          have KY2 : Hid (Ky u0 (uk2.alloc (.cells #[.int .i64 0, .int .i64 0, .slice none 0 0] 30 (0, 0))) q2 xs2 none (some uk2.heap.size) (some (.slice ha q2 hc))) := (unhide KY).makeH
          refine hK.out _ _ ((unhide XD).step (unhide KY2).bel).cells (fun hS2 => ?_)
          clear hK K hS KY; have hS := hS2; clear hS2; have KY := KY2; clear KY2
          generalize uk2.alloc (.cells #[.int .i64 0, .int .i64 0, .slice none 0 0] 30 (0, 0)) = uk3 at KY hS ⊢
          generalize uk2.heap.size = hb at KY ⊢
          refine wpAnyH_ready (rs := [4]) (by kernel_rfl) (by simp) ?_
          refine AllReadyH.cons rfl (fun K hK => ?_) (AllReadyH.nil)
          · go_simp
            have KY2 : Hid (Ky u0 (uk3.alloc (.cells #[.int .i64 0, .int .i64 0, .slice none 0 0] 30 (0, 0))) q2 xs2 (some uk3.heap.size) (some hb) (some (.slice ha q2 hc))) := (unhide KY).makeF
            refine hK.out _ _ ((unhide XD).step (unhide KY2).bel).cells (fun hS2 => ?_)
            clear hK K hS KY; have hS := hS2; clear hS2; have KY := KY2; clear KY2
            generalize uk3.alloc (.cells #[.int .i64 0, .int .i64 0, .slice none 0 0] 30 (0, 0)) = uk4 at KY hS ⊢
            generalize uk3.heap.size = fb at KY ⊢
            obtain ⟨s0, s1, s2, t0, t1, t2⟩ := zero_cells ((unhide KY).f _ rfl).2
            refine wpAnyH_ready (rs := [6]) (by kernel_rfl) (by simp) ?_
            refine AllReadyH.cons rfl (fun K hK => ?_) AllReadyH.nil
            go_simp
            have KF : Hid (Kf u0 (((uk4.setCell ⟨fb, 0, none⟩ (.int .i64 c)).setCell ⟨fb, 1, none⟩ (.int .i64 p1)).setCell ⟨fb, 2, none⟩ (.slice fa q1 fc)) q2 xs2 fb hb (faultO (.int .i64 c) (.int .i64 p1) (.slice fa q1 fc)) (.slice ha q2 hc)) := (unhide KY).store _ _ _
            refine hK.out _ _ ((unhide XD).step (unhide KF).bel).cells (fun hS2 => ?_)
            clear hK K hS s0 s1 s2 t0 t1 t2 KY; have hS := hS2; clear hS2
            generalize (((uk4.setCell ⟨fb, 0, none⟩ (.int .i64 c)).setCell ⟨fb, 1, none⟩ (.int .i64 p1)).setCell ⟨fb, 2, none⟩ (.slice fa q1 fc)) = us at KF hS ⊢
            obtain ⟨s0, s1, s2, t0, t1, t2⟩ := zero_cells (unhide KF).h.2
            refine wpAnyH_ready (rs := [7]) (by kernel_rfl) (by simp) ?_
            refine AllReadyH.cons rfl (fun K hK => ?_) AllReadyH.nil
            go_simp
            have KZ : Hid (Kz u0 (((us.setCell ⟨hb, 0, none⟩ (.int .i64 c)).setCell ⟨hb, 1, none⟩ (.int .i64 p2)).setCell ⟨hb, 2, none⟩ (.slice ha q2 hc)) q2 xs2 fb hb (faultO (.int .i64 c) (.int .i64 p1) (.slice fa q1 fc)) (faultO (.int .i64 c) (.int .i64 p2) (.slice ha q2 hc)) (.slice ha q2 hc)) := (unhide KF).store _ _ _
            refine hK.out _ _ ((unhide XD).step (unhide KZ).bel).cells (fun hS2 => ?_)
            clear hK K hS s0 s1 s2 t0 t1 t2 KF hS2
            refine wpAnyH_done (by kernel_rfl) ?_ _
            go_wp2_with fail
            go_meet
            exact ⟨fb, hb, fa, fc, ha, hc, rfl, rfl, (unhide XD).step (unhide KZ).bel, (unhide KZ).f, (unhide KZ).h, _, (unhide KZ).r⟩
      · go_simp
        have KY2 : Hid (Ky u0 (uk1.alloc (.cells #[.int .i64 0, .int .i64 0, .slice none 0 0] 30 (0, 0))) q2 xs2 (some uk1.heap.size) none none) := (unhide KY).makeF
        refine hK.out _ _ ((unhide XD).step (unhide KY2).bel).cells (fun hS2 => ?_)
        clear hK K hS KY; have hS := hS2; clear hS2; have KY := KY2; clear KY2
        generalize uk1.alloc (.cells #[.int .i64 0, .int .i64 0, .slice none 0 0] 30 (0, 0)) = uk2 at KY hS ⊢
        generalize uk1.heap.size = fb at KY ⊢
        refine wpAnyH_ready (rs := [3, 5]) (by kernel_rfl) (by simp) ?_
        refine AllReadyH.cons rfl (fun K hK => ?_) (AllReadyH.cons rfl (fun K hK => ?_) (AllReadyH.nil))
        · go_simp
          go_wp2_with (go_at_call 10; refine (unhide CK3 _ ((unhide XD).step (unhide KY).bel)).mono ?_; rintro e uk3 ⟨⟨ha, hc, rfl, hn⟩, hb⟩; have KY2 := hide ((unhide KY).row hb hn); clear hb hn KY; have KY := KY2; clear KY2)
          refine hK.out _ _ ((unhide XD).step (unhide KY).bel).cells (fun hS2 => ?_)
          clear hK K hS; have hS := hS2; clear hS2
          refine wpAnyH_ready (rs := [5]) (by kernel_rfl) (by simp) ?_
          refine AllReadyH.cons rfl (fun K hK => ?_) (AllReadyH.nil)
          · go_simp
            have KY2 : Hid (Ky u0 (uk3.alloc (.cells #[.int .i64 0, .int .i64 0, .slice none 0 0] 30 (0, 0))) q2 xs2 (some fb) (some uk3.heap.size) (some (.slice ha q2 hc))) := (unhide KY).makeH
            refine hK.out _ _ ((unhide XD).step (unhide KY2).bel).cells (fun hS2 => ?_)
            clear hK K hS KY; have hS := hS2; clear hS2; have KY := KY2; clear KY2
            generalize uk3.alloc (.cells #[.int .i64 0, .int .i64 0, .slice none 0 0] 30 (0, 0)) = uk4 at KY hS ⊢
            generalize uk3.heap.size = hb at KY ⊢
            obtain ⟨s0, s1, s2, t0, t1, t2⟩ := zero_cells ((unhide KY).f _ rfl).2
            refine wpAnyH_ready (rs := [6]) (by kernel_rfl) (by simp) ?_
            refine AllReadyH.cons rfl (fun K hK => ?_) AllReadyH.nil
            go_simp
            have KF : Hid (Kf u0 (((uk4.setCell ⟨fb, 0, none⟩ (.int .i64 c)).setCell ⟨fb, 1, none⟩ (.int .i64 p1)).setCell ⟨fb, 2, none⟩ (.slice fa q1 fc)) q2 xs2 fb hb (faultO (.int .i64 c) (.int .i64 p1) (.slice fa q1 fc)) (.slice ha q2 hc)) := (unhide KY).store _ _ _
            refine hK.out _ _ ((unhide XD).step (unhide KF).bel).cells (fun hS2 => ?_)
            clear hK K hS s0 s1 s2 t0 t1 t2 KY; have hS := hS2; clear hS2
            generalize (((uk4.setCell ⟨fb, 0, none⟩ (.int .i64 c)).setCell ⟨fb, 1, none⟩ (.int .i64 p1)).setCell ⟨fb, 2, none⟩ (.slice fa q1 fc)) = us at KF hS ⊢
            obtain ⟨s0, s1, s2, t0, t1, t2⟩ := zero_cells (unhide KF).h.2
            refine wpAnyH_ready (rs := [7]) (by kernel_rfl) (by simp) ?_
            refine AllReadyH.cons rfl (fun K hK => ?_) AllReadyH.nil
            go_simp
            have KZ : Hid (Kz u0 (((us.setCell ⟨hb, 0, none⟩ (.int .i64 c)).setCell ⟨hb, 1, none⟩ (.int .i64 p2)).setCell ⟨hb, 2, none⟩ (.slice ha q2 hc)) q2 xs2 fb hb (faultO (.int .i64 c) (.int .i64 p1) (.slice fa q1 fc)) (faultO (.int .i64 c) (.int .i64 p2) (.slice ha q2 hc)) (.slice ha q2 hc)) := (unhide KF).store _ _ _
            refine hK.out _ _ ((unhide XD).step (unhide KZ).bel).cells (fun hS2 => ?_)
            clear hK K hS s0 s1 s2 t0 t1 t2 KF hS2
            refine wpAnyH_done (by kernel_rfl) ?_ _
            go_wp2_with fail
            go_meet
            exact ⟨fb, hb, fa, fc, ha, hc, rfl, rfl, (unhide XD).step (unhide KZ).bel, (unhide KZ).f, (unhide KZ).h, _, (unhide KZ).r⟩
        · go_simp
          have KY2 : Hid (Ky u0 (uk2.alloc (.cells #[.int .i64 0, .int .i64 0, .slice none 0 0] 30 (0, 0))) q2 xs2 (some fb) (some uk2.heap.size) none) := (unhide KY).makeH
          refine hK.out _ _ ((unhide XD).step (unhide KY2).bel).cells (fun hS2 => ?_)
          clear hK K hS KY; have hS := hS2; clear hS2; have KY := KY2; clear KY2
          generalize uk2.alloc (.cells #[.int .i64 0, .int .i64 0, .slice none 0 0] 30 (0, 0)) = uk3 at KY hS ⊢
          generalize uk2.heap.size = hb at KY ⊢
          refine wpAnyH_ready (rs := [3]) (by kernel_rfl) (by simp) ?_
          refine AllReadyH.cons rfl (fun K hK => ?_) (AllReadyH.nil)
          · go_simp
            go_wp2_with (go_at_call 10; refine (unhide CK3 _ ((unhide XD).step (unhide KY).bel)).mono ?_; rintro e uk4 ⟨⟨ha, hc, rfl, hn⟩, hb⟩; have KY2 := hide ((unhide KY).row hb hn); clear hb hn KY; have KY := KY2; clear KY2)
            refine hK.out _ _ ((unhide XD).step (unhide KY).bel).cells (fun hS2 => ?_)
            clear hK K hS; have hS := hS2; clear hS2
            obtain ⟨s0, s1, s2, t0, t1, t2⟩ := zero_cells ((unhide KY).f _ rfl).2
            refine wpAnyH_ready (rs := [6]) (by kernel_rfl) (by simp) ?_
            refine AllReadyH.cons rfl (fun K hK => ?_) AllReadyH.nil
            go_simp
            have KF : Hid (Kf u0 (((uk4.setCell ⟨fb, 0, none⟩ (.int .i64 c)).setCell ⟨fb, 1, none⟩ (.int .i64 p1)).setCell ⟨fb, 2, none⟩ (.slice fa q1 fc)) q2 xs2 fb hb (faultO (.int .i64 c) (.int .i64 p1) (.slice fa q1 fc)) (.slice ha q2 hc)) := (unhide KY).store _ _ _
            refine hK.out _ _ ((unhide XD).step (unhide KF).bel).cells (fun hS2 => ?_)
            clear hK K hS s0 s1 s2 t0 t1 t2 KY; have hS := hS2; clear hS2
            generalize (((uk4.setCell ⟨fb, 0, none⟩ (.int .i64 c)).setCell ⟨fb, 1, none⟩ (.int .i64 p1)).setCell ⟨fb, 2, none⟩ (.slice fa q1 fc)) = us at KF hS ⊢
            obtain ⟨s0, s1, s2, t0, t1, t2⟩ := zero_cells (unhide KF).h.2
            refine wpAnyH_ready (rs := [7]) (by kernel_rfl) (by simp) ?_
            refine AllReadyH.cons rfl (fun K hK => ?_) AllReadyH.nil
            go_simp
            have KZ : Hid (Kz u0 (((us.setCell ⟨hb, 0, none⟩ (.int .i64 c)).setCell ⟨hb, 1, none⟩ (.int .i64 p2)).setCell ⟨hb, 2, none⟩ (.slice ha q2 hc)) q2 xs2 fb hb (faultO (.int .i64 c) (.int .i64 p1) (.slice fa q1 fc)) (faultO (.int .i64 c) (.int .i64 p2) (.slice ha q2 hc)) (.slice ha q2 hc)) := (unhide KF).store _ _ _
            refine hK.out _ _ ((unhide XD).step (unhide KZ).bel).cells (fun hS2 => ?_)
            clear hK K hS s0 s1 s2 t0 t1 t2 KF hS2
            refine wpAnyH_done (by kernel_rfl) ?_ _
            go_wp2_with fail
            go_meet
            exact ⟨fb, hb, fa, fc, ha, hc, rfl, rfl, (unhide XD).step (unhide KZ).bel, (unhide KZ).f, (unhide KZ).h, _, (unhide KZ).r⟩
      · go_simp
        have KY2 : Hid (Ky u0 (uk1.alloc (.cells #[.int .i64 0, .int .i64 0, .slice none 0 0] 30 (0, 0))) q2 xs2 none (some uk1.heap.size) none) := (unhide KY).makeH
        refine hK.out _ _ ((unhide XD).step (unhide KY2).bel).cells (fun hS2 => ?_)
        clear hK K hS KY; have hS := hS2; clear hS2; have KY := KY2; clear KY2
        generalize uk1.alloc (.cells #[.int .i64 0, .int .i64 0, .slice none 0 0] 30 (0, 0)) = uk2 at KY hS ⊢
        generalize uk1.heap.size = hb at KY ⊢
        refine wpAnyH_ready (rs := [3, 4]) (by kernel_rfl) (by simp) ?_
        refine AllReadyH.cons rfl (fun K hK => ?_) (AllReadyH.cons rfl (fun K hK => ?_) (AllReadyH.nil))
        · go_simp
          go_wp2_with (go_at_call 10; refine (unhide CK3 _ ((unhide XD).step (unhide KY).bel)).mono ?_; rintro e uk3 ⟨⟨ha, hc, rfl, hn⟩, hb⟩; have KY2 := hide ((unhide KY).row hb hn); clear hb hn KY; have KY := KY2; clear KY2)
          refine hK.out _ _ ((unhide XD).step (unhide KY).bel).cells (fun hS2 => ?_)
          clear hK K hS; have hS := hS2; clear hS2
          refine wpAnyH_ready (rs := [4]) (by kernel_rfl) (by simp) ?_
          refine AllReadyH.cons rfl (fun K hK => ?_) (AllReadyH.nil)
          · go_simp
            have KY2 : Hid (Ky u0 (uk3.alloc (.cells #[.int .i64 0, .int .i64 0, .slice none 0 0] 30 (0, 0))) q2 xs2 (some uk3.heap.size) (some hb) (some (.slice ha q2 hc))) := (unhide KY).makeF
            refine hK.out _ _ ((unhide XD).step (unhide KY2).bel).cells (fun hS2 => ?_)
            clear hK K hS KY; have hS := hS2; clear hS2; have KY := KY2; clear KY2
            generalize uk3.alloc (.cells #[.int .i64 0, .int .i64 0, .slice none 0 0] 30 (0, 0)) = uk4 at KY hS ⊢
            generalize uk3.heap.size = fb at KY ⊢
            obtain ⟨s0, s1, s2, t0, t1, t2⟩ := zero_cells ((unhide KY).f _ rfl).2
            refine wpAnyH_ready (rs := [6]) (by kernel_rfl) (by simp) ?_
            refine AllReadyH.cons rfl (fun K hK => ?_) AllReadyH.nil
            go_simp
            have KF : Hid (Kf u0 (((uk4.setCell ⟨fb, 0, none⟩ (.int .i64 c)).setCell ⟨fb, 1, none⟩ (.int .i64 p1)).setCell ⟨fb, 2, none⟩ (.slice fa q1 fc)) q2 xs2 fb hb (faultO (.int .i64 c) (.int .i64 p1) (.slice fa q1 fc)) (.slice ha q2 hc)) := (unhide KY).store _ _ _
            refine hK.out _ _ ((unhide XD).step (unhide KF).bel).cells (fun hS2 => ?_)
            clear hK K hS s0 s1 s2 t0 t1 t2 KY; have hS := hS2; clear hS2
            generalize (((uk4.setCell ⟨fb, 0, none⟩ (.int .i64 c)).setCell ⟨fb, 1, none⟩ (.int .i64 p1)).setCell ⟨fb, 2, none⟩ (.slice fa q1 fc)) = us at KF hS ⊢
            obtain ⟨s0, s1, s2, t0, t1, t2⟩ := zero_cells (unhide KF).h.2
            refine wpAnyH_ready (rs := [7]) (by kernel_rfl) (by simp) ?_
            refine AllReadyH.cons rfl (fun K hK => ?_) AllReadyH.nil
            go_simp
            have KZ : Hid (Kz u0 (((us.setCell ⟨hb, 0, none⟩ (.int .i64 c)).setCell ⟨hb, 1, none⟩ (.int .i64 p2)).setCell ⟨hb, 2, none⟩ (.slice ha q2 hc)) q2 xs2 fb hb (faultO (.int .i64 c) (.int .i64 p1) (.slice fa q1 fc)) (faultO (.int .i64 c) (.int .i64 p2) (.slice ha q2 hc)) (.slice ha q2 hc)) := (unhide KF).store _ _ _
            refine hK.out _ _ ((unhide XD).step (unhide KZ).bel).cells (fun hS2 => ?_)
            clear hK K hS s0 s1 s2 t0 t1 t2 KF hS2
            refine wpAnyH_done (by kernel_rfl) ?_ _
            go_wp2_with fail
            go_meet
            exact ⟨fb, hb, fa, fc, ha, hc, rfl, rfl, (unhide XD).step (unhide KZ).bel, (unhide KZ).f, (unhide KZ).h, _, (unhide KZ).r⟩
        · go_simp
          have KY2 : Hid (Ky u0 (uk2.alloc (.cells #[.int .i64 0, .int .i64 0, .slice none 0 0] 30 (0, 0))) q2 xs2 (some uk2.heap.size) (some hb) none) := (unhide KY).makeF
          refine hK.out _ _ ((unhide XD).step (unhide KY2).bel).cells (fun hS2 => ?_)
          clear hK K hS KY; have hS := hS2; clear hS2; have KY := KY2; clear KY2
          generalize uk2.alloc (.cells #[.int .i64 0, .int .i64 0, .slice none 0 0] 30 (0, 0)) = uk3 at KY hS ⊢
          generalize uk2.heap.size = fb at KY ⊢
          refine wpAnyH_ready (rs := [3]) (by kernel_rfl) (by simp) ?_
          refine AllReadyH.cons rfl (fun K hK => ?_) (AllReadyH.nil)
          · go_simp
            go_wp2_with (go_at_call 10; refine (unhide CK3 _ ((unhide XD).step (unhide KY).bel)).mono ?_; rintro e uk4 ⟨⟨ha, hc, rfl, hn⟩, hb⟩; have KY2 := hide ((unhide KY).row hb hn); clear hb hn KY; have KY := KY2; clear KY2)
            refine hK.out _ _ ((unhide XD).step (unhide KY).bel).cells (fun hS2 => ?_)
            clear hK K hS; have hS := hS2; clear hS2
            obtain ⟨s0, s1, s2, t0, t1, t2⟩ := zero_cells ((unhide KY).f _ rfl).2
            refine wpAnyH_ready (rs := [6]) (by kernel_rfl) (by simp) ?_
            refine AllReadyH.cons rfl (fun K hK => ?_) AllReadyH.nil
            go_simp
            have KF : Hid (Kf u0 (((uk4.setCell ⟨fb, 0, none⟩ (.int .i64 c)).setCell ⟨fb, 1, none⟩ (.int .i64 p1)).setCell ⟨fb, 2, none⟩ (.slice fa q1 fc)) q2 xs2 fb hb (faultO (.int .i64 c) (.int .i64 p1) (.slice fa q1 fc)) (.slice ha q2 hc)) := (unhide KY).store _ _ _
            refine hK.out _ _ ((unhide XD).step (unhide KF).bel).cells (fun hS2 => ?_)
            clear hK K hS s0 s1 s2 t0 t1 t2 KY; have hS := hS2; clear hS2
            generalize (((uk4.setCell ⟨fb, 0, none⟩ (.int .i64 c)).setCell ⟨fb, 1, none⟩ (.int .i64 p1)).setCell ⟨fb, 2, none⟩ (.slice fa q1 fc)) = us at KF hS ⊢
            obtain ⟨s0, s1, s2, t0, t1, t2⟩ := zero_cells (unhide KF).h.2
            refine wpAnyH_ready (rs := [7]) (by kernel_rfl) (by simp) ?_
            refine AllReadyH.cons rfl (fun K hK => ?_) AllReadyH.nil
            go_simp
            have KZ : Hid (Kz u0 (((us.setCell ⟨hb, 0, none⟩ (.int .i64 c)).setCell ⟨hb, 1, none⟩ (.int .i64 p2)).setCell ⟨hb, 2, none⟩ (.slice ha q2 hc)) q2 xs2 fb hb (faultO (.int .i64 c) (.int .i64 p1) (.slice fa q1 fc)) (faultO (.int .i64 c) (.int .i64 p2) (.slice ha q2 hc)) (.slice ha q2 hc)) := (unhide KF).store _ _ _
            refine hK.out _ _ ((unhide XD).step (unhide KZ).bel).cells (fun hS2 => ?_)
            clear hK K hS s0 s1 s2 t0 t1 t2 KF hS2
            refine wpAnyH_done (by kernel_rfl) ?_ _
            go_wp2_with fail
            go_meet
            exact ⟨fb, hb, fa, fc, ha, hc, rfl, rfl, (unhide XD).step (unhide KZ).bel, (unhide KZ).f, (unhide KZ).h, _, (unhide KZ).r⟩
    · go_simp
      have KY2 : Hid (Ky u0 (u0.alloc (.cells #[.int .i64 0, .int .i64 0, .slice none 0 0] 30 (0, 0))) q2 xs2 (some u0.heap.size) none none) := (unhide KY).makeF
      refine hK.out _ _ ((unhide XD).step (unhide KY2).bel).cells (fun hS2 => ?_)
      clear hK K hS KY; have hS := hS2; clear hS2; have KY := KY2; clear KY2
      generalize u0.alloc (.cells #[.int .i64 0, .int .i64 0, .slice none 0 0] 30 (0, 0)) = uk1 at KY hS ⊢
      generalize u0.heap.size = fb at KY ⊢
      refine wpAnyH_ready (rs := [1, 5]) (by kernel_rfl) (by simp) ?_
      refine AllReadyH.cons rfl (fun K hK => ?_) (AllReadyH.cons rfl (fun K hK => ?_) (AllReadyH.nil))
      · go_simp
        go_wp2_with (go_at_call 10; refine (unhide CK1 _ ((unhide XD).step (unhide KY).bel)).mono ?_; rintro e uk2 ⟨⟨fa, fc, rfl⟩, hb⟩; have KY2 := hide ((unhide KY).step hb); clear hb KY; have KY := KY2; clear KY2)
        refine hK.out _ _ ((unhide XD).step (unhide KY).bel).cells (fun hS2 => ?_)
        clear hK K hS; have hS := hS2; clear hS2
        refine wpAnyH_ready (rs := [3, 5]) (by kernel_rfl) (by simp) ?_
        refine AllReadyH.cons rfl (fun K hK => ?_) (AllReadyH.cons rfl (fun K hK => ?_) (AllReadyH.nil))
        · go_simp
          go_wp2_with (go_at_call 10; refine (unhide CK3 _ ((unhide XD).step (unhide KY).bel)).mono ?_; rintro e uk3 ⟨⟨ha, hc, rfl, hn⟩, hb⟩; have KY2 := hide ((unhide KY).row hb hn); clear hb hn KY; have KY := KY2; clear KY2)
          refine hK.out _ _ ((unhide XD).step (unhide KY).bel).cells (fun hS2 => ?_)
          clear hK K hS; have hS := hS2; clear hS2
          refine wpAnyH_ready (rs := [5]) (by kernel_rfl) (by simp) ?_
          refine AllReadyH.cons rfl (fun K hK => ?_) (AllReadyH.nil)
          · go_simp
            have KY2 : Hid (Ky u0 (uk3.alloc (.cells #[.int .i64 0, .int .i64 0, .slice none 0 0] 30 (0, 0))) q2 xs2 (some fb) (some uk3.heap.size) (some (.slice ha q2 hc))) := (unhide KY).makeH
            refine hK.out _ _ ((unhide XD).step (unhide KY2).bel).cells (fun hS2 => ?_)
            clear hK K hS KY; have hS := hS2; clear hS2; have KY := KY2; clear KY2
            generalize uk3.alloc (.cells #[.int .i64 0, .int .i64 0, .slice none 0 0] 30 (0, 0)) = uk4 at KY hS ⊢
            generalize uk3.heap.size = hb at KY ⊢
            obtain ⟨s0, s1, s2, t0, t1, t2⟩ := zero_cells ((unhide KY).f _ rfl).2
            refine wpAnyH_ready (rs := [6]) (by kernel_rfl) (by simp) ?_
            refine AllReadyH.cons rfl (fun K hK => ?_) AllReadyH.nil
            go_simp
            have KF : Hid (Kf u0 (((uk4.setCell ⟨fb, 0, none⟩ (.int .i64 c)).setCell ⟨fb, 1, none⟩ (.int .i64 p1)).setCell ⟨fb, 2, none⟩ (.slice fa q1 fc)) q2 xs2 fb hb (faultO (.int .i64 c) (.int .i64 p1) (.slice fa q1 fc)) (.slice ha q2 hc)) := (unhide KY).store _ _ _
            refine hK.out _ _ ((unhide XD).step (unhide KF).bel).cells (fun hS2 => ?_)
            clear hK K hS s0 s1 s2 t0 t1 t2 KY; have hS := hS2; clear hS2
            generalize (((uk4.setCell ⟨fb, 0, none⟩ (.int .i64 c)).setCell ⟨fb, 1, none⟩ (.int .i64 p1)).setCell ⟨fb, 2, none⟩ (.slice fa q1 fc)) = us at KF hS ⊢
            obtain ⟨s0, s1, s2, t0, t1, t2⟩ := zero_cells (unhide KF).h.2
            refine wpAnyH_ready (rs := [7]) (by kernel_rfl) (by simp) ?_
            refine AllReadyH.cons rfl (fun K hK => ?_) AllReadyH.nil
            go_simp
            have KZ : Hid (Kz u0 (((us.setCell ⟨hb, 0, none⟩ (.int .i64 c)).setCell ⟨hb, 1, none⟩ (.int .i64 p2)).setCell ⟨hb, 2, none⟩ (.slice ha q2 hc)) q2 xs2 fb hb (faultO (.int .i64 c) (.int .i64 p1) (.slice fa q1 fc)) (faultO (.int .i64 c) (.int .i64 p2) (.slice ha q2 hc)) (.slice ha q2 hc)) := (unhide KF).store _ _ _
            refine hK.out _ _ ((unhide XD).step (unhide KZ).bel).cells (fun hS2 => ?_)
            clear hK K hS s0 s1 s2 t0 t1 t2 KF hS2
            refine wpAnyH_done (by kernel_rfl) ?_ _
            go_wp2_with fail
            go_meet
            exact ⟨fb, hb, fa, fc, ha, hc, rfl, rfl, (unhide XD).step (unhide KZ).bel, (unhide KZ).f, (unhide KZ).h, _, (unhide KZ).r⟩
        · go_simp
          have KY2 : Hid (Ky u0 (uk2.alloc (.cells #[.int .i64 0, .int .i64 0, .slice none 0 0] 30 (0, 0))) q2 xs2 (some fb) (some uk2.heap.size) none) := (unhide KY).makeH
          refine hK.out _ _ ((unhide XD).step (unhide KY2).bel).cells (fun hS2 => ?_)
          clear hK K hS KY; have hS := hS2; clear hS2; have KY := KY2; clear KY2
          generalize uk2.alloc (.cells #[.int .i64 0, .int .i64 0, .slice none 0 0] 30 (0, 0)) = uk3 at KY hS ⊢
          generalize uk2.heap.size = hb at KY ⊢
          refine wpAnyH_ready (rs := [3]) (by kernel_rfl) (by simp) ?_
          refine AllReadyH.cons rfl (fun K hK => ?_) (AllReadyH.nil)
          · go_simp
            go_wp2_with (go_at_call 10; refine (unhide CK3 _ ((unhide XD).step (unhide KY).bel)).mono ?_; rintro e uk4 ⟨⟨ha, hc, rfl, hn⟩, hb⟩; have KY2 := hide ((unhide KY).row hb hn); clear hb hn KY; have KY := KY2; clear KY2)
            refine hK.out _ _ ((unhide XD).step (unhide KY).bel).cells (fun hS2 => ?_)
            clear hK K hS; have hS := hS2; clear hS2
            obtain ⟨s0, s1, s2, t0, t1, t2⟩ := zero_cells ((unhide KY).f _ rfl).2
            refine wpAnyH_ready (rs := [6]) (by kernel_rfl) (by simp) ?_
            refine AllReadyH.cons rfl (fun K hK => ?_) AllReadyH.nil
            go_simp
            have KF : Hid (Kf u0 (((uk4.setCell ⟨fb, 0, none⟩ (.int .i64 c)).setCell ⟨fb, 1, none⟩ (.int .i64 p1)).setCell ⟨fb, 2, none⟩ (.slice fa q1 fc)) q2 xs2 fb hb (faultO (.int .i64 c) (.int .i64 p1) (.slice fa q1 fc)) (.slice ha q2 hc)) := (unhide KY).store _ _ _
            refine hK.out _ _ ((unhide XD).step (unhide KF).bel).cells (fun hS2 => ?_)
            clear hK K hS s0 s1 s2 t0 t1 t2 KY; have hS := hS2; clear hS2
            generalize (((uk4.setCell ⟨fb, 0, none⟩ (.int .i64 c)).setCell ⟨fb, 1, none⟩ (.int .i64 p1)).setCell ⟨fb, 2, none⟩ (.slice fa q1 fc)) = us at KF hS ⊢
            obtain ⟨s0, s1, s2, t0, t1, t2⟩ := zero_cells (unhide KF).h.2
            refine wpAnyH_ready (rs := [7]) (by kernel_rfl) (by simp) ?_
            refine AllReadyH.cons rfl (fun K hK => ?_) AllReadyH.nil
            go_simp
            have KZ : Hid (Kz u0 (((us.setCell ⟨hb, 0, none⟩ (.int .i64 c)).setCell ⟨hb, 1, none⟩ (.int .i64 p2)).setCell ⟨hb, 2, none⟩ (.slice ha q2 hc)) q2 xs2 fb hb (faultO (.int .i64 c) (.int .i64 p1) (.slice fa q1 fc)) (faultO (.int .i64 c) (.int .i64 p2) (.slice ha q2 hc)) (.slice ha q2 hc)) := (unhide KF).store _ _ _
            refine hK.out _ _ ((unhide XD).step (unhide KZ).bel).cells (fun hS2 => ?_)
            clear hK K hS s0 s1 s2 t0 t1 t2 KF hS2
            refine wpAnyH_done (by kernel_rfl) ?_ _
            go_wp2_with fail
            go_meet
            exact ⟨fb, hb, fa, fc, ha, hc, rfl, rfl, (unhide XD).step (unhide KZ).bel, (unhide KZ).f, (unhide KZ).h, _, (unhide KZ).r⟩
      · go_simp
        have KY2 : Hid (Ky u0 (uk1.alloc (.cells #[.int .i64 0, .int .i64 0, .slice none 0 0] 30 (0, 0))) q2 xs2 (some fb) (some uk1.heap.size) none) := (unhide KY).makeH
        refine hK.out _ _ ((unhide XD).step (unhide KY2).bel).cells (fun hS2 => ?_)
        clear hK K hS KY; have hS := hS2; clear hS2; have KY := KY2; clear KY2
        generalize uk1.alloc (.cells #[.int .i64 0, .int .i64 0, .slice none 0 0] 30 (0, 0)) = uk2 at KY hS ⊢
        generalize uk1.heap.size = hb at KY ⊢
        refine wpAnyH_ready (rs := [1]) (by kernel_rfl) (by simp) ?_
        refine AllReadyH.cons rfl (fun K hK => ?_) (AllReadyH.nil)
        · go_simp
          go_wp2_with (go_at_call 10; refine (unhide CK1 _ ((unhide XD).step (unhide KY).bel)).mono ?_; rintro e uk3 ⟨⟨fa, fc, rfl⟩, hb⟩; have KY2 := hide ((unhide KY).step hb); clear hb KY; have KY := KY2; clear KY2)
          refine hK.out _ _ ((unhide XD).step (unhide KY).bel).cells (fun hS2 => ?_)
          clear hK K hS; have hS := hS2; clear hS2
          refine wpAnyH_ready (rs := [3]) (by kernel_rfl) (by simp) ?_
          refine AllReadyH.cons rfl (fun K hK => ?_) (AllReadyH.nil)
          · go_simp
            go_wp2_with (go_at_call 10; refine (unhide CK3 _ ((unhide XD).step (unhide KY).bel)).mono ?_; rintro e uk4 ⟨⟨ha, hc, rfl, hn⟩, hb⟩; have KY2 := hide ((unhide KY).row hb hn); clear hb hn KY; have KY := KY2; clear KY2)
            refine hK.out _ _ ((unhide XD).step (unhide KY).bel).cells (fun hS2 => ?_)
            clear hK K hS; have hS := hS2; clear hS2
            obtain ⟨s0, s1, s2, t0, t1, t2⟩ := zero_cells ((unhide KY).f _ rfl).2
            refine wpAnyH_ready (rs := [6]) (by kernel_rfl) (by simp) ?_
            refine AllReadyH.cons rfl (fun K hK => ?_) AllReadyH.nil
            go_simp
            have KF : Hid (Kf u0 (((uk4.setCell ⟨fb, 0, none⟩ (.int .i64 c)).setCell ⟨fb, 1, none⟩ (.int .i64 p1)).setCell ⟨fb, 2, none⟩ (.slice fa q1 fc)) q2 xs2 fb hb (faultO (.int .i64 c) (.int .i64 p1) (.slice fa q1 fc)) (.slice ha q2 hc)) := (unhide KY).store _ _ _
            refine hK.out _ _ ((unhide XD).step (unhide KF).bel).cells (fun hS2 => ?_)
            clear hK K hS s0 s1 s2 t0 t1 t2 KY; have hS := hS2; clear hS2
            generalize (((uk4.setCell ⟨fb, 0, none⟩ (.int .i64 c)).setCell ⟨fb, 1, none⟩ (.int .i64 p1)).setCell ⟨fb, 2, none⟩ (.slice fa q1 fc)) = us at KF hS ⊢
            obtain ⟨s0, s1, s2, t0, t1, t2⟩ := zero_cells (unhide KF).h.2
            refine wpAnyH_ready (rs := [7]) (by kernel_rfl) (by simp) ?_
            refine AllReadyH.cons rfl (fun K hK => ?_) AllReadyH.nil
            go_simp
            have KZ : Hid (Kz u0 (((us.setCell ⟨hb, 0, none⟩ (.int .i64 c)).setCell ⟨hb, 1, none⟩ (.int .i64 p2)).setCell ⟨hb, 2, none⟩ (.slice ha q2 hc)) q2 xs2 fb hb (faultO (.int .i64 c) (.int .i64 p1) (.slice fa q1 fc)) (faultO (.int .i64 c) (.int .i64 p2) (.slice ha q2 hc)) (.slice ha q2 hc)) := (unhide KF).store _ _ _
            refine hK.out _ _ ((unhide XD).step (unhide KZ).bel).cells (fun hS2 => ?_)
            clear hK K hS s0 s1 s2 t0 t1 t2 KF hS2
            refine wpAnyH_done (by kernel_rfl) ?_ _
            go_wp2_with fail
            go_meet
            exact ⟨fb, hb, fa, fc, ha, hc, rfl, rfl, (unhide XD).step (unhide KZ).bel, (unhide KZ).f, (unhide KZ).h, _, (unhide KZ).r⟩
    · go_simp
      have KY2 : Hid (Ky u0 (u0.alloc (.cells #[.int .i64 0, .int .i64 0, .slice none 0 0] 30 (0, 0))) q2 xs2 none (some u0.heap.size) none) := (unhide KY).makeH
      refine hK.out _ _ ((unhide XD).step (unhide KY2).bel).cells (fun hS2 => ?_)
      clear hK K hS KY; have hS := hS2; clear hS2; have KY := KY2; clear KY2
      generalize u0.alloc (.cells #[.int .i64 0, .int .i64 0, .slice none 0 0] 30 (0, 0)) = uk1 at KY hS ⊢
      generalize u0.heap.size = hb at KY ⊢
      refine wpAnyH_ready (rs := [1, 4]) (by kernel_rfl) (by simp) ?_
      refine AllReadyH.cons rfl (fun K hK => ?_) (AllReadyH.cons rfl (fun K hK => ?_) (AllReadyH.nil))
      · go_simp
        go_wp2_with (go_at_call 10; refine (unhide CK1 _ ((unhide XD).step (unhide KY).bel)).mono ?_; rintro e uk2 ⟨⟨fa, fc, rfl⟩, hb⟩; have KY2 := hide ((unhide KY).step hb); clear hb KY; have KY := KY2; clear KY2)
        refine hK.out _ _ ((unhide XD).step (unhide KY).bel).cells (fun hS2 => ?_)
        clear hK K hS; have hS := hS2; clear hS2
        refine wpAnyH_ready (rs := [3, 4]) (by kernel_rfl) (by simp) ?_
        refine AllReadyH.cons rfl (fun K hK => ?_) (AllReadyH.cons rfl (fun K hK => ?_) (AllReadyH.nil))
        · go_simp
          go_wp2_with (go_at_call 10; refine (unhide CK3 _ ((unhide XD).step (unhide KY).bel)).mono ?_; rintro e uk3 ⟨⟨ha, hc, rfl, hn⟩, hb⟩; have KY2 := hide ((unhide KY).row hb hn); clear hb hn KY; have KY := KY2; clear KY2)
          refine hK.out _ _ ((unhide XD).step (unhide KY).bel).cells (fun hS2 => ?_)
          clear hK K hS; have hS := hS2; clear hS2
          refine wpAnyH_ready (rs := [4]) (by kernel_rfl) (by simp) ?_
          refine AllReadyH.cons rfl (fun K hK => ?_) (AllReadyH.nil)
          · go_simp
            have KY2 : Hid (Ky u0 (uk3.alloc (.cells #[.int .i64 0, .int .i64 0, .slice none 0 0] 30 (0, 0))) q2 xs2 (some uk3.heap.size) (some hb) (some (.slice ha q2 hc))) := (unhide KY).makeF
            refine hK.out _ _ ((unhide XD).step (unhide KY2).bel).cells (fun hS2 => ?_)
            clear hK K hS KY; have hS := hS2; clear hS2; have KY := KY2; clear KY2
            generalize uk3.alloc (.cells #[.int .i64 0, .int .i64 0, .slice none 0 0] 30 (0, 0)) = uk4 at KY hS ⊢
            generalize uk3.heap.size = fb at KY ⊢
            obtain ⟨s0, s1, s2, t0, t1, t2⟩ := zero_cells ((unhide KY).f _ rfl).2
            refine wpAnyH_ready (rs := [6]) (by kernel_rfl) (by simp) ?_
            refine AllReadyH.cons rfl (fun K hK => ?_) AllReadyH.nil
            go_simp
            have KF : Hid (Kf u0 (((uk4.setCell ⟨fb, 0, none⟩ (.int .i64 c)).setCell ⟨fb, 1, none⟩ (.int .i64 p1)).setCell ⟨fb, 2, none⟩ (.slice fa q1 fc)) q2 xs2 fb hb (faultO (.int .i64 c) (.int .i64 p1) (.slice fa q1 fc)) (.slice ha q2 hc)) := (unhide KY).store _ _ _
            refine hK.out _ _ ((unhide XD).step (unhide KF).bel).cells (fun hS2 => ?_)
            clear hK K hS s0 s1 s2 t0 t1 t2 KY; have hS := hS2; clear hS2
            generalize (((uk4.setCell ⟨fb, 0, none⟩ (.int .i64 c)).setCell ⟨fb, 1, none⟩ (.int .i64 p1)).setCell ⟨fb, 2, none⟩ (.slice fa q1 fc)) = us at KF hS ⊢
            obtain ⟨s0, s1, s2, t0, t1, t2⟩ := zero_cells (unhide KF).h.2
            refine wpAnyH_ready (rs := [7]) (by kernel_rfl) (by simp) ?_
            refine AllReadyH.cons rfl (fun K hK => ?_) AllReadyH.nil
            go_simp
            have KZ : Hid (Kz u0 (((us.setCell ⟨hb, 0, none⟩ (.int .i64 c)).setCell ⟨hb, 1, none⟩ (.int .i64 p2)).setCell ⟨hb, 2, none⟩ (.slice ha q2 hc)) q2 xs2 fb hb (faultO (.int .i64 c) (.int .i64 p1) (.slice fa q1 fc)) (faultO (.int .i64 c) (.int .i64 p2) (.slice ha q2 hc)) (.slice ha q2 hc)) := (unhide KF).store _ _ _
            refine hK.out _ _ ((unhide XD).step (unhide KZ).bel).cells (fun hS2 => ?_)
            clear hK K hS s0 s1 s2 t0 t1 t2 KF hS2
            refine wpAnyH_done (by kernel_rfl) ?_ _
            go_wp2_with fail
            go_meet
            exact ⟨fb, hb, fa, fc, ha, hc, rfl, rfl, (unhide XD).step (unhide KZ).bel, (unhide KZ).f, (unhide KZ).h, _, (unhide KZ).r⟩
        · go_simp
          have KY2 : Hid (Ky u0 (uk2.alloc (.cells #[.int .i64 0, .int .i64 0, .slice none 0 0] 30 (0, 0))) q2 xs2 (some uk2.heap.size) (some hb) none) := (unhide KY).makeF
          refine hK.out _ _ ((unhide XD).step (unhide KY2).bel).cells (fun hS2 => ?_)
          clear hK K hS KY; have hS := hS2; clear hS2; have KY := KY2; clear KY2
          generalize uk2.alloc (.cells #[.int .i64 0, .int .i64 0, .slice none 0 0] 30 (0, 0)) = uk3 at KY hS ⊢
          generalize uk2.heap.size = fb at KY ⊢
          refine wpAnyH_ready (rs := [3]) (by kernel_rfl) (by simp) ?_
          refine AllReadyH.cons rfl (fun K hK => ?_) (AllReadyH.nil)
          · go_simp
            go_wp2_with (go_at_call 10; refine (unhide CK3 _ ((unhide XD).step (unhide KY).bel)).mono ?_; rintro e uk4 ⟨⟨ha, hc, rfl, hn⟩, hb⟩; have KY2 := hide ((unhide KY).row hb hn); clear hb hn KY; have KY := KY2; clear KY2)
            refine hK.out _ _ ((unhide XD).step (unhide KY).bel).cells (fun hS2 => ?_)
            clear hK K hS; have hS := hS2; clear hS2
            obtain ⟨s0, s1, s2, t0, t1, t2⟩ := zero_cells ((unhide KY).f _ rfl).2
            refine wpAnyH_ready (rs := [6]) (by kernel_rfl) (by simp) ?_
            refine AllReadyH.cons rfl (fun K hK => ?_) AllReadyH.nil
            go_simp
            have KF : Hid (Kf u0 (((uk4.setCell ⟨fb, 0, none⟩ (.int .i64 c)).setCell ⟨fb, 1, none⟩ (.int .i64 p1)).setCell ⟨fb, 2, none⟩ (.slice fa q1 fc)) q2 xs2 fb hb (faultO (.int .i64 c) (.int .i64 p1) (.slice fa q1 fc)) (.slice ha q2 hc)) := (unhide KY).store _ _ _
            refine hK.out _ _ ((unhide XD).step (unhide KF).bel).cells (fun hS2 => ?_)
            clear hK K hS s0 s1 s2 t0 t1 t2 KY; have hS := hS2; clear hS2
            generalize (((uk4.setCell ⟨fb, 0, none⟩ (.int .i64 c)).setCell ⟨fb, 1, none⟩ (.int .i64 p1)).setCell ⟨fb, 2, none⟩ (.slice fa q1 fc)) = us at KF hS ⊢
            obtain ⟨s0, s1, s2, t0, t1, t2⟩ := zero_cells (unhide KF).h.2
            refine wpAnyH_ready (rs := [7]) (by kernel_rfl) (by simp) ?_
            refine AllReadyH.cons rfl (fun K hK => ?_) AllReadyH.nil
            go_simp
            have KZ : Hid (Kz u0 (((us.setCell ⟨hb, 0, none⟩ (.int .i64 c)).setCell ⟨hb, 1, none⟩ (.int .i64 p2)).setCell ⟨hb, 2, none⟩ (.slice ha q2 hc)) q2 xs2 fb hb (faultO (.int .i64 c) (.int .i64 p1) (.slice fa q1 fc)) (faultO (.int .i64 c) (.int .i64 p2) (.slice ha q2 hc)) (.slice ha q2 hc)) := (unhide KF).store _ _ _
            refine hK.out _ _ ((unhide XD).step (unhide KZ).bel).cells (fun hS2 => ?_)
            clear hK K hS s0 s1 s2 t0 t1 t2 KF hS2
            refine wpAnyH_done (by kernel_rfl) ?_ _
            go_wp2_with fail
            go_meet
            exact ⟨fb, hb, fa, fc, ha, hc, rfl, rfl, (unhide XD).step (unhide KZ).bel, (unhide KZ).f, (unhide KZ).h, _, (unhide KZ).r⟩
      · go_simp
        have KY2 : Hid (Ky u0 (uk1.alloc (.cells #[.int .i64 0, .int .i64 0, .slice none 0 0] 30 (0, 0))) q2 xs2 (some uk1.heap.size) (some hb) none) := (unhide KY).makeF
        refine hK.out _ _ ((unhide XD).step (unhide KY2).bel).cells (fun hS2 => ?_)
        clear hK K hS KY; have hS := hS2; clear hS2; have KY := KY2; clear KY2
        generalize uk1.alloc (.cells #[.int .i64 0, .int .i64 0, .slice none 0 0] 30 (0, 0)) = uk2 at KY hS ⊢
        generalize uk1.heap.size = fb at KY ⊢
        refine wpAnyH_ready (rs := [1]) (by kernel_rfl) (by simp) ?_
        refine AllReadyH.cons rfl (fun K hK => ?_) (AllReadyH.nil)
        · go_simp
          go_wp2_with (go_at_call 10; refine (unhide CK1 _ ((unhide XD).step (unhide KY).bel)).mono ?_; rintro e uk3 ⟨⟨fa, fc, rfl⟩, hb⟩; have KY2 := hide ((unhide KY).step hb); clear hb KY; have KY := KY2; clear KY2)
          refine hK.out _ _ ((unhide XD).step (unhide KY).bel).cells (fun hS2 => ?_)
          clear hK K hS; have hS := hS2; clear hS2
          refine wpAnyH_ready (rs := [3]) (by kernel_rfl) (by simp) ?_
          refine AllReadyH.cons rfl (fun K hK => ?_) (AllReadyH.nil)
          · go_simp
            go_wp2_with (go_at_call 10; refine (unhide CK3 _ ((unhide XD).step (unhide KY).bel)).mono ?_; rintro e uk4 ⟨⟨ha, hc, rfl, hn⟩, hb⟩; have KY2 := hide ((unhide KY).row hb hn); clear hb hn KY; have KY := KY2; clear KY2)
            refine hK.out _ _ ((unhide XD).step (unhide KY).bel).cells (fun hS2 => ?_)
            clear hK K hS; have hS := hS2; clear hS2
            obtain ⟨s0, s1, s2, t0, t1, t2⟩ := zero_cells ((unhide KY).f _ rfl).2
            refine wpAnyH_ready (rs := [6]) (by kernel_rfl) (by simp) ?_
            refine AllReadyH.cons rfl (fun K hK => ?_) AllReadyH.nil
            go_simp
            have KF : Hid (Kf u0 (((uk4.setCell ⟨fb, 0, none⟩ (.int .i64 c)).setCell ⟨fb, 1, none⟩ (.int .i64 p1)).setCell ⟨fb, 2, none⟩ (.slice fa q1 fc)) q2 xs2 fb hb (faultO (.int .i64 c) (.int .i64 p1) (.slice fa q1 fc)) (.slice ha q2 hc)) := (unhide KY).store _ _ _
            refine hK.out _ _ ((unhide XD).step (unhide KF).bel).cells (fun hS2 => ?_)
            clear hK K hS s0 s1 s2 t0 t1 t2 KY; have hS := hS2; clear hS2
            generalize (((uk4.setCell ⟨fb, 0, none⟩ (.int .i64 c)).setCell ⟨fb, 1, none⟩ (.int .i64 p1)).setCell ⟨fb, 2, none⟩ (.slice fa q1 fc)) = us at KF hS ⊢
            obtain ⟨s0, s1, s2, t0, t1, t2⟩ := zero_cells (unhide KF).h.2
            refine wpAnyH_ready (rs := [7]) (by kernel_rfl) (by simp) ?_
            refine AllReadyH.cons rfl (fun K hK => ?_) AllReadyH.nil
            go_simp
            have KZ : Hid (Kz u0 (((us.setCell ⟨hb, 0, none⟩ (.int .i64 c)).setCell ⟨hb, 1, none⟩ (.int .i64 p2)).setCell ⟨hb, 2, none⟩ (.slice ha q2 hc)) q2 xs2 fb hb (faultO (.int .i64 c) (.int .i64 p1) (.slice fa q1 fc)) (faultO (.int .i64 c) (.int .i64 p2) (.slice ha q2 hc)) (.slice ha q2 hc)) := (unhide KF).store _ _ _
            refine hK.out _ _ ((unhide XD).step (unhide KZ).bel).cells (fun hS2 => ?_)
            clear hK K hS s0 s1 s2 t0 t1 t2 KF hS2
            refine wpAnyH_done (by kernel_rfl) ?_ _
            go_wp2_with fail
            go_meet
            exact ⟨fb, hb, fa, fc, ha, hc, rfl, rfl, (unhide XD).step (unhide KZ).bel, (unhide KZ).f, (unhide KZ).h, _, (unhide KZ).r⟩
  case rest =>
    obtain ⟨fb, hb, fa, fc, ha, hc, rfl, rfl, XC, FC, HC, base, RC⟩ := hcut
    have hq64 : q2 ≤ 64 := by have := (unhide HF2).len (unhide HPR); rw [unhide HQ2] at this; exact this
    obtain ⟨ha', hc', hv', _, hN'⟩ := ns_of_owns (unhide RC) (by omega)
    obtain ⟨rfl, rfl⟩ : ha = ha' ∧ hc = hc' := by simpa using hv'
    rw [← unhide HXS] at hN'
    have hK0 : Kw w _ xb fb hb V a n cap xa xc (ren ns es os) c p1 p2 (.slice fa q1 fc) ha q2 hc l2 := ⟨unhide XC, unhide FC, unhide HC, hN'⟩
    have HK0 := hide hK0
    clear hK0 hN' XC FC HC RC hv' XD CK1 CK3
    obtain ⟨k0, k1, k2, k3, k4⟩ := (unhide HK0).cells
    have hmf : ∀ (fn : Fn) (first cap : Array Value) (w : World), (Instr.makeFunc fn first cap).run Try.prog w = .ok (.func fn first cap) w := fun _ _ _ _ => rfl
    have hcc : (c != c) = false := by simp
    go_wp2_with fail
    go_loopw [62] (fun i wr => ∃ k : Nat, i = .int .i64 k ∧ k ≤ q2 ∧ Hid (Kw w wr xb fb hb V a n cap xa xc (ren ns es os) c p1 p2 (.slice fa q1 fc) ha q2 hc l2)) (fun i wr => q2 - (intOf i).toNat)
    case atStart => exact ⟨0, rfl, by omega, HK0⟩
    case round =>
      obtain ⟨k, rfl, hk, HK⟩ := hrel
      clear k0 k1 k2 k3 k4 HK0
      obtain ⟨k0, k1, k2, k3, k4⟩ := (unhide HK).cells
      by_cases hkq : k < q2
      · have hkq2 : (k : Int) < (q2 : Int) := by omega
        obtain ⟨gr, off, hha, hgr, hcell⟩ := (unhide HK).at (unhide HQ2) hkq
        subst hha
        obtain ⟨x, hx⟩ : ∃ x, l2.getD k 0 = x := ⟨_, rfl⟩
        rw [hx] at hcell
        have HX := hide hx
        clear hx
        rcases kind_list (unhide HF2) (by rw [unhide HQ2]; omega) with rfl | rfl
        · obtain ⟨kn, hkn⟩ : ∃ j, (k + 1) % q2 = j := ⟨_, rfl⟩
          have hknl : kn < q2 := by rw [← hkn]; exact Nat.mod_lt _ (by omega)
          obtain ⟨yn, hyn⟩ : ∃ y, l2.getD kn 0 = y := ⟨_, rfl⟩
          have hcelln : wr.cell? ⟨gr, off + kn, none⟩ = some (.int .i64 yn) := by
            obtain ⟨gr2, off2, hha2, _, hc2⟩ := (unhide HK).at (unhide HQ2) hknl
            rw [hyn] at hc2
            obtain ⟨h1, h2⟩ : gr = gr2 ∧ off = off2 := by simpa using hha2
            rw [h1, h2]
            exact hc2
          have hedge : Edge (ren ns es os) x yn := by
            have := kind_cycle (unhide HPR) (unhide HF2) (i := k) (by rw [unhide HQ2]; exact hkq)
            rw [unhide HQ2, hkn, hyn, unhide HX] at this
            exact edge_yes this
          have HEDGE := hide hedge
          clear hyn hedge
          have hq0 : ((q2 : Int) == 0) = false := by rw [beq_eq_false_iff_ne]; omega
          have hq1' : (q2 : Int) ≠ 0 := by omega
          have hrem : ((k : Int) + 1).tmod (q2 : Int) = (kn : Int) := by
            rw [← hkn, Int.tmod_eq_emod_of_nonneg (by omega)]
            first | rfl | (push_cast; rfl) | simp
          have hq00 : ¬ q2 = 0 := by omega
          have hwrap : IntKind.i64.wrap ((k : Int) + 1) = (k : Int) + 1 := by first | exact i64_in _ (by omega) | exact IntWalk.i64_in _ (by omega) | exact Go.IntWalk.i64_in _ (by omega) | exact RowKit.IntWalk.i64_in _ (by omega)
          have hknl2 : (kn : Int) < (q2 : Int) := by omega
          have HKD := hide ((unhide HK).step ((Below.refl _ _).drew))
          clear hkn
          go_upto_region 13 with fail
          refine wp_region_held_drew (S := fun u => u.cell? ⟨hb, 0, none⟩ = some (.int .i64 15) ∧ u.cell? ⟨hb, 2, none⟩ = some (.slice (some ⟨gr, off, none⟩) q2 hc) ∧ u.cell? ⟨gr, off + kn, none⟩ = some (.int .i64 yn)) (by kernel_rfl) ⟨k1, k2, hcelln⟩ (fun hS => ?_)
          refine wpAnyH_take (i := 0) (v := ?_) rfl (by kernel_rfl) (by kernel_rfl) (by kernel_rfl) (fun _ _ _ h => h) (Or.inl ⟨by rfl, ?_⟩) hS ?_
          rotate_left
          · intro u hu; (try dsimp only at hu); go_simp; try with_reducible rfl
          simp only [Act.put, List.getElem_toArray, List.getElem_cons_zero, List.getElem_cons_succ, List.setIfInBounds_toArray, List.set_cons_zero, List.set_cons_succ]
          refine wpAnyH_take (i := 1) (v := ?_) rfl (by kernel_rfl) (by kernel_rfl) (by kernel_rfl) (fun _ _ _ h => h) (Or.inl ⟨by rfl, ?_⟩) hS ?_
          rotate_left
          · intro u hu; (try dsimp only at hu); go_simp; try with_reducible rfl
          simp only [Act.put, List.getElem_toArray, List.getElem_cons_zero, List.getElem_cons_succ, List.setIfInBounds_toArray, List.set_cons_zero, List.set_cons_succ]
          refine wpAnyH_take (i := 2) (v := ?_) rfl (by kernel_rfl) (by kernel_rfl) (by kernel_rfl) (fun _ _ _ h => h) (Or.inl ⟨by rfl, ?_⟩) hS ?_
          rotate_left
          · intro u hu; (try dsimp only at hu); go_simp; try with_reducible rfl
          simp only [Act.put, List.getElem_toArray, List.getElem_cons_zero, List.getElem_cons_succ, List.setIfInBounds_toArray, List.set_cons_zero, List.set_cons_succ]
          refine wpAnyH_take (i := 3) (v := ?_) rfl (by kernel_rfl) (by kernel_rfl) (by kernel_rfl) (fun _ _ _ h => h) (Or.inl ⟨by rfl, ?_⟩) hS ?_
          rotate_left
          · intro u hu; (try dsimp only at hu); go_simp; try with_reducible rfl
          simp only [Act.put, List.getElem_toArray, List.getElem_cons_zero, List.getElem_cons_succ, List.setIfInBounds_toArray, List.set_cons_zero, List.set_cons_succ]
          refine wpAnyH_take (i := 4) (v := ?_) rfl (by kernel_rfl) (by kernel_rfl) (by kernel_rfl) (fun _ _ _ h => h) (Or.inl ⟨by rfl, ?_⟩) hS ?_
          rotate_left
          · intro u hu; (try dsimp only at hu); go_simp; try with_reducible rfl
          simp only [Act.put, List.getElem_toArray, List.getElem_cons_zero, List.getElem_cons_succ, List.setIfInBounds_toArray, List.set_cons_zero, List.set_cons_succ]
          refine wpAnyH_take (i := 5) (v := ?_) rfl (by kernel_rfl) (by kernel_rfl) (by kernel_rfl) (fun _ _ _ h => h) (Or.inl ⟨by rfl, ?_⟩) hS ?_
          rotate_left
          · intro u hu; (try dsimp only at hu); go_simp; try with_reducible rfl
          simp only [Act.put, List.getElem_toArray, List.getElem_cons_zero, List.getElem_cons_succ, List.setIfInBounds_toArray, List.set_cons_zero, List.set_cons_succ]
          refine wpAnyH_take (i := 6) (v := ?_) rfl (by kernel_rfl) (by kernel_rfl) (by kernel_rfl) (fun _ _ _ h => h) (Or.inl ⟨by rfl, ?_⟩) hS ?_
          rotate_left
          · intro u hu; (try dsimp only at hu); go_simp; try with_reducible rfl
          simp only [Act.put, List.getElem_toArray, List.getElem_cons_zero, List.getElem_cons_succ, List.setIfInBounds_toArray, List.set_cons_zero, List.set_cons_succ]
          refine wpAnyH_take (i := 7) (v := ?_) rfl (by kernel_rfl) (by kernel_rfl) (by kernel_rfl) (fun _ _ _ h => h) (Or.inl ⟨by rfl, ?_⟩) hS ?_
          rotate_left
          · intro u hu; (try dsimp only at hu); go_simp; try with_reducible rfl
          simp only [Act.put, List.getElem_toArray, List.getElem_cons_zero, List.getElem_cons_succ, List.setIfInBounds_toArray, List.set_cons_zero, List.set_cons_succ]
          refine wpAnyH_take (i := 8) (v := ?_) rfl (by kernel_rfl) (by kernel_rfl) (by kernel_rfl) (fun _ _ _ h => h) (Or.inl ⟨by rfl, ?_⟩) hS ?_
          rotate_left
          · intro u hu; (try dsimp only at hu); go_simp; try with_reducible rfl
          simp only [Act.put, List.getElem_toArray, List.getElem_cons_zero, List.getElem_cons_succ, List.setIfInBounds_toArray, List.set_cons_zero, List.set_cons_succ]
          refine wpAnyH_take (i := 9) (v := ?_) rfl (by kernel_rfl) (by kernel_rfl) (by kernel_rfl) (fun _ _ _ h => h) (Or.inl ⟨by rfl, ?_⟩) hS ?_
          rotate_left
          · intro u hu; (try dsimp only at hu); go_simp; try with_reducible rfl
          simp only [Act.put, List.getElem_toArray, List.getElem_cons_zero, List.getElem_cons_succ, List.setIfInBounds_toArray, List.set_cons_zero, List.set_cons_succ]
          refine wpAnyH_take (i := 10) (v := ?_) rfl (by kernel_rfl) (by kernel_rfl) (by kernel_rfl) (fun _ _ _ h => h) (Or.inl ⟨by rfl, ?_⟩) hS ?_
          rotate_left
          · intro u hu; (try dsimp only at hu); go_simp; try with_reducible rfl
          simp only [Act.put, List.getElem_toArray, List.getElem_cons_zero, List.getElem_cons_succ, List.setIfInBounds_toArray, List.set_cons_zero, List.set_cons_succ]
          refine wpAnyH_take (i := 11) (v := ?_) rfl (by kernel_rfl) (by kernel_rfl) (by kernel_rfl) (fun _ _ _ h => h) (Or.inl ⟨by rfl, ?_⟩) hS ?_
          rotate_left
          · intro u hu; (try dsimp only at hu); go_simp; try with_reducible rfl
          simp only [Act.put, List.getElem_toArray, List.getElem_cons_zero, List.getElem_cons_succ, List.setIfInBounds_toArray, List.set_cons_zero, List.set_cons_succ]
          refine wpAnyH_take (i := 12) (v := ?_) rfl (by kernel_rfl) (by kernel_rfl) (by kernel_rfl) (fun _ _ _ h => h) (Or.inl ⟨by rfl, ?_⟩) hS ?_
          rotate_left
          · intro u hu; (try dsimp only at hu); go_simp; try with_reducible rfl
          simp only [Act.put, List.getElem_toArray, List.getElem_cons_zero, List.getElem_cons_succ, List.setIfInBounds_toArray, List.set_cons_zero, List.set_cons_succ]
          refine wpAnyH_take (i := 13) (v := ?_) rfl (by kernel_rfl) (by kernel_rfl) (by kernel_rfl) (fun _ _ _ h => h) (Or.inl ⟨by rfl, ?_⟩) hS ?_
          rotate_left
          · intro u hu; (try dsimp only at hu); go_simp; try with_reducible rfl
          simp only [Act.put, List.getElem_toArray, List.getElem_cons_zero, List.getElem_cons_succ, List.setIfInBounds_toArray, List.set_cons_zero, List.set_cons_succ]
          refine wpAnyH_take (i := 14) (v := ?_) rfl (by kernel_rfl) (by kernel_rfl) (by kernel_rfl) (fun _ _ _ h => h) (Or.inl ⟨by rfl, ?_⟩) hS ?_
          rotate_left
          · intro u hu; (try dsimp only at hu); go_simp; try with_reducible rfl
          simp only [Act.put, List.getElem_toArray, List.getElem_cons_zero, List.getElem_cons_succ, List.setIfInBounds_toArray, List.set_cons_zero, List.set_cons_succ]
          refine wpAnyH_take (i := 15) (v := ?_) rfl (by kernel_rfl) (by kernel_rfl) (by kernel_rfl) (fun _ _ _ h => h) (Or.inl ⟨by rfl, ?_⟩) hS ?_
          rotate_left
          · intro u hu; (try dsimp only at hu); go_simp; try with_reducible rfl
          simp only [Act.put, List.getElem_toArray, List.getElem_cons_zero, List.getElem_cons_succ, List.setIfInBounds_toArray, List.set_cons_zero, List.set_cons_succ]
          refine wpAnyH_ready (rs := [16]) (by kernel_rfl) (by simp) ?_
          refine AllReadyH.cons rfl (fun K hK => ?_) AllReadyH.nil
          go_simp
          go_wp2_with (go_at_call 28; refine ((unhide HKD).edge (unhide HLR) x yn).mono ?_; rintro e uc ⟨⟨r, rfl, hr⟩, hbc⟩; obtain rfl : r = true := hr.2 (unhide HEDGE); clear hr)
          have HK2 := hide ((unhide HKD).step hbc)
          refine hK.out _ _ ⟨(unhide HK2).cells.2.1, (unhide HK2).cells.2.2.1, by rw [hbc.cell (p := ⟨gr, off + kn, none⟩) hgr]; exact hcelln⟩ (fun hS2 => ?_)
          clear hK K hS HKD hbc
          refine wpAnyH_take (i := 17) (v := ?_) rfl (by kernel_rfl) (by kernel_rfl) (by kernel_rfl) (fun _ _ _ h => h) (Or.inl ⟨by rfl, ?_⟩) hS2 ?_
          rotate_left
          · intro u hu; (try dsimp only at hu); go_simp; try with_reducible rfl
          simp only [Act.put, List.getElem_toArray, List.getElem_cons_zero, List.getElem_cons_succ, List.setIfInBounds_toArray, List.set_cons_zero, List.set_cons_succ]
          refine wpAnyH_take (i := 18) (v := ?_) rfl (by kernel_rfl) (by kernel_rfl) (by kernel_rfl) (fun _ _ _ h => h) (Or.inl ⟨by rfl, ?_⟩) hS2 ?_
          rotate_left
          · intro u hu; (try dsimp only at hu); go_simp; try with_reducible rfl
          simp only [Act.put, List.getElem_toArray, List.getElem_cons_zero, List.getElem_cons_succ, List.setIfInBounds_toArray, List.set_cons_zero, List.set_cons_succ]
          refine wpAnyH_done (by kernel_rfl) ?_ _
          clear hS2 k0 k1 k2 k3 k4 hcell hcelln HK
          go_wp2_with fail
          go_loopw [14] (fun b wr => b = .int .i64 0 ∧ Hid (Kw w wr xb fb hb V a n cap xa xc (ren ns es os) 15 p1 p2 (.slice fa q1 fc) (some ⟨gr, off, none⟩) q2 hc l2)) (fun b wr => 0)
          case atStart => exact ⟨rfl, HK2⟩
          case round =>
            obtain ⟨rfl, HK3⟩ := hrel
            obtain ⟨k0, k1, k2, k3, k4⟩ := (unhide HK3).cells
            go_wp2_with fail
            go_roundw
            case rel => exact ⟨k + 1, by go_num, by omega, HK3⟩
            case measure => simp [intOf]; omega
        · have hsrc : ∀ e ∈ ren ns es os, e.2 ≠ x := by
            refine kind_sources (unhide HF2) ?_
            rw [← unhide HX, show l2.getD k 0 = l2[k]'(by rw [unhide HQ2]; exact hkq) by simp [List.getD, unhide HQ2, hkq]]
            exact List.getElem_mem _
          have HSRC := hide hsrc
          have HKD := hide ((unhide HK).step ((Below.refl _ _).drew))
          clear hsrc
          go_upto_region 13 with fail
          refine wp_region_held_drew (S := fun u => u.cell? ⟨hb, 0, none⟩ = some (.int .i64 16)) (by kernel_rfl) k1 (fun hS => ?_)
          refine wpAnyH_take (i := 0) (v := ?_) rfl (by kernel_rfl) (by kernel_rfl) (by kernel_rfl) (fun _ _ _ h => h) (Or.inl ⟨by rfl, ?_⟩) hS ?_
          rotate_left
          · intro u hu; (try dsimp only at hu); go_simp; try with_reducible rfl
          simp only [Act.put, List.getElem_toArray, List.getElem_cons_zero, List.getElem_cons_succ, List.setIfInBounds_toArray, List.set_cons_zero, List.set_cons_succ]
          refine wpAnyH_take (i := 1) (v := ?_) rfl (by kernel_rfl) (by kernel_rfl) (by kernel_rfl) (fun _ _ _ h => h) (Or.inl ⟨by rfl, ?_⟩) hS ?_
          rotate_left
          · intro u hu; (try dsimp only at hu); go_simp; try with_reducible rfl
          simp only [Act.put, List.getElem_toArray, List.getElem_cons_zero, List.getElem_cons_succ, List.setIfInBounds_toArray, List.set_cons_zero, List.set_cons_succ]
          refine wpAnyH_take (i := 2) (v := ?_) rfl (by kernel_rfl) (by kernel_rfl) (by kernel_rfl) (fun _ _ _ h => h) (Or.inl ⟨by rfl, ?_⟩) hS ?_
          rotate_left
          · intro u hu; (try dsimp only at hu); go_simp; try with_reducible rfl
          simp only [Act.put, List.getElem_toArray, List.getElem_cons_zero, List.getElem_cons_succ, List.setIfInBounds_toArray, List.set_cons_zero, List.set_cons_succ]
          refine wpAnyH_take (i := 3) (v := ?_) rfl (by kernel_rfl) (by kernel_rfl) (by kernel_rfl) (fun _ _ _ h => h) (Or.inl ⟨by rfl, ?_⟩) hS ?_
          rotate_left
          · intro u hu; (try dsimp only at hu); go_simp; try with_reducible rfl
          simp only [Act.put, List.getElem_toArray, List.getElem_cons_zero, List.getElem_cons_succ, List.setIfInBounds_toArray, List.set_cons_zero, List.set_cons_succ]
          refine wpAnyH_take (i := 4) (v := undef) rfl (by kernel_rfl) (by kernel_rfl) (by kernel_rfl) (fun _ _ _ h => h) (Or.inr ⟨by rfl, rfl⟩) hS ?_
          simp only [Act.put, List.getElem_toArray, List.getElem_cons_zero, List.getElem_cons_succ, List.setIfInBounds_toArray, List.set_cons_zero, List.set_cons_succ]
          refine wpAnyH_take (i := 5) (v := undef) rfl (by kernel_rfl) (by kernel_rfl) (by kernel_rfl) (fun _ _ _ h => h) (Or.inr ⟨by rfl, rfl⟩) hS ?_
          simp only [Act.put, List.getElem_toArray, List.getElem_cons_zero, List.getElem_cons_succ, List.setIfInBounds_toArray, List.set_cons_zero, List.set_cons_succ]
          refine wpAnyH_take (i := 6) (v := undef) rfl (by kernel_rfl) (by kernel_rfl) (by kernel_rfl) (fun _ _ _ h => h) (Or.inr ⟨by rfl, rfl⟩) hS ?_
          simp only [Act.put, List.getElem_toArray, List.getElem_cons_zero, List.getElem_cons_succ, List.setIfInBounds_toArray, List.set_cons_zero, List.set_cons_succ]
          refine wpAnyH_take (i := 7) (v := undef) rfl (by kernel_rfl) (by kernel_rfl) (by kernel_rfl) (fun _ _ _ h => h) (Or.inr ⟨by rfl, rfl⟩) hS ?_
          simp only [Act.put, List.getElem_toArray, List.getElem_cons_zero, List.getElem_cons_succ, List.setIfInBounds_toArray, List.set_cons_zero, List.set_cons_succ]
          refine wpAnyH_take (i := 8) (v := undef) rfl (by kernel_rfl) (by kernel_rfl) (by kernel_rfl) (fun _ _ _ h => h) (Or.inr ⟨by rfl, rfl⟩) hS ?_
          simp only [Act.put, List.getElem_toArray, List.getElem_cons_zero, List.getElem_cons_succ, List.setIfInBounds_toArray, List.set_cons_zero, List.set_cons_succ]
          refine wpAnyH_take (i := 9) (v := undef) rfl (by kernel_rfl) (by kernel_rfl) (by kernel_rfl) (fun _ _ _ h => h) (Or.inr ⟨by rfl, rfl⟩) hS ?_
          simp only [Act.put, List.getElem_toArray, List.getElem_cons_zero, List.getElem_cons_succ, List.setIfInBounds_toArray, List.set_cons_zero, List.set_cons_succ]
          refine wpAnyH_take (i := 10) (v := undef) rfl (by kernel_rfl) (by kernel_rfl) (by kernel_rfl) (fun _ _ _ h => h) (Or.inr ⟨by rfl, rfl⟩) hS ?_
          simp only [Act.put, List.getElem_toArray, List.getElem_cons_zero, List.getElem_cons_succ, List.setIfInBounds_toArray, List.set_cons_zero, List.set_cons_succ]
          refine wpAnyH_take (i := 11) (v := undef) rfl (by kernel_rfl) (by kernel_rfl) (by kernel_rfl) (fun _ _ _ h => h) (Or.inr ⟨by rfl, rfl⟩) hS ?_
          simp only [Act.put, List.getElem_toArray, List.getElem_cons_zero, List.getElem_cons_succ, List.setIfInBounds_toArray, List.set_cons_zero, List.set_cons_succ]
          refine wpAnyH_take (i := 12) (v := undef) rfl (by kernel_rfl) (by kernel_rfl) (by kernel_rfl) (fun _ _ _ h => h) (Or.inr ⟨by rfl, rfl⟩) hS ?_
          simp only [Act.put, List.getElem_toArray, List.getElem_cons_zero, List.getElem_cons_succ, List.setIfInBounds_toArray, List.set_cons_zero, List.set_cons_succ]
          refine wpAnyH_take (i := 13) (v := undef) rfl (by kernel_rfl) (by kernel_rfl) (by kernel_rfl) (fun _ _ _ h => h) (Or.inr ⟨by rfl, rfl⟩) hS ?_
          simp only [Act.put, List.getElem_toArray, List.getElem_cons_zero, List.getElem_cons_succ, List.setIfInBounds_toArray, List.set_cons_zero, List.set_cons_succ]
          refine wpAnyH_take (i := 14) (v := undef) rfl (by kernel_rfl) (by kernel_rfl) (by kernel_rfl) (fun _ _ _ h => h) (Or.inr ⟨by rfl, rfl⟩) hS ?_
          simp only [Act.put, List.getElem_toArray, List.getElem_cons_zero, List.getElem_cons_succ, List.setIfInBounds_toArray, List.set_cons_zero, List.set_cons_succ]
          refine wpAnyH_take (i := 15) (v := undef) rfl (by kernel_rfl) (by kernel_rfl) (by kernel_rfl) (fun _ _ _ h => h) (Or.inr ⟨by rfl, rfl⟩) hS ?_
          simp only [Act.put, List.getElem_toArray, List.getElem_cons_zero, List.getElem_cons_succ, List.setIfInBounds_toArray, List.set_cons_zero, List.set_cons_succ]
          refine wpAnyH_take (i := 16) (v := undef) rfl (by kernel_rfl) (by kernel_rfl) (by kernel_rfl) (fun _ _ _ h => h) (Or.inr ⟨by rfl, rfl⟩) hS ?_
          simp only [Act.put, List.getElem_toArray, List.getElem_cons_zero, List.getElem_cons_succ, List.setIfInBounds_toArray, List.set_cons_zero, List.set_cons_succ]
          refine wpAnyH_take (i := 17) (v := undef) rfl (by kernel_rfl) (by kernel_rfl) (by kernel_rfl) (fun _ _ _ h => h) (Or.inr ⟨by rfl, rfl⟩) hS ?_
          simp only [Act.put, List.getElem_toArray, List.getElem_cons_zero, List.getElem_cons_succ, List.setIfInBounds_toArray, List.set_cons_zero, List.set_cons_succ]
          refine wpAnyH_take (i := 18) (v := ?_) rfl (by kernel_rfl) (by kernel_rfl) (by kernel_rfl) (fun _ _ _ h => h) (Or.inl ⟨by rfl, ?_⟩) hS ?_
          rotate_left
          · intro u hu; (try dsimp only at hu); go_simp; try with_reducible rfl
          simp only [Act.put, List.getElem_toArray, List.getElem_cons_zero, List.getElem_cons_succ, List.setIfInBounds_toArray, List.set_cons_zero, List.set_cons_succ]
          refine wpAnyH_done (by kernel_rfl) ?_ _
          clear hS k0 k1 k2 k3 k4 hcell HK
          obtain ⟨k0, k1, k2, k3, k4⟩ := (unhide HKD).cells
          go_wp2_with fail
          go_loopw [14] (fun b wr => ∃ j : Nat, b = .int .i64 j ∧ j ≤ V ∧ Hid (Kw w wr xb fb hb V a n cap xa xc (ren ns es os) 16 p1 p2 (.slice fa q1 fc) (some ⟨gr, off, none⟩) q2 hc l2)) (fun b wr => V - (intOf b).toNat)
          case atStart => exact ⟨0, rfl, by omega, HKD⟩
          case round =>
            obtain ⟨j, rfl, hj, HK3⟩ := hrel
            clear k0 k1 k2 k3 k4
            obtain ⟨k0, k1, k2, k3, k4⟩ := (unhide HK3).cells
            by_cases hjV : j < V
            · have hjV2 : (j : Int) < (V : Int) := by omega
              go_wp2_with fail
              refine ((unhide HK3).edge (unhide HLR) j x).mono ?_
              rintro e uc ⟨⟨r, rfl, hr⟩, hbc⟩
              obtain rfl : r = false := by
                cases r with
                | false => rfl
                | true => exact absurd (hr.1 rfl) (edge_no (unhide HSRC) j)
              have HK4 := hide ((unhide HK3).step hbc)
              clear hr hbc k0 k1 k2 k3 k4
              go_wp2_with fail
              go_roundw
              case rel => exact ⟨j + 1, by go_num, by omega, HK4⟩
              case measure => simp [intOf]; omega
            · have hjV2 : decide ((j : Int) < (V : Int)) = false := decide_eq_false (by omega)
              go_wp2_with fail
              go_roundw
              case rel => exact ⟨k + 1, by go_num, by omega, HK3⟩
              case measure => simp [intOf]; omega
      · have hkq2 : decide ((k : Int) < (q2 : Int)) = false := decide_eq_false (by omega)
        have hof := of_good wr V xa xc (ren ns es os) (B := 0) (by rw [unhide HLR]; exact (unhide HK).x.xes) (by rw [unhide HLR]; exact unhide HXN) (unhide HPR)
        rw [unhide HLR] at hof
        have HOF := hide hof
        clear hof
        go_wp2_with fail
        refine (unhide HOF).mono ?_
        rintro e w5 ⟨⟨b, ea, ec, va, vc, ia, ic, ra, rc, rfl, hbb, hvw⟩, hb5⟩
        have HK5 := hide ((unhide HK).step hb5)
        have HVW := hide hvw
        have hol := (Pl.order_run V (ren ns es os)).1.le
        clear hb5 hvw hbb HOF HK k0 k1 k2 k3 k4
        go_wp2_with fail
        refine (order_any w5 b V (ren ns es os) _ _ _ _ _ _ _ _ _ (unhide HVW) hv64 (by omega)).mono ?_
        rintro e w6 ⟨hot, hb6⟩
        obtain ⟨la, lc, rfl, _⟩ := ord_told hot (by omega)
        have HK6 := hide ((unhide HK5).step hb6)
        clear hot hb6 HK5 HVW
        obtain ⟨k0, k1, k2, k3, k4⟩ := (unhide HK6).cells
        generalize (ordL V (Pl.order V (ren ns es os))).length = ql
        rcases kind_order (unhide HPR) (unhide HF2) with ⟨hcs, hle⟩ | ⟨hcs, hlt⟩ | rfl
        · rw [show decide (V ≤ (Pl.order V (ren ns es os)).length) = true from decide_eq_true hle]
          rcases hcs with rfl | rfl
          all_goals
            go_wp2_with fail
            go_ret
            exact ⟨rfl, (unhide HK6).x.bel⟩
        · rw [show decide (V ≤ (Pl.order V (ren ns es os)).length) = false from decide_eq_false (by omega)]
          rcases hcs with rfl | rfl
          all_goals
            go_wp2_with fail
            go_ret
            exact ⟨rfl, (unhide HK6).x.bel⟩
        · generalize decide (V ≤ (Pl.order V (ren ns es os)).length) = ob
          cases ob
          all_goals
            go_wp2_with fail
            go_ret
            exact ⟨rfl, (unhide HK6).x.bel⟩
end Go.Proofs.Ytgbdnpmpkilcoaa

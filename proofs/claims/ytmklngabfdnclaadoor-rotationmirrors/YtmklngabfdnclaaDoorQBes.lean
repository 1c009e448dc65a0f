/-
  The contract of reach.beside: for each vertex the set of its neighbours, without some. Conditions: the graph lies in memory as told and may be.
-/
import Derived.Test.YtmklngabfdnclaaDoorQPt
import Derived.Test.YtmklngabfdnclaaDoorQBt
import Derived.OrdersHeld
import Derived.Deep.CutBlock
import Derived.Deep.CutRange
import Derived.Deep.RegionHeld
namespace Go.Proofs.YtmklngabfdnclaaDoor.pt
open Go.RowKit
set_option linter.unusedVariables false

theorem e_cells {u : World} {eb : Nat} {p q : Int} (h : u.heap[eb]? = some (.cells #[.int .i64 p, .int .i64 q] 44 (0, 0))) : u.cell? ⟨eb, 0, none⟩ = some (.int .i64 p) ∧ u.cell? ⟨eb, 1, none⟩ = some (.int .i64 q) := by
  simp [World.cell?, h]
theorem ns_two' (w : World) (x y : Int) (g : Nat) (hg : g = w.heap.size) : Ns (w.alloc (.cells #[.int .i64 x, .int .i64 y] 3)) (some ⟨g, 0, none⟩) 2 [x, y] := by
  subst hg
  exact ns_two w x y
theorem and_two (S : Nat) {p q : Nat} (hp : p < 64) (hq : q < 64) : S &&& ofS [(p : Int), (q : Int)] = 0 ↔ (S.testBit p || S.testBit q) = false := by
  constructor
  · intro h
    have hb : ∀ j, (S.testBit j && (ofS [(p : Int), (q : Int)]).testBit j) = false := fun j => by rw [← Nat.testBit_and, h]; simp
    have h1 := hb p
    have h2 := hb q
    rw [testBit_ofS] at h1 h2
    have e1 : decide (p < 64 ∧ (p : Int) ∈ [(p : Int), (q : Int)]) = true := by simp [hp]
    have e2 : decide (q < 64 ∧ (q : Int) ∈ [(p : Int), (q : Int)]) = true := by simp [hq]
    rw [e1] at h1
    rw [e2] at h2
    simp at h1 h2
    simp [h1, h2]
  · intro h
    simp at h
    apply Nat.eq_of_testBit_eq
    intro j
    rw [Nat.testBit_and, testBit_ofS, Nat.zero_testBit]
    by_cases h1 : j = p
    · subst h1; simp [h.1]
    · by_cases h2 : j = q
      · subst h2; simp [h.2]
      · have h3 : ¬ (j : Int) = (p : Int) := by omega
        have h4 : ¬ (j : Int) = (q : Int) := by omega
        simp [h3, h4]

set_option maxHeartbeats 8000000 in
theorem beside_any (w : World) (V : Nat) (a : Option Addr) (n cap : Nat) (es : List (Nat × Nat)) {B : Nat} (h : Es B w a n (toI es)) (hne : es.length = n) (hp : Plain V es) (S : Nat) (hS : S < 18446744073709551616) :
    Calls Tryd.prog 32 #[.agg #[.int .i64 V, .slice a n cap], .int .u64 S] w fun e w' => (∃ g, e = .returned (.slice (some ⟨g, 0, none⟩) V V) ∧ w.heap.size ≤ g ∧ RowU w' g V (bsF es S.testBit)) ∧ Below w.heap.size w w' := by
  have hv64 := hp.v64
  have hv1 := hp.v1
  have hn128 := hp.n128
  rw [hne] at hn128
  have HE := hide h
  have HP := hide hp
  have HN := hide hne
  have HB0 := hide (Bg.start w (.int .i64 V) (.slice a n cap))
  obtain ⟨i0, hi0, hz0, hz1, hz2⟩ := info_parts info25
  have HI := hide hi0
  have HZ0 := hide hz0
  have HZ1 := hide hz1
  have hzb : i0.bytes * V ≤ 281474976710656 := by rw [hz2]; omega
  clear hi0 hz0 hz1 hz2 h hp hne
  go_enter Tryd.func32, Tryd.ntmps32
  go_wp2_with (refine wpList_make_full _ rfl (.tmp 9) (.tmp 9) 47 rfl (w.heap.size + 1) 50 i0 (.int .u64 0) 1 Tryd.underlying47 (unhide HI) (unhide HZ0) (unhide HZ1) .i64 .i64 _ _ V rfl rfl rfl rfl hzb ?m1 ?m2 ?_)
  case m1 => unfold maxLen; omega
  case m2 => simp
  intro w1 hown1 hg1
  rw [toList_madeCells_one] at hown1
  have hs0 : (w.alloc (.cells #[.int .i64 (V : Int), .slice a n cap] 24)).heap.size = w.heap.size + 1 := by simp
  have hb1 : Below (w.heap.size + 1) (w.alloc (.cells #[.int .i64 (V : Int), .slice a n cap] 24)) w1 := ⟨hg1.os, hg1.tape, hg1.output, hg1.size, fun k hk => hg1.block k (by rw [hs0]; exact hk) (by simp)⟩
  have HB1 := hide ((unhide HB0).stepB (by omega) hb1)
  have HR1 := hide ((Row.of_owns hown1).congr (f' := fun t => .int .u64 (bsF (es.take 0) S.testBit t : Nat)) (fun t ht => rfl))
  clear hown1 hg1 hb1 HB0 hs0
  obtain ⟨g0, g1⟩ := (unhide HB1).cells
  go_wp2_with fail
  clear g0 g1
  go_loopw [14] (fun i wr => ∃ k : Nat, i = .int .i64 k ∧ k ≤ n ∧ Hid (RowU wr (w.heap.size + 1) V (bsF (es.take k) S.testBit)) ∧ Hid (Bg w wr (.int .i64 V) (.slice a n cap))) (fun i wr => n - (intOf i).toNat)
  case atStart => exact ⟨0, rfl, by omega, HR1, HB1⟩
  case round =>
    clear HR1 HB1
    obtain ⟨k, rfl, hk, HR, HB⟩ := hrel
    have hszr := (unhide HR).lt
    have hgw := (unhide HB).lt
    by_cases hlt : k < n
    · obtain ⟨g, off, ha, hg, c0, c1⟩ := es_at (i := k) (by have := unhide HE; rw [← unhide HN] at this; exact this) (by rw [unhide HN]; exact hlt)
      subst ha
      have hends := (unhide HP).at (i := k) (by rw [unhide HN]; exact hlt)
      have hstep : ∀ p q, es.getD k (0, 0) = (p, q) → bsF (es.take (k + 1)) S.testBit = if (S.testBit p || S.testBit q) = true then bsF (es.take k) S.testBit else upd (upd (bsF (es.take k) S.testBit) p (bsF (es.take k) S.testBit p ||| bitI (q : Int))) q (upd (bsF (es.take k) S.testBit) p (bsF (es.take k) S.testBit p ||| bitI (q : Int)) q ||| bitI (p : Int)) := fun p q he => by
        rw [take_snoc es k (by rw [unhide HN]; exact hlt), he, bsF_snoc]
      obtain ⟨⟨p, q⟩, hpq⟩ : ∃ e, es.getD k (0, 0) = e := ⟨_, rfl⟩
      rw [hpq] at c0 c1 hends
      have hst := hstep p q hpq
      clear hstep hpq
      obtain ⟨hpV, hqV⟩ := hends
      simp only at c0 c1 hpV hqV
      have d0 : wr.cell? ⟨g, off + k * 2, none⟩ = some (.int .i64 (p : Nat)) := by rw [(unhide HB).bel.cell (p := ⟨g, off + k * 2, none⟩) hg]; exact c0
      have d1 : wr.cell? ⟨g, off + k * 2 + 1, none⟩ = some (.int .i64 (q : Nat)) := by rw [(unhide HB).bel.cell (p := ⟨g, off + k * 2 + 1, none⟩) hg]; exact c1
      have hlt2 : (k : Int) < (n : Int) := by omega
      have hp2 : (p : Int) < (V : Int) := by omega
      have hq2 : (q : Int) < (V : Int) := by omega
      have hgr : g < wr.heap.size := by omega
      clear c0 c1
      have HFL := hide (bsF_lt (es.take k) S.testBit)
      generalize bsF (es.take k) S.testBit = F at HR hst HFL
      have HST0 := hide hst
      clear hst
      have hand := u64_and_nat S (ofS [(p : Int), (q : Int)]) hS (ofS_lt _)
      have hzz := and_two S (show p < 64 by omega) (show q < 64 by omega)
      have HZZ := hide hzz
      clear hzz
      go_wp2_with fail
      refine (of_any ((wr.alloc (.cells #[.int .i64 (p : Int), .int .i64 (q : Int)] 44)).alloc (.cells #[.int .i64 (p : Int), .int .i64 (q : Int)] 3)) (some ⟨wr.heap.size + 1, 0, none⟩) 2 2 [(p : Int), (q : Int)] (ns_two' _ p q _ (by simp))).mono ?_
      rintro e w5 ⟨rfl, hw5⟩
      obtain rfl := hw5.symm
      clear hw5
      have EV := hide ((Bt.start 44 #[.int .i64 (p : Int), .int .i64 (q : Int)] wr).step (b_al (.cells #[.int .i64 (p : Int), .int .i64 (q : Int)] 3))).gb
      have RV := hide ((Row.below (unhide HR) (b_al (.cells #[.int .i64 (p : Int), .int .i64 (q : Int)] 44))).below (b_al (.cells #[.int .i64 (p : Int), .int .i64 (q : Int)] 3)))
      have BV := hide (((unhide HB).step (b_al (.cells #[.int .i64 (p : Int), .int .i64 (q : Int)] 44))).step (b_al (.cells #[.int .i64 (p : Int), .int .i64 (q : Int)] 3)))
      have hebne : wr.heap.size ≠ w.heap.size + 1 := by omega
      clear d0 d1 HR HB
      generalize ((wr.alloc (.cells #[.int .i64 (p : Int), .int .i64 (q : Int)] 44)).alloc (.cells #[.int .i64 (p : Int), .int .i64 (q : Int)] 3)) = wv at EV RV BV ⊢
      clear hszr hgr hgw
      generalize wr.heap.size = eb at EV hebne ⊢
      generalize ofS [(p : Int), (q : Int)] = m at hand HZZ ⊢
      by_cases hz : S &&& m = 0
      · have hno := (unhide HZZ).1 hz
        rw [hz] at hand
        have hst := unhide HST0
        rw [hno] at hst
        have HST := hide hst
        clear hst hno hz HZZ HST0
        go_upto_region 6 with fail
        have hor := u64_or_nat (F p) (bitI (q : Int)) (unhide HFL p) (bitI_lt _)
        rw [← ofS_one] at hor
        go_cut [] from 27 to 37 (fun wx => Hid (RowU wx (w.heap.size + 1) V (upd F p (F p ||| bitI (q : Int)))) ∧ Hid (wx.heap[eb]? = some (.cells #[.int .i64 (p : Int), .int .i64 (q : Int)] 44 (0, 0))) ∧ Hid (Bg w wx (.int .i64 V) (.slice (some ⟨g, off, none⟩) n cap)))
        case first =>
          rw [show F p ||| ofS [(q : Int)] = F p ||| bitI (q : Int) by rw [ofS_one]] at hor
          refine wp_region_held_drew (S := fun u => u.cell? ⟨eb, 0, none⟩ = some (.int .i64 (p : Int)) ∧ u.cell? ⟨eb, 1, none⟩ = some (.int .i64 (q : Int))) (by kernel_rfl) (e_cells (unhide EV)) (fun hS => ?_)
          have RU := hide (show RowU wv.drew (w.heap.size + 1) V F from Row.below (unhide RV) b_dr)
          have EU := hide (show wv.drew.heap[eb]? = some (.cells #[.int .i64 (p : Int), .int .i64 (q : Int)] 44 (0, 0)) from unhide EV)
          have BU := hide ((unhide BV).step b_dr)
          clear RV EV BV
          generalize wv.drew = uu at RU EU BU hS ⊢
          refine wpAnyH_take (i := 0) (v := ?_) rfl (by kernel_rfl) (by kernel_rfl) (by kernel_rfl) (fun _ _ _ h => h) (Or.inl ⟨by rfl, ?_⟩) hS ?_
          rotate_left
          · intro u hu; (try dsimp only at hu); go_simp; try with_reducible rfl
          simp only [Act.put, List.getElem_toArray, List.getElem_cons_zero, List.setIfInBounds_toArray, List.set_cons_zero, List.set_cons_succ]
          refine wpAnyH_take (i := 1) (v := ?_) rfl (by kernel_rfl) (by kernel_rfl) (by kernel_rfl) (fun _ _ _ h => h) (Or.inl ⟨by rfl, ?_⟩) hS ?_
          rotate_left
          · intro u hu; (try dsimp only at hu); go_simp; try with_reducible rfl
          simp only [Act.put, List.getElem_toArray, List.getElem_cons_zero, List.getElem_cons_succ, List.setIfInBounds_toArray, List.set_cons_zero, List.set_cons_succ]
          refine wpAnyH_take (i := 2) (v := ?_) rfl (by kernel_rfl) (by kernel_rfl) (by kernel_rfl) (fun _ _ _ h => h) (Or.inl ⟨by rfl, ?_⟩) hS ?_
          rotate_left
          · intro u hu; (try dsimp only at hu); go_simp; try with_reducible rfl
          simp only [Act.put, List.getElem_toArray, List.getElem_cons_zero, List.getElem_cons_succ, List.setIfInBounds_toArray, List.set_cons_zero, List.set_cons_succ]
          refine wpAnyH_take (i := 3) (v := ?_) rfl (by kernel_rfl) (by kernel_rfl) (by kernel_rfl) (fun _ _ _ h => h) (Or.inl ⟨by rfl, ?_⟩) hS ?_
          rotate_left
          · intro u hu; (try dsimp only at hu); go_simp; try with_reducible rfl
          simp only [Act.put, List.getElem_toArray, List.getElem_cons_zero, List.getElem_cons_succ, List.setIfInBounds_toArray, List.set_cons_zero, List.set_cons_succ]
          refine wpAnyH_take (i := 5) (v := ?_) rfl (by kernel_rfl) (by kernel_rfl) (by kernel_rfl) (fun _ _ _ h => h) (Or.inl ⟨by rfl, ?_⟩) hS ?_
          rotate_left
          · intro u hu; (try dsimp only at hu); go_simp; try with_reducible rfl
          simp only [Act.put, List.getElem_toArray, List.getElem_cons_zero, List.getElem_cons_succ, List.setIfInBounds_toArray, List.set_cons_zero, List.set_cons_succ]
          refine wpAnyH_take (i := 6) (v := ?_) rfl (by kernel_rfl) (by kernel_rfl) (by kernel_rfl) (fun _ _ _ h => h) (Or.inl ⟨by rfl, ?_⟩) hS ?_
          rotate_left
          · intro u hu; (try dsimp only at hu); go_simp; try with_reducible rfl
          simp only [Act.put, List.getElem_toArray, List.getElem_cons_zero, List.getElem_cons_succ, List.setIfInBounds_toArray, List.set_cons_zero, List.set_cons_succ]
          refine wpAnyH_ready (rs := [4, 7]) (by kernel_rfl) (by simp) ?_
          refine AllReadyH.cons rfl (fun K hK => ?_) (AllReadyH.cons rfl (fun K hK => ?_) AllReadyH.nil)
          · have r0 := (unhide RU).cell hpV
            go_simp
            refine hK.out _ _ hS (fun hS2 => ?_)
            clear hK K hS2 r0
            refine wpAnyH_ready (rs := [7]) (by kernel_rfl) (by simp) ?_
            refine AllReadyH.cons rfl (fun K hK => ?_) AllReadyH.nil
            go_simp
            have Y := hide (Bt.start 3 #[.int .i64 (q : Int)] uu)
            have EU2 := hide (show (uu.alloc (.cells #[.int .i64 (q : Int)] 3)).heap[eb]? = some (.cells #[.int .i64 (p : Int), .int .i64 (q : Int)] 44 (0, 0)) by rw [Below.heap_alloc _ _ _ (Array.getElem?_eq_some_iff.1 (unhide EU)).1]; exact unhide EU)
            have RU2 := hide (Row.below (unhide RU) (b_al (.cells #[.int .i64 (q : Int)] 3)))
            have BU2 := hide ((unhide BU).step (b_al (.cells #[.int .i64 (q : Int)] 3)))
            refine hK.out _ _ (e_cells (unhide EU2)) (fun hS2 => ?_)
            clear hK K hS RU EU BU
            have hS := hS2
            clear hS2
            have RU := RU2
            have EU := EU2
            have BU := BU2
            clear RU2 EU2 BU2
            generalize (uu.alloc (.cells #[.int .i64 (q : Int)] 3)) = ub1 at Y RU EU BU hS ⊢
            refine wpAnyH_ready (rs := [8]) (by kernel_rfl) (by simp) ?_
            refine AllReadyH.cons rfl (fun K hK => ?_) AllReadyH.nil
            go_simp
            go_wp2_with (go_at_call 20; refine (of_any _ _ 1 1 [(q : Int)] (ns_of_bt (unhide Y))).mono ?_; rintro e w5 ⟨rfl, hw5⟩; obtain rfl := hw5.symm; clear hw5)
            refine hK.out _ _ hS (fun hS2 => ?_)
            clear hK K hS2
            refine wpAnyH_take (i := 9) (v := ?_) rfl (by kernel_rfl) (by kernel_rfl) (by kernel_rfl) (fun _ _ _ h => h) (Or.inl ⟨by rfl, ?_⟩) hS ?_
            rotate_left
            · intro u hu; (try dsimp only at hu); go_simp; try with_reducible rfl
            simp only [Act.put, List.getElem_toArray, List.getElem_cons_zero, List.getElem_cons_succ, List.setIfInBounds_toArray, List.set_cons_zero, List.set_cons_succ]
            refine wpAnyH_take (i := 10) (v := ?_) rfl (by kernel_rfl) (by kernel_rfl) (by kernel_rfl) (fun _ _ _ h => h) (Or.inl ⟨by rfl, ?_⟩) hS ?_
            rotate_left
            · intro u hu; (try dsimp only at hu); go_simp; try with_reducible rfl
            simp only [Act.put, List.getElem_toArray, List.getElem_cons_zero, List.getElem_cons_succ, List.setIfInBounds_toArray, List.set_cons_zero, List.set_cons_succ]
            have r1 := (unhide RU).fz p
            have r0 := (unhide RU).cell hpV
            refine wpAnyH_ready (rs := [11]) (by kernel_rfl) (by simp) ?_
            refine AllReadyH.cons rfl (fun K hK => ?_) AllReadyH.nil
            go_simp
            have EU2 := hide (show (ub1.setCell ⟨w.heap.size + 1, p, none⟩ (.int .u64 ((F p ||| bitI (q : Int) : Nat) : Int))).heap[eb]? = some (.cells #[.int .i64 (p : Int), .int .i64 (q : Int)] 44 (0, 0)) by rw [Below.heap_setCell _ _ _ _ hebne]; exact unhide EU)
            have RU2 := hide (RowU.set (unhide RU) p (F p ||| bitI (q : Int)))
            have BU2 := hide ((unhide BU).stepB (B := w.heap.size + 1) (wk' := (ub1.setCell ⟨w.heap.size + 1, p, none⟩ (.int .u64 ((F p ||| bitI (q : Int) : Nat) : Int)))) (by omega) ((Below.refl _ _).setCell (p := ⟨w.heap.size + 1, p, none⟩) (Nat.le_refl _) _))
            refine hK.out _ _ (e_cells (unhide EU2)) (fun hS2 => ?_)
            clear hK K hS hS2 r0 r1 RU EU BU
            generalize (ub1.setCell ⟨w.heap.size + 1, p, none⟩ (.int .u64 ((F p ||| bitI (q : Int) : Nat) : Int))) = uz at EU2 RU2 BU2 ⊢
            refine wpAnyH_done (by kernel_rfl) ?_ _
            go_wp2_with fail
            go_meet
            exact ⟨RU2, EU2, BU2⟩
          · go_simp
            have Y := hide (Bt.start 3 #[.int .i64 (q : Int)] uu)
            have EU2 := hide (show (uu.alloc (.cells #[.int .i64 (q : Int)] 3)).heap[eb]? = some (.cells #[.int .i64 (p : Int), .int .i64 (q : Int)] 44 (0, 0)) by rw [Below.heap_alloc _ _ _ (Array.getElem?_eq_some_iff.1 (unhide EU)).1]; exact unhide EU)
            have RU2 := hide (Row.below (unhide RU) (b_al (.cells #[.int .i64 (q : Int)] 3)))
            have BU2 := hide ((unhide BU).step (b_al (.cells #[.int .i64 (q : Int)] 3)))
            refine hK.out _ _ (e_cells (unhide EU2)) (fun hS2 => ?_)
            clear hK K hS RU EU BU
            have hS := hS2
            clear hS2
            have RU := RU2
            have EU := EU2
            have BU := BU2
            clear RU2 EU2 BU2
            generalize (uu.alloc (.cells #[.int .i64 (q : Int)] 3)) = ub2 at Y RU EU BU hS ⊢
            refine wpAnyH_ready (rs := [4, 8]) (by kernel_rfl) (by simp) ?_
            refine AllReadyH.cons rfl (fun K hK => ?_) (AllReadyH.cons rfl (fun K hK => ?_) AllReadyH.nil)
            · have r0 := (unhide RU).cell hpV
              go_simp
              refine hK.out _ _ hS (fun hS2 => ?_)
              clear hK K hS2 r0
              refine wpAnyH_ready (rs := [8]) (by kernel_rfl) (by simp) ?_
              refine AllReadyH.cons rfl (fun K hK => ?_) AllReadyH.nil
              go_simp
              go_wp2_with (go_at_call 20; refine (of_any _ _ 1 1 [(q : Int)] (ns_of_bt (unhide Y))).mono ?_; rintro e w5 ⟨rfl, hw5⟩; obtain rfl := hw5.symm; clear hw5)
              refine hK.out _ _ hS (fun hS2 => ?_)
              clear hK K hS2
              refine wpAnyH_take (i := 9) (v := ?_) rfl (by kernel_rfl) (by kernel_rfl) (by kernel_rfl) (fun _ _ _ h => h) (Or.inl ⟨by rfl, ?_⟩) hS ?_
              rotate_left
              · intro u hu; (try dsimp only at hu); go_simp; try with_reducible rfl
              simp only [Act.put, List.getElem_toArray, List.getElem_cons_zero, List.getElem_cons_succ, List.setIfInBounds_toArray, List.set_cons_zero, List.set_cons_succ]
              refine wpAnyH_take (i := 10) (v := ?_) rfl (by kernel_rfl) (by kernel_rfl) (by kernel_rfl) (fun _ _ _ h => h) (Or.inl ⟨by rfl, ?_⟩) hS ?_
              rotate_left
              · intro u hu; (try dsimp only at hu); go_simp; try with_reducible rfl
              simp only [Act.put, List.getElem_toArray, List.getElem_cons_zero, List.getElem_cons_succ, List.setIfInBounds_toArray, List.set_cons_zero, List.set_cons_succ]
              have r1 := (unhide RU).fz p
              have r0 := (unhide RU).cell hpV
              refine wpAnyH_ready (rs := [11]) (by kernel_rfl) (by simp) ?_
              refine AllReadyH.cons rfl (fun K hK => ?_) AllReadyH.nil
              go_simp
              have EU2 := hide (show (ub2.setCell ⟨w.heap.size + 1, p, none⟩ (.int .u64 ((F p ||| bitI (q : Int) : Nat) : Int))).heap[eb]? = some (.cells #[.int .i64 (p : Int), .int .i64 (q : Int)] 44 (0, 0)) by rw [Below.heap_setCell _ _ _ _ hebne]; exact unhide EU)
              have RU2 := hide (RowU.set (unhide RU) p (F p ||| bitI (q : Int)))
              have BU2 := hide ((unhide BU).stepB (B := w.heap.size + 1) (wk' := (ub2.setCell ⟨w.heap.size + 1, p, none⟩ (.int .u64 ((F p ||| bitI (q : Int) : Nat) : Int)))) (by omega) ((Below.refl _ _).setCell (p := ⟨w.heap.size + 1, p, none⟩) (Nat.le_refl _) _))
              refine hK.out _ _ (e_cells (unhide EU2)) (fun hS2 => ?_)
              clear hK K hS hS2 r0 r1 RU EU BU
              generalize (ub2.setCell ⟨w.heap.size + 1, p, none⟩ (.int .u64 ((F p ||| bitI (q : Int) : Nat) : Int))) = uz at EU2 RU2 BU2 ⊢
              refine wpAnyH_done (by kernel_rfl) ?_ _
              go_wp2_with fail
              go_meet
              exact ⟨RU2, EU2, BU2⟩
            · go_simp
              go_wp2_with (go_at_call 20; refine (of_any _ _ 1 1 [(q : Int)] (ns_of_bt (unhide Y))).mono ?_; rintro e w5 ⟨rfl, hw5⟩; obtain rfl := hw5.symm; clear hw5)
              refine hK.out _ _ hS (fun hS2 => ?_)
              clear hK K hS2
              refine wpAnyH_ready (rs := [4]) (by kernel_rfl) (by simp) ?_
              refine AllReadyH.cons rfl (fun K hK => ?_) AllReadyH.nil
              have r0 := (unhide RU).cell hpV
              go_simp
              refine hK.out _ _ hS (fun hS2 => ?_)
              clear hK K hS2 r0
              refine wpAnyH_take (i := 9) (v := ?_) rfl (by kernel_rfl) (by kernel_rfl) (by kernel_rfl) (fun _ _ _ h => h) (Or.inl ⟨by rfl, ?_⟩) hS ?_
              rotate_left
              · intro u hu; (try dsimp only at hu); go_simp; try with_reducible rfl
              simp only [Act.put, List.getElem_toArray, List.getElem_cons_zero, List.getElem_cons_succ, List.setIfInBounds_toArray, List.set_cons_zero, List.set_cons_succ]
              refine wpAnyH_take (i := 10) (v := ?_) rfl (by kernel_rfl) (by kernel_rfl) (by kernel_rfl) (fun _ _ _ h => h) (Or.inl ⟨by rfl, ?_⟩) hS ?_
              rotate_left
              · intro u hu; (try dsimp only at hu); go_simp; try with_reducible rfl
              simp only [Act.put, List.getElem_toArray, List.getElem_cons_zero, List.getElem_cons_succ, List.setIfInBounds_toArray, List.set_cons_zero, List.set_cons_succ]
              have r1 := (unhide RU).fz p
              have r0 := (unhide RU).cell hpV
              refine wpAnyH_ready (rs := [11]) (by kernel_rfl) (by simp) ?_
              refine AllReadyH.cons rfl (fun K hK => ?_) AllReadyH.nil
              go_simp
              have EU2 := hide (show (ub2.setCell ⟨w.heap.size + 1, p, none⟩ (.int .u64 ((F p ||| bitI (q : Int) : Nat) : Int))).heap[eb]? = some (.cells #[.int .i64 (p : Int), .int .i64 (q : Int)] 44 (0, 0)) by rw [Below.heap_setCell _ _ _ _ hebne]; exact unhide EU)
              have RU2 := hide (RowU.set (unhide RU) p (F p ||| bitI (q : Int)))
              have BU2 := hide ((unhide BU).stepB (B := w.heap.size + 1) (wk' := (ub2.setCell ⟨w.heap.size + 1, p, none⟩ (.int .u64 ((F p ||| bitI (q : Int) : Nat) : Int)))) (by omega) ((Below.refl _ _).setCell (p := ⟨w.heap.size + 1, p, none⟩) (Nat.le_refl _) _))
              refine hK.out _ _ (e_cells (unhide EU2)) (fun hS2 => ?_)
              clear hK K hS hS2 r0 r1 RU EU BU
              generalize (ub2.setCell ⟨w.heap.size + 1, p, none⟩ (.int .u64 ((F p ||| bitI (q : Int) : Nat) : Int))) = uz at EU2 RU2 BU2 ⊢
              refine wpAnyH_done (by kernel_rfl) ?_ _
              go_wp2_with fail
              go_meet
              exact ⟨RU2, EU2, BU2⟩
        case rest =>
          obtain ⟨RV2, EV2, BV2⟩ := hcut
          clear RV EV BV
          have RV := RV2
          have EV := EV2
          have BV := BV2
          clear RV2 EV2 BV2
          have hfl2 : upd F p (F p ||| bitI (q : Int)) q < 18446744073709551616 := by
            unfold upd
            split
            · exact or_lt (unhide HFL p) (bitI_lt _)
            · exact unhide HFL q
          simp only [Bool.false_eq_true, if_false] at HST
          generalize upd F p (F p ||| bitI (q : Int)) = F2 at RV HST hfl2
          clear hor
          have hor := u64_or_nat (F2 q) (bitI (p : Int)) hfl2 (bitI_lt _)
          rw [← ofS_one] at hor
          rw [show F2 q ||| ofS [(p : Int)] = F2 q ||| bitI (p : Int) by rw [ofS_one]] at hor
          go_wp2_with fail
          obtain ⟨wv, rfl⟩ : ∃ wv, wv = wc := ⟨_, rfl⟩
          refine wp_region_held_drew (S := fun u => u.cell? ⟨eb, 0, none⟩ = some (.int .i64 (p : Int)) ∧ u.cell? ⟨eb, 1, none⟩ = some (.int .i64 (q : Int))) (by kernel_rfl) (e_cells (unhide EV)) (fun hS => ?_)
          have RU := hide (show RowU wv.drew (w.heap.size + 1) V F2 from Row.below (unhide RV) b_dr)
          have EU := hide (show wv.drew.heap[eb]? = some (.cells #[.int .i64 (p : Int), .int .i64 (q : Int)] 44 (0, 0)) from unhide EV)
          have BU := hide ((unhide BV).step b_dr)
          clear RV EV BV
          generalize wv.drew = uu at RU EU BU hS ⊢
          refine wpAnyH_take (i := 0) (v := ?_) rfl (by kernel_rfl) (by kernel_rfl) (by kernel_rfl) (fun _ _ _ h => h) (Or.inl ⟨by rfl, ?_⟩) hS ?_
          rotate_left
          · intro u hu; (try dsimp only at hu); go_simp; try with_reducible rfl
          simp only [Act.put, List.getElem_toArray, List.getElem_cons_zero, List.setIfInBounds_toArray, List.set_cons_zero, List.set_cons_succ]
          refine wpAnyH_take (i := 1) (v := ?_) rfl (by kernel_rfl) (by kernel_rfl) (by kernel_rfl) (fun _ _ _ h => h) (Or.inl ⟨by rfl, ?_⟩) hS ?_
          rotate_left
          · intro u hu; (try dsimp only at hu); go_simp; try with_reducible rfl
          simp only [Act.put, List.getElem_toArray, List.getElem_cons_zero, List.getElem_cons_succ, List.setIfInBounds_toArray, List.set_cons_zero, List.set_cons_succ]
          refine wpAnyH_take (i := 2) (v := ?_) rfl (by kernel_rfl) (by kernel_rfl) (by kernel_rfl) (fun _ _ _ h => h) (Or.inl ⟨by rfl, ?_⟩) hS ?_
          rotate_left
          · intro u hu; (try dsimp only at hu); go_simp; try with_reducible rfl
          simp only [Act.put, List.getElem_toArray, List.getElem_cons_zero, List.getElem_cons_succ, List.setIfInBounds_toArray, List.set_cons_zero, List.set_cons_succ]
          refine wpAnyH_take (i := 3) (v := ?_) rfl (by kernel_rfl) (by kernel_rfl) (by kernel_rfl) (fun _ _ _ h => h) (Or.inl ⟨by rfl, ?_⟩) hS ?_
          rotate_left
          · intro u hu; (try dsimp only at hu); go_simp; try with_reducible rfl
          simp only [Act.put, List.getElem_toArray, List.getElem_cons_zero, List.getElem_cons_succ, List.setIfInBounds_toArray, List.set_cons_zero, List.set_cons_succ]
          refine wpAnyH_take (i := 5) (v := ?_) rfl (by kernel_rfl) (by kernel_rfl) (by kernel_rfl) (fun _ _ _ h => h) (Or.inl ⟨by rfl, ?_⟩) hS ?_
          rotate_left
          · intro u hu; (try dsimp only at hu); go_simp; try with_reducible rfl
          simp only [Act.put, List.getElem_toArray, List.getElem_cons_zero, List.getElem_cons_succ, List.setIfInBounds_toArray, List.set_cons_zero, List.set_cons_succ]
          refine wpAnyH_take (i := 6) (v := ?_) rfl (by kernel_rfl) (by kernel_rfl) (by kernel_rfl) (fun _ _ _ h => h) (Or.inl ⟨by rfl, ?_⟩) hS ?_
          rotate_left
          · intro u hu; (try dsimp only at hu); go_simp; try with_reducible rfl
          simp only [Act.put, List.getElem_toArray, List.getElem_cons_zero, List.getElem_cons_succ, List.setIfInBounds_toArray, List.set_cons_zero, List.set_cons_succ]
          refine wpAnyH_ready (rs := [4, 7]) (by kernel_rfl) (by simp) ?_
          refine AllReadyH.cons rfl (fun K hK => ?_) (AllReadyH.cons rfl (fun K hK => ?_) AllReadyH.nil)
          · have r0 := (unhide RU).cell hqV
            go_simp
            refine hK.out _ _ hS (fun hS2 => ?_)
            clear hK K hS2 r0
            refine wpAnyH_ready (rs := [7]) (by kernel_rfl) (by simp) ?_
            refine AllReadyH.cons rfl (fun K hK => ?_) AllReadyH.nil
            go_simp
            have Y := hide (Bt.start 3 #[.int .i64 (p : Int)] uu)
            have EU2 := hide (show (uu.alloc (.cells #[.int .i64 (p : Int)] 3)).heap[eb]? = some (.cells #[.int .i64 (p : Int), .int .i64 (q : Int)] 44 (0, 0)) by rw [Below.heap_alloc _ _ _ (Array.getElem?_eq_some_iff.1 (unhide EU)).1]; exact unhide EU)
            have RU2 := hide (Row.below (unhide RU) (b_al (.cells #[.int .i64 (p : Int)] 3)))
            have BU2 := hide ((unhide BU).step (b_al (.cells #[.int .i64 (p : Int)] 3)))
            refine hK.out _ _ (e_cells (unhide EU2)) (fun hS2 => ?_)
            clear hK K hS RU EU BU
            have hS := hS2
            clear hS2
            have RU := RU2
            have EU := EU2
            have BU := BU2
            clear RU2 EU2 BU2
            generalize (uu.alloc (.cells #[.int .i64 (p : Int)] 3)) = ub3 at Y RU EU BU hS ⊢
            refine wpAnyH_ready (rs := [8]) (by kernel_rfl) (by simp) ?_
            refine AllReadyH.cons rfl (fun K hK => ?_) AllReadyH.nil
            go_simp
            go_wp2_with (go_at_call 20; refine (of_any _ _ 1 1 [(p : Int)] (ns_of_bt (unhide Y))).mono ?_; rintro e w5 ⟨rfl, hw5⟩; obtain rfl := hw5.symm; clear hw5)
            refine hK.out _ _ hS (fun hS2 => ?_)
            clear hK K hS2
            refine wpAnyH_take (i := 9) (v := ?_) rfl (by kernel_rfl) (by kernel_rfl) (by kernel_rfl) (fun _ _ _ h => h) (Or.inl ⟨by rfl, ?_⟩) hS ?_
            rotate_left
            · intro u hu; (try dsimp only at hu); go_simp; try with_reducible rfl
            simp only [Act.put, List.getElem_toArray, List.getElem_cons_zero, List.getElem_cons_succ, List.setIfInBounds_toArray, List.set_cons_zero, List.set_cons_succ]
            refine wpAnyH_take (i := 10) (v := ?_) rfl (by kernel_rfl) (by kernel_rfl) (by kernel_rfl) (fun _ _ _ h => h) (Or.inl ⟨by rfl, ?_⟩) hS ?_
            rotate_left
            · intro u hu; (try dsimp only at hu); go_simp; try with_reducible rfl
            simp only [Act.put, List.getElem_toArray, List.getElem_cons_zero, List.getElem_cons_succ, List.setIfInBounds_toArray, List.set_cons_zero, List.set_cons_succ]
            have r1 := (unhide RU).fz q
            have r0 := (unhide RU).cell hqV
            refine wpAnyH_ready (rs := [11]) (by kernel_rfl) (by simp) ?_
            refine AllReadyH.cons rfl (fun K hK => ?_) AllReadyH.nil
            go_simp
            have EU2 := hide (show (ub3.setCell ⟨w.heap.size + 1, q, none⟩ (.int .u64 ((F2 q ||| bitI (p : Int) : Nat) : Int))).heap[eb]? = some (.cells #[.int .i64 (p : Int), .int .i64 (q : Int)] 44 (0, 0)) by rw [Below.heap_setCell _ _ _ _ hebne]; exact unhide EU)
            have RU2 := hide (RowU.set (unhide RU) q (F2 q ||| bitI (p : Int)))
            have BU2 := hide ((unhide BU).stepB (B := w.heap.size + 1) (wk' := (ub3.setCell ⟨w.heap.size + 1, q, none⟩ (.int .u64 ((F2 q ||| bitI (p : Int) : Nat) : Int)))) (by omega) ((Below.refl _ _).setCell (p := ⟨w.heap.size + 1, q, none⟩) (Nat.le_refl _) _))
            refine hK.out _ _ (e_cells (unhide EU2)) (fun hS2 => ?_)
            clear hK K hS hS2 r0 r1 RU EU BU
            generalize (ub3.setCell ⟨w.heap.size + 1, q, none⟩ (.int .u64 ((F2 q ||| bitI (p : Int) : Nat) : Int))) = uz at EU2 RU2 BU2 ⊢
            refine wpAnyH_done (by kernel_rfl) ?_ _
            go_wp2_with fail
            go_roundw
            case rel => exact ⟨k + 1, by go_num, by omega, by rw [unhide HST]; exact RU2, BU2⟩
            case measure => simp [intOf]; omega
          · go_simp
            have Y := hide (Bt.start 3 #[.int .i64 (p : Int)] uu)
            have EU2 := hide (show (uu.alloc (.cells #[.int .i64 (p : Int)] 3)).heap[eb]? = some (.cells #[.int .i64 (p : Int), .int .i64 (q : Int)] 44 (0, 0)) by rw [Below.heap_alloc _ _ _ (Array.getElem?_eq_some_iff.1 (unhide EU)).1]; exact unhide EU)
            have RU2 := hide (Row.below (unhide RU) (b_al (.cells #[.int .i64 (p : Int)] 3)))
            have BU2 := hide ((unhide BU).step (b_al (.cells #[.int .i64 (p : Int)] 3)))
            refine hK.out _ _ (e_cells (unhide EU2)) (fun hS2 => ?_)
            clear hK K hS RU EU BU
            have hS := hS2
            clear hS2
            have RU := RU2
            have EU := EU2
            have BU := BU2
            clear RU2 EU2 BU2
            generalize (uu.alloc (.cells #[.int .i64 (p : Int)] 3)) = ub4 at Y RU EU BU hS ⊢
            refine wpAnyH_ready (rs := [4, 8]) (by kernel_rfl) (by simp) ?_
            refine AllReadyH.cons rfl (fun K hK => ?_) (AllReadyH.cons rfl (fun K hK => ?_) AllReadyH.nil)
            · have r0 := (unhide RU).cell hqV
              go_simp
              refine hK.out _ _ hS (fun hS2 => ?_)
              clear hK K hS2 r0
              refine wpAnyH_ready (rs := [8]) (by kernel_rfl) (by simp) ?_
              refine AllReadyH.cons rfl (fun K hK => ?_) AllReadyH.nil
              go_simp
              go_wp2_with (go_at_call 20; refine (of_any _ _ 1 1 [(p : Int)] (ns_of_bt (unhide Y))).mono ?_; rintro e w5 ⟨rfl, hw5⟩; obtain rfl := hw5.symm; clear hw5)
              refine hK.out _ _ hS (fun hS2 => ?_)
              clear hK K hS2
              refine wpAnyH_take (i := 9) (v := ?_) rfl (by kernel_rfl) (by kernel_rfl) (by kernel_rfl) (fun _ _ _ h => h) (Or.inl ⟨by rfl, ?_⟩) hS ?_
              rotate_left
              · intro u hu; (try dsimp only at hu); go_simp; try with_reducible rfl
              simp only [Act.put, List.getElem_toArray, List.getElem_cons_zero, List.getElem_cons_succ, List.setIfInBounds_toArray, List.set_cons_zero, List.set_cons_succ]
              refine wpAnyH_take (i := 10) (v := ?_) rfl (by kernel_rfl) (by kernel_rfl) (by kernel_rfl) (fun _ _ _ h => h) (Or.inl ⟨by rfl, ?_⟩) hS ?_
              rotate_left
              · intro u hu; (try dsimp only at hu); go_simp; try with_reducible rfl
              simp only [Act.put, List.getElem_toArray, List.getElem_cons_zero, List.getElem_cons_succ, List.setIfInBounds_toArray, List.set_cons_zero, List.set_cons_succ]
              have r1 := (unhide RU).fz q
              have r0 := (unhide RU).cell hqV
              refine wpAnyH_ready (rs := [11]) (by kernel_rfl) (by simp) ?_
              refine AllReadyH.cons rfl (fun K hK => ?_) AllReadyH.nil
              go_simp
              have EU2 := hide (show (ub4.setCell ⟨w.heap.size + 1, q, none⟩ (.int .u64 ((F2 q ||| bitI (p : Int) : Nat) : Int))).heap[eb]? = some (.cells #[.int .i64 (p : Int), .int .i64 (q : Int)] 44 (0, 0)) by rw [Below.heap_setCell _ _ _ _ hebne]; exact unhide EU)
              have RU2 := hide (RowU.set (unhide RU) q (F2 q ||| bitI (p : Int)))
              have BU2 := hide ((unhide BU).stepB (B := w.heap.size + 1) (wk' := (ub4.setCell ⟨w.heap.size + 1, q, none⟩ (.int .u64 ((F2 q ||| bitI (p : Int) : Nat) : Int)))) (by omega) ((Below.refl _ _).setCell (p := ⟨w.heap.size + 1, q, none⟩) (Nat.le_refl _) _))
              refine hK.out _ _ (e_cells (unhide EU2)) (fun hS2 => ?_)
              clear hK K hS hS2 r0 r1 RU EU BU
              generalize (ub4.setCell ⟨w.heap.size + 1, q, none⟩ (.int .u64 ((F2 q ||| bitI (p : Int) : Nat) : Int))) = uz at EU2 RU2 BU2 ⊢
              refine wpAnyH_done (by kernel_rfl) ?_ _
              go_wp2_with fail
              go_roundw
              case rel => exact ⟨k + 1, by go_num, by omega, by rw [unhide HST]; exact RU2, BU2⟩
              case measure => simp [intOf]; omega
            · go_simp
              go_wp2_with (go_at_call 20; refine (of_any _ _ 1 1 [(p : Int)] (ns_of_bt (unhide Y))).mono ?_; rintro e w5 ⟨rfl, hw5⟩; obtain rfl := hw5.symm; clear hw5)
              refine hK.out _ _ hS (fun hS2 => ?_)
              clear hK K hS2
              refine wpAnyH_ready (rs := [4]) (by kernel_rfl) (by simp) ?_
              refine AllReadyH.cons rfl (fun K hK => ?_) AllReadyH.nil
              have r0 := (unhide RU).cell hqV
              go_simp
              refine hK.out _ _ hS (fun hS2 => ?_)
              clear hK K hS2 r0
              refine wpAnyH_take (i := 9) (v := ?_) rfl (by kernel_rfl) (by kernel_rfl) (by kernel_rfl) (fun _ _ _ h => h) (Or.inl ⟨by rfl, ?_⟩) hS ?_
              rotate_left
              · intro u hu; (try dsimp only at hu); go_simp; try with_reducible rfl
              simp only [Act.put, List.getElem_toArray, List.getElem_cons_zero, List.getElem_cons_succ, List.setIfInBounds_toArray, List.set_cons_zero, List.set_cons_succ]
              refine wpAnyH_take (i := 10) (v := ?_) rfl (by kernel_rfl) (by kernel_rfl) (by kernel_rfl) (fun _ _ _ h => h) (Or.inl ⟨by rfl, ?_⟩) hS ?_
              rotate_left
              · intro u hu; (try dsimp only at hu); go_simp; try with_reducible rfl
              simp only [Act.put, List.getElem_toArray, List.getElem_cons_zero, List.getElem_cons_succ, List.setIfInBounds_toArray, List.set_cons_zero, List.set_cons_succ]
              have r1 := (unhide RU).fz q
              have r0 := (unhide RU).cell hqV
              refine wpAnyH_ready (rs := [11]) (by kernel_rfl) (by simp) ?_
              refine AllReadyH.cons rfl (fun K hK => ?_) AllReadyH.nil
              go_simp
              have EU2 := hide (show (ub4.setCell ⟨w.heap.size + 1, q, none⟩ (.int .u64 ((F2 q ||| bitI (p : Int) : Nat) : Int))).heap[eb]? = some (.cells #[.int .i64 (p : Int), .int .i64 (q : Int)] 44 (0, 0)) by rw [Below.heap_setCell _ _ _ _ hebne]; exact unhide EU)
              have RU2 := hide (RowU.set (unhide RU) q (F2 q ||| bitI (p : Int)))
              have BU2 := hide ((unhide BU).stepB (B := w.heap.size + 1) (wk' := (ub4.setCell ⟨w.heap.size + 1, q, none⟩ (.int .u64 ((F2 q ||| bitI (p : Int) : Nat) : Int)))) (by omega) ((Below.refl _ _).setCell (p := ⟨w.heap.size + 1, q, none⟩) (Nat.le_refl _) _))
              refine hK.out _ _ (e_cells (unhide EU2)) (fun hS2 => ?_)
              clear hK K hS hS2 r0 r1 RU EU BU
              generalize (ub4.setCell ⟨w.heap.size + 1, q, none⟩ (.int .u64 ((F2 q ||| bitI (p : Int) : Nat) : Int))) = uz at EU2 RU2 BU2 ⊢
              refine wpAnyH_done (by kernel_rfl) ?_ _
              go_wp2_with fail
              go_roundw
              case rel => exact ⟨k + 1, by go_num, by omega, by rw [unhide HST]; exact RU2, BU2⟩
              case measure => simp [intOf]; omega
      · have hyes : (S.testBit p || S.testBit q) = true := by
          cases hh : (S.testBit p || S.testBit q) with
          | true => rfl
          | false => exact absurd ((unhide HZZ).2 hh) hz
        have hst := unhide HST0
        rw [hyes] at hst
        simp only [if_true] at hst
        have HST := hide hst
        have hzi : (((S &&& m : Nat) : Int) == 0) = false := by simp; omega
        clear hst hyes HZZ
        generalize S &&& m = sm at hand hzi hz
        go_wp2_with fail
        go_roundw
        case rel => exact ⟨k + 1, by go_num, by omega, by rw [unhide HST]; exact RV, BV⟩
        case measure => simp [intOf]; omega
    · obtain rfl : k = n := by omega
      go_wp2_with fail
      go_ret
      refine ⟨⟨_, rfl, by omega, ?_⟩, (unhide HB).bel⟩
      have := unhide HR
      rw [← unhide HN, List.take_length] at this
      exact this
end Go.Proofs.YtmklngabfdnclaaDoor.pt


/-
  A box that is laid and stands while others make memory; rows that stand while others make memory. No conditions.
-/
import Derived.Test.YtefagplbpbkpgaaDoorJ5
import Derived.Test.YtefagplbpbkpgaaDoorJ7
import Derived.OrdersHeld
import Derived.Deep.CutBlock
import Derived.Deep.CutRange
import Derived.Deep.RegionHeld
import Derived.Test.YtefagplbpbkpgaaDoorJ3
namespace Go.Proofs.YtefagplbpbkpgaaDoor.pt
open Go.RowKit
set_option linter.unusedVariables false

theorem owns_keep {w w' : World} {base : Nat} {e : TypeId} {size : Nat} {v : Value} {n : Nat} {xs : List Value} (h : w.ownsRow base e size v n xs) (hk : ∀ g, v.ownBlock = some g → w'.heap[g]? = w.heap[g]?) : w'.ownsRow base e size v n xs := by
  refine ⟨h.1, ?_⟩
  rcases h.2 with hn | ⟨g, cap, cur, rfl, hb, hg, h1, h2, h3, h4⟩
  · exact .inl hn
  · exact .inr ⟨g, cap, cur, rfl, hb, by rw [hk g rfl]; exact hg, h1, h2, h3, h4⟩
theorem owns_below {w w' : World} {base : Nat} {e : TypeId} {size : Nat} {v : Value} {n : Nat} {xs : List Value} (h : w.ownsRow base e size v n xs) (hb : Below w.heap.size w w') : w'.ownsRow base e size v n xs :=
  owns_keep h fun g hg => hb.block g (h.lt g hg).2

/-- a box of any cells, laid behind u: it stands while others make memory -/
structure Bt (ty : TypeId) (cs : Array Value) (u wk : World) : Prop where
  bel : Below u.heap.size u wk
  gb : wk.heap[u.heap.size]? = some (.cells cs ty (0, 0))
theorem Bt.start (ty : TypeId) (cs : Array Value) (u : World) : Bt ty cs u (u.alloc (.cells cs ty)) := ⟨(Below.refl _ _).alloc (Nat.le_refl _) _, (MapKept.heap_alloc u _).1⟩
theorem Bt.lt {ty : TypeId} {cs : Array Value} {u wk : World} (h : Bt ty cs u wk) : u.heap.size < wk.heap.size := (Array.getElem?_eq_some_iff.1 h.gb).1
theorem Bt.step {ty : TypeId} {cs : Array Value} {u wk wk' : World} (h : Bt ty cs u wk) (hb : Below wk.heap.size wk wk') : Bt ty cs u wk' :=
  ⟨h.bel.trans (hb.mono h.bel.size), by rw [hb.block _ h.lt]; exact h.gb⟩
theorem Bt.stepB {ty : TypeId} {cs : Array Value} {u wk wk' : World} {B : Nat} (h : Bt ty cs u wk) (hB : u.heap.size < B) (hb : Below B wk wk') : Bt ty cs u wk' :=
  ⟨h.bel.trans (hb.mono (by omega)), by rw [hb.block _ hB]; exact h.gb⟩
theorem Bt.drew {ty : TypeId} {cs : Array Value} {u wk : World} (h : Bt ty cs u wk) : Bt ty cs u wk.drew := h.step (Below.refl _ _).drew
theorem Bt.cell {ty : TypeId} {cs : Array Value} {u wk : World} (h : Bt ty cs u wk) (k : Nat) {v : Value} (hk : cs[k]? = some v) : wk.cell? ⟨u.heap.size, k, none⟩ = some v := by
  simp [World.cell?, h.gb, hk]
theorem Bt.fz {ty : TypeId} {cs : Array Value} {u wk : World} (h : Bt ty cs u wk) (k : Nat) : wk.frozen? ⟨u.heap.size, k, none⟩ = false := by
  simp [World.frozen?, h.gb]
theorem Bt.set {ty : TypeId} {cs : Array Value} {u wk : World} (h : Bt ty cs u wk) (k : Nat) (v : Value) : Bt ty (cs.setIfInBounds k v) u (wk.setCell ⟨u.heap.size, k, none⟩ v) :=
  ⟨h.bel.setCell (Nat.le_refl _) _, by simp [World.setCell, Array.getElem?_modify, h.gb]⟩
theorem ns_of_bt {x : Int} {u wk : World} (h : Bt 3 #[.int .i64 x] u wk) : Ns wk (some ⟨u.heap.size, 0, none⟩) 1 [x] := by
  refine ⟨rfl, by decide, fun k hk => ⟨u.heap.size, 0, rfl, h.lt, ?_⟩⟩
  obtain rfl : k = 0 := by omega
  exact h.cell 0 rfl
theorem b_al {w : World} (o : Obj) : Below w.heap.size w (w.alloc o) := (Below.refl _ _).alloc (Nat.le_refl _) _
theorem b_dr {w : World} : Below w.heap.size w w.drew := (Below.refl _ _).drew
theorem b_dal {w : World} (o : Obj) : Below w.heap.size w (w.alloc o).drew := (b_al o).drew
theorem bto {w u v : World} (h : Below w.heap.size w u) (k : Below u.heap.size u v) : Below w.heap.size w v := h.trans (k.mono h.size)
end Go.Proofs.YtefagplbpbkpgaaDoor.pt
/-
  The contract of reach.beside: for each vertex the set of its neighbours, without some. Conditions: the graph lies in memory as told and may be.
-/
namespace Go.Proofs.YtefagplbpbkpgaaDoor.pt
open Go.RowKit
set_option linter.unusedVariables false

theorem e_cells {u : World} {eb : Nat} {p q : Int} (h : u.heap[eb]? = some (.cells #[.int .i64 p, .int .i64 q] 47 (0, 0))) : u.cell? ⟨eb, 0, none⟩ = some (.int .i64 p) ∧ u.cell? ⟨eb, 1, none⟩ = some (.int .i64 q) := by
  simp [World.cell?, h]
theorem ns_two' (w : World) (x y : Int) (g : Nat) (hg : g = w.heap.size) : Ns (w.alloc (.cells #[.int .i64 x, .int .i64 y] 3)) (some ⟨g, 0, none⟩) 2 [x, y] := by
  subst hg
  exact ns_two w x y
theorem and_two (S : Nat) {p q : Nat} (hp : p < 64) (hq : q < 64) : S &&& ofS [(p : Int), (q : Int)] = 0 ↔ (S.testBit p || S.testBit q) = false := by
  constructor
  · intro h
    have hb : ∀ j, (S.testBit j && (ofS [(p : Int), (q : Int)]).testBit j) = false := fun j => by rw [← Nat.testBit_and, h]; simp
    have h1 := hb p
    have h2 := hb q
    rw [testBit_ofS] at h1 h2
    have e1 : decide (p < 64 ∧ (p : Int) ∈ [(p : Int), (q : Int)]) = true := by simp [hp]
    have e2 : decide (q < 64 ∧ (q : Int) ∈ [(p : Int), (q : Int)]) = true := by simp [hq]
    rw [e1] at h1
    rw [e2] at h2
    simp at h1 h2
    simp [h1, h2]
  · intro h
    simp at h
    apply Nat.eq_of_testBit_eq
    intro j
    rw [Nat.testBit_and, testBit_ofS, Nat.zero_testBit]
    by_cases h1 : j = p
    · subst h1; simp [h.1]
    · by_cases h2 : j = q
      · subst h2; simp [h.2]
      · have h3 : ¬ (j : Int) = (p : Int) := by omega
        have h4 : ¬ (j : Int) = (q : Int) := by omega
        simp [h3, h4]

set_option maxHeartbeats 8000000 in
theorem beside_any (w : World) (V : Nat) (a : Option Addr) (n cap : Nat) (es : List (Nat × Nat)) {B : Nat} (h : Es B w a n (toI es)) (hne : es.length = n) (hp : Plain V es) (S : Nat) (hS : S < 18446744073709551616) :
    Calls Tryd.prog 62 #[.agg #[.int .i64 V, .slice a n cap], .int .u64 S] w fun e w' => (∃ g, e = .returned (.slice (some ⟨g, 0, none⟩) V V) ∧ w.heap.size ≤ g ∧ RowU w' g V (bsF es S.testBit)) ∧ Below w.heap.size w w' := by
  have hv64 := hp.v64
  have hv1 := hp.v1
  have hn128 := hp.n128
  rw [hne] at hn128
  have HE := hide h
  have HP := hide hp
  have HN := hide hne
  have HB0 := hide (Bg.start w (.int .i64 V) (.slice a n cap))
  obtain ⟨i0, hi0, hz0, hz1, hz2⟩ := info_parts info25
  have HI := hide hi0
  have HZ0 := hide hz0
  have HZ1 := hide hz1
  have hzb : i0.bytes * V ≤ 281474976710656 := by rw [hz2]; omega
  clear hi0 hz0 hz1 hz2 h hp hne
  go_enter Tryd.func62, Tryd.ntmps62
  go_wp2_with (refine wpList_make_full _ rfl (.tmp 9) (.tmp 9) 73 rfl (w.heap.size + 1) 76 i0 (.int .u64 0) 1 Tryd.underlying73 (unhide HI) (unhide HZ0) (unhide HZ1) .i64 .i64 _ _ V rfl rfl rfl rfl hzb ?m1 ?m2 ?_)
  case m1 => unfold maxLen; omega
  case m2 => simp
  intro w1 hown1 hg1
  rw [toList_madeCells_one] at hown1
  have hs0 : (w.alloc (.cells #[.int .i64 (V : Int), .slice a n cap] 24)).heap.size = w.heap.size + 1 := by simp
  have hb1 : Below (w.heap.size + 1) (w.alloc (.cells #[.int .i64 (V : Int), .slice a n cap] 24)) w1 := ⟨hg1.os, hg1.tape, hg1.output, hg1.size, fun k hk => hg1.block k (by rw [hs0]; exact hk) (by simp)⟩
  have HB1 := hide ((unhide HB0).stepB (by omega) hb1)
  have HR1 := hide ((Row.of_owns hown1).congr (f' := fun t => .int .u64 (bsF (es.take 0) S.testBit t : Nat)) (fun t ht => rfl))
  clear hown1 hg1 hb1 HB0 hs0
  obtain ⟨g0, g1⟩ := (unhide HB1).cells
  go_wp2_with fail
  clear g0 g1
  go_loopw [14] (fun i wr => ∃ k : Nat, i = .int .i64 k ∧ k ≤ n ∧ Hid (RowU wr (w.heap.size + 1) V (bsF (es.take k) S.testBit)) ∧ Hid (Bg w wr (.int .i64 V) (.slice a n cap))) (fun i wr => n - (intOf i).toNat)
  case atStart => exact ⟨0, rfl, by omega, HR1, HB1⟩
  case round =>
    clear HR1 HB1
    obtain ⟨k, rfl, hk, HR, HB⟩ := hrel
    have hszr := (unhide HR).lt
    have hgw := (unhide HB).lt
    by_cases hlt : k < n
    · obtain ⟨g, off, ha, hg, c0, c1⟩ := es_at (i := k) (by have := unhide HE; rw [← unhide HN] at this; exact this) (by rw [unhide HN]; exact hlt)
      subst ha
      have hends := (unhide HP).at (i := k) (by rw [unhide HN]; exact hlt)
      have hstep : ∀ p q, es.getD k (0, 0) = (p, q) → bsF (es.take (k + 1)) S.testBit = if (S.testBit p || S.testBit q) = true then bsF (es.take k) S.testBit else upd (upd (bsF (es.take k) S.testBit) p (bsF (es.take k) S.testBit p ||| bitI (q : Int))) q (upd (bsF (es.take k) S.testBit) p (bsF (es.take k) S.testBit p ||| bitI (q : Int)) q ||| bitI (p : Int)) := fun p q he => by
        rw [take_snoc es k (by rw [unhide HN]; exact hlt), he, bsF_snoc]
      obtain ⟨⟨p, q⟩, hpq⟩ : ∃ e, es.getD k (0, 0) = e := ⟨_, rfl⟩
      rw [hpq] at c0 c1 hends
      have hst := hstep p q hpq
      clear hstep hpq
      obtain ⟨hpV, hqV⟩ := hends
      simp only at c0 c1 hpV hqV
      have d0 : wr.cell? ⟨g, off + k * 2, none⟩ = some (.int .i64 (p : Nat)) := by rw [(unhide HB).bel.cell (p := ⟨g, off + k * 2, none⟩) hg]; exact c0
      have d1 : wr.cell? ⟨g, off + k * 2 + 1, none⟩ = some (.int .i64 (q : Nat)) := by rw [(unhide HB).bel.cell (p := ⟨g, off + k * 2 + 1, none⟩) hg]; exact c1
      have hlt2 : (k : Int) < (n : Int) := by omega
      have hp2 : (p : Int) < (V : Int) := by omega
      have hq2 : (q : Int) < (V : Int) := by omega
      have hgr : g < wr.heap.size := by omega
      clear c0 c1
      have HFL := hide (bsF_lt (es.take k) S.testBit)
      generalize bsF (es.take k) S.testBit = F at HR hst HFL
      have HST0 := hide hst
      clear hst
      have hand := u64_and_nat S (ofS [(p : Int), (q : Int)]) hS (ofS_lt _)
      have hzz := and_two S (show p < 64 by omega) (show q < 64 by omega)
      have HZZ := hide hzz
      clear hzz
      go_wp2_with fail
      refine (of_any ((wr.alloc (.cells #[.int .i64 (p : Int), .int .i64 (q : Int)] 47)).alloc (.cells #[.int .i64 (p : Int), .int .i64 (q : Int)] 3)) (some ⟨wr.heap.size + 1, 0, none⟩) 2 2 [(p : Int), (q : Int)] (ns_two' _ p q _ (by simp))).mono ?_
      rintro e w5 ⟨rfl, hw5⟩
      obtain rfl := hw5.symm
      clear hw5
      have EV := hide ((Bt.start 47 #[.int .i64 (p : Int), .int .i64 (q : Int)] wr).step (b_al (.cells #[.int .i64 (p : Int), .int .i64 (q : Int)] 3))).gb
      have RV := hide ((Row.below (unhide HR) (b_al (.cells #[.int .i64 (p : Int), .int .i64 (q : Int)] 47))).below (b_al (.cells #[.int .i64 (p : Int), .int .i64 (q : Int)] 3)))
      have BV := hide (((unhide HB).step (b_al (.cells #[.int .i64 (p : Int), .int .i64 (q : Int)] 47))).step (b_al (.cells #[.int .i64 (p : Int), .int .i64 (q : Int)] 3)))
      have hebne : wr.heap.size ≠ w.heap.size + 1 := by omega
      clear d0 d1 HR HB
      generalize ((wr.alloc (.cells #[.int .i64 (p : Int), .int .i64 (q : Int)] 47)).alloc (.cells #[.int .i64 (p : Int), .int .i64 (q : Int)] 3)) = wv at EV RV BV ⊢
      clear hszr hgr hgw
      generalize wr.heap.size = eb at EV hebne ⊢
      generalize ofS [(p : Int), (q : Int)] = m at hand HZZ ⊢
      by_cases hz : S &&& m = 0
      · have hno := (unhide HZZ).1 hz
        rw [hz] at hand
        have hst := unhide HST0
        rw [hno] at hst
        have HST := hide hst
        clear hst hno hz HZZ HST0
        go_upto_region 6 with fail
        have hor := u64_or_nat (F p) (bitI (q : Int)) (unhide HFL p) (bitI_lt _)
        rw [← ofS_one] at hor
        go_cut [] from 27 to 37 (fun wx => Hid (RowU wx (w.heap.size + 1) V (upd F p (F p ||| bitI (q : Int)))) ∧ Hid (wx.heap[eb]? = some (.cells #[.int .i64 (p : Int), .int .i64 (q : Int)] 47 (0, 0))) ∧ Hid (Bg w wx (.int .i64 V) (.slice (some ⟨g, off, none⟩) n cap)))
        case first =>
          rw [show F p ||| ofS [(q : Int)] = F p ||| bitI (q : Int) by rw [ofS_one]] at hor
          refine wp_region_held_drew (S := fun u => u.cell? ⟨eb, 0, none⟩ = some (.int .i64 (p : Int)) ∧ u.cell? ⟨eb, 1, none⟩ = some (.int .i64 (q : Int))) (by kernel_rfl) (e_cells (unhide EV)) (fun hS => ?_)
          have RU := hide (show RowU wv.drew (w.heap.size + 1) V F from Row.below (unhide RV) b_dr)
          have EU := hide (show wv.drew.heap[eb]? = some (.cells #[.int .i64 (p : Int), .int .i64 (q : Int)] 47 (0, 0)) from unhide EV)
          have BU := hide ((unhide BV).step b_dr)
          clear RV EV BV
          generalize wv.drew = uu at RU EU BU hS ⊢
          refine wpAnyH_take (i := 0) (v := ?_) rfl (by kernel_rfl) (by kernel_rfl) (by kernel_rfl) (fun _ _ _ h => h) (Or.inl ⟨by rfl, ?_⟩) hS ?_
          rotate_left
          · intro u hu; (try dsimp only at hu); go_simp; try with_reducible rfl
          simp only [Act.put, List.getElem_toArray, List.getElem_cons_zero, List.setIfInBounds_toArray, List.set_cons_zero, List.set_cons_succ]
          refine wpAnyH_take (i := 1) (v := ?_) rfl (by kernel_rfl) (by kernel_rfl) (by kernel_rfl) (fun _ _ _ h => h) (Or.inl ⟨by rfl, ?_⟩) hS ?_
          rotate_left
          · intro u hu; (try dsimp only at hu); go_simp; try with_reducible rfl
          simp only [Act.put, List.getElem_toArray, List.getElem_cons_zero, List.getElem_cons_succ, List.setIfInBounds_toArray, List.set_cons_zero, List.set_cons_succ]
          refine wpAnyH_take (i := 2) (v := ?_) rfl (by kernel_rfl) (by kernel_rfl) (by kernel_rfl) (fun _ _ _ h => h) (Or.inl ⟨by rfl, ?_⟩) hS ?_
          rotate_left
          · intro u hu; (try dsimp only at hu); go_simp; try with_reducible rfl
          simp only [Act.put, List.getElem_toArray, List.getElem_cons_zero, List.getElem_cons_succ, List.setIfInBounds_toArray, List.set_cons_zero, List.set_cons_succ]
          refine wpAnyH_take (i := 3) (v := ?_) rfl (by kernel_rfl) (by kernel_rfl) (by kernel_rfl) (fun _ _ _ h => h) (Or.inl ⟨by rfl, ?_⟩) hS ?_
          rotate_left
          · intro u hu; (try dsimp only at hu); go_simp; try with_reducible rfl
          simp only [Act.put, List.getElem_toArray, List.getElem_cons_zero, List.getElem_cons_succ, List.setIfInBounds_toArray, List.set_cons_zero, List.set_cons_succ]
          refine wpAnyH_take (i := 5) (v := ?_) rfl (by kernel_rfl) (by kernel_rfl) (by kernel_rfl) (fun _ _ _ h => h) (Or.inl ⟨by rfl, ?_⟩) hS ?_
          rotate_left
          · intro u hu; (try dsimp only at hu); go_simp; try with_reducible rfl
          simp only [Act.put, List.getElem_toArray, List.getElem_cons_zero, List.getElem_cons_succ, List.setIfInBounds_toArray, List.set_cons_zero, List.set_cons_succ]
          refine wpAnyH_take (i := 6) (v := ?_) rfl (by kernel_rfl) (by kernel_rfl) (by kernel_rfl) (fun _ _ _ h => h) (Or.inl ⟨by rfl, ?_⟩) hS ?_
          rotate_left
          · intro u hu; (try dsimp only at hu); go_simp; try with_reducible rfl
          simp only [Act.put, List.getElem_toArray, List.getElem_cons_zero, List.getElem_cons_succ, List.setIfInBounds_toArray, List.set_cons_zero, List.set_cons_succ]
          refine wpAnyH_ready (rs := [4, 7]) (by kernel_rfl) (by simp) ?_
          refine AllReadyH.cons rfl (fun K hK => ?_) (AllReadyH.cons rfl (fun K hK => ?_) AllReadyH.nil)
          · have r0 := (unhide RU).cell hpV
            go_simp
            refine hK.out _ _ hS (fun hS2 => ?_)
            clear hK K hS2 r0
            refine wpAnyH_ready (rs := [7]) (by kernel_rfl) (by simp) ?_
            refine AllReadyH.cons rfl (fun K hK => ?_) AllReadyH.nil
            go_simp
            have Y := hide (Bt.start 3 #[.int .i64 (q : Int)] uu)
            have EU2 := hide (show (uu.alloc (.cells #[.int .i64 (q : Int)] 3)).heap[eb]? = some (.cells #[.int .i64 (p : Int), .int .i64 (q : Int)] 47 (0, 0)) by rw [Below.heap_alloc _ _ _ (Array.getElem?_eq_some_iff.1 (unhide EU)).1]; exact unhide EU)
            have RU2 := hide (Row.below (unhide RU) (b_al (.cells #[.int .i64 (q : Int)] 3)))
            have BU2 := hide ((unhide BU).step (b_al (.cells #[.int .i64 (q : Int)] 3)))
            refine hK.out _ _ (e_cells (unhide EU2)) (fun hS2 => ?_)
            clear hK K hS RU EU BU
            have hS := hS2
            clear hS2
            have RU := RU2
            have EU := EU2
            have BU := BU2
            clear RU2 EU2 BU2
            generalize (uu.alloc (.cells #[.int .i64 (q : Int)] 3)) = ub1 at Y RU EU BU hS ⊢
            refine wpAnyH_ready (rs := [8]) (by kernel_rfl) (by simp) ?_
            refine AllReadyH.cons rfl (fun K hK => ?_) AllReadyH.nil
            go_simp
            go_wp2_with (go_at_call 46; refine (of_any _ _ 1 1 [(q : Int)] (ns_of_bt (unhide Y))).mono ?_; rintro e w5 ⟨rfl, hw5⟩; obtain rfl := hw5.symm; clear hw5)
            refine hK.out _ _ hS (fun hS2 => ?_)
            clear hK K hS2
            refine wpAnyH_take (i := 9) (v := ?_) rfl (by kernel_rfl) (by kernel_rfl) (by kernel_rfl) (fun _ _ _ h => h) (Or.inl ⟨by rfl, ?_⟩) hS ?_
            rotate_left
            · intro u hu; (try dsimp only at hu); go_simp; try with_reducible rfl
            simp only [Act.put, List.getElem_toArray, List.getElem_cons_zero, List.getElem_cons_succ, List.setIfInBounds_toArray, List.set_cons_zero, List.set_cons_succ]
            refine wpAnyH_take (i := 10) (v := ?_) rfl (by kernel_rfl) (by kernel_rfl) (by kernel_rfl) (fun _ _ _ h => h) (Or.inl ⟨by rfl, ?_⟩) hS ?_
            rotate_left
            · intro u hu; (try dsimp only at hu); go_simp; try with_reducible rfl
            simp only [Act.put, List.getElem_toArray, List.getElem_cons_zero, List.getElem_cons_succ, List.setIfInBounds_toArray, List.set_cons_zero, List.set_cons_succ]
            have r1 := (unhide RU).fz p
            have r0 := (unhide RU).cell hpV
            refine wpAnyH_ready (rs := [11]) (by kernel_rfl) (by simp) ?_
            refine AllReadyH.cons rfl (fun K hK => ?_) AllReadyH.nil
            go_simp
            have EU2 := hide (show (ub1.setCell ⟨w.heap.size + 1, p, none⟩ (.int .u64 ((F p ||| bitI (q : Int) : Nat) : Int))).heap[eb]? = some (.cells #[.int .i64 (p : Int), .int .i64 (q : Int)] 47 (0, 0)) by rw [Below.heap_setCell _ _ _ _ hebne]; exact unhide EU)
            have RU2 := hide (RowU.set (unhide RU) p (F p ||| bitI (q : Int)))
            have BU2 := hide ((unhide BU).stepB (B := w.heap.size + 1) (wk' := (ub1.setCell ⟨w.heap.size + 1, p, none⟩ (.int .u64 ((F p ||| bitI (q : Int) : Nat) : Int)))) (by omega) ((Below.refl _ _).setCell (p := ⟨w.heap.size + 1, p, none⟩) (Nat.le_refl _) _))
            refine hK.out _ _ (e_cells (unhide EU2)) (fun hS2 => ?_)
            clear hK K hS hS2 r0 r1 RU EU BU
            generalize (ub1.setCell ⟨w.heap.size + 1, p, none⟩ (.int .u64 ((F p ||| bitI (q : Int) : Nat) : Int))) = uz at EU2 RU2 BU2 ⊢
            refine wpAnyH_done (by kernel_rfl) ?_ _
            go_wp2_with fail
            go_meet
            exact ⟨RU2, EU2, BU2⟩
          · go_simp
            have Y := hide (Bt.start 3 #[.int .i64 (q : Int)] uu)
            have EU2 := hide (show (uu.alloc (.cells #[.int .i64 (q : Int)] 3)).heap[eb]? = some (.cells #[.int .i64 (p : Int), .int .i64 (q : Int)] 47 (0, 0)) by rw [Below.heap_alloc _ _ _ (Array.getElem?_eq_some_iff.1 (unhide EU)).1]; exact unhide EU)
            have RU2 := hide (Row.below (unhide RU) (b_al (.cells #[.int .i64 (q : Int)] 3)))
            have BU2 := hide ((unhide BU).step (b_al (.cells #[.int .i64 (q : Int)] 3)))
            refine hK.out _ _ (e_cells (unhide EU2)) (fun hS2 => ?_)
            clear hK K hS RU EU BU
            have hS := hS2
            clear hS2
            have RU := RU2
            have EU := EU2
            have BU := BU2
            clear RU2 EU2 BU2
            generalize (uu.alloc (.cells #[.int .i64 (q : Int)] 3)) = ub2 at Y RU EU BU hS ⊢
            refine wpAnyH_ready (rs := [4, 8]) (by kernel_rfl) (by simp) ?_
            refine AllReadyH.cons rfl (fun K hK => ?_) (AllReadyH.cons rfl (fun K hK => ?_) AllReadyH.nil)
            · have r0 := (unhide RU).cell hpV
              go_simp
              refine hK.out _ _ hS (fun hS2 => ?_)
              clear hK K hS2 r0
              refine wpAnyH_ready (rs := [8]) (by kernel_rfl) (by simp) ?_
              refine AllReadyH.cons rfl (fun K hK => ?_) AllReadyH.nil
              go_simp
              go_wp2_with (go_at_call 46; refine (of_any _ _ 1 1 [(q : Int)] (ns_of_bt (unhide Y))).mono ?_; rintro e w5 ⟨rfl, hw5⟩; obtain rfl := hw5.symm; clear hw5)
              refine hK.out _ _ hS (fun hS2 => ?_)
              clear hK K hS2
              refine wpAnyH_take (i := 9) (v := ?_) rfl (by kernel_rfl) (by kernel_rfl) (by kernel_rfl) (fun _ _ _ h => h) (Or.inl ⟨by rfl, ?_⟩) hS ?_
              rotate_left
              · intro u hu; (try dsimp only at hu); go_simp; try with_reducible rfl
              simp only [Act.put, List.getElem_toArray, List.getElem_cons_zero, List.getElem_cons_succ, List.setIfInBounds_toArray, List.set_cons_zero, List.set_cons_succ]
              refine wpAnyH_take (i := 10) (v := ?_) rfl (by kernel_rfl) (by kernel_rfl) (by kernel_rfl) (fun _ _ _ h => h) (Or.inl ⟨by rfl, ?_⟩) hS ?_
              rotate_left
              · intro u hu; (try dsimp only at hu); go_simp; try with_reducible rfl
              simp only [Act.put, List.getElem_toArray, List.getElem_cons_zero, List.getElem_cons_succ, List.setIfInBounds_toArray, List.set_cons_zero, List.set_cons_succ]
              have r1 := (unhide RU).fz p
              have r0 := (unhide RU).cell hpV
              refine wpAnyH_ready (rs := [11]) (by kernel_rfl) (by simp) ?_
              refine AllReadyH.cons rfl (fun K hK => ?_) AllReadyH.nil
              go_simp
              have EU2 := hide (show (ub2.setCell ⟨w.heap.size + 1, p, none⟩ (.int .u64 ((F p ||| bitI (q : Int) : Nat) : Int))).heap[eb]? = some (.cells #[.int .i64 (p : Int), .int .i64 (q : Int)] 47 (0, 0)) by rw [Below.heap_setCell _ _ _ _ hebne]; exact unhide EU)
              have RU2 := hide (RowU.set (unhide RU) p (F p ||| bitI (q : Int)))
              have BU2 := hide ((unhide BU).stepB (B := w.heap.size + 1) (wk' := (ub2.setCell ⟨w.heap.size + 1, p, none⟩ (.int .u64 ((F p ||| bitI (q : Int) : Nat) : Int)))) (by omega) ((Below.refl _ _).setCell (p := ⟨w.heap.size + 1, p, none⟩) (Nat.le_refl _) _))
              refine hK.out _ _ (e_cells (unhide EU2)) (fun hS2 => ?_)
              clear hK K hS hS2 r0 r1 RU EU BU
              generalize (ub2.setCell ⟨w.heap.size + 1, p, none⟩ (.int .u64 ((F p ||| bitI (q : Int) : Nat) : Int))) = uz at EU2 RU2 BU2 ⊢
              refine wpAnyH_done (by kernel_rfl) ?_ _
              go_wp2_with fail
              go_meet
              exact ⟨RU2, EU2, BU2⟩
            · go_simp
              go_wp2_with (go_at_call 46; refine (of_any _ _ 1 1 [(q : Int)] (ns_of_bt (unhide Y))).mono ?_; rintro e w5 ⟨rfl, hw5⟩; obtain rfl := hw5.symm; clear hw5)
              refine hK.out _ _ hS (fun hS2 => ?_)
              clear hK K hS2
              refine wpAnyH_ready (rs := [4]) (by kernel_rfl) (by simp) ?_
              refine AllReadyH.cons rfl (fun K hK => ?_) AllReadyH.nil
              have r0 := (unhide RU).cell hpV
              go_simp
              refine hK.out _ _ hS (fun hS2 => ?_)
              clear hK K hS2 r0
              refine wpAnyH_take (i := 9) (v := ?_) rfl (by kernel_rfl) (by kernel_rfl) (by kernel_rfl) (fun _ _ _ h => h) (Or.inl ⟨by rfl, ?_⟩) hS ?_
              rotate_left
              · intro u hu; (try dsimp only at hu); go_simp; try with_reducible rfl
              simp only [Act.put, List.getElem_toArray, List.getElem_cons_zero, List.getElem_cons_succ, List.setIfInBounds_toArray, List.set_cons_zero, List.set_cons_succ]
              refine wpAnyH_take (i := 10) (v := ?_) rfl (by kernel_rfl) (by kernel_rfl) (by kernel_rfl) (fun _ _ _ h => h) (Or.inl ⟨by rfl, ?_⟩) hS ?_
              rotate_left
              · intro u hu; (try dsimp only at hu); go_simp; try with_reducible rfl
              simp only [Act.put, List.getElem_toArray, List.getElem_cons_zero, List.getElem_cons_succ, List.setIfInBounds_toArray, List.set_cons_zero, List.set_cons_succ]
              have r1 := (unhide RU).fz p
              have r0 := (unhide RU).cell hpV
              refine wpAnyH_ready (rs := [11]) (by kernel_rfl) (by simp) ?_
              refine AllReadyH.cons rfl (fun K hK => ?_) AllReadyH.nil
              go_simp
              have EU2 := hide (show (ub2.setCell ⟨w.heap.size + 1, p, none⟩ (.int .u64 ((F p ||| bitI (q : Int) : Nat) : Int))).heap[eb]? = some (.cells #[.int .i64 (p : Int), .int .i64 (q : Int)] 47 (0, 0)) by rw [Below.heap_setCell _ _ _ _ hebne]; exact unhide EU)
              have RU2 := hide (RowU.set (unhide RU) p (F p ||| bitI (q : Int)))
              have BU2 := hide ((unhide BU).stepB (B := w.heap.size + 1) (wk' := (ub2.setCell ⟨w.heap.size + 1, p, none⟩ (.int .u64 ((F p ||| bitI (q : Int) : Nat) : Int)))) (by omega) ((Below.refl _ _).setCell (p := ⟨w.heap.size + 1, p, none⟩) (Nat.le_refl _) _))
              refine hK.out _ _ (e_cells (unhide EU2)) (fun hS2 => ?_)
              clear hK K hS hS2 r0 r1 RU EU BU
              generalize (ub2.setCell ⟨w.heap.size + 1, p, none⟩ (.int .u64 ((F p ||| bitI (q : Int) : Nat) : Int))) = uz at EU2 RU2 BU2 ⊢
              refine wpAnyH_done (by kernel_rfl) ?_ _
              go_wp2_with fail
              go_meet
              exact ⟨RU2, EU2, BU2⟩
        case rest =>
          obtain ⟨RV2, EV2, BV2⟩ := hcut
          clear RV EV BV
          have RV := RV2
          have EV := EV2
          have BV := BV2
          clear RV2 EV2 BV2
          have hfl2 : upd F p (F p ||| bitI (q : Int)) q < 18446744073709551616 := by
            unfold upd
            split
            · exact or_lt (unhide HFL p) (bitI_lt _)
            · exact unhide HFL q
          simp only [Bool.false_eq_true, if_false] at HST
          generalize upd F p (F p ||| bitI (q : Int)) = F2 at RV HST hfl2
          clear hor
          have hor := u64_or_nat (F2 q) (bitI (p : Int)) hfl2 (bitI_lt _)
          rw [← ofS_one] at hor
          rw [show F2 q ||| ofS [(p : Int)] = F2 q ||| bitI (p : Int) by rw [ofS_one]] at hor
          go_wp2_with fail
          obtain ⟨wv, rfl⟩ : ∃ wv, wv = wc := ⟨_, rfl⟩
          refine wp_region_held_drew (S := fun u => u.cell? ⟨eb, 0, none⟩ = some (.int .i64 (p : Int)) ∧ u.cell? ⟨eb, 1, none⟩ = some (.int .i64 (q : Int))) (by kernel_rfl) (e_cells (unhide EV)) (fun hS => ?_)
          have RU := hide (show RowU wv.drew (w.heap.size + 1) V F2 from Row.below (unhide RV) b_dr)
          have EU := hide (show wv.drew.heap[eb]? = some (.cells #[.int .i64 (p : Int), .int .i64 (q : Int)] 47 (0, 0)) from unhide EV)
          have BU := hide ((unhide BV).step b_dr)
          clear RV EV BV
          generalize wv.drew = uu at RU EU BU hS ⊢
          refine wpAnyH_take (i := 0) (v := ?_) rfl (by kernel_rfl) (by kernel_rfl) (by kernel_rfl) (fun _ _ _ h => h) (Or.inl ⟨by rfl, ?_⟩) hS ?_
          rotate_left
          · intro u hu; (try dsimp only at hu); go_simp; try with_reducible rfl
          simp only [Act.put, List.getElem_toArray, List.getElem_cons_zero, List.setIfInBounds_toArray, List.set_cons_zero, List.set_cons_succ]
          refine wpAnyH_take (i := 1) (v := ?_) rfl (by kernel_rfl) (by kernel_rfl) (by kernel_rfl) (fun _ _ _ h => h) (Or.inl ⟨by rfl, ?_⟩) hS ?_
          rotate_left
          · intro u hu; (try dsimp only at hu); go_simp; try with_reducible rfl
          simp only [Act.put, List.getElem_toArray, List.getElem_cons_zero, List.getElem_cons_succ, List.setIfInBounds_toArray, List.set_cons_zero, List.set_cons_succ]
          refine wpAnyH_take (i := 2) (v := ?_) rfl (by kernel_rfl) (by kernel_rfl) (by kernel_rfl) (fun _ _ _ h => h) (Or.inl ⟨by rfl, ?_⟩) hS ?_
          rotate_left
          · intro u hu; (try dsimp only at hu); go_simp; try with_reducible rfl
          simp only [Act.put, List.getElem_toArray, List.getElem_cons_zero, List.getElem_cons_succ, List.setIfInBounds_toArray, List.set_cons_zero, List.set_cons_succ]
          refine wpAnyH_take (i := 3) (v := ?_) rfl (by kernel_rfl) (by kernel_rfl) (by kernel_rfl) (fun _ _ _ h => h) (Or.inl ⟨by rfl, ?_⟩) hS ?_
          rotate_left
          · intro u hu; (try dsimp only at hu); go_simp; try with_reducible rfl
          simp only [Act.put, List.getElem_toArray, List.getElem_cons_zero, List.getElem_cons_succ, List.setIfInBounds_toArray, List.set_cons_zero, List.set_cons_succ]
          refine wpAnyH_take (i := 5) (v := ?_) rfl (by kernel_rfl) (by kernel_rfl) (by kernel_rfl) (fun _ _ _ h => h) (Or.inl ⟨by rfl, ?_⟩) hS ?_
          rotate_left
          · intro u hu; (try dsimp only at hu); go_simp; try with_reducible rfl
          simp only [Act.put, List.getElem_toArray, List.getElem_cons_zero, List.getElem_cons_succ, List.setIfInBounds_toArray, List.set_cons_zero, List.set_cons_succ]
          refine wpAnyH_take (i := 6) (v := ?_) rfl (by kernel_rfl) (by kernel_rfl) (by kernel_rfl) (fun _ _ _ h => h) (Or.inl ⟨by rfl, ?_⟩) hS ?_
          rotate_left
          · intro u hu; (try dsimp only at hu); go_simp; try with_reducible rfl
          simp only [Act.put, List.getElem_toArray, List.getElem_cons_zero, List.getElem_cons_succ, List.setIfInBounds_toArray, List.set_cons_zero, List.set_cons_succ]
          refine wpAnyH_ready (rs := [4, 7]) (by kernel_rfl) (by simp) ?_
          refine AllReadyH.cons rfl (fun K hK => ?_) (AllReadyH.cons rfl (fun K hK => ?_) AllReadyH.nil)
          · have r0 := (unhide RU).cell hqV
            go_simp
            refine hK.out _ _ hS (fun hS2 => ?_)
            clear hK K hS2 r0
            refine wpAnyH_ready (rs := [7]) (by kernel_rfl) (by simp) ?_
            refine AllReadyH.cons rfl (fun K hK => ?_) AllReadyH.nil
            go_simp
            have Y := hide (Bt.start 3 #[.int .i64 (p : Int)] uu)
            have EU2 := hide (show (uu.alloc (.cells #[.int .i64 (p : Int)] 3)).heap[eb]? = some (.cells #[.int .i64 (p : Int), .int .i64 (q : Int)] 47 (0, 0)) by rw [Below.heap_alloc _ _ _ (Array.getElem?_eq_some_iff.1 (unhide EU)).1]; exact unhide EU)
            have RU2 := hide (Row.below (unhide RU) (b_al (.cells #[.int .i64 (p : Int)] 3)))
            have BU2 := hide ((unhide BU).step (b_al (.cells #[.int .i64 (p : Int)] 3)))
            refine hK.out _ _ (e_cells (unhide EU2)) (fun hS2 => ?_)
            clear hK K hS RU EU BU
            have hS := hS2
            clear hS2
            have RU := RU2
            have EU := EU2
            have BU := BU2
            clear RU2 EU2 BU2
            generalize (uu.alloc (.cells #[.int .i64 (p : Int)] 3)) = ub3 at Y RU EU BU hS ⊢
            refine wpAnyH_ready (rs := [8]) (by kernel_rfl) (by simp) ?_
            refine AllReadyH.cons rfl (fun K hK => ?_) AllReadyH.nil
            go_simp
            go_wp2_with (go_at_call 46; refine (of_any _ _ 1 1 [(p : Int)] (ns_of_bt (unhide Y))).mono ?_; rintro e w5 ⟨rfl, hw5⟩; obtain rfl := hw5.symm; clear hw5)
            refine hK.out _ _ hS (fun hS2 => ?_)
            clear hK K hS2
            refine wpAnyH_take (i := 9) (v := ?_) rfl (by kernel_rfl) (by kernel_rfl) (by kernel_rfl) (fun _ _ _ h => h) (Or.inl ⟨by rfl, ?_⟩) hS ?_
            rotate_left
            · intro u hu; (try dsimp only at hu); go_simp; try with_reducible rfl
            simp only [Act.put, List.getElem_toArray, List.getElem_cons_zero, List.getElem_cons_succ, List.setIfInBounds_toArray, List.set_cons_zero, List.set_cons_succ]
            refine wpAnyH_take (i := 10) (v := ?_) rfl (by kernel_rfl) (by kernel_rfl) (by kernel_rfl) (fun _ _ _ h => h) (Or.inl ⟨by rfl, ?_⟩) hS ?_
            rotate_left
            · intro u hu; (try dsimp only at hu); go_simp; try with_reducible rfl
            simp only [Act.put, List.getElem_toArray, List.getElem_cons_zero, List.getElem_cons_succ, List.setIfInBounds_toArray, List.set_cons_zero, List.set_cons_succ]
            have r1 := (unhide RU).fz q
            have r0 := (unhide RU).cell hqV
            refine wpAnyH_ready (rs := [11]) (by kernel_rfl) (by simp) ?_
            refine AllReadyH.cons rfl (fun K hK => ?_) AllReadyH.nil
            go_simp
            have EU2 := hide (show (ub3.setCell ⟨w.heap.size + 1, q, none⟩ (.int .u64 ((F2 q ||| bitI (p : Int) : Nat) : Int))).heap[eb]? = some (.cells #[.int .i64 (p : Int), .int .i64 (q : Int)] 47 (0, 0)) by rw [Below.heap_setCell _ _ _ _ hebne]; exact unhide EU)
            have RU2 := hide (RowU.set (unhide RU) q (F2 q ||| bitI (p : Int)))
            have BU2 := hide ((unhide BU).stepB (B := w.heap.size + 1) (wk' := (ub3.setCell ⟨w.heap.size + 1, q, none⟩ (.int .u64 ((F2 q ||| bitI (p : Int) : Nat) : Int)))) (by omega) ((Below.refl _ _).setCell (p := ⟨w.heap.size + 1, q, none⟩) (Nat.le_refl _) _))
            refine hK.out _ _ (e_cells (unhide EU2)) (fun hS2 => ?_)
            clear hK K hS hS2 r0 r1 RU EU BU
            generalize (ub3.setCell ⟨w.heap.size + 1, q, none⟩ (.int .u64 ((F2 q ||| bitI (p : Int) : Nat) : Int))) = uz at EU2 RU2 BU2 ⊢
            refine wpAnyH_done (by kernel_rfl) ?_ _
            go_wp2_with fail
            go_roundw
            case rel => exact ⟨k + 1, by go_num, by omega, by rw [unhide HST]; exact RU2, BU2⟩
            case measure => simp [intOf]; omega
          · go_simp
            have Y := hide (Bt.start 3 #[.int .i64 (p : Int)] uu)
            have EU2 := hide (show (uu.alloc (.cells #[.int .i64 (p : Int)] 3)).heap[eb]? = some (.cells #[.int .i64 (p : Int), .int .i64 (q : Int)] 47 (0, 0)) by rw [Below.heap_alloc _ _ _ (Array.getElem?_eq_some_iff.1 (unhide EU)).1]; exact unhide EU)
            have RU2 := hide (Row.below (unhide RU) (b_al (.cells #[.int .i64 (p : Int)] 3)))
            have BU2 := hide ((unhide BU).step (b_al (.cells #[.int .i64 (p : Int)] 3)))
            refine hK.out _ _ (e_cells (unhide EU2)) (fun hS2 => ?_)
            clear hK K hS RU EU BU
            have hS := hS2
            clear hS2
            have RU := RU2
            have EU := EU2
            have BU := BU2
            clear RU2 EU2 BU2
            generalize (uu.alloc (.cells #[.int .i64 (p : Int)] 3)) = ub4 at Y RU EU BU hS ⊢
            refine wpAnyH_ready (rs := [4, 8]) (by kernel_rfl) (by simp) ?_
            refine AllReadyH.cons rfl (fun K hK => ?_) (AllReadyH.cons rfl (fun K hK => ?_) AllReadyH.nil)
            · have r0 := (unhide RU).cell hqV
              go_simp
              refine hK.out _ _ hS (fun hS2 => ?_)
              clear hK K hS2 r0
              refine wpAnyH_ready (rs := [8]) (by kernel_rfl) (by simp) ?_
              refine AllReadyH.cons rfl (fun K hK => ?_) AllReadyH.nil
              go_simp
              go_wp2_with (go_at_call 46; refine (of_any _ _ 1 1 [(p : Int)] (ns_of_bt (unhide Y))).mono ?_; rintro e w5 ⟨rfl, hw5⟩; obtain rfl := hw5.symm; clear hw5)
              refine hK.out _ _ hS (fun hS2 => ?_)
              clear hK K hS2
              refine wpAnyH_take (i := 9) (v := ?_) rfl (by kernel_rfl) (by kernel_rfl) (by kernel_rfl) (fun _ _ _ h => h) (Or.inl ⟨by rfl, ?_⟩) hS ?_
              rotate_left
              · intro u hu; (try dsimp only at hu); go_simp; try with_reducible rfl
              simp only [Act.put, List.getElem_toArray, List.getElem_cons_zero, List.getElem_cons_succ, List.setIfInBounds_toArray, List.set_cons_zero, List.set_cons_succ]
              refine wpAnyH_take (i := 10) (v := ?_) rfl (by kernel_rfl) (by kernel_rfl) (by kernel_rfl) (fun _ _ _ h => h) (Or.inl ⟨by rfl, ?_⟩) hS ?_
              rotate_left
              · intro u hu; (try dsimp only at hu); go_simp; try with_reducible rfl
              simp only [Act.put, List.getElem_toArray, List.getElem_cons_zero, List.getElem_cons_succ, List.setIfInBounds_toArray, List.set_cons_zero, List.set_cons_succ]
              have r1 := (unhide RU).fz q
              have r0 := (unhide RU).cell hqV
              refine wpAnyH_ready (rs := [11]) (by kernel_rfl) (by simp) ?_
              refine AllReadyH.cons rfl (fun K hK => ?_) AllReadyH.nil
              go_simp
              have EU2 := hide (show (ub4.setCell ⟨w.heap.size + 1, q, none⟩ (.int .u64 ((F2 q ||| bitI (p : Int) : Nat) : Int))).heap[eb]? = some (.cells #[.int .i64 (p : Int), .int .i64 (q : Int)] 47 (0, 0)) by rw [Below.heap_setCell _ _ _ _ hebne]; exact unhide EU)
              have RU2 := hide (RowU.set (unhide RU) q (F2 q ||| bitI (p : Int)))
              have BU2 := hide ((unhide BU).stepB (B := w.heap.size + 1) (wk' := (ub4.setCell ⟨w.heap.size + 1, q, none⟩ (.int .u64 ((F2 q ||| bitI (p : Int) : Nat) : Int)))) (by omega) ((Below.refl _ _).setCell (p := ⟨w.heap.size + 1, q, none⟩) (Nat.le_refl _) _))
              refine hK.out _ _ (e_cells (unhide EU2)) (fun hS2 => ?_)
              clear hK K hS hS2 r0 r1 RU EU BU
              generalize (ub4.setCell ⟨w.heap.size + 1, q, none⟩ (.int .u64 ((F2 q ||| bitI (p : Int) : Nat) : Int))) = uz at EU2 RU2 BU2 ⊢
              refine wpAnyH_done (by kernel_rfl) ?_ _
              go_wp2_with fail
              go_roundw
              case rel => exact ⟨k + 1, by go_num, by omega, by rw [unhide HST]; exact RU2, BU2⟩
              case measure => simp [intOf]; omega
            · go_simp
              go_wp2_with (go_at_call 46; refine (of_any _ _ 1 1 [(p : Int)] (ns_of_bt (unhide Y))).mono ?_; rintro e w5 ⟨rfl, hw5⟩; obtain rfl := hw5.symm; clear hw5)
              refine hK.out _ _ hS (fun hS2 => ?_)
              clear hK K hS2
              refine wpAnyH_ready (rs := [4]) (by kernel_rfl) (by simp) ?_
              refine AllReadyH.cons rfl (fun K hK => ?_) AllReadyH.nil
              have r0 := (unhide RU).cell hqV
              go_simp
              refine hK.out _ _ hS (fun hS2 => ?_)
              clear hK K hS2 r0
              refine wpAnyH_take (i := 9) (v := ?_) rfl (by kernel_rfl) (by kernel_rfl) (by kernel_rfl) (fun _ _ _ h => h) (Or.inl ⟨by rfl, ?_⟩) hS ?_
              rotate_left
              · intro u hu; (try dsimp only at hu); go_simp; try with_reducible rfl
              simp only [Act.put, List.getElem_toArray, List.getElem_cons_zero, List.getElem_cons_succ, List.setIfInBounds_toArray, List.set_cons_zero, List.set_cons_succ]
              refine wpAnyH_take (i := 10) (v := ?_) rfl (by kernel_rfl) (by kernel_rfl) (by kernel_rfl) (fun _ _ _ h => h) (Or.inl ⟨by rfl, ?_⟩) hS ?_
              rotate_left
              · intro u hu; (try dsimp only at hu); go_simp; try with_reducible rfl
              simp only [Act.put, List.getElem_toArray, List.getElem_cons_zero, List.getElem_cons_succ, List.setIfInBounds_toArray, List.set_cons_zero, List.set_cons_succ]
              have r1 := (unhide RU).fz q
              have r0 := (unhide RU).cell hqV
              refine wpAnyH_ready (rs := [11]) (by kernel_rfl) (by simp) ?_
              refine AllReadyH.cons rfl (fun K hK => ?_) AllReadyH.nil
              go_simp
              have EU2 := hide (show (ub4.setCell ⟨w.heap.size + 1, q, none⟩ (.int .u64 ((F2 q ||| bitI (p : Int) : Nat) : Int))).heap[eb]? = some (.cells #[.int .i64 (p : Int), .int .i64 (q : Int)] 47 (0, 0)) by rw [Below.heap_setCell _ _ _ _ hebne]; exact unhide EU)
              have RU2 := hide (RowU.set (unhide RU) q (F2 q ||| bitI (p : Int)))
              have BU2 := hide ((unhide BU).stepB (B := w.heap.size + 1) (wk' := (ub4.setCell ⟨w.heap.size + 1, q, none⟩ (.int .u64 ((F2 q ||| bitI (p : Int) : Nat) : Int)))) (by omega) ((Below.refl _ _).setCell (p := ⟨w.heap.size + 1, q, none⟩) (Nat.le_refl _) _))
              refine hK.out _ _ (e_cells (unhide EU2)) (fun hS2 => ?_)
              clear hK K hS hS2 r0 r1 RU EU BU
              generalize (ub4.setCell ⟨w.heap.size + 1, q, none⟩ (.int .u64 ((F2 q ||| bitI (p : Int) : Nat) : Int))) = uz at EU2 RU2 BU2 ⊢
              refine wpAnyH_done (by kernel_rfl) ?_ _
              go_wp2_with fail
              go_roundw
              case rel => exact ⟨k + 1, by go_num, by omega, by rw [unhide HST]; exact RU2, BU2⟩
              case measure => simp [intOf]; omega
      · have hyes : (S.testBit p || S.testBit q) = true := by
          cases hh : (S.testBit p || S.testBit q) with
          | true => rfl
          | false => exact absurd ((unhide HZZ).2 hh) hz
        have hst := unhide HST0
        rw [hyes] at hst
        simp only [if_true] at hst
        have HST := hide hst
        have hzi : (((S &&& m : Nat) : Int) == 0) = false := by simp; omega
        clear hst hyes HZZ
        generalize S &&& m = sm at hand hzi hz
        go_wp2_with fail
        go_roundw
        case rel => exact ⟨k + 1, by go_num, by omega, by rw [unhide HST]; exact RV, BV⟩
        case measure => simp [intOf]; omega
    · obtain rfl : k = n := by omega
      go_wp2_with fail
      go_ret
      refine ⟨⟨_, rfl, by omega, ?_⟩, (unhide HB).bel⟩
      have := unhide HR
      rw [← unhide HN, List.take_length] at this
      exact this
end Go.Proofs.YtefagplbpbkpgaaDoor.pt
/-
  The contract of reach.Parts: the parts that hang together without some vertices, by their least vertices; of a graph that may not be, nothing. Conditions: the graph lies in memory as told; the table of math/bits holds what its initialiser lays.
-/
namespace Go.Proofs.YtefagplbpbkpgaaDoor.pt
open Go.RowKit
set_option linter.unusedVariables false

def ucells (l : List Nat) : List Value := l.map fun (x : Nat) => Value.int .u64 (x : Int)
theorem ucells_snoc (l : List Nat) (x : Nat) : ucells l ++ [.int .u64 (x : Int)] = ucells (l ++ [x]) := by simp [ucells]
def repsL (rp : Nat → Bool) (C : Nat → Nat) (k : Nat) : List Nat := ((List.range k).filter rp).map C
theorem repsL_yes {rp : Nat → Bool} {C : Nat → Nat} {k : Nat} (h : rp k = true) : repsL rp C (k + 1) = repsL rp C k ++ [C k] := by
  unfold repsL
  rw [List.range_succ, List.filter_append]
  simp [h]
theorem repsL_no {rp : Nat → Bool} {C : Nat → Nat} {k : Nat} (h : rp k = false) : repsL rp C (k + 1) = repsL rp C k := by
  unfold repsL
  rw [List.range_succ, List.filter_append]
  simp [h]
theorem repsL_len (rp : Nat → Bool) (C : Nat → Nat) (k : Nat) : (repsL rp C k).length ≤ k := by
  have := List.length_filter_le rp (List.range k)
  simpa [repsL] using this
/-- what is done: those without, and the parts of the least ones below k -/
def IsDone (V : Nat) (es : List (Nat × Nat)) (wo rp : Nat → Bool) (k D : Nat) : Prop := ∀ j, j < V → (D.testBit j = true ↔ wo j = true ∨ ∃ r, r < k ∧ rp r = true ∧ Star (Bd es wo) r j)
theorem IsDone.rep {V : Nat} {es : List (Nat × Nat)} {wo : Nat → Bool} {C : Nat → Nat} {rp : Nat → Bool} (hP : IsPt V es wo C rp) {k D : Nat} (hk : k < V) (h : IsDone V es wo rp k D) : D.testBit k = !rp k := by
  have h1 := h k hk
  have h2 := hP.rep k hk
  have h3 : D.testBit k = true ↔ ¬ Rep es wo k := by
    rw [h1]
    constructor
    · rintro (hw | ⟨r, hr, hrr, hs⟩) hR
      · rw [hR.1] at hw; cases hw
      · exact (rep_iff hR.1).1 hR ⟨r, hr, (hP.rep r (by omega)).1 hrr, hs⟩
    · intro hR
      cases hw : wo k with
      | true => exact .inl rfl
      | false =>
        right
        apply Classical.byContradiction
        intro hno
        exact hR ((rep_iff hw).2 fun ⟨r, hr, hrr, hs⟩ => hno ⟨r, hr, (hP.rep r (by omega)).2 hrr, hs⟩)
  cases hd : D.testBit k with
  | true =>
    cases hr : rp k with
    | false => rfl
    | true => exact absurd (h2.1 hr) (h3.1 hd)
  | false =>
    cases hr : rp k with
    | true => rfl
    | false =>
      have : D.testBit k = true := h3.2 fun hR => by have := h2.2 hR; rw [hr] at this; cases this
      rw [hd] at this; cases this
theorem IsDone.no {V : Nat} {es : List (Nat × Nat)} {wo rp : Nat → Bool} {k D : Nat} (h : IsDone V es wo rp k D) (hr : rp k = false) : IsDone V es wo rp (k + 1) D := by
  intro j hj
  rw [h j hj]
  constructor
  · rintro (hw | ⟨r, h1, h2⟩)
    · exact .inl hw
    · exact .inr ⟨r, by omega, h2⟩
  · rintro (hw | ⟨r, h1, h2, h3⟩)
    · exact .inl hw
    · by_cases hrk : r = k
      · rw [hrk, hr] at h2; cases h2
      · exact .inr ⟨r, by omega, h2, h3⟩
theorem IsDone.yes {V : Nat} {es : List (Nat × Nat)} {wo : Nat → Bool} {C : Nat → Nat} {rp : Nat → Bool} (hP : IsPt V es wo C rp) {k D : Nat} (hk : k < V) (h : IsDone V es wo rp k D) (hr : rp k = true) : IsDone V es wo rp (k + 1) (D ||| C k) := by
  intro j hj
  rw [Nat.testBit_or, Bool.or_eq_true, h j hj, hP.bit k hk]
  constructor
  · rintro ((hw | ⟨r, h1, h2⟩) | hs)
    · exact .inl hw
    · exact .inr ⟨r, by omega, h2⟩
    · exact .inr ⟨k, by omega, hr, hs⟩
  · rintro (hw | ⟨r, h1, h2, h3⟩)
    · exact .inl (.inl hw)
    · by_cases hrk : r = k
      · rw [hrk] at h3; exact .inr h3
      · exact .inl (.inr ⟨r, by omega, h2, h3⟩)
theorem one_u64 (k : Nat) : ∀ u ∈ [Value.int .u64 (k : Int)], u.oneCell' = true := by
  intro u hu
  simp only [List.mem_singleton] at hu
  subst hu
  rfl

set_option maxHeartbeats 8000000 in
theorem parts_any (w : World) (hT : Tab w) (V : Nat) (a : Option Addr) (n cap : Nat) (es : List (Nat × Nat)) {B : Nat} (h : Es B w a n (toI es)) (hne : es.length = n) (hp : Plain V es) (S : Nat) (hS : S < 18446744073709551616) (C : Nat → Nat) (rp : Nat → Bool) (hP : IsPt V es S.testBit C rp) :
    Calls Tryd.prog 45 #[.agg #[.int .i64 V, .slice a n cap], .int .u64 S] w fun e w' => (∃ v, e = .returned v ∧ w'.ownsRow w.heap.size 76 1 v (repsL rp C V).length (ucells (repsL rp C V))) ∧ Below w.heap.size w w' := by
  have hv64 := hp.v64
  have hv1 := hp.v1
  have HT := hide hT
  have HE := hide h
  have HPT := hide hP
  have HB0 := hide (Bg.start w (.int .i64 V) (.slice a n cap))
  have HMAY := hide fun (w : World) (h : Es B w a n (toI es)) => show Calls Tryd.prog 59 #[.agg #[.int .i64 V, .slice a n cap]] w fun e w' => e = .returned (.bool true) ∧ Below w.heap.size w w' from by
    subst hne
    exact may_yes w V a cap es h hp
  have HBES := hide fun (w : World) (h : Es B w a n (toI es)) => beside_any w V a n cap es h hne hp S hS
  have HSP := hide (fun (u : World) (hT : Tab u) (gh x : Nat) (hx : x < V) (h : RowU u gh V (bsF es S.testBit)) => show Calls Tryd.prog 64 #[.int .u64 ((ofS [(x : Int)] : Nat) : Int), .slice (some ⟨gh, 0, none⟩) V V] u fun e w' => e = .returned (.int .u64 (C x : Nat)) ∧ Below u.heap.size u w' from by
    refine (spread_any u hT V V _ (bsF es S.testBit) _ (ofS_lt _) (h.read (by omega)) hv64 (fun x hx => bsF_lt es _ x) (fun x hx => bs_bnd hp _ x) (one_bnd hx)).mono ?_
    rintro e w' ⟨⟨t, rfl, ht⟩, hb⟩
    rw [hP.spread hp hx ht]
    exact ⟨rfl, hb⟩)
  obtain ⟨i0, hi0, hz0, hz1, hz2⟩ := info_parts info25
  have HI := hide hi0
  have HZ0 := hide hz0
  have HZ1 := hide hz1
  have HZ2 := hide hz2
  have HD0 := hide (show IsDone V es S.testBit rp 0 S from fun j hj => ⟨fun h => .inl h, fun h => h.resolve_right fun ⟨r, hr, _⟩ => by omega⟩)
  clear hi0 hz0 hz1 hz2 h hp hne hT hP
  go_enter Tryd.func45, Tryd.ntmps45
  go_wp2_with fail
  refine (unhide HMAY _ ((unhide HE).below (unhide HB0).bel)).mono ?_
  rintro e w1 ⟨rfl, hb1⟩
  have HB1 := hide ((unhide HB0).step hb1)
  obtain ⟨g0, g1⟩ := (unhide HB1).cells
  clear hb1 HB0 HMAY
  go_wp2_with fail
  refine (unhide HBES _ ((unhide HE).below (unhide HB1).bel)).mono ?_
  rintro e w2 ⟨⟨gh, rfl, hgh, hrow⟩, hb2⟩
  have HB2 := hide ((unhide HB1).step hb2)
  have HR2 := hide hrow
  clear hb2 HB1 HBES hrow g0 g1
  obtain ⟨g0, g1⟩ := (unhide HB2).cells
  have hsz2 := (unhide HB2).lt
  go_wp2_with fail
  clear g0 g1
  go_loopw [6, 7, 19] (fun v6 v7 i wr => ∃ k D : Nat, i = .int .i64 k ∧ k ≤ V ∧ v7 = .int .u64 D ∧ D < 18446744073709551616 ∧ Hid (IsDone V es S.testBit rp k D) ∧ Hid (wr.ownsRow w2.heap.size 76 1 v6 (repsL rp C k).length (ucells (repsL rp C k))) ∧ Hid (Below w2.heap.size w2 wr)) (fun v6 v7 i wr => V - (intOf i).toNat)
  case atStart => exact ⟨0, S, rfl, by omega, rfl, hS, HD0, World.ownsRow_nil _ _ _ _, Below.refl _ _⟩
  case round =>
    obtain ⟨k, D, rfl, hk, rfl, hD, HD, HO, HB⟩ := hrel
    have hsz := (unhide HB).size
    by_cases hlt : k < V
    · have hlt2 : (k : Int) < (V : Int) := by omega
      have hbit := (unhide HD).rep (unhide HPT) hlt
      have HH := hide (fun (u : World) => show Calls Tryd.prog 63 #[.int .u64 D, .int .i64 k] u fun e w' => e = .returned (.bool (!rp k)) ∧ Below u.heap.size u w' from by
        refine (has_any u D hD k).mono ?_
        rintro e w' ⟨rfl, hb⟩
        exact ⟨ret_b (by rw [hasI_nat hD, hbit]), hb⟩)
      clear hbit
      have hck := (unhide HPT).lt k hlt
      have hll := repsL_len rp C k
      go_wp2_with fail
      refine (unhide HH wr).mono ?_
      rintro e w4 ⟨rfl, hb4⟩
      have HB4 := hide ((unhide HB).trans (hb4.mono hsz))
      have HO4 := hide (owns_below (unhide HO) hb4)
      have hs4 := (unhide HB4).size
      clear hb4 HH
      cases hrp : rp k with
      | false =>
        have HD2 := hide ((unhide HD).no hrp)
        have hre := repsL_no (C := C) hrp
        have HRE := hide hre
        clear hre hrp
        go_wp2_with fail
        go_roundw
        case rel => exact ⟨k + 1, D, by go_num, by omega, rfl, hD, HD2, by rw [unhide HRE]; exact HO4, HB4⟩
        case measure => simp [intOf]; omega
      | true =>
        have HD2 := hide ((unhide HD).yes (unhide HPT) hlt hrp)
        have hre := repsL_yes (C := C) hrp
        have HRE := hide hre
        clear hre hrp
        go_wp2_with fail
        refine (of_any _ _ 1 1 [(k : Int)] (ns_one w4 k)).mono ?_
        rintro e w5 ⟨rfl, hw5⟩
        obtain rfl := hw5.symm
        clear hw5
        have X5 := hide ((unhide HB4).alloc hs4 (.cells #[.int .i64 (k : Int)] 3))
        have O5 := hide ((unhide HO4).alloc (.cells #[.int .i64 (k : Int)] 3))
        generalize (w4.alloc (.cells #[.int .i64 (k : Int)] 3)) = wa at X5 O5 ⊢
        go_wp2_with fail
        refine (unhide HSP wa ((unhide HT).below (bto (unhide HB2).bel (unhide X5))) gh k hlt (Row.below (unhide HR2) (unhide X5))).mono ?_
        rintro e wb ⟨rfl, hb⟩
        have X6 := hide (bto (unhide X5) hb)
        have O6 := hide (owns_below (unhide O5) hb)
        have hs6 := (unhide X6).size
        clear hb X5 O5
        have hor := u64_or_nat D (C k) hD hck
        have hdl := or_lt hD hck
        generalize C k = ck at *
        go_wp2_with (at_builtin; refine wpList_append_own _ rfl (.tmp 30) (.tmp 32) 73 rfl w2.heap.size 76 i0 (.int .u64 0) 1 8 Tryd.underlying73 (unhide HI) (unhide HZ0) (unhide HZ1) (unhide HZ2) rfl (by decide) u6 (repsL rp C k).length (ucells (repsL rp C k)) rfl ((unhide O6).alloc _) ⟨wb.heap.size, 0, none⟩ 1 1 [.int .u64 ck] rfl rfl (cell_one_new _ _ _) (one_u64 ck) ?a3 ?a4 ?a5 ?_)
        case a3 => unfold maxLen; omega
        case a4 => omega
        case a5 => first | omega | (simp; omega)
        intro v2 w7 hown7 hg7 _
        rw [ucells_snoc] at hown7
        have HB7 := hide (((unhide X6).alloc hs6 _).grown hg7 (by simp; omega) fun t ht => ((unhide O6).lt t ht).1)
        have HO7 := hide hown7
        clear hown7 hg7
        go_wp2_with fail
        go_roundw
        case rel =>
          refine ⟨k + 1, D ||| ck, by go_num, by omega, rfl, hdl, HD2, ?_, HB7⟩
          rw [unhide HRE, List.length_append]
          exact HO7
        case measure => simp [intOf]; omega
    · obtain rfl : k = V := by omega
      go_wp2_with fail
      go_ret
      exact ⟨⟨_, rfl, owns_mono (unhide HO) (by omega)⟩, bto (unhide HB2).bel (unhide HB)⟩

set_option maxHeartbeats 1000000 in
theorem parts_no (w : World) (V : Int) (a : Option Addr) (n cap : Nat) (zs : List (Int × Int)) {B : Nat} (h : Es B w a n zs) (hno : ¬ Good V n zs) (S : Int) :
    Calls Tryd.prog 45 #[.agg #[.int .i64 V, .slice a n cap], .int .u64 S] w fun e w' => e = .returned (.slice none 0 0) ∧ Below w.heap.size w w' := by
  have HB0 := hide (Bg.start w (.int .i64 V) (.slice a n cap))
  have HE := hide h
  clear h
  go_enter Tryd.func45, Tryd.ntmps45
  go_wp2_with fail
  refine (may_no _ V a n cap zs ((unhide HE).below (unhide HB0).bel) hno).mono ?_
  rintro e w1 ⟨rfl, hb1⟩
  have HB1 := hide ((unhide HB0).step hb1)
  clear hb1 HB0
  go_wp2_with fail
  go_ret
  exact ⟨rfl, (unhide HB1).bel⟩
end Go.Proofs.YtefagplbpbkpgaaDoor.pt
/-
  The contract of the program's Genus. Conditions: the graph and the lists lie in memory as told; the table of math/bits lies where it should.
-/
namespace Go.Proofs.YtefagplbpbkpgaaDoor
open Go.RowKit
set_option linter.unusedVariables false
set_option maxRecDepth 20000

/-- what stands in every world of a region: the box of the graph, and all that lay in u0 -/
def Sg (w u0 : World) (V : Int) (a : Option Addr) (n cap : Nat) (u : World) : Prop :=
  u.cell? ⟨w.heap.size, 0, none⟩ = some (.int .i64 V) ∧ u.cell? ⟨w.heap.size, 1, none⟩ = some (.slice a n cap) ∧ Hid (Bg w u (.int .i64 V) (.slice a n cap)) ∧ Hid (Below u0.heap.size u0 u)
theorem Sg.start {w u0 : World} {V : Int} {a : Option Addr} {n cap : Nat} (h : Bg w u0 (.int .i64 V) (.slice a n cap)) : Sg w u0 V a n cap u0 := ⟨h.cells.1, h.cells.2, h, Below.refl _ _⟩
theorem Sg.keep {w u0 : World} {V : Int} {a : Option Addr} {n cap : Nat} {u u' : World} (hb : Below u.heap.size u u') (h : Sg w u0 V a n cap u) : Sg w u0 V a n cap u' := by
  have := Bg.step (unhide h.2.2.1) hb
  exact ⟨this.cells.1, this.cells.2, this, bto (unhide h.2.2.2) hb⟩
theorem Sg.bel {w u0 : World} {V : Int} {a : Option Addr} {n cap : Nat} {u : World} (h : Sg w u0 V a n cap u) : Below w.heap.size w u := (unhide h.2.2.1).bel
theorem owns_slice {w : World} {base : Nat} {v : Value} {n : Nat} {xs : List Value} {e : TypeId} {k : Nat} (h : w.ownsRow base e k v n xs) : ∃ a c, v = .slice a n c := by
  rcases h.2 with ⟨hv, h0⟩ | ⟨g, cap, cur, hv, _⟩
  · exact ⟨none, 0, by rw [hv, h0]⟩
  · exact ⟨_, cap, hv⟩

set_option maxHeartbeats 4000000 in
theorem genus_bad (w : World) (V : Int) (a : Option Addr) (n cap : Nat) (es : List (Int × Int)) {B : Nat} (h : Es B w a n es) (ra : Option Addr) (m rc : Nat) (rs : List (List Int)) (hr : Rr w ra m rs) (hno : ¬ IsRot V n es rs) :
    Calls Tryd.prog 44 #[.agg #[.int .i64 V, .slice a n cap], .slice ra m rc] w fun e w' => e = .returned (.tuple #[.int .i64 0, .int .i64 1]) ∧ Below w.heap.size w w' := by
  have HB0 := hide (Bg.start w (.int .i64 V) (.slice a n cap))
  have HC := hide (fun (u : World) (hu : Below w.heap.size w u) => right_any u V a n cap es (h.below hu) ra m rc rs (hr.below hu))
  have HNO := hide hno
  clear h hr hno
  obtain ⟨g0, g1⟩ := (unhide HB0).cells
  go_enter Tryd.func44, Tryd.ntmps44
  go_wp2_with fail
  refine (unhide HC _ (unhide HB0).bel).mono ?_
  rintro e w1 ⟨⟨r, rfl, hr⟩, hb1⟩
  have hrt : r = false := by
    cases r with
    | false => rfl
    | true => exact absurd (hr.1 rfl) (unhide HNO)
  subst hrt
  have HB1 := hide ((unhide HB0).step hb1)
  clear hb1 HB0 g0 g1 hr
  go_wp2_with fail
  go_ret2
  exact ⟨rfl, (unhide HB1).bel⟩

/-- the lists that are empty, of the first k -/
def emp (q : List (List Nat)) (k : Nat) : Nat := ((List.range k).filter fun x => decide (q.getD x [] = [])).length
theorem emp_succ (q : List (List Nat)) (k : Nat) : emp q (k + 1) = emp q k + if q.getD k [] = [] then 1 else 0 := by
  unfold emp
  rw [List.range_succ, List.filter_append, List.length_append]
  congr 1
  by_cases h : q.getD k [] = []
  · rw [if_pos h, List.filter_cons, if_pos (decide_eq_true h)]
    rfl
  · rw [if_neg h, List.filter_cons, if_neg (by rw [decide_eq_true_iff]; exact h)]
    rfl
theorem emp_le (q : List (List Nat)) (k : Nat) : emp q k ≤ k := by
  unfold emp
  exact Nat.le_trans (List.length_filter_le _ _) (by simp)

set_option maxHeartbeats 8000000 in
theorem genus_good (w : World) (hT : pt.Tab w) (V : Nat) (a : Option Addr) (n cap : Nat) (es : List (Nat × Nat)) {B : Nat} (h : Es B w a n (toI es)) (hne : es.length = n) (hp : pt.Plain V es) (ra : Option Addr) (m rc : Nat) (q : List (List Nat)) (hr : Rr w ra m (rowsI q)) (hyes : IsRot V n (toI es) (rowsI q)) (ro : pt.Ro V es q) (N : Nat → Nat) (hN : Behind q N) (c g : Nat) (hc : pt.IsCnt V es c) (hg : 2 * c + n = V + cyc N (2 * n) + emp q V + 2 * g) :
    Calls Tryd.prog 44 #[.agg #[.int .i64 V, .slice a n cap], .slice ra m rc] w fun e w' => e = .returned (.tuple #[.int .i64 (g : Nat), .int .i64 0]) ∧ Below w.heap.size w w' := by
  have hn := hyes.good.2.2.1
  have hv64 := hp.v64
  have hmV : m = V := by have := hr.1; rw [rowsI_length] at this; rw [← this, ro.len]
  have hcV : c ≤ V := by
    obtain ⟨r, _, rfl⟩ := hc
    exact Nat.le_trans (List.length_filter_le _ _) (by simp)
  have HB0 := hide (Bg.start w (.int .i64 V) (.slice a n cap))
  have HC := hide (fun (u : World) (hu : Below w.heap.size w u) => right_any u V a n cap (toI es) (h.below hu) ra m rc _ (hr.below hu))
  have HF := hide (fun (u : World) (hu : Below w.heap.size w u) => show Calls Tryd.prog 19 #[.agg #[.int .i64 V, .slice a n cap], .slice ra m rc] u fun e w' => (∃ va vc, e = .returned (.slice va (cyc N (2 * n)) vc)) ∧ Below u.heap.size u w' from by
    refine (faces_good u V a n cap (toI es) (h.below hu) ra m rc q (hr.below hu) hyes N hN (by rw [← hne]; exact pt.nx_pm ro hN) (by rw [← hne]; exact ro.lt') (by rw [← hne]; exact ro.cov)).mono ?_
    rintro e w' ⟨⟨va, vc, rfl, _, _⟩, hb⟩
    rw [cyc_faces]
    exact ⟨⟨va, vc, rfl⟩, hb⟩)
  obtain ⟨C0, r0, hP0⟩ := pt.pt_ex hp (0 : Nat).testBit
  have hbit : (0 : Nat).testBit = fun _ => false := by funext t; simp
  have hc0 : (pt.repsL r0 C0 V).length = c := by
    refine pt.IsCnt.only (V := V) (es := es) ⟨r0, fun v hv => ?_, ?_⟩ hc
    · have := hP0.rep v hv
      rw [hbit] at this
      exact this
    · simp [pt.repsL]
  have HP := hide (fun (u0 u : World) (hu : Sg w u0 V a n cap u) => show Calls Tryd.prog 45 #[.agg #[.int .i64 V, .slice a n cap], .int .u64 0] u fun e w' => (∃ pa pc, e = .returned (.slice pa c pc)) ∧ Below u.heap.size u w' from by
    refine (pt.parts_any u (hT.below hu.bel) V a n cap es (h.below hu.bel) hne hp 0 (by decide) C0 r0 hP0).mono ?_
    rintro e w' ⟨⟨v, rfl, ho⟩, hb⟩
    rw [hc0] at ho
    obtain ⟨pa, pc, rfl⟩ := owns_slice ho
    exact ⟨⟨pa, pc, rfl⟩, hb⟩)
  have HO := hide (fun (u : World) => show Calls Tryd.prog 46 #[.slice none 0 0] u fun e w' => e = .returned (.int .u64 0) ∧ w' = u from pt.of_any u none 0 0 [] (Ns.nil _ _))
  have HYES := hide hyes
  have HRr := hide hr
  have HG := hide hg
  have hcyc : cyc N (2 * n) ≤ 2 * n := by
    unfold cyc
    exact Nat.le_trans (List.length_filter_le _ _) (by simp)
  have HEV := hide (emp_le q V)
  generalize cyc N (2 * n) = F at *
  have HGG := hide hg
  clear h hr hyes ro hN hc hg hP0 hc0 hbit hT hp hne
  subst hmV
  obtain ⟨g0, g1⟩ := (unhide HB0).cells
  go_enter Tryd.func44, Tryd.ntmps44
  go_wp2_with fail
  refine (unhide HC _ (unhide HB0).bel).mono ?_
  rintro e w1 ⟨⟨r, rfl, hr⟩, hb1⟩
  have hrt : r = true := hr.2 (unhide HYES)
  subst hrt
  have HB1 := hide ((unhide HB0).step hb1)
  clear hb1 HB0 g0 g1 hr HC
  obtain ⟨g0, g1⟩ := (unhide HB1).cells
  go_wp2_with fail
  refine (unhide HF _ (unhide HB1).bel).mono ?_
  rintro e w2 ⟨⟨va, vc, rfl⟩, hb2⟩
  have HB2 := hide ((unhide HB1).step hb2)
  clear hb2 HB1 g0 g1 HF
  have HE0 := hide (show emp q 0 = 0 from rfl)
  go_wp2_with fail
  go_loopw [6, 20] (fun v i wr => ∃ k : Nat, i = .int .i64 k ∧ k ≤ m ∧ v = .int .i64 ((F + emp q k : Nat) : Int) ∧ wr = w2) (fun v i wr => m - (intOf i).toNat)
  case atStart => exact ⟨0, rfl, by omega, by rw [unhide HE0]; rfl, rfl⟩
  case round =>
    clear HE0
    obtain ⟨k, rfl, hk, rfl, rfl⟩ := hrel
    have hek := emp_le q k
    by_cases hkm : k < m
    · have hkm2 : (k : Int) < (m : Int) := by omega
      obtain ⟨gr, or, la, lc, ha, hgr, d0, hlc, hls⟩ := ((unhide HRr).below (unhide HB2).bel).2.2 k hkm
      subst ha
      rw [rowsI_getD, toIs_length] at d0
      have hsu := emp_succ q k
      by_cases he : q.getD k [] = []
      · rw [if_pos he] at hsu
        rw [he] at d0
        have d0' : wr.cell? ⟨gr, or + k, none⟩ = some (.slice la 0 lc) := d0
        have HSU := hide hsu
        clear hsu he d0 hls hlc
        generalize emp q k = ek at *
        go_wp2_with fail
        go_roundw
        case rel => exact ⟨k + 1, by go_num, by omega, by rw [unhide HSU]; go_num, (by first | rfl | trivial)⟩
        case measure => simp [intOf]; omega
      · rw [if_neg he, Nat.add_zero] at hsu
        have hl0 : (q.getD k []).length ≠ 0 := fun e => he (List.length_eq_zero_iff.1 e)
        obtain ⟨ln, hln⟩ : ∃ ln, (q.getD k []).length = ln := ⟨_, rfl⟩
        rw [hln] at d0 hl0
        have t1 : ((ln : Int) == 0) = false := by rw [beq_eq_false_iff_ne]; omega
        have HSU := hide hsu
        clear hsu he hln hls hlc hl0
        generalize emp q k = ek at *
        go_wp2_with fail
        go_roundw
        case rel => exact ⟨k + 1, by go_num, by omega, (by rw [unhide HSU]; first | rfl | simp), (by first | rfl | trivial)⟩
        case measure => simp [intOf]; omega
    · obtain rfl : k = m := by omega
      obtain ⟨g0, g1⟩ := (unhide HB2).cells
      have hS0 := Sg.keep b_dr (Sg.start (unhide HB2))
      have hS1 := Sg.start (unhide HB2)
      have hgg := unhide HGG
      generalize emp q k = ek at *
      go_wp2_with fail
      go_region_held3 (fun u => u.cell? ⟨w.heap.size, 0, none⟩ = some (.int .i64 (k : Int)) ∧ u.cell? ⟨w.heap.size, 1, none⟩ = some (.slice a n cap) ∧ Hid (Bg w u (.int .i64 (k : Int)) (.slice a n cap)) ∧ Hid (Below wr.heap.size wr u)) (first | exact hS0 | exact hS1 | assumption | exact Sg.keep hb7 (by assumption)) ((first | (go_at_call 46; refine (unhide HO _).mono ?_; rintro e w8 ⟨rfl, rfl⟩) | (go_at_call 45; refine (unhide HP wr _ (by first | assumption | exact hS0)).mono ?_; rintro e w7 ⟨⟨qa, qc, rfl⟩, hb7⟩)))
      have hSE : Sg w wr k a n cap w7 := by assumption
      obtain ⟨g0, g1⟩ : w7.cell? ⟨w.heap.size, 0, none⟩ = some (.int .i64 (k : Int)) ∧ w7.cell? ⟨w.heap.size, 1, none⟩ = some (.slice a n cap) := ⟨hSE.1, hSE.2.1⟩
      have HBE := hide hSE.bel
      have hw1 : IntKind.i64.wrap (2 * (c : Int)) = 2 * (c : Int) := by rw [IntKind.wrap_i64]; omega
      have hw2 : IntKind.i64.wrap (2 * (c : Int) - (k : Int)) = 2 * (c : Int) - (k : Int) := by rw [IntKind.wrap_i64]; omega
      have hw3 : IntKind.i64.wrap (2 * (c : Int) - (k : Int) + (n : Int)) = 2 * (c : Int) - (k : Int) + (n : Int) := by rw [IntKind.wrap_i64]; omega
      have hw4 : IntKind.i64.wrap (2 * (c : Int) - (k : Int) + (n : Int) - ((F : Int) + (ek : Int))) = 2 * (g : Int) := by rw [IntKind.wrap_i64]; omega
      have hq : (2 * (g : Int)).tdiv 2 = (g : Int) := by rw [Int.mul_tdiv_cancel_left _ (by decide)]
      have hw5 : IntKind.i64.wrap (g : Int) = (g : Int) := by rw [IntKind.wrap_i64]; omega
      clear hSE hS0 hS1
      go_wp2_with fail
      go_ret2
      exact ⟨by first | rfl | simp, unhide HBE⟩
end Go.Proofs.YtefagplbpbkpgaaDoor

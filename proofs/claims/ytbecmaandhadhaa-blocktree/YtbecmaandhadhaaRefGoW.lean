/-
  The contract of the document's Go: what is come to along edges that count, both ways or from tails to heads. Conditions: the graph lies in memory as told and may be; so do the marks of the edges that count.
-/
import Derived.Test.YtbecmaandhadhaaRefGo
namespace Go.Proofs.Ytbecmaandhadhaa.pt
open Go.RowKit
set_option linter.unusedVariables false
set_option maxRecDepth 20000

set_option maxHeartbeats 8000000 in
theorem refgo_any (w : World) (V : Nat) (a : Option Addr) (n cap : Nat) (es : List (Nat × Nat)) {B : Nat} (h : Es B w a n (toI es)) (hne : es.length = n) (hp : Plain V es) (x : Nat) (hx : x < V) (both : Bool) (ca : Option Addr) (cc : Nat) (c : Nat → Bool) (hC : Bs w ca n c) :
    Calls Try.prog 37 #[.agg #[.int .i64 V, .slice a n cap], .int .i64 x, .bool both, .slice ca n cc] w fun e w' => (∃ g f, e = .returned (.slice (some ⟨g, 0, none⟩) V V) ∧ w.heap.size ≤ g ∧ RowB w' g V f ∧ ∀ j, j < V → (f j = true ↔ Star (Cs es both c) x j)) ∧ Below w.heap.size w w' := by
  have hv64 := hp.v64
  have hv1 := hp.v1
  have hn128 := hp.n128
  rw [hne] at hn128
  have HE := hide h
  have HP := hide hp
  have HN := hide hne
  have HC := hide hC
  have HB0 := hide (Bg.start w (.int .i64 V) (.slice a n cap))
  obtain ⟨i0, hi0, hz0, hz1, hz2⟩ := info_parts info4
  have HI := hide hi0
  have HZ0 := hide hz0
  have HZ1 := hide hz1
  have hzb : i0.bytes * V ≤ 281474976710656 := by rw [hz2]; omega
  have hx2 : (x : Int) < (V : Int) := by omega
  clear hi0 hz0 hz1 hz2 h hp hne hC
  go_enter Try.func37, Try.ntmps37
  go_wp2_with (refine wpList_make_full _ rfl (.tmp 14) (.tmp 14) 38 rfl (w.heap.size + 1) 4 i0 (.bool false) 1 Try.underlying38 (unhide HI) (unhide HZ0) (unhide HZ1) .i64 .i64 _ _ V rfl rfl rfl rfl hzb ?m1 ?m2 ?_)
  case m1 => unfold maxLen; omega
  case m2 => simp
  intro w1 hown1 hg1
  rw [toList_madeCells_one] at hown1
  have hs0 : (w.alloc (.cells #[.int .i64 (V : Int), .slice a n cap] 24)).heap.size = w.heap.size + 1 := by simp
  have hb1 : Below (w.heap.size + 1) (w.alloc (.cells #[.int .i64 (V : Int), .slice a n cap] 24)) w1 := ⟨hg1.os, hg1.tape, hg1.output, hg1.size, fun k hk => hg1.block k (by rw [hs0]; exact hk) (by simp)⟩
  have HB1 := hide ((unhide HB0).stepB (by omega) hb1)
  have HR1 := hide (show RowB w1 (w.heap.size + 1) V (fun _ => false) from Row.of_owns hown1)
  clear hown1 hg1 hb1 HB0 hs0
  have r0 := (unhide HR1).cell hx
  have r1 := (unhide HR1).fz x
  go_wp2_with fail
  have HR2 := hide (RowB.set (unhide HR1) x true)
  have HB2 := hide ((unhide HB1).stepB (B := w.heap.size + 1) (by omega) ((Below.refl _ _).setCell (p := ⟨w.heap.size + 1, x, none⟩) (Nat.le_refl _) (.bool true)))
  have HRN := hide (Rn.start (es := es) (both := both) (c := c) hx)
  clear r0 r1 HR1 HB1
  go_loopw [10] (fun i wr => ∃ (r : Nat) (f : Nat → Bool), i = .int .i64 r ∧ r ≤ V ∧ Hid (RowB wr (w.heap.size + 1) V f) ∧ Hid (Rn V es both c x r f) ∧ Hid (Bg w wr (.int .i64 V) (.slice a n cap))) (fun i wr => V - (intOf i).toNat)
  case atStart => exact ⟨0, _, rfl, by omega, HR2, HRN, HB2⟩
  case round =>
    obtain ⟨r, f0, rfl, hr, HR, HRNr, HB⟩ := hrel
    obtain ⟨g0, g1⟩ := (unhide HB).cells
    by_cases hlt : r < V
    · have hlt2 : (r : Int) < (V : Int) := by omega
      go_wp2_with fail
      obtain ⟨wo, rfl⟩ : ∃ wo, wo = wr := ⟨_, rfl⟩
      clear g0 g1
      have HS0 := hide (Sw.start (unhide HRNr).sound)
      go_loopw [11] (fun i wr => ∃ (k : Nat) (f : Nat → Bool), i = .int .i64 k ∧ k ≤ n ∧ Hid (RowB wr (w.heap.size + 1) V f) ∧ Hid (Sw V es both c x k f0 f) ∧ Hid (Bg w wr (.int .i64 V) (.slice a n cap))) (fun i wr => n - (intOf i).toNat)
      case atStart => exact ⟨0, f0, rfl, by omega, HR, HS0, HB⟩
      case round =>
        clear HR HB HS0
        obtain ⟨k, f, rfl, hk, HR, HS, HB⟩ := hrel
        obtain ⟨g0, g1⟩ := (unhide HB).cells
        have hszr := (unhide HR).lt
        by_cases hlt : k < n
        · obtain ⟨g, off, ha, hg, c0, c1⟩ := es_at (i := k) (by have := unhide HE; rw [← unhide HN] at this; exact this) (by rw [unhide HN]; exact hlt)
          subst ha
          obtain ⟨gc, oc, hca, hgc, cC⟩ := (unhide HC).2 k hlt
          subst hca
          have hends := plat (unhide HP) (i := k) (by rw [unhide HN]; exact hlt)
          obtain ⟨⟨p, q⟩, hpq⟩ : ∃ e, es.getD k (0, 0) = e := ⟨_, rfl⟩
          rw [hpq] at c0 c1 hends
          have HPQ := hide hpq
          have hskip : (c k = true → f p = false ∧ (both = true → f q = false)) → Sw V es both c x (k + 1) f0 f := fun hno => (unhide HS).skip (unhide HP) (by rw [unhide HN]; exact hlt) (by rw [hpq]; exact hno)
          have HSK := hide hskip
          clear hpq hskip
          obtain ⟨hpV, hqV⟩ := hends
          simp only at c0 c1 hpV hqV
          have d0 : wr.cell? ⟨g, off + k * 2, none⟩ = some (.int .i64 (p : Nat)) := by rw [(unhide HB).bel.cell (p := ⟨g, off + k * 2, none⟩) hg]; exact c0
          have d1 : wr.cell? ⟨g, off + k * 2 + 1, none⟩ = some (.int .i64 (q : Nat)) := by rw [(unhide HB).bel.cell (p := ⟨g, off + k * 2 + 1, none⟩) hg]; exact c1
          have d2 : wr.cell? ⟨gc, oc + k, none⟩ = some (.bool (c k)) := by rw [(unhide HB).bel.cell (p := ⟨gc, oc + k, none⟩) hgc]; exact cC
          have s0 := (unhide HR).cell hpV
          have s1 := (unhide HR).cell hqV
          have s2 := (unhide HR).fz q
          have s3 := (unhide HR).fz p
          have hlt2 : (k : Int) < (n : Int) := by omega
          have hp2 : (p : Int) < (V : Int) := by omega
          have hq2 : (q : Int) < (V : Int) := by omega
          have hgw := (unhide HB).lt
          have hgcr : gc < wr.heap.size := by omega
          have hgr : g < wr.heap.size := by omega
          clear c0 c1 cC
          cases hck : c k with
          | false =>
            rw [hck] at d2
            have HSW := hide (unhide HSK (fun h => by rw [hck] at h; cases h))
            go_wp2_with fail
            go_roundw
            case rel => exact ⟨k + 1, f, by go_num, by omega, (unhide HR).below (b_al _), HSW, (unhide HB).step (b_al _)⟩
            case measure => simp [intOf]; omega
          | true =>
            rw [hck] at d2
            have hcase : (f p = true ∨ (both = true ∧ f q = true)) ∨ (f p = false ∧ (both = true → f q = false)) := by
              cases f p with
              | true => exact .inl (.inl rfl)
              | false =>
                cases both with
                | false => exact .inr ⟨rfl, fun h => by cases h⟩
                | true =>
                  cases f q with
                  | true => exact .inl (.inr ⟨rfl, rfl⟩)
                  | false => exact .inr ⟨rfl, fun _ => rfl⟩
            rcases hcase with hyes | ⟨hno1, hno2⟩
            · have hst : (upd f q true p || both) = true := by
                rcases hyes with h | ⟨h1, _⟩
                · have : upd f q true p = true := by
                    unfold upd
                    split
                    · rfl
                    · exact h
                  simp [this]
                · simp [h1]
              have HSW := hide (Sw.take (unhide HS) (unhide HP) (by rw [unhide HN]; exact hlt) hck (unhide HPQ) hyes)
              rw [hst] at HSW
              clear hst
              cases hfp : f p with
              | true =>
                have hst : upd f q true p = true := by
                  unfold upd
                  split
                  · rfl
                  · exact hfp
                rw [hfp] at s0
                clear hyes
                go_wp2_with fail
                have hse : (wr.setCell ⟨w.heap.size + 1, q, none⟩ (.bool true)).heap.size = wr.heap.size := by simp
                have BV := hide ((unhide HB).stepB (B := w.heap.size + 1) (wk' := (wr.setCell ⟨w.heap.size + 1, q, none⟩ (.bool true)).alloc (.cells #[.int .i64 (p : Int), .int .i64 (q : Int)] 40)) (by omega) (((Below.refl (w.heap.size + 1) wr).setCell (p := ⟨w.heap.size + 1, q, none⟩) (Nat.le_refl _) _).alloc (by rw [hse]; omega) _))
                have RV := hide ((RowB.set (unhide HR) q true).below (b_al (.cells #[.int .i64 (p : Int), .int .i64 (q : Int)] 40)))
                have EV := hide (show ((wr.setCell ⟨w.heap.size + 1, q, none⟩ (.bool true)).alloc (.cells #[.int .i64 (p : Int), .int .i64 (q : Int)] 40)).heap[wr.heap.size]? = some (.cells #[.int .i64 (p : Int), .int .i64 (q : Int)] 40 (0, 0)) by have h := (MapKept.heap_alloc (wr.setCell ⟨w.heap.size + 1, q, none⟩ (.bool true)) (.cells #[.int .i64 (p : Int), .int .i64 (q : Int)] 40)).1; rw [hse] at h; exact h)
                clear hse
                have hebne : wr.heap.size ≠ w.heap.size + 1 := by omega
                clear d0 d1 d2 s0 s1 s2 s3 g0 g1
                generalize ((wr.setCell ⟨w.heap.size + 1, q, none⟩ (.bool true)).alloc (.cells #[.int .i64 (p : Int), .int .i64 (q : Int)] 40)) = wv at BV RV EV ⊢
                clear hszr
                generalize wr.heap.size = eb at EV hebne ⊢
                have BV2 := hide ((unhide BV).step b_dr)
                have RV2 := hide ((unhide RV).below b_dr)
                have EV2 := hide (show wv.drew.heap[eb]? = some (.cells #[.int .i64 (p : Int), .int .i64 (q : Int)] 40 (0, 0)) from unhide EV)
                have e0 : wv.drew.cell? ⟨eb, 0, none⟩ = some (.int .i64 (p : Int)) := by simp only [World.cell?, unhide EV2]; rfl
                refine wp_region_held_drew (S := fun u => u.cell? ⟨eb, 0, none⟩ = some (.int .i64 (p : Int))) (by kernel_rfl) e0 (fun hS => ?_)
                clear e0 BV RV EV
                generalize wv.drew = wu at BV2 RV2 EV2 hS ⊢
                have r0 := (unhide RV2).cell hpV
                have r1 := (unhide RV2).fz p
                rw [hst] at r0
                refine wpAnyH_take (i := 0) (v := ?_) rfl (by kernel_rfl) (by kernel_rfl) (by kernel_rfl) (fun _ _ _ h => h) (Or.inl ⟨by rfl, ?_⟩) hS ?_
                rotate_left
                · intro u hu; (try dsimp only at hu); go_simp; try with_reducible rfl
                simp only [Act.put, List.getElem_toArray, List.getElem_cons_zero, List.setIfInBounds_toArray, List.set_cons_zero, List.set_cons_succ]
                refine wpAnyH_take (i := 1) (v := ?_) rfl (by kernel_rfl) (by kernel_rfl) (by kernel_rfl) (fun _ _ _ h => h) (Or.inl ⟨by rfl, ?_⟩) hS ?_
                rotate_left
                · intro u hu; (try dsimp only at hu); go_simp; try with_reducible rfl
                simp only [Act.put, List.getElem_toArray, List.getElem_cons_zero, List.getElem_cons_succ, List.setIfInBounds_toArray, List.set_cons_zero, List.set_cons_succ]
                refine wpAnyH_take (i := 2) (v := ?_) rfl (by kernel_rfl) (by kernel_rfl) (by kernel_rfl) (fun _ _ _ h => h) (Or.inl ⟨by rfl, ?_⟩) hS ?_
                rotate_left
                · intro u hu; (try dsimp only at hu); go_simp; try with_reducible rfl
                simp only [Act.put, List.getElem_toArray, List.getElem_cons_zero, List.getElem_cons_succ, List.setIfInBounds_toArray, List.set_cons_zero, List.set_cons_succ]
                refine wpAnyH_take (i := 3) (v := ?_) rfl (by kernel_rfl) (by kernel_rfl) (by kernel_rfl) (fun _ _ _ h => h) (Or.inl ⟨by rfl, ?_⟩) hS ?_
                rotate_left
                · intro u hu; (try dsimp only at hu); go_simp; try with_reducible rfl
                simp only [Act.put, List.getElem_toArray, List.getElem_cons_zero, List.getElem_cons_succ, List.setIfInBounds_toArray, List.set_cons_zero, List.set_cons_succ]
                refine wpAnyH_take (i := 4) (v := ?_) rfl (by kernel_rfl) (by kernel_rfl) (by kernel_rfl) (fun _ _ _ h => h) (Or.inl ⟨by rfl, ?_⟩) hS ?_
                rotate_left
                · intro u hu; (try dsimp only at hu); go_simp; try with_reducible rfl
                simp only [Act.put, List.getElem_toArray, List.getElem_cons_zero, List.getElem_cons_succ, List.setIfInBounds_toArray, List.set_cons_zero, List.set_cons_succ]
                refine wpAnyH_take (i := 5) (v := ?_) rfl (by kernel_rfl) (by kernel_rfl) (by kernel_rfl) (fun _ _ _ h => h) (Or.inl ⟨by rfl, ?_⟩) hS ?_
                rotate_left
                · intro u hu; (try dsimp only at hu); go_simp; try with_reducible rfl
                simp only [Act.put, List.getElem_toArray, List.getElem_cons_zero, List.getElem_cons_succ, List.setIfInBounds_toArray, List.set_cons_zero, List.set_cons_succ]
                refine wpAnyH_take (i := 6) (v := ?_) rfl (by kernel_rfl) (by kernel_rfl) (by kernel_rfl) (fun _ _ _ h => h) (Or.inl ⟨by rfl, ?_⟩) hS ?_
                rotate_left
                · intro u hu; (try dsimp only at hu); go_simp; try with_reducible rfl
                simp only [Act.put, List.getElem_toArray, List.getElem_cons_zero, List.getElem_cons_succ, List.setIfInBounds_toArray, List.set_cons_zero, List.set_cons_succ]
                refine wpAnyH_ready (rs := [7]) (by kernel_rfl) (by simp) ?_
                refine AllReadyH.cons rfl (fun K hK => ?_) AllReadyH.nil
                go_simp
                refine hK.out _ _ hS (fun hS2 => ?_)
                clear hK K
                refine wpAnyH_take (i := 8) (v := ?_) rfl (by kernel_rfl) (by kernel_rfl) (by kernel_rfl) (fun _ _ _ h => h) (Or.inl ⟨by rfl, ?_⟩) hS2 ?_
                rotate_left
                · intro u hu; (try dsimp only at hu); go_simp; try with_reducible rfl
                simp only [Act.put, List.getElem_toArray, List.getElem_cons_zero, List.getElem_cons_succ, List.setIfInBounds_toArray, List.set_cons_zero, List.set_cons_succ]
                refine wpAnyH_take (i := 9) (v := undef) rfl (by kernel_rfl) (by kernel_rfl) (by kernel_rfl) (fun _ _ _ h => h) (Or.inr ⟨by rfl, rfl⟩) hS2 ?_
                simp only [Act.put, List.getElem_toArray, List.getElem_cons_zero, List.getElem_cons_succ, List.setIfInBounds_toArray, List.set_cons_zero, List.set_cons_succ]
                refine wpAnyH_take (i := 10) (v := ?_) rfl (by kernel_rfl) (by kernel_rfl) (by kernel_rfl) (fun _ _ _ h => h) (Or.inl ⟨by rfl, ?_⟩) hS2 ?_
                rotate_left
                · intro u hu; (try dsimp only at hu); go_simp; try with_reducible rfl
                simp only [Act.put, List.getElem_toArray, List.getElem_cons_zero, List.getElem_cons_succ, List.setIfInBounds_toArray, List.set_cons_zero, List.set_cons_succ]
                refine wpAnyH_take (i := 11) (v := ?_) rfl (by kernel_rfl) (by kernel_rfl) (by kernel_rfl) (fun _ _ _ h => h) (Or.inl ⟨by rfl, ?_⟩) hS2 ?_
                rotate_left
                · intro u hu; (try dsimp only at hu); go_simp; try with_reducible rfl
                simp only [Act.put, List.getElem_toArray, List.getElem_cons_zero, List.getElem_cons_succ, List.setIfInBounds_toArray, List.set_cons_zero, List.set_cons_succ]
                refine wpAnyH_ready (rs := [12]) (by kernel_rfl) (by simp) ?_
                refine AllReadyH.cons rfl (fun K hK => ?_) AllReadyH.nil
                go_simp
                have hS3 : (wu.setCell ⟨w.heap.size + 1, p, none⟩ (.bool true)).cell? ⟨eb, 0, none⟩ = some (.int .i64 (p : Int)) := by
                  have : (wu.setCell ⟨w.heap.size + 1, p, none⟩ (.bool true)).heap[eb]? = some (.cells #[.int .i64 (p : Int), .int .i64 (q : Int)] 40 (0, 0)) := by rw [Below.heap_setCell _ _ _ _ hebne]; exact unhide EV2
                  simp [World.cell?, this]
                refine hK.out _ _ hS3 (fun hS4 => ?_)
                clear hK K hS hS2 hS3
                refine wpAnyH_done (by kernel_rfl) ?_ _
                clear hS4
                go_wp2_with fail
                go_roundw
                case rel =>
                  refine ⟨k + 1, _, by go_num, by omega, ?_, HSW, (unhide BV2).stepB (B := w.heap.size + 1) (by omega) ((Below.refl _ _).setCell (p := ⟨w.heap.size + 1, p, none⟩) (Nat.le_refl _) _)⟩
                  have h := RowB.set (unhide RV2) p true
                  exact h
                case measure => simp [intOf]; omega
              | false =>
                obtain ⟨hbt, hfq⟩ : both = true ∧ f q = true := by
                  rcases hyes with h | h
                  · rw [hfp] at h; cases h
                  · exact h
                have hst : upd f q true p = false := by
                  unfold upd
                  split
                  · rename_i hpq; rw [hpq, hfq] at hfp; cases hfp
                  · exact hfp
                subst hbt
                rw [hfp] at s0
                rw [hfq] at s1
                clear hyes
                go_wp2_with fail
                have hse : (wr.setCell ⟨w.heap.size + 1, q, none⟩ (.bool true)).heap.size = wr.heap.size := by simp
                have BV := hide ((unhide HB).stepB (B := w.heap.size + 1) (wk' := (wr.setCell ⟨w.heap.size + 1, q, none⟩ (.bool true)).alloc (.cells #[.int .i64 (p : Int), .int .i64 (q : Int)] 40)) (by omega) (((Below.refl (w.heap.size + 1) wr).setCell (p := ⟨w.heap.size + 1, q, none⟩) (Nat.le_refl _) _).alloc (by rw [hse]; omega) _))
                have RV := hide ((RowB.set (unhide HR) q true).below (b_al (.cells #[.int .i64 (p : Int), .int .i64 (q : Int)] 40)))
                have EV := hide (show ((wr.setCell ⟨w.heap.size + 1, q, none⟩ (.bool true)).alloc (.cells #[.int .i64 (p : Int), .int .i64 (q : Int)] 40)).heap[wr.heap.size]? = some (.cells #[.int .i64 (p : Int), .int .i64 (q : Int)] 40 (0, 0)) by have h := (MapKept.heap_alloc (wr.setCell ⟨w.heap.size + 1, q, none⟩ (.bool true)) (.cells #[.int .i64 (p : Int), .int .i64 (q : Int)] 40)).1; rw [hse] at h; exact h)
                clear hse
                have hebne : wr.heap.size ≠ w.heap.size + 1 := by omega
                clear d0 d1 d2 s0 s1 s2 s3 g0 g1
                generalize ((wr.setCell ⟨w.heap.size + 1, q, none⟩ (.bool true)).alloc (.cells #[.int .i64 (p : Int), .int .i64 (q : Int)] 40)) = wv at BV RV EV ⊢
                clear hszr
                generalize wr.heap.size = eb at EV hebne ⊢
                have BV2 := hide ((unhide BV).step b_dr)
                have RV2 := hide ((unhide RV).below b_dr)
                have EV2 := hide (show wv.drew.heap[eb]? = some (.cells #[.int .i64 (p : Int), .int .i64 (q : Int)] 40 (0, 0)) from unhide EV)
                have e0 : wv.drew.cell? ⟨eb, 0, none⟩ = some (.int .i64 (p : Int)) := by simp only [World.cell?, unhide EV2]; rfl
                refine wp_region_held_drew (S := fun u => u.cell? ⟨eb, 0, none⟩ = some (.int .i64 (p : Int))) (by kernel_rfl) e0 (fun hS => ?_)
                clear e0 BV RV EV
                generalize wv.drew = wu at BV2 RV2 EV2 hS ⊢
                have r0 := (unhide RV2).cell hpV
                have r1 := (unhide RV2).fz p
                rw [hst] at r0
                refine wpAnyH_take (i := 0) (v := ?_) rfl (by kernel_rfl) (by kernel_rfl) (by kernel_rfl) (fun _ _ _ h => h) (Or.inl ⟨by rfl, ?_⟩) hS ?_
                rotate_left
                · intro u hu; (try dsimp only at hu); go_simp; try with_reducible rfl
                simp only [Act.put, List.getElem_toArray, List.getElem_cons_zero, List.setIfInBounds_toArray, List.set_cons_zero, List.set_cons_succ]
                refine wpAnyH_take (i := 1) (v := ?_) rfl (by kernel_rfl) (by kernel_rfl) (by kernel_rfl) (fun _ _ _ h => h) (Or.inl ⟨by rfl, ?_⟩) hS ?_
                rotate_left
                · intro u hu; (try dsimp only at hu); go_simp; try with_reducible rfl
                simp only [Act.put, List.getElem_toArray, List.getElem_cons_zero, List.getElem_cons_succ, List.setIfInBounds_toArray, List.set_cons_zero, List.set_cons_succ]
                refine wpAnyH_take (i := 2) (v := ?_) rfl (by kernel_rfl) (by kernel_rfl) (by kernel_rfl) (fun _ _ _ h => h) (Or.inl ⟨by rfl, ?_⟩) hS ?_
                rotate_left
                · intro u hu; (try dsimp only at hu); go_simp; try with_reducible rfl
                simp only [Act.put, List.getElem_toArray, List.getElem_cons_zero, List.getElem_cons_succ, List.setIfInBounds_toArray, List.set_cons_zero, List.set_cons_succ]
                refine wpAnyH_take (i := 3) (v := ?_) rfl (by kernel_rfl) (by kernel_rfl) (by kernel_rfl) (fun _ _ _ h => h) (Or.inl ⟨by rfl, ?_⟩) hS ?_
                rotate_left
                · intro u hu; (try dsimp only at hu); go_simp; try with_reducible rfl
                simp only [Act.put, List.getElem_toArray, List.getElem_cons_zero, List.getElem_cons_succ, List.setIfInBounds_toArray, List.set_cons_zero, List.set_cons_succ]
                refine wpAnyH_take (i := 4) (v := ?_) rfl (by kernel_rfl) (by kernel_rfl) (by kernel_rfl) (fun _ _ _ h => h) (Or.inl ⟨by rfl, ?_⟩) hS ?_
                rotate_left
                · intro u hu; (try dsimp only at hu); go_simp; try with_reducible rfl
                simp only [Act.put, List.getElem_toArray, List.getElem_cons_zero, List.getElem_cons_succ, List.setIfInBounds_toArray, List.set_cons_zero, List.set_cons_succ]
                refine wpAnyH_take (i := 5) (v := ?_) rfl (by kernel_rfl) (by kernel_rfl) (by kernel_rfl) (fun _ _ _ h => h) (Or.inl ⟨by rfl, ?_⟩) hS ?_
                rotate_left
                · intro u hu; (try dsimp only at hu); go_simp; try with_reducible rfl
                simp only [Act.put, List.getElem_toArray, List.getElem_cons_zero, List.getElem_cons_succ, List.setIfInBounds_toArray, List.set_cons_zero, List.set_cons_succ]
                refine wpAnyH_take (i := 6) (v := ?_) rfl (by kernel_rfl) (by kernel_rfl) (by kernel_rfl) (fun _ _ _ h => h) (Or.inl ⟨by rfl, ?_⟩) hS ?_
                rotate_left
                · intro u hu; (try dsimp only at hu); go_simp; try with_reducible rfl
                simp only [Act.put, List.getElem_toArray, List.getElem_cons_zero, List.getElem_cons_succ, List.setIfInBounds_toArray, List.set_cons_zero, List.set_cons_succ]
                refine wpAnyH_ready (rs := [7]) (by kernel_rfl) (by simp) ?_
                refine AllReadyH.cons rfl (fun K hK => ?_) AllReadyH.nil
                go_simp
                refine hK.out _ _ hS (fun hS2 => ?_)
                clear hK K
                refine wpAnyH_take (i := 8) (v := ?_) rfl (by kernel_rfl) (by kernel_rfl) (by kernel_rfl) (fun _ _ _ h => h) (Or.inl ⟨by rfl, ?_⟩) hS2 ?_
                rotate_left
                · intro u hu; (try dsimp only at hu); go_simp; try with_reducible rfl
                simp only [Act.put, List.getElem_toArray, List.getElem_cons_zero, List.getElem_cons_succ, List.setIfInBounds_toArray, List.set_cons_zero, List.set_cons_succ]
                refine wpAnyH_take (i := 9) (v := ?_) rfl (by kernel_rfl) (by kernel_rfl) (by kernel_rfl) (fun _ _ _ h => h) (Or.inl ⟨by rfl, ?_⟩) hS2 ?_
                rotate_left
                · intro u hu; (try dsimp only at hu); go_simp; try with_reducible rfl
                simp only [Act.put, List.getElem_toArray, List.getElem_cons_zero, List.getElem_cons_succ, List.setIfInBounds_toArray, List.set_cons_zero, List.set_cons_succ]
                refine wpAnyH_take (i := 10) (v := ?_) rfl (by kernel_rfl) (by kernel_rfl) (by kernel_rfl) (fun _ _ _ h => h) (Or.inl ⟨by rfl, ?_⟩) hS2 ?_
                rotate_left
                · intro u hu; (try dsimp only at hu); go_simp; try with_reducible rfl
                simp only [Act.put, List.getElem_toArray, List.getElem_cons_zero, List.getElem_cons_succ, List.setIfInBounds_toArray, List.set_cons_zero, List.set_cons_succ]
                refine wpAnyH_take (i := 11) (v := ?_) rfl (by kernel_rfl) (by kernel_rfl) (by kernel_rfl) (fun _ _ _ h => h) (Or.inl ⟨by rfl, ?_⟩) hS2 ?_
                rotate_left
                · intro u hu; (try dsimp only at hu); go_simp; try with_reducible rfl
                simp only [Act.put, List.getElem_toArray, List.getElem_cons_zero, List.getElem_cons_succ, List.setIfInBounds_toArray, List.set_cons_zero, List.set_cons_succ]
                refine wpAnyH_ready (rs := [12]) (by kernel_rfl) (by simp) ?_
                refine AllReadyH.cons rfl (fun K hK => ?_) AllReadyH.nil
                go_simp
                have hS3 : (wu.setCell ⟨w.heap.size + 1, p, none⟩ (.bool true)).cell? ⟨eb, 0, none⟩ = some (.int .i64 (p : Int)) := by
                  have : (wu.setCell ⟨w.heap.size + 1, p, none⟩ (.bool true)).heap[eb]? = some (.cells #[.int .i64 (p : Int), .int .i64 (q : Int)] 40 (0, 0)) := by rw [Below.heap_setCell _ _ _ _ hebne]; exact unhide EV2
                  simp [World.cell?, this]
                refine hK.out _ _ hS3 (fun hS4 => ?_)
                clear hK K hS hS2 hS3
                refine wpAnyH_done (by kernel_rfl) ?_ _
                clear hS4
                go_wp2_with fail
                go_roundw
                case rel =>
                  refine ⟨k + 1, _, by go_num, by omega, ?_, HSW, (unhide BV2).stepB (B := w.heap.size + 1) (by omega) ((Below.refl _ _).setCell (p := ⟨w.heap.size + 1, p, none⟩) (Nat.le_refl _) _)⟩
                  have h := RowB.set (unhide RV2) p true
                  exact h
                case measure => simp [intOf]; omega
            · have HSW := hide (unhide HSK (fun _ => ⟨hno1, hno2⟩))
              rw [hno1] at s0
              cases both with
              | false =>
                go_wp2_with fail
                go_roundw
                case rel => exact ⟨k + 1, f, by go_num, by omega, (unhide HR).below (b_al _), HSW, (unhide HB).step (b_al _)⟩
                case measure => simp [intOf]; omega
              | true =>
                rw [hno2 rfl] at s1
                go_wp2_with fail
                go_roundw
                case rel => exact ⟨k + 1, f, by go_num, by omega, (unhide HR).below (b_al _), HSW, (unhide HB).step (b_al _)⟩
                case measure => simp [intOf]; omega
        · obtain rfl : k = n := by omega
          have HRN2 := hide ((unhide HRNr).next (unhide HP) hx (by have := unhide HS; rw [← unhide HN] at this; exact this))
          go_wp2_with fail
          go_roundw
          case rel => exact ⟨r + 1, f, by go_num, by omega, HR, HRN2, HB⟩
          case measure => simp [intOf]; omega
    · obtain rfl : r = V := by omega
      go_wp2_with fail
      go_ret
      exact ⟨⟨_, f0, rfl, by omega, unhide HR, (unhide HRNr).done (unhide HP) hx⟩, (unhide HB).bel⟩
end Go.Proofs.Ytbecmaandhadhaa.pt


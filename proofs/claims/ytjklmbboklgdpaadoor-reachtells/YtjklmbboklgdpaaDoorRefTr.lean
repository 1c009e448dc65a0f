/-
  The contract of the document's Transitive: the edges beside which there is another way, rising. Conditions: the graph lies in memory as told and may be.
-/
import Derived.Test.YtjklmbboklgdpaaDoorRefGoW
import Derived.Test.YtjklmbboklgdpaaDoorAll
import Derived.Test.YtjklmbboklgdpaaDoorCc
namespace Go.Proofs.YtjklmbboklgdpaaDoor
open Go.RowKit
set_option linter.unusedVariables false

theorem cs_but {es : List (Nat × Nat)} {i : Nat} (hi : i < es.length) (u v : Nat) : Cs es false (upd (fun _ => true) i false) u v ↔ Via (but es i) u v := by
  unfold Cs Via but
  constructor
  · rintro ⟨t, ht, hc, h | ⟨hb, _⟩⟩
    · have hti : t ≠ i := by
        rintro rfl
        rw [upd_same] at hc
        cases hc
      have hg : es[t] = (u, v) := by simpa [List.getD, ht] using h
      rw [← hg, List.mem_append]
      by_cases hlt : t < i
      · exact .inl (List.mem_take_iff_getElem.2 ⟨t, by omega, rfl⟩)
      · exact .inr (List.mem_drop_iff_getElem.2 ⟨t - (i + 1), by omega, by congr 1; omega⟩)
    · cases hb
  · intro h
    rcases List.mem_append.1 h with h | h
    · obtain ⟨t, ht, he⟩ := List.mem_take_iff_getElem.1 h
      exact ⟨t, by omega, upd_other _ _ (by omega), .inl (by simp [List.getD, show t < es.length by omega, he])⟩
    · obtain ⟨t, ht, he⟩ := List.mem_drop_iff_getElem.1 h
      exact ⟨i + 1 + t, by omega, upd_other _ _ (by omega), .inl (by simp [List.getD, show i + 1 + t < es.length by omega, he])⟩
theorem star_iff {R R' : Nat → Nat → Prop} (h : ∀ u v, R u v ↔ R' u v) (i j : Nat) : Star R i j ↔ Star R' i j := ⟨Star.mono fun u v => (h u v).1, Star.mono fun u v => (h u v).2⟩

set_option maxHeartbeats 4000000 in
theorem reftr_any (w : World) (V : Nat) (a : Option Addr) (n cap : Nat) (es : List (Nat × Nat)) {B : Nat} (h : Es B w a n (toI es)) (hne : es.length = n) (hp : Plain V es) :
    Calls Tryd.prog 16 #[.agg #[.int .i64 V, .slice a n cap]] w fun e w' => (∃ v l, e = .returned v ∧ IsTr es n l ∧ w'.ownsRow w.heap.size 3 1 v l.length (zcells (toIs l))) ∧ Below w.heap.size w w' := by
  have hv64 := hp.v64
  have hv1 := hp.v1
  have hn128 := hp.n128
  rw [hne] at hn128
  have HE := hide h
  have HP := hide hp
  have HN := hide hne
  have HB0 := hide (Bg.start w (.int .i64 V) (.slice a n cap))
  obtain ⟨i0, hi0, hz0, hz1, hz2⟩ := info_parts info3
  have HI := hide hi0
  have HZ0 := hide hz0
  have HZ1 := hide hz1
  have HZ2 := hide hz2
  have HEV := hide (fun (u : World) => every_any u V a n cap (by omega))
  have HGO := hide (fun (u : World) (h : Es B u a n (toI es)) (x : Nat) (hx : x < V) (ca : Option Addr) (cc : Nat) (c : Nat → Bool) (hC : Bs u ca n c) => refgo_any u V a n cap es h hne hp x hx false ca cc c hC)
  clear h hp hne hi0 hz0 hz1 hz2
  go_enter Tryd.func16, Tryd.ntmps16
  go_wp2_with fail
  have HB1 := hide ((unhide HB0).step (b_al (.cells #[] 3)))
  have HO1 := hide (owns_lit_empty (w.alloc (.cells #[.int .i64 (V : Int), .slice a n cap] 33)) 3 1 (w.heap.size + 1) (by simp))
  have hs0 : (w.alloc (.cells #[.int .i64 (V : Int), .slice a n cap] 33)).heap.size = w.heap.size + 1 := by simp
  rw [hs0] at HO1
  clear hs0 HB0
  go_loopw [3, 4] (fun v i wr => ∃ (k : Nat) (l : List Nat), i = .int .i64 k ∧ k ≤ n ∧ Hid (IsTr es k l) ∧ Hid (wr.ownsRow (w.heap.size + 1) 3 1 v l.length (zcells (toIs l))) ∧ Hid (Bg w wr (.int .i64 V) (.slice a n cap))) (fun v i wr => n - (intOf i).toNat)
  case atStart => exact ⟨0, [], rfl, by omega, IsTr.nil es, HO1, HB1⟩
  case round =>
    clear HO1 HB1
    obtain ⟨k, l, rfl, hk, HL, HO, HB⟩ := hrel
    obtain ⟨g0, g1⟩ := (unhide HB).cells
    by_cases hlt : k < n
    · obtain ⟨g, off, ha, hg, c0, c1⟩ := es_at (i := k) (by have := unhide HE; rw [← unhide HN] at this; exact this) (by rw [unhide HN]; exact hlt)
      subst ha
      have hends := (unhide HP).at (i := k) (by rw [unhide HN]; exact hlt)
      have htrv : ∀ p q, es.getD k (0, 0) = (p, q) → (Trv es k ↔ Star (Cs es false (upd (fun _ => true) k false)) p q) := fun p q he => by
        unfold Trv
        rw [he]
        exact (star_iff (cs_but (by rw [unhide HN]; exact hlt)) p q).symm
      obtain ⟨⟨p, q⟩, hpq⟩ : ∃ e, es.getD k (0, 0) = e := ⟨_, rfl⟩
      rw [hpq] at c0 c1 hends
      have HTV := hide (htrv p q hpq)
      clear htrv hpq
      obtain ⟨hp, hq⟩ := hends
      simp only at c0 c1 hp hq
      have hlt2 : (k : Int) < (n : Int) := by omega
      have hq2 : (q : Int) < (V : Int) := by omega
      go_wp2_with fail
      refine (unhide HEV wr).mono ?_
      rintro e w2 ⟨⟨ge, rfl, hge, hre⟩, hb2⟩
      have HB2 := hide ((unhide HB).step hb2)
      have HO2 := hide (owns_below (unhide HO) hb2)
      have HRE := hide hre
      have r0 := hre.cell hlt
      have r1 := hre.fz k
      have HOW := hide (show ∀ t, u3.ownBlock = some t → t ≠ ge from fun t ht => by have := ((unhide HO).lt t ht).2; omega)
      have hgw := (unhide HB).lt
      clear hb2 hre g0 g1
      obtain ⟨g0, g1⟩ := (unhide HB2).cells
      have hgge : g ≠ ge := by omega
      have hwge : w.heap.size + 1 ≤ ge := by omega
      have d0 : w2.cell? ⟨g, off + k * 2, none⟩ = some (.int .i64 (p : Nat)) := by rw [(unhide HB2).bel.cell (p := ⟨g, off + k * 2, none⟩) hg]; exact c0
      have d1 : w2.cell? ⟨g, off + k * 2 + 1, none⟩ = some (.int .i64 (q : Nat)) := by rw [(unhide HB2).bel.cell (p := ⟨g, off + k * 2 + 1, none⟩) hg]; exact c1
      have hne1 : w.heap.size ≠ ge := by omega
      go_wp2_with fail
      have hse : (w2.setCell ⟨ge, k, none⟩ (.bool false)).heap.size = w2.heap.size := by simp
      have hlt3 := (unhide HRE).lt
      have BV := hide ((unhide HB2).stepB (B := w.heap.size + 1) (wk' := (w2.setCell ⟨ge, k, none⟩ (.bool false)).alloc (.cells #[.int .i64 (p : Int), .int .i64 (q : Int)] 45)) (by omega) (((Below.refl (w.heap.size + 1) w2).setCell (p := ⟨ge, k, none⟩) hwge _).alloc (by rw [hse]; omega) _))
      have RV := hide ((RowB.set (unhide HRE) k false).below (b_al (.cells #[.int .i64 (p : Int), .int .i64 (q : Int)] 45)))
      have EV := hide (show ((w2.setCell ⟨ge, k, none⟩ (.bool false)).alloc (.cells #[.int .i64 (p : Int), .int .i64 (q : Int)] 45)).heap[w2.heap.size]? = some (.cells #[.int .i64 (p : Int), .int .i64 (q : Int)] 45 (0, 0)) by have h := (MapKept.heap_alloc (w2.setCell ⟨ge, k, none⟩ (.bool false)) (.cells #[.int .i64 (p : Int), .int .i64 (q : Int)] 45)).1; rw [hse] at h; exact h)
      have OV := hide (show ((w2.setCell ⟨ge, k, none⟩ (.bool false)).alloc (.cells #[.int .i64 (p : Int), .int .i64 (q : Int)] 45)).ownsRow (w.heap.size + 1) 3 1 u3 l.length (zcells (toIs l)) from World.ownsRow.alloc (owns_keep (unhide HO2) fun t ht => Below.heap_setCell _ _ _ _ (unhide HOW t ht)) _)
      clear hse hlt3 d0 d1 r0 r1 g0 g1 HRE HO2 HB2 hge
      generalize ((w2.setCell ⟨ge, k, none⟩ (.bool false)).alloc (.cells #[.int .i64 (p : Int), .int .i64 (q : Int)] 45)) = wv at BV RV EV OV ⊢
      generalize w2.heap.size = eb at EV ⊢
      have HSX := hide (fun (u : World) (X : Below wv.heap.size wv u) => show u.cell? ⟨w.heap.size, 0, none⟩ = some (.int .i64 V) ∧ u.cell? ⟨w.heap.size, 1, none⟩ = some (.slice (some ⟨g, off, none⟩) n cap) ∧ u.cell? ⟨eb, 0, none⟩ = some (.int .i64 (p : Int)) ∧ u.cell? ⟨eb, 1, none⟩ = some (.int .i64 (q : Int)) from by
        have hc := ((unhide BV).step X).cells
        have hg : u.heap[eb]? = some (.cells #[.int .i64 (p : Int), .int .i64 (q : Int)] 45 (0, 0)) := by rw [X.block eb (Array.getElem?_eq_some_iff.1 (unhide EV)).1]; exact unhide EV
        exact ⟨hc.1, hc.2, by simp [World.cell?, hg], by simp [World.cell?, hg]⟩)
      have X1 := hide (show Below wv.heap.size wv wv.drew from b_dr)
      refine wp_region_held_drew (S := fun u => u.cell? ⟨w.heap.size, 0, none⟩ = some (.int .i64 V) ∧ u.cell? ⟨w.heap.size, 1, none⟩ = some (.slice (some ⟨g, off, none⟩) n cap) ∧ u.cell? ⟨eb, 0, none⟩ = some (.int .i64 (p : Int)) ∧ u.cell? ⟨eb, 1, none⟩ = some (.int .i64 (q : Int))) (by kernel_rfl) (unhide HSX _ (unhide X1)) (fun hS => ?_)
      generalize wv.drew = wu at X1 hS ⊢
      refine wpAnyH_take (i := 0) (v := ?_) rfl (by kernel_rfl) (by kernel_rfl) (by kernel_rfl) (fun _ _ _ h => h) (Or.inl ⟨by rfl, ?_⟩) hS ?_
      rotate_left
      · intro u hu; (try dsimp only at hu); go_simp; try with_reducible rfl
      simp only [Act.put, List.getElem_toArray, List.getElem_cons_zero, List.setIfInBounds_toArray, List.set_cons_zero, List.set_cons_succ]
      refine wpAnyH_take (i := 1) (v := ?_) rfl (by kernel_rfl) (by kernel_rfl) (by kernel_rfl) (fun _ _ _ h => h) (Or.inl ⟨by rfl, ?_⟩) hS ?_
      rotate_left
      · intro u hu; (try dsimp only at hu); go_simp; try with_reducible rfl
      simp only [Act.put, List.getElem_toArray, List.getElem_cons_zero, List.getElem_cons_succ, List.setIfInBounds_toArray, List.set_cons_zero, List.set_cons_succ]
      refine wpAnyH_take (i := 2) (v := ?_) rfl (by kernel_rfl) (by kernel_rfl) (by kernel_rfl) (fun _ _ _ h => h) (Or.inl ⟨by rfl, ?_⟩) hS ?_
      rotate_left
      · intro u hu; (try dsimp only at hu); go_simp; try with_reducible rfl
      simp only [Act.put, List.getElem_toArray, List.getElem_cons_zero, List.getElem_cons_succ, List.setIfInBounds_toArray, List.set_cons_zero, List.set_cons_succ]
      refine wpAnyH_take (i := 3) (v := ?_) rfl (by kernel_rfl) (by kernel_rfl) (by kernel_rfl) (fun _ _ _ h => h) (Or.inl ⟨by rfl, ?_⟩) hS ?_
      rotate_left
      · intro u hu; (try dsimp only at hu); go_simp; try with_reducible rfl
      simp only [Act.put, List.getElem_toArray, List.getElem_cons_zero, List.getElem_cons_succ, List.setIfInBounds_toArray, List.set_cons_zero, List.set_cons_succ]
      refine wpAnyH_take (i := 5) (v := ?_) rfl (by kernel_rfl) (by kernel_rfl) (by kernel_rfl) (fun _ _ _ h => h) (Or.inl ⟨by rfl, ?_⟩) hS ?_
      rotate_left
      · intro u hu; (try dsimp only at hu); go_simp; try with_reducible rfl
      simp only [Act.put, List.getElem_toArray, List.getElem_cons_zero, List.getElem_cons_succ, List.setIfInBounds_toArray, List.set_cons_zero, List.set_cons_succ]
      refine wpAnyH_take (i := 6) (v := ?_) rfl (by kernel_rfl) (by kernel_rfl) (by kernel_rfl) (fun _ _ _ h => h) (Or.inl ⟨by rfl, ?_⟩) hS ?_
      rotate_left
      · intro u hu; (try dsimp only at hu); go_simp; try with_reducible rfl
      simp only [Act.put, List.getElem_toArray, List.getElem_cons_zero, List.getElem_cons_succ, List.setIfInBounds_toArray, List.set_cons_zero, List.set_cons_succ]
      refine wpAnyH_ready (rs := [4]) (by kernel_rfl) (by simp) ?_
      refine AllReadyH.cons rfl (fun K hK => ?_) AllReadyH.nil
      go_simp
      go_wp2_with (go_at_call 17; refine (unhide HGO _ ((unhide HE).below ((unhide BV).step (unhide X1)).bel) p hp _ _ _ (RowB.read (Row.below (unhide RV) (unhide X1)) (by omega))).mono ?_; rintro e wx ⟨⟨gf, f, rfl, hgf, hrf, hf⟩, hbx⟩; have X2 := hide (bto (unhide X1) hbx); have RF := hide hrf; have HF := hide hf; clear hbx hrf hf hgf)
      refine hK.out _ _ (unhide HSX _ (unhide X2)) (fun hS2 => ?_)
      clear hK K hS
      refine wpAnyH_take (i := 7) (v := ?_) rfl (by kernel_rfl) (by kernel_rfl) (by kernel_rfl) (fun _ _ _ h => h) (Or.inl ⟨by rfl, ?_⟩) hS2 ?_
      rotate_left
      · intro u hu; (try dsimp only at hu); go_simp; try with_reducible rfl
      simp only [Act.put, List.getElem_toArray, List.getElem_cons_zero, List.getElem_cons_succ, List.setIfInBounds_toArray, List.set_cons_zero, List.set_cons_succ]
      have r0 := (unhide RF).cell hq
      have hfq : f q = true ↔ Trv es k := by rw [unhide HF q hq, unhide HTV]
      generalize f q = st at r0 hfq
      refine wpAnyH_ready (rs := [8]) (by kernel_rfl) (by simp) ?_
      refine AllReadyH.cons rfl (fun K hK => ?_) AllReadyH.nil
      go_simp
      refine hK.out _ _ hS2 (fun hS3 => ?_)
      clear hK K hS2
      refine wpAnyH_done (by kernel_rfl) ?_ _
      clear hS3 r0
      have hll := (unhide HL).len
      have HO6 := hide (owns_below (unhide OV) (unhide X2))
      have HB6 := hide ((unhide BV).step (unhide X2))
      have hs6 := (unhide HB6).lt
      cases st with
      | false =>
        have hno : ¬ Trv es k := fun h => by have := hfq.2 h; cases this
        go_wp2_with fail
        go_roundw
        case rel => exact ⟨k + 1, l, by go_num, by omega, (unhide HL).no hno, unhide HO6, unhide HB6⟩
        case measure => simp [intOf]; omega
      | true =>
        have hyes : Trv es k := hfq.1 rfl
        go_wp2_with (at_builtin; refine wpList_append_own _ rfl (.tmp 34) (.tmp 36) 22 rfl (w.heap.size + 1) 3 i0 (.int .i64 0) 1 8 Tryd.underlying22 (unhide HI) (unhide HZ0) (unhide HZ1) (unhide HZ2) rfl (by decide) u3 l.length (zcells (toIs l)) rfl ((unhide HO6).alloc _) ⟨wx.heap.size, 0, none⟩ 1 1 [.int .i64 k] rfl rfl (cell_one_new _ _ _) (one_int k) ?a3 ?a4 ?a5 ?_)
        case a3 => unfold maxLen; omega
        case a4 => omega
        case a5 => first | omega | (simp; omega)
        intro v2 w4 hown4 hg4 _
        rw [zcells_snoc, toIs_snoc] at hown4
        have HB7 := hide ((unhide HB6).stepB (B := w.heap.size + 1) (by omega) (((Below.refl _ _).alloc (by omega) _).grown hg4 (by simp; omega) fun j hj => ((unhide HO6).lt j hj).1))
        have HO7 := hide hown4
        clear hown4 hg4
        go_wp2_with fail
        go_roundw
        case rel =>
          refine ⟨k + 1, l ++ [k], by go_num, by omega, (unhide HL).yes hyes, ?_, unhide HB7⟩
          rw [List.length_append]
          exact unhide HO7
        case measure => simp [intOf]; omega
    · obtain rfl : k = n := by omega
      go_wp2_with fail
      go_ret
      exact ⟨⟨_, l, rfl, unhide HL, owns_mono (unhide HO) (by omega)⟩, (unhide HB).bel⟩
end Go.Proofs.YtjklmbboklgdpaaDoor


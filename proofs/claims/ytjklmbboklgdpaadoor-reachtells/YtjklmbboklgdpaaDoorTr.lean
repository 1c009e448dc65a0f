/-
  The contract of reach.Transitive: the numbers of the edges beside which there is another way, rising. Conditions: the graph lies in memory as told and may be; the table of math/bits holds what its initialiser lays.
-/
import Derived.Test.YtjklmbboklgdpaaDoorPn
import Derived.Test.YtjklmbboklgdpaaDoorCc
import Derived.Test.YtjklmbboklgdpaaDoorBt
import Derived.OrdersHeld
import Derived.Deep.RegionHeld
namespace Go.Proofs.YtjklmbboklgdpaaDoor
open Go.RowKit
set_option linter.unusedVariables false

theorem toI_append (es fs : List (Nat × Nat)) : toI (es ++ fs) = toI es ++ toI fs := by simp [toI]
theorem toI_take (es : List (Nat × Nat)) (k : Nat) : toI (es.take k) = (toI es).take k := by simp [toI, List.map_take]
theorem toI_drop (es : List (Nat × Nat)) (k : Nat) : toI (es.drop k) = (toI es).drop k := by simp [toI, List.map_drop]
theorem Es.take {B : Nat} {w : World} {a : Option Addr} {n : Nat} {es : List (Int × Int)} (h : Es B w a n es) (k : Nat) (hk : k ≤ n) : Es B w a k (es.take k) := by
  obtain ⟨h1, h2, h3⟩ := h
  refine ⟨by rw [List.length_take]; omega, by omega, fun j hj => ?_⟩
  obtain ⟨g, off, ha, hB, hg, c0, c1⟩ := h3 j (by omega)
  have he : (es.take k).getD j (0, 0) = es.getD j (0, 0) := by simp [List.getD, hj]
  rw [he]
  exact ⟨g, off, ha, hB, hg, c0, c1⟩
theorem Es.drop {B : Nat} {w : World} {g off : Nat} {n : Nat} {es : List (Int × Int)} (h : Es B w (some ⟨g, off, none⟩) n es) (k m o2 : Nat) (hk : k + m = n) (ho : m = 0 ∨ o2 = off + k * 2) : Es B w (some ⟨g, o2, none⟩) m (es.drop k) := by
  obtain ⟨h1, h2, h3⟩ := h
  refine ⟨by rw [List.length_drop]; omega, by omega, fun j hj => ?_⟩
  rcases ho with ho | ho
  · omega
  subst ho
  obtain ⟨g', off', ha, hB, hg, c0, c1⟩ := h3 (k + j) (by omega)
  obtain ⟨rfl, rfl⟩ : g = g' ∧ off = off' := by simpa using ha
  have he : (es.drop k).getD j (0, 0) = es.getD (k + j) (0, 0) := by simp [List.getD, List.getElem?_drop]
  rw [he]
  refine ⟨g, off + k * 2, rfl, hB, hg, ?_, ?_⟩
  · rw [← c0]; congr 2; omega
  · rw [← c1]; congr 2; omega

set_option maxHeartbeats 4000000 in
theorem trans_any (w : World) (hT : Tab w) (V : Nat) (a : Option Addr) (cap : Nat) (es : List (Nat × Nat)) {B : Nat} (h : Es B w a es.length (toI es)) (hc : es.length ≤ cap) (hp : Plain V es) :
    Calls Tryd.prog 14 #[.agg #[.int .i64 V, .slice a es.length cap]] w fun e w' => (∃ v l, e = .returned v ∧ IsTr es es.length l ∧ w'.ownsRow w.heap.size 3 1 v l.length (zcells (toIs l))) ∧ Below w.heap.size w w' := by
  have hv64 := hp.v64
  have hv1 := hp.v1
  have hn128 := hp.n128
  have HT := hide hT
  have HE := hide h
  have HP := hide hp
  have HMAY := hide fun (w : World) (h : Es B w a es.length (toI es)) => may_yes w V a cap es h hp
  obtain ⟨n, hn⟩ : ∃ n, es.length = n := ⟨_, rfl⟩
  have HN := hide hn
  rw [hn] at hn128 hc HMAY ⊢
  obtain ⟨i0, hi0, hz0, hz1, hz2⟩ := info_parts info3
  have HI := hide hi0
  have HZ0 := hide hz0
  have HZ1 := hide hz1
  have HZ2 := hide hz2
  have HB0 := hide (Bg.start w (.int .i64 V) (.slice a n cap))
  clear h hp hn hT hi0 hz0 hz1 hz2
  go_enter Tryd.func14, Tryd.ntmps14
  go_wp2_with fail
  refine (unhide HMAY _ (by have := (unhide HE).below (unhide HB0).bel; rw [unhide HN] at this; exact this)).mono ?_
  rintro e w1 ⟨rfl, hb1⟩
  have HB1 := hide ((unhide HB0).step hb1)
  obtain ⟨g0, g1⟩ := (unhide HB1).cells
  clear hb1 HB0 HMAY
  go_wp2_with fail
  go_loopw [3, 13] (fun v i wr => ∃ (k : Nat) (l : List Nat), i = .int .i64 k ∧ k ≤ n ∧ Hid (IsTr es k l) ∧ Hid (wr.ownsRow (w.heap.size + 1) 3 1 v l.length (zcells (toIs l))) ∧ Hid (Bg w wr (.int .i64 V) (.slice a n cap))) (fun v i wr => n - (intOf i).toNat)
  case atStart => exact ⟨0, [], rfl, by omega, IsTr.nil es, World.ownsRow_nil _ _ _ _, HB1⟩
  case round =>
    obtain ⟨k, l, rfl, hk, HL, HO, HB⟩ := hrel
    clear g0 g1
    obtain ⟨g0, g1⟩ := (unhide HB).cells
    have hsz := (unhide HB).lt
    by_cases hlt : k < n
    · obtain ⟨g, off, ha, hg, c0, c1⟩ := es_at (unhide HE) (i := k) (by rw [unhide HN]; exact hlt)
      subst ha
      have hends := (unhide HP).at (i := k) (by rw [unhide HN]; exact hlt)
      have htrv : ∀ p q, es.getD k (0, 0) = (p, q) → (Trv es k ↔ Star (Via (but es k)) p q) := fun p q he => by unfold Trv; rw [he]
      obtain ⟨⟨p, q⟩, hpq⟩ : ∃ e, es.getD k (0, 0) = e := ⟨_, rfl⟩
      rw [hpq] at c0 c1 hends
      have HTV := hide (htrv p q hpq)
      clear htrv hpq
      obtain ⟨hp, hq⟩ := hends
      simp only at c0 c1 hp hq
      have d0 : wr.cell? ⟨g, off + k * 2, none⟩ = some (.int .i64 (p : Nat)) := by rw [(unhide HB).bel.cell (p := ⟨g, off + k * 2, none⟩) hg]; exact c0
      have d1 : wr.cell? ⟨g, off + k * 2 + 1, none⟩ = some (.int .i64 (q : Nat)) := by rw [(unhide HB).bel.cell (p := ⟨g, off + k * 2 + 1, none⟩) hg]; exact c1
      have hlt2 : (k : Int) < (n : Int) := by omega
      have hkc : (k : Int) ≤ (cap : Int) := by omega
      have hk1n : (k : Int) + 1 ≤ (n : Int) := by omega
      clear c0 c1
      go_wp2_with fail
      have HBW := hide ((unhide HB).step ((Below.refl _ _).alloc (Nat.le_refl _) (.cells #[.int .i64 (p : Int), .int .i64 (q : Int)] 45)))
      have HEB := hide (heap_alloc_new wr (.cells #[.int .i64 (p : Int), .int .i64 (q : Int)] 45))
      have hsw : (wr.alloc (.cells #[.int .i64 (p : Int), .int .i64 (q : Int)] 45)).heap.size = wr.heap.size + 1 := by simp
      have hwk : IntKind.i64.wrap ((k : Int) + 1) = (k : Int) + 1 := by rw [IntKind.wrap_i64]; omega
      have hk0 : (0 : Int) ≤ (k : Int) + 1 := by omega
      have hk3 : ((k : Int) + 1).toNat = k + 1 := by omega
      refine wp_region_held_drew (S := fun u => u.cell? ⟨w.heap.size, 1, none⟩ = some (.slice (some ⟨g, off, none⟩) n cap)) (by kernel_rfl) (unhide HBW).cells.2 (fun hS0 => ?_)
      refine wpAnyH_take (i := 0) (v := ?_) rfl (by kernel_rfl) (by kernel_rfl) (by kernel_rfl) (fun _ _ _ h => h) (Or.inl ⟨by rfl, ?_⟩) hS0 ?_
      rotate_left
      · intro u hu; (try dsimp only at hu); go_simp; try with_reducible rfl
      simp only [Act.put, List.getElem_toArray, List.getElem_cons_zero, List.setIfInBounds_toArray, List.set_cons_zero, List.set_cons_succ]
      refine wpAnyH_take (i := 1) (v := ?_) rfl (by kernel_rfl) (by kernel_rfl) (by kernel_rfl) (fun _ _ _ h => h) (Or.inl ⟨by rfl, ?_⟩) hS0 ?_
      rotate_left
      · intro u hu; (try dsimp only at hu); go_simp; try with_reducible rfl
      simp only [Act.put, List.getElem_toArray, List.getElem_cons_zero, List.getElem_cons_succ, List.setIfInBounds_toArray, List.set_cons_zero, List.set_cons_succ]
      refine wpAnyH_take (i := 2) (v := ?_) rfl (by kernel_rfl) (by kernel_rfl) (by kernel_rfl) (fun _ _ _ h => h) (Or.inl ⟨by rfl, ?_⟩) hS0 ?_
      rotate_left
      · intro u hu; (try dsimp only at hu); go_simp; try with_reducible rfl
      simp only [Act.put, List.getElem_toArray, List.getElem_cons_zero, List.getElem_cons_succ, List.setIfInBounds_toArray, List.set_cons_zero, List.set_cons_succ]
      refine wpAnyH_take (i := 3) (v := ?_) rfl (by kernel_rfl) (by kernel_rfl) (by kernel_rfl) (fun _ _ _ h => h) (Or.inl ⟨by rfl, ?_⟩) hS0 ?_
      rotate_left
      · intro u hu; (try dsimp only at hu); go_simp; try with_reducible rfl
      simp only [Act.put, List.getElem_toArray, List.getElem_cons_zero, List.getElem_cons_succ, List.setIfInBounds_toArray, List.set_cons_zero, List.set_cons_succ]
      refine wpAnyH_take (i := 4) (v := ?_) rfl (by kernel_rfl) (by kernel_rfl) (by kernel_rfl) (fun _ _ _ h => h) (Or.inl ⟨by rfl, ?_⟩) hS0 ?_
      rotate_left
      · intro u hu; (try dsimp only at hu); go_simp; try with_reducible rfl
      simp only [Act.put, List.getElem_toArray, List.getElem_cons_zero, List.getElem_cons_succ, List.setIfInBounds_toArray, List.set_cons_zero, List.set_cons_succ]
      refine wpAnyH_take (i := 5) (v := ?_) rfl (by kernel_rfl) (by kernel_rfl) (by kernel_rfl) (fun _ _ _ h => h) (Or.inl ⟨by rfl, ?_⟩) hS0 ?_
      rotate_left
      · intro u hu; (try dsimp only at hu); go_simp; try with_reducible rfl
      simp only [Act.put, List.getElem_toArray, List.getElem_cons_zero, List.getElem_cons_succ, List.setIfInBounds_toArray, List.set_cons_zero, List.set_cons_succ]
      refine wpAnyH_take (i := 6) (v := ?_) rfl (by kernel_rfl) (by kernel_rfl) (by kernel_rfl) (fun _ _ _ h => h) (Or.inl ⟨by rfl, ?_⟩) hS0 ?_
      rotate_left
      · intro u hu; (try dsimp only at hu); go_simp; try with_reducible rfl
      simp only [Act.put, List.getElem_toArray, List.getElem_cons_zero, List.getElem_cons_succ, List.setIfInBounds_toArray, List.set_cons_zero, List.set_cons_succ]
      refine wpAnyH_take (i := 7) (v := ?_) rfl (by kernel_rfl) (by kernel_rfl) (by kernel_rfl) (fun _ _ _ h => h) (Or.inl ⟨by rfl, ?_⟩) hS0 ?_
      rotate_left
      · intro u hu; (try dsimp only at hu); go_simp; try with_reducible rfl
      simp only [Act.put, List.getElem_toArray, List.getElem_cons_zero, List.getElem_cons_succ, List.setIfInBounds_toArray, List.set_cons_zero, List.set_cons_succ]
      refine wpAnyH_take (i := 8) (v := ?_) rfl (by kernel_rfl) (by kernel_rfl) (by kernel_rfl) (fun _ _ _ h => h) (Or.inl ⟨by rfl, ?_⟩) hS0 ?_
      rotate_left
      · intro u hu; (try dsimp only at hu); go_simp; try with_reducible rfl
      simp only [Act.put, List.getElem_toArray, List.getElem_cons_zero, List.getElem_cons_succ, List.setIfInBounds_toArray, List.set_cons_zero, List.set_cons_succ]
      obtain ⟨o2, hif, ho2⟩ : ∃ o2, (if cap = k + 1 then some (⟨g, off, none⟩ : Addr) else some ⟨g, off + (k + 1) * 2, none⟩) = some ⟨g, o2, none⟩ ∧ (n - (k + 1) = 0 ∨ o2 = off + (k + 1) * 2) := by
        by_cases hcc : cap = k + 1
        · exact ⟨off, by rw [if_pos hcc], .inl (by omega)⟩
        · exact ⟨_, by rw [if_neg hcc], .inr rfl⟩
      rw [hif]
      clear hif
      have X0 := hide (Bt.start 45 #[.int .i64 (p : Int), .int .i64 (q : Int)] wr).drew
      refine wpAnyH_ready (rs := [9]) (by kernel_rfl) (by simp) ?_
      refine AllReadyH.cons rfl (fun K hK => ?_) AllReadyH.nil
      go_simp
      go_wp2_with fail
      refine hK.out _ _ (((unhide HB).step ((unhide X0).step (b_al _)).bel).cells.2) (fun hS1 => ?_)
      clear hK K hS0
      have X1 := hide (((Bt.start 45 #[.int .i64 (p : Int), .int .i64 (q : Int)] wr).step (b_al (.cells #[.slice (some ⟨g, off, none⟩) k cap, .slice (some ⟨g, o2, none⟩) (n - (k + 1)) (cap - (k + 1))] 31))).drew)
      have Y1 := hide ((Bt.start 31 #[.slice (some ⟨g, off, none⟩) k cap, .slice (some ⟨g, o2, none⟩) (n - (k + 1)) (cap - (k + 1))] (wr.alloc (.cells #[.int .i64 (p : Int), .int .i64 (q : Int)] 45))).drew)
      clear X0 hS1
      generalize (((wr.alloc (.cells #[.int .i64 (p : Int), .int .i64 (q : Int)] 45)).alloc (.cells #[.slice (some ⟨g, off, none⟩) k cap, .slice (some ⟨g, o2, none⟩) (n - (k + 1)) (cap - (k + 1))] 31)).drew) = wa at X1 Y1 ⊢
      have y0 := (unhide Y1).cell 0 rfl
      have y1 := (unhide Y1).cell 1 rfl
      have ylt := (unhide Y1).lt
      rw [hsw] at y0 y1 ylt
      have E0 : Es B wa (some ⟨g, off, none⟩) n (toI es) := by
        have := (unhide HE).below ((unhide HB).step (unhide X1).bel).bel
        rw [unhide HN] at this
        exact this
      have E1 := E0.take k (by omega)
      have E2 := E0.drop (k + 1) (n - (k + 1)) o2 (by omega) ho2
      obtain ⟨fs, hfs⟩ : ∃ fs, but es k = fs := ⟨_, rfl⟩
      have hfl : fs.length = k + (n - (k + 1)) := by rw [← hfs, but_len (by rw [unhide HN]; exact hlt), unhide HN]; omega
      have hft : (toI es).take k ++ (toI es).drop (k + 1) = toI fs := by rw [← hfs, but, toI_append, toI_take, toI_drop]
      have HPF := hide (show Plain V fs by rw [← hfs]; exact but_plain (unhide HP) (by rw [unhide HN]; exact hlt))
      rw [hfs] at HTV
      obtain ⟨m, hm⟩ : ∃ m, fs.length = m := ⟨_, rfl⟩
      have HCC := hide (show Calls Tryd.prog 24 #[.slice (some ⟨wr.heap.size + 1, 0, none⟩) 2 2] wa fun e w' => (∃ a6 c6, e = .returned (.slice a6 m c6) ∧ Es 0 w' a6 m (toI fs)) ∧ Below wa.heap.size wa w' from by
        refine (concat_two wa (wr.heap.size + 1) 2 _ _ k cap (n - (k + 1)) (cap - (k + 1)) _ _ y0 y1 ylt E1 E2 (by omega) (by omega)).mono ?_
        rintro e w' ⟨⟨v, rfl, ho⟩, hb⟩
        rw [hft, ← hfl, hm] at ho
        obtain ⟨a6, c6, rfl, h6⟩ := es_of_owns ho (by omega)
        exact ⟨⟨a6, c6, rfl, h6.mono (Nat.zero_le _)⟩, hb⟩)
      have HHD := hide (fun (u : World) (a6 : Option Addr) (c6 : Nat) (h : Es 0 u a6 m (toI fs)) => show Calls Tryd.prog 22 #[.int .i64 V, .slice a6 m c6] u fun e w' => (∃ gh, e = .returned (.slice (some ⟨gh, 0, none⟩) V V) ∧ u.heap.size ≤ gh ∧ RowU w' gh V (hdS fs)) ∧ Below u.heap.size u w' from by
        subst hm
        exact heads_any u V a6 c6 fs h (unhide HPF))
      have hm128 : m ≤ 128 := by omega
      clear hft hfl hm hfs E0 E1 E2 y0 y1 ylt Y1 ho2
      have hS1 := ((unhide HB).step (unhide X1).bel).cells.2
      refine wpAnyH_ready (rs := [10]) (by kernel_rfl) (by simp) ?_
      refine AllReadyH.cons rfl (fun K hK => ?_) AllReadyH.nil
      go_simp
      go_wp2_with (go_at_call 24; refine (unhide HCC).mono ?_; rintro e wb ⟨⟨a6, c6, rfl, h6⟩, hb⟩; have X2 := hide ((unhide X1).step hb); have H6 := hide h6; clear hb h6)
      refine hK.out _ _ (((unhide HB).step (unhide X2).bel).cells.2) (fun hS2 => ?_)
      clear hK K hS1 HCC X1
      refine wpAnyH_take (i := 11) (v := ?_) rfl (by kernel_rfl) (by kernel_rfl) (by kernel_rfl) (fun _ _ _ h => h) (Or.inl ⟨by rfl, ?_⟩) hS2 ?_
      rotate_left
      · intro u hu; (try dsimp only at hu); go_simp; try with_reducible rfl
      simp only [Act.put, List.getElem_toArray, List.getElem_cons_zero, List.getElem_cons_succ, List.setIfInBounds_toArray, List.set_cons_zero, List.set_cons_succ]
      refine wpAnyH_done (by kernel_rfl) ?_ _
      clear hS2
      go_wp2_with fail
      obtain ⟨r, hr⟩ : ∃ r : Bool, (r = true ↔ Trv es k) := by
        by_cases h : Trv es k
        · exact ⟨true, by simp [h]⟩
        · exact ⟨false, by simp [h]⟩
      have HSP := hide (fun (u : World) (hT : Tab u) (gh : Nat) (h : RowU u gh V (hdS fs)) => show Calls Tryd.prog 23 #[.int .u64 ((ofS [(p : Int)] : Nat) : Int), .slice (some ⟨gh, 0, none⟩) V V] u fun e w' => (∃ t : Nat, e = .returned (.int .u64 t) ∧ ReachSet fs p t) ∧ Below u.heap.size u w' from by
        refine (spread_any u hT V V _ (hdS fs) _ (ofS_lt _) (h.read (by omega)) hv64 (fun x hx => hdS_lt fs x) (fun x hx => hd_bnd (unhide HPF) x) (one_bnd hp)).mono ?_
        rintro e w' ⟨⟨t, rfl, ht⟩, hb⟩
        exact ⟨⟨t, rfl, ReachSet.of (unhide HPF) hp ht⟩, hb⟩)
      have HHAS := hide (fun (u : World) (t : Nat) (h : ReachSet fs p t) => show Calls Tryd.prog 9 #[.int .u64 t, .int .i64 q] u fun e w' => e = .returned (.bool r) ∧ Below u.heap.size u w' from by
        refine (has_any u t h.1 q).mono ?_
        rintro e w' ⟨rfl, hb⟩
        refine ⟨ret_b ?_, hb⟩
        rw [Bool.eq_iff_iff, hasI_nat h.1, h.2, hr, unhide HTV])
      have HSX := hide (fun (u : World) (X : Bt 45 #[.int .i64 (p : Int), .int .i64 (q : Int)] wr u) => show u.cell? ⟨w.heap.size, 0, none⟩ = some (.int .i64 V) ∧ u.cell? ⟨wr.heap.size, 0, none⟩ = some (.int .i64 (p : Int)) ∧ u.cell? ⟨wr.heap.size, 1, none⟩ = some (.int .i64 (q : Int)) from ⟨((unhide HB).step X.bel).cells.1, X.cell 0 rfl, X.cell 1 rfl⟩)
      have HTX := hide (fun (u : World) (X : Bt 45 #[.int .i64 (p : Int), .int .i64 (q : Int)] wr u) => (unhide HT).below ((unhide HB).step X.bel).bel)
      refine wp_region_held_drew (S := fun u => u.cell? ⟨w.heap.size, 0, none⟩ = some (.int .i64 V) ∧ u.cell? ⟨wr.heap.size, 0, none⟩ = some (.int .i64 (p : Int)) ∧ u.cell? ⟨wr.heap.size, 1, none⟩ = some (.int .i64 (q : Int))) (by kernel_rfl) (unhide HSX _ (unhide X2).drew) (fun hS0 => ?_)
      refine wpAnyH_take (i := 0) (v := ?_) rfl (by kernel_rfl) (by kernel_rfl) (by kernel_rfl) (fun _ _ _ h => h) (Or.inl ⟨by rfl, ?_⟩) hS0 ?_
      rotate_left
      · intro u hu; (try dsimp only at hu); go_simp; try with_reducible rfl
      simp only [Act.put, List.getElem_toArray, List.getElem_cons_zero, List.setIfInBounds_toArray, List.set_cons_zero, List.set_cons_succ]
      refine wpAnyH_take (i := 1) (v := ?_) rfl (by kernel_rfl) (by kernel_rfl) (by kernel_rfl) (fun _ _ _ h => h) (Or.inl ⟨by rfl, ?_⟩) hS0 ?_
      rotate_left
      · intro u hu; (try dsimp only at hu); go_simp; try with_reducible rfl
      simp only [Act.put, List.getElem_toArray, List.getElem_cons_zero, List.getElem_cons_succ, List.setIfInBounds_toArray, List.set_cons_zero, List.set_cons_succ]
      refine wpAnyH_take (i := 4) (v := ?_) rfl (by kernel_rfl) (by kernel_rfl) (by kernel_rfl) (fun _ _ _ h => h) (Or.inl ⟨by rfl, ?_⟩) hS0 ?_
      rotate_left
      · intro u hu; (try dsimp only at hu); go_simp; try with_reducible rfl
      simp only [Act.put, List.getElem_toArray, List.getElem_cons_zero, List.getElem_cons_succ, List.setIfInBounds_toArray, List.set_cons_zero, List.set_cons_succ]
      refine wpAnyH_take (i := 5) (v := ?_) rfl (by kernel_rfl) (by kernel_rfl) (by kernel_rfl) (fun _ _ _ h => h) (Or.inl ⟨by rfl, ?_⟩) hS0 ?_
      rotate_left
      · intro u hu; (try dsimp only at hu); go_simp; try with_reducible rfl
      simp only [Act.put, List.getElem_toArray, List.getElem_cons_zero, List.getElem_cons_succ, List.setIfInBounds_toArray, List.set_cons_zero, List.set_cons_succ]
      refine wpAnyH_take (i := 6) (v := ?_) rfl (by kernel_rfl) (by kernel_rfl) (by kernel_rfl) (fun _ _ _ h => h) (Or.inl ⟨by rfl, ?_⟩) hS0 ?_
      rotate_left
      · intro u hu; (try dsimp only at hu); go_simp; try with_reducible rfl
      simp only [Act.put, List.getElem_toArray, List.getElem_cons_zero, List.getElem_cons_succ, List.setIfInBounds_toArray, List.set_cons_zero, List.set_cons_succ]
      refine wpAnyH_take (i := 9) (v := ?_) rfl (by kernel_rfl) (by kernel_rfl) (by kernel_rfl) (fun _ _ _ h => h) (Or.inl ⟨by rfl, ?_⟩) hS0 ?_
      rotate_left
      · intro u hu; (try dsimp only at hu); go_simp; try with_reducible rfl
      simp only [Act.put, List.getElem_toArray, List.getElem_cons_zero, List.getElem_cons_succ, List.setIfInBounds_toArray, List.set_cons_zero, List.set_cons_succ]
      refine wpAnyH_take (i := 10) (v := ?_) rfl (by kernel_rfl) (by kernel_rfl) (by kernel_rfl) (fun _ _ _ h => h) (Or.inl ⟨by rfl, ?_⟩) hS0 ?_
      rotate_left
      · intro u hu; (try dsimp only at hu); go_simp; try with_reducible rfl
      simp only [Act.put, List.getElem_toArray, List.getElem_cons_zero, List.getElem_cons_succ, List.setIfInBounds_toArray, List.set_cons_zero, List.set_cons_succ]
      refine wpAnyH_ready (rs := [2]) (by kernel_rfl) (by simp) ?_
      refine AllReadyH.cons rfl (fun K hK => ?_) AllReadyH.nil
      go_simp
      go_wp2_with fail
      refine hK.out _ _ (unhide HSX _ ((unhide X2).step (b_dal _))) (fun hS1 => ?_)
      clear hK K hS0
      have X3 := hide ((unhide X2).step (b_dal (.cells #[.int .i64 (p : Int)] 3)))
      have Y3 := hide ((Bt.start 3 #[.int .i64 (p : Int)] wb).drew)
      have H63 := hide ((unhide H6).below (b_dal (.cells #[.int .i64 (p : Int)] 3)))
      clear X2 H6
      generalize (wb.alloc (.cells #[.int .i64 (p : Int)] 3)).drew = wc at hS1 X3 Y3 H63 ⊢
      refine wpAnyH_ready (rs := [3]) (by kernel_rfl) (by simp) ?_
      refine AllReadyH.cons rfl (fun K hK => ?_) AllReadyH.nil
      go_simp
      go_wp2_with (go_at_call 8; refine (of_any _ _ 1 1 [(p : Int)] (ns_of_bt (unhide Y3))).mono ?_; rintro e w5 ⟨rfl, hw5⟩; obtain rfl := hw5.symm; clear hw5)
      refine hK.out _ _ (unhide HSX _ (unhide X3)) (fun hS2 => ?_)
      clear hK K hS1
      refine wpAnyH_ready (rs := [7]) (by kernel_rfl) (by simp) ?_
      refine AllReadyH.cons rfl (fun K hK => ?_) AllReadyH.nil
      go_simp
      go_wp2_with (go_at_call 22; refine (unhide HHD _ _ _ (unhide H63)).mono ?_; rintro e wd ⟨⟨gh, rfl, hgh, hrow⟩, hb⟩; have X4 := hide ((unhide X3).step hb); have R4 := hide hrow; clear hb hrow hgh)
      refine hK.out _ _ (unhide HSX _ (unhide X4)) (fun hS3 => ?_)
      clear hK K hS2 X3 H63 Y3
      refine wpAnyH_ready (rs := [8]) (by kernel_rfl) (by simp) ?_
      refine AllReadyH.cons rfl (fun K hK => ?_) AllReadyH.nil
      go_simp
      go_wp2_with (go_at_call 23; refine (unhide HSP _ (unhide HTX _ (unhide X4)) _ (unhide R4)).mono ?_; rintro e wf ⟨⟨t, rfl, ht⟩, hb⟩; have X5 := hide ((unhide X4).step hb); have HTT := hide ht; clear hb ht)
      refine hK.out _ _ (unhide HSX _ (unhide X5)) (fun hS4 => ?_)
      clear hK K hS3 X4 R4
      refine wpAnyH_ready (rs := [11]) (by kernel_rfl) (by simp) ?_
      refine AllReadyH.cons rfl (fun K hK => ?_) AllReadyH.nil
      go_simp
      go_wp2_with (go_at_call 9; refine (unhide HHAS _ _ (unhide HTT)).mono ?_; rintro e wi ⟨rfl, hb⟩; have X6 := hide ((unhide X5).step hb); clear hb)
      refine hK.out _ _ (unhide HSX _ (unhide X6)) (fun hS5 => ?_)
      clear hK K hS4 X5
      refine wpAnyH_done (by kernel_rfl) ?_ _
      clear hS5 HSX HTX HHAS HSP HHD
      have hll := (unhide HL).len
      have HO6 := hide (owns_below (unhide HO) (unhide X6).bel)
      have HB6 := hide ((unhide HB).step (unhide X6).bel)
      have hs6 := (unhide HB6).lt
      cases r with
      | false =>
        have hno : ¬ Trv es k := fun h => by have := hr.2 h; cases this
        go_wp2_with fail
        go_roundw
        case rel => exact ⟨k + 1, l, by go_num, by omega, (unhide HL).no hno, unhide HO6, unhide HB6⟩
        case measure => simp [intOf]; omega
      | true =>
        have hyes : Trv es k := hr.1 rfl
        go_wp2_with (at_builtin; refine wpList_append_own _ rfl (.tmp 41) (.tmp 43) 22 rfl (w.heap.size + 1) 3 i0 (.int .i64 0) 1 8 Tryd.underlying22 (unhide HI) (unhide HZ0) (unhide HZ1) (unhide HZ2) rfl (by decide) u3 l.length (zcells (toIs l)) rfl ((unhide HO6).alloc _) ⟨wi.heap.size, 0, none⟩ 1 1 [.int .i64 k] rfl rfl (cell_one_new _ _ _) (one_int k) ?a3 ?a4 ?a5 ?_)
        case a3 => unfold maxLen; omega
        case a4 => omega
        case a5 => first | omega | (simp; omega)
        intro v2 w4 hown4 hg4 _
        rw [zcells_snoc, toIs_snoc] at hown4
        have HB7 := hide ((unhide HB6).stepB (B := w.heap.size + 1) (by omega) (((Below.refl _ _).alloc (by omega) _).grown hg4 (by simp; omega) fun j hj => ((unhide HO6).lt j hj).1))
        have HO7 := hide hown4
        clear hown4 hg4
        go_wp2_with fail
        go_roundw
        case rel =>
          refine ⟨k + 1, l ++ [k], by go_num, by omega, (unhide HL).yes hyes, ?_, unhide HB7⟩
          rw [List.length_append]
          exact unhide HO7
        case measure => simp [intOf]; omega
    · obtain rfl : k = n := by omega
      go_wp2_with fail
      go_ret
      exact ⟨⟨_, l, rfl, unhide HL, owns_mono (unhide HO) (by omega)⟩, (unhide HB).bel⟩
end Go.Proofs.YtjklmbboklgdpaaDoor




/-
  The walk of the statement ReachGrows. Conditions: the graph lies in memory as told; the table of math/bits holds what its initialiser lays.
-/
import Derived.Test.YtjklmbboklgdpaaDoorSpk
import Derived.Test.YtjklmbboklgdpaaDoorFr
import Derived.Test.YtjklmbboklgdpaaDoorArr
import Derived.Test.YtjklmbboklgdpaaDoorGm
import Derived.Test.YtjklmbboklgdpaaDoorRm
import Derived.OrdersHeld
import Derived.Deep.CutBlock
import Derived.Deep.CutRange

import Derived.Deep.RegionHeld
namespace Go.Proofs.YtjklmbboklgdpaaDoor
open Go.RowKit
set_option linter.unusedVariables false

theorem star_snoc (es : List (Nat × Nat)) (a b i j : Nat) : Star (Via (es ++ [(a, b)])) i j ↔ Star (Via es) i j ∨ (Star (Via es) i a ∧ Star (Via es) b j) := by
  constructor
  · intro h
    refine h.ind (S := fun x => Star (Via es) i x ∨ (Star (Via es) i a ∧ Star (Via es) b x)) (.inl .refl) fun x y _ hx hr => ?_
    have hr' : (x, y) ∈ es ∨ (x, y) = (a, b) := by
      unfold Via at hr
      simpa using hr
    rcases hr' with hr' | hr'
    · rcases hx with hx | hx
      · exact .inl (hx.step hr')
      · exact .inr ⟨hx.1, hx.2.step hr'⟩
    · simp only [Prod.mk.injEq] at hr'
      obtain ⟨rfl, rfl⟩ := hr'
      rcases hx with hx | hx
      · exact .inr ⟨hx, .refl⟩
      · exact .inr ⟨hx.1, .refl⟩
  · have hm : ∀ x y, Via es x y → Via (es ++ [(a, b)]) x y := fun x y h => List.mem_append_left _ h
    rintro (h | ⟨h1, h2⟩)
    · exact h.mono hm
    · exact ((h1.mono hm).step (show Via (es ++ [(a, b)]) a b by simp [Via])).trans (h2.mono hm)
theorem reach_snoc {V : Nat} {es : List (Nat × Nat)} {a b : Nat} {F F' : Nat → Nat} (hF : AllReach V es F) (hF' : AllReach V (es ++ [(a, b)]) F') (hb : b < V) (i : Nat) (hi : i < V) :
    F' i = if (F i).testBit a = true then F i ||| F b else F i := by
  refine set_ext (hF' i hi).1 ?_ fun j _ => ?_
  · split
    · exact or_lt (hF i hi).1 (hF b hb).1
    · exact (hF i hi).1
  · rw [Bool.eq_iff_iff, (hF' i hi).2, star_snoc]
    split
    · rename_i h
      rw [Nat.testBit_or, Bool.or_eq_true, (hF i hi).2, (hF b hb).2]
      rw [(hF i hi).2] at h
      exact ⟨fun hh => hh.imp id fun x => x.2, fun hh => hh.imp id fun x => ⟨h, x⟩⟩
    · rename_i h
      rw [(hF i hi).2] at h ⊢
      exact ⟨fun hh => hh.resolve_right fun x => h x.1, .inl⟩
theorem snoc_plain {V : Nat} {es : List (Nat × Nat)} (hp : Plain V es) (hn : es.length ≤ 100) {a b : Nat} (ha : a < V) (hb : b < V) : Plain V (es ++ [(a, b)]) := by
  refine ⟨hp.v1, hp.v64, by simp; omega, fun e he => ?_⟩
  rcases List.mem_append.1 he with he | he
  · exact hp.ends e he
  · simp at he
    subst he
    exact ⟨ha, hb⟩

set_option maxHeartbeats 8000000 in
theorem grows_walk (w : World) (hT : Tab w) (V : Nat) (a : Option Addr) (n cap : Nat) (es : List (Nat × Nat)) (x0 y0 : Int) {B : Nat} (h : Es B w a n (toI es)) (hne : es.length = n) (hnil : a = none → n = 0 ∧ cap = 0) (hp : Plain V es) (hn : n ≤ 100) :
    Calls Tryd.prog 6 #[.agg #[.int .i64 V, .slice a n cap], .int .i64 x0, .int .i64 y0] w fun e w' => e = .returned (.bool true) ∧ Below w.heap.size w w' := by
  have hv64 := hp.v64
  have hv1 := hp.v1
  have HT := hide hT
  have HE := hide h
  have HP := hide hp
  have HN := hide hne
  have hn' : (n : Int) ≤ 100 := by omega
  have HB0 := hide (Bg.start w (.int .i64 V) (.slice a n cap))
  have HMAY := hide fun (w : World) (h : Es B w a n (toI es)) => refmay_yes w V a n cap es h hne hp
  clear h hp hT hne
  go_enter Tryd.func6, Tryd.ntmps6
  go_wp2_with fail
  refine (speaks_any _ ((unhide HT).below (unhide HB0).bel)).mono ?_
  rintro e w1 ⟨rfl, hb1⟩
  have HB1 := hide ((unhide HB0).step hb1)
  obtain ⟨g0, g1⟩ := (unhide HB1).cells
  clear hb1 HB0
  go_wp2_with fail
  refine (unhide HMAY _ ((unhide HE).below (unhide HB1).bel)).mono ?_
  rintro e w2 ⟨rfl, hb2⟩
  have HB2 := hide ((unhide HB1).step hb2)
  clear hb2 HB1 g0 g1 HMAY
  obtain ⟨g0, g1⟩ := (unhide HB2).cells
  go_wp2_with fail
  have hmod : ∀ z : Int, ∃ p : Nat, Int.tmod (z % 65536) (V : Int) = (p : Int) ∧ p < V := fun z => by
    have h1 := Int.tmod_nonneg (V : Int) (show 0 ≤ z % 65536 by omega)
    have h2 := Int.tmod_lt_of_pos (z % 65536) (show (0 : Int) < (V : Int) by omega)
    exact ⟨((z % 65536).tmod (V : Int)).toNat, by omega, by omega⟩
  obtain ⟨p, hpp, hpV⟩ := hmod x0
  obtain ⟨q, hqq, hqV⟩ := hmod y0
  clear hmod
  have hx5 := i64_and65535 x0
  have hy5 := i64_and65535 y0
  have hVz : ¬ V = 0 := by omega
  have hwp : IntKind.i64.wrap (p : Int) = (p : Int) := by rw [IntKind.wrap_i64]; omega
  have hwq : IntKind.i64.wrap (q : Int) = (q : Int) := by rw [IntKind.wrap_i64]; omega
  refine wp_region_held_drew (S := fun u => u.cell? ⟨w.heap.size, 0, none⟩ = some (.int .i64 V)) (by kernel_rfl) g0 (fun hS0 => ?_)
  refine wpAnyH_take (i := 0) (v := ?_) rfl (by kernel_rfl) (by kernel_rfl) (by kernel_rfl) (fun _ _ _ h => h) (Or.inl ⟨by rfl, ?_⟩) hS0 ?_
  rotate_left
  · intro u hu; (try dsimp only at hu); go_simp; try with_reducible rfl
  simp only [Act.put, List.getElem_toArray, List.getElem_cons_zero, List.setIfInBounds_toArray, List.set_cons_zero, List.set_cons_succ]
  refine wpAnyH_take (i := 1) (v := ?_) rfl (by kernel_rfl) (by kernel_rfl) (by kernel_rfl) (fun _ _ _ h => h) (Or.inl ⟨by rfl, ?_⟩) hS0 ?_
  rotate_left
  · intro u hu; (try dsimp only at hu); go_simp; try with_reducible rfl
  simp only [Act.put, List.getElem_toArray, List.getElem_cons_zero, List.getElem_cons_succ, List.setIfInBounds_toArray, List.set_cons_zero, List.set_cons_succ]
  refine wpAnyH_take (i := 2) (v := ?_) rfl (by kernel_rfl) (by kernel_rfl) (by kernel_rfl) (fun _ _ _ h => h) (Or.inl ⟨by rfl, ?_⟩) hS0 ?_
  rotate_left
  · intro u hu; (try dsimp only at hu); go_simp; try with_reducible rfl
  simp only [Act.put, List.getElem_toArray, List.getElem_cons_zero, List.getElem_cons_succ, List.setIfInBounds_toArray, List.set_cons_zero, List.set_cons_succ]
  refine wpAnyH_take (i := 3) (v := ?_) rfl (by kernel_rfl) (by kernel_rfl) (by kernel_rfl) (fun _ _ _ h => h) (Or.inl ⟨by rfl, ?_⟩) hS0 ?_
  rotate_left
  · intro u hu; (try dsimp only at hu); go_simp; try with_reducible rfl
  simp only [Act.put, List.getElem_toArray, List.getElem_cons_zero, List.getElem_cons_succ, List.setIfInBounds_toArray, List.set_cons_zero, List.set_cons_succ]
  refine wpAnyH_take (i := 4) (v := ?_) rfl (by kernel_rfl) (by kernel_rfl) (by kernel_rfl) (fun _ _ _ h => h) (Or.inl ⟨by rfl, ?_⟩) hS0 ?_
  rotate_left
  · intro u hu; (try dsimp only at hu); go_simp; try with_reducible rfl
  simp only [Act.put, List.getElem_toArray, List.getElem_cons_zero, List.getElem_cons_succ, List.setIfInBounds_toArray, List.set_cons_zero, List.set_cons_succ]
  refine wpAnyH_take (i := 5) (v := ?_) rfl (by kernel_rfl) (by kernel_rfl) (by kernel_rfl) (fun _ _ _ h => h) (Or.inl ⟨by rfl, ?_⟩) hS0 ?_
  rotate_left
  · intro u hu; (try dsimp only at hu); go_simp; try with_reducible rfl
  simp only [Act.put, List.getElem_toArray, List.getElem_cons_zero, List.getElem_cons_succ, List.setIfInBounds_toArray, List.set_cons_zero, List.set_cons_succ]
  refine wpAnyH_take (i := 6) (v := ?_) rfl (by kernel_rfl) (by kernel_rfl) (by kernel_rfl) (fun _ _ _ h => h) (Or.inl ⟨by rfl, ?_⟩) hS0 ?_
  rotate_left
  · intro u hu; (try dsimp only at hu); go_simp; try with_reducible rfl
  simp only [Act.put, List.getElem_toArray, List.getElem_cons_zero, List.getElem_cons_succ, List.setIfInBounds_toArray, List.set_cons_zero, List.set_cons_succ]
  refine wpAnyH_take (i := 7) (v := ?_) rfl (by kernel_rfl) (by kernel_rfl) (by kernel_rfl) (fun _ _ _ h => h) (Or.inl ⟨by rfl, ?_⟩) hS0 ?_
  rotate_left
  · intro u hu; (try dsimp only at hu); go_simp; try with_reducible rfl
  simp only [Act.put, List.getElem_toArray, List.getElem_cons_zero, List.getElem_cons_succ, List.setIfInBounds_toArray, List.set_cons_zero, List.set_cons_succ]
  refine wpAnyH_take (i := 8) (v := ?_) rfl (by kernel_rfl) (by kernel_rfl) (by kernel_rfl) (fun _ _ _ h => h) (Or.inl ⟨by rfl, ?_⟩) hS0 ?_
  rotate_left
  · intro u hu; (try dsimp only at hu); go_simp; try with_reducible rfl
  simp only [Act.put, List.getElem_toArray, List.getElem_cons_zero, List.getElem_cons_succ, List.setIfInBounds_toArray, List.set_cons_zero, List.set_cons_succ]
  refine wpAnyH_take (i := 9) (v := ?_) rfl (by kernel_rfl) (by kernel_rfl) (by kernel_rfl) (fun _ _ _ h => h) (Or.inl ⟨by rfl, ?_⟩) hS0 ?_
  rotate_left
  · intro u hu; (try dsimp only at hu); go_simp; try with_reducible rfl
  simp only [Act.put, List.getElem_toArray, List.getElem_cons_zero, List.getElem_cons_succ, List.setIfInBounds_toArray, List.set_cons_zero, List.set_cons_succ]
  refine wpAnyH_take (i := 10) (v := ?_) rfl (by kernel_rfl) (by kernel_rfl) (by kernel_rfl) (fun _ _ _ h => h) (Or.inl ⟨by rfl, ?_⟩) hS0 ?_
  rotate_left
  · intro u hu; (try dsimp only at hu); go_simp; try with_reducible rfl
  simp only [Act.put, List.getElem_toArray, List.getElem_cons_zero, List.getElem_cons_succ, List.setIfInBounds_toArray, List.set_cons_zero, List.set_cons_succ]
  refine wpAnyH_take (i := 11) (v := ?_) rfl (by kernel_rfl) (by kernel_rfl) (by kernel_rfl) (fun _ _ _ h => h) (Or.inl ⟨by rfl, ?_⟩) hS0 ?_
  rotate_left
  · intro u hu; (try dsimp only at hu); go_simp; try with_reducible rfl
  simp only [Act.put, List.getElem_toArray, List.getElem_cons_zero, List.getElem_cons_succ, List.setIfInBounds_toArray, List.set_cons_zero, List.set_cons_succ]
  refine wpAnyH_done (by kernel_rfl) ?_ _
  go_upto_region 6 with fail
  have HB3 := hide ((unhide HB2).step b_dr)
  clear hS0 g0 g1 HB2
  generalize w2.drew = w3 at HB3 ⊢
  have hlen1 : (toI es ++ [((p : Int), (q : Int))]).length = n + 1 := by rw [List.length_append, toI_length, unhide HN]; rfl
  go_cut [7] from 33 to 44 (fun v7 wx => ∃ gb va vc, v7 = .pointer (some ⟨gb, 0, none⟩) ∧ Hid (Bg w wx (.int .i64 V) (.slice a n cap)) ∧ Hid (wx.heap[gb]? = some (.cells #[.int .i64 (V : Int), .slice va (n + 1) vc] 33 (0, 0))) ∧ Hid (wx.ownsRow w3.heap.size 45 2 (.slice va (n + 1) vc) (toI es ++ [((p : Int), (q : Int))]).length (ecells (toI es ++ [((p : Int), (q : Int))]))))
  case first =>
    have XD := hide ((unhide HB3).step b_dr)
    refine wp_region_held_drew (S := fun u => u.cell? ⟨w.heap.size, 0, none⟩ = some (.int .i64 V) ∧ u.cell? ⟨w.heap.size, 1, none⟩ = some (.slice a n cap)) (by kernel_rfl) (unhide XD).cells (fun hS => ?_)
    have HSU := hide (show w3.drew.heap.size = w3.heap.size from rfl)
    generalize w3.drew = u0 at XD hS HSU ⊢
    have HEU := hide ((unhide HE).below (unhide XD).bel)
    have KY := hide (Gm.start u0 true)
    refine wpAnyH_take (i := 0) (v := ?_) rfl (by kernel_rfl) (by kernel_rfl) (by kernel_rfl) (fun _ _ _ h => h) (Or.inl ⟨by rfl, ?_⟩) hS ?_
    rotate_left
    · intro u hu; (try dsimp only at hu); go_simp; try with_reducible rfl
    simp only [Act.put, List.getElem_toArray, List.getElem_cons_zero, List.setIfInBounds_toArray, List.set_cons_zero, List.set_cons_succ]
    refine wpAnyH_take (i := 1) (v := ?_) rfl (by kernel_rfl) (by kernel_rfl) (by kernel_rfl) (fun _ _ _ h => h) (Or.inl ⟨by rfl, ?_⟩) hS ?_
    rotate_left
    · intro u hu; (try dsimp only at hu); go_simp; try with_reducible rfl
    simp only [Act.put, List.getElem_toArray, List.getElem_cons_zero, List.getElem_cons_succ, List.setIfInBounds_toArray, List.set_cons_zero, List.set_cons_succ]
    refine wpAnyH_take (i := 3) (v := ?_) rfl (by kernel_rfl) (by kernel_rfl) (by kernel_rfl) (fun _ _ _ h => h) (Or.inl ⟨by rfl, ?_⟩) hS ?_
    rotate_left
    · intro u hu; (try dsimp only at hu); go_simp; try with_reducible rfl
    simp only [Act.put, List.getElem_toArray, List.getElem_cons_zero, List.getElem_cons_succ, List.setIfInBounds_toArray, List.set_cons_zero, List.set_cons_succ]
    refine wpAnyH_take (i := 4) (v := ?_) rfl (by kernel_rfl) (by kernel_rfl) (by kernel_rfl) (fun _ _ _ h => h) (Or.inl ⟨by rfl, ?_⟩) hS ?_
    rotate_left
    · intro u hu; (try dsimp only at hu); go_simp; try with_reducible rfl
    simp only [Act.put, List.getElem_toArray, List.getElem_cons_zero, List.getElem_cons_succ, List.setIfInBounds_toArray, List.set_cons_zero, List.set_cons_succ]
    refine wpAnyH_take (i := 6) (v := ?_) rfl (by kernel_rfl) (by kernel_rfl) (by kernel_rfl) (fun _ _ _ h => h) (Or.inl ⟨by rfl, ?_⟩) hS ?_
    rotate_left
    · intro u hu; (try dsimp only at hu); go_simp; try with_reducible rfl
    simp only [Act.put, List.getElem_toArray, List.getElem_cons_zero, List.getElem_cons_succ, List.setIfInBounds_toArray, List.set_cons_zero, List.set_cons_succ]
    refine wpAnyH_take (i := 7) (v := ?_) rfl (by kernel_rfl) (by kernel_rfl) (by kernel_rfl) (fun _ _ _ h => h) (Or.inl ⟨by rfl, ?_⟩) hS ?_
    rotate_left
    · intro u hu; (try dsimp only at hu); go_simp; try with_reducible rfl
    simp only [Act.put, List.getElem_toArray, List.getElem_cons_zero, List.getElem_cons_succ, List.setIfInBounds_toArray, List.set_cons_zero, List.set_cons_succ]
    refine wpAnyH_take (i := 8) (v := ?_) rfl (by kernel_rfl) (by kernel_rfl) (by kernel_rfl) (fun _ _ _ h => h) (Or.inl ⟨by rfl, ?_⟩) hS ?_
    rotate_left
    · intro u hu; (try dsimp only at hu); go_simp; try with_reducible rfl
    simp only [Act.put, List.getElem_toArray, List.getElem_cons_zero, List.getElem_cons_succ, List.setIfInBounds_toArray, List.set_cons_zero, List.set_cons_succ]
    refine wpAnyH_ready (rs := [2, 9, 12]) (by kernel_rfl) (by simp) ?_
    refine AllReadyH.cons rfl (fun K hK => ?_) (AllReadyH.cons rfl (fun K hK => ?_) (AllReadyH.cons rfl (fun K hK => ?_) AllReadyH.nil))
    · go_simp
      have KY2 : Hid (Gm u0 (u0.alloc (.cells #[] 45)) true (some (.slice (some ⟨u0.heap.size, 0, none⟩) 0 0)) [] none none) := (unhide KY).row
      refine hK.out _ _ (((unhide XD).step (unhide KY2).bel).cells) (fun hS2 => ?_)
      clear hK K hS KY; have hS := hS2; clear hS2; have KY := KY2; clear KY2
      generalize u0.alloc (.cells #[] 45) = uk1 at KY hS ⊢
      generalize u0.heap.size = bk2 at KY ⊢
      refine wpAnyH_ready (rs := [5, 9, 12]) (by kernel_rfl) (by simp) ?_
      refine AllReadyH.cons rfl (fun K hK => ?_) (AllReadyH.cons rfl (fun K hK => ?_) (AllReadyH.cons rfl (fun K hK => ?_) AllReadyH.nil))
      · rw [if_pos (by rfl)]
        refine Gm.app (unhide KY) (.inl rfl) (.tmp 35) (.tmp 37) rfl rfl a n cap (toI es) rfl hnil ((unhide HEU).below (unhide KY).bel) (by simp; omega) ?_
        intro vk4 uk3 ky2
        rw [List.nil_append] at ky2
        have KY2 : Hid (Gm u0 uk3 false (some vk4) (toI es) none none) := ky2
        clear ky2
        refine hK.out _ _ (((unhide XD).step (unhide KY2).bel).cells) (fun hS2 => ?_)
        clear hK K hS KY; have hS := hS2; clear hS2; have KY := KY2; clear KY2
        simp only [Act.put, List.getElem_toArray, List.getElem_cons_zero, List.getElem_cons_succ, List.setIfInBounds_toArray, List.set_cons_zero, List.set_cons_succ]
        refine wpAnyH_ready (rs := [9, 12]) (by kernel_rfl) (by simp) ?_
        refine AllReadyH.cons rfl (fun K hK => ?_) (AllReadyH.cons rfl (fun K hK => ?_) AllReadyH.nil)
        · go_simp
          have KY2 : Hid (Gm u0 (uk3.alloc (.cells #[.int .i64 (p : Int), .int .i64 (q : Int)] 45)) false (some vk4) (toI es) (some (uk3.heap.size, (p : Int), (q : Int))) none) := (unhide KY).edge (p : Int) (q : Int)
          refine hK.out _ _ (((unhide XD).step (unhide KY2).bel).cells) (fun hS2 => ?_)
          clear hK K hS KY; have hS := hS2; clear hS2; have KY := KY2; clear KY2
          generalize uk3.alloc (.cells #[.int .i64 (p : Int), .int .i64 (q : Int)] 45) = uk5 at KY hS ⊢
          generalize uk3.heap.size = bk6 at KY ⊢
          refine wpAnyH_ready (rs := [10, 12]) (by kernel_rfl) (by simp) ?_
          refine AllReadyH.cons rfl (fun K hK => ?_) (AllReadyH.cons rfl (fun K hK => ?_) AllReadyH.nil)
          · rw [if_pos (by rfl)]
            refine Gm.appE (unhide KY) (.tmp 38) (.tmp 42) rfl rfl 1 rfl (by rw [toI_length, unhide HN]; omega) ?_
            intro vk8 uk7 ky2
            have KY2 : Hid (Gm u0 uk7 false (some vk8) (toI es ++ [((p : Int), (q : Int))]) none none) := ky2
            clear ky2
            refine hK.out _ _ (((unhide XD).step (unhide KY2).bel).cells) (fun hS2 => ?_)
            clear hK K hS KY; have hS := hS2; clear hS2; have KY := KY2; clear KY2
            simp only [Act.put, List.getElem_toArray, List.getElem_cons_zero, List.getElem_cons_succ, List.setIfInBounds_toArray, List.set_cons_zero, List.set_cons_succ]
            obtain ⟨va, vc, rfl, _⟩ := es_of_owns ((unhide KY).hrow vk8 rfl) (by rw [List.length_append, toI_length, unhide HN]; simp; omega)
            rw [hlen1] at KY ⊢
            refine wpAnyH_take (i := 11) (v := ?_) rfl (by kernel_rfl) (by kernel_rfl) (by kernel_rfl) (fun _ _ _ h => h) (Or.inl ⟨by rfl, ?_⟩) hS ?_
            rotate_left
            · intro u hu; (try dsimp only at hu); go_simp; try with_reducible rfl
            simp only [Act.put, List.getElem_toArray, List.getElem_cons_zero, List.getElem_cons_succ, List.setIfInBounds_toArray, List.set_cons_zero, List.set_cons_succ]
            refine wpAnyH_ready (rs := [12]) (by kernel_rfl) (by simp) ?_
            refine AllReadyH.cons rfl (fun K hK => ?_) AllReadyH.nil
            go_simp
            have KY2 : Hid (Gm u0 (uk7.alloc (.cells #[.int .i64 0, .slice none 0 0] 33)) false (some (.slice va (n + 1) vc)) (toI es ++ [((p : Int), (q : Int))]) none (some uk7.heap.size)) := (unhide KY).box
            refine hK.out _ _ (((unhide XD).step (unhide KY2).bel).cells) (fun hS2 => ?_)
            clear hK K hS KY; have hS := hS2; clear hS2; have KY := KY2; clear KY2
            generalize uk7.alloc (.cells #[.int .i64 0, .slice none 0 0] 33) = uk9 at KY hS ⊢
            generalize uk7.heap.size = bk10 at KY ⊢
            obtain ⟨t0, t1, t2, t3⟩ := (unhide KY).boxCells
            refine wpAnyH_ready (rs := [13]) (by kernel_rfl) (by simp) ?_
            refine AllReadyH.cons rfl (fun K hK => ?_) AllReadyH.nil
            go_simp
            have KZ := hide ((unhide KY).stored (.int .i64 (V : Int)) (.slice va (n + 1) vc))
            refine hK.out _ _ (((unhide XD).step (unhide KZ).1).cells) (fun hS2 => ?_)
            clear hK K hS hS2 t0 t1 t2 t3
            refine wpAnyH_done (by kernel_rfl) ?_ _
            go_wp2_with fail
            go_meet
            exact ⟨bk10, va, vc, rfl, (unhide XD).step (unhide KZ).1, (unhide KZ).2.1, (by have h := (unhide KZ).2.2; rw [unhide HSU] at h; exact h)⟩
          · go_simp
            have KY2 : Hid (Gm u0 (uk5.alloc (.cells #[.int .i64 0, .slice none 0 0] 33)) false (some vk4) (toI es) (some (bk6, (p : Int), (q : Int))) (some uk5.heap.size)) := (unhide KY).box
            refine hK.out _ _ (((unhide XD).step (unhide KY2).bel).cells) (fun hS2 => ?_)
            clear hK K hS KY; have hS := hS2; clear hS2; have KY := KY2; clear KY2
            generalize uk5.alloc (.cells #[.int .i64 0, .slice none 0 0] 33) = uk11 at KY hS ⊢
            generalize uk5.heap.size = bk12 at KY ⊢
            refine wpAnyH_ready (rs := [10]) (by kernel_rfl) (by simp) ?_
            refine AllReadyH.cons rfl (fun K hK => ?_) AllReadyH.nil
            rw [if_pos (by rfl)]
            refine Gm.appE (unhide KY) (.tmp 38) (.tmp 42) rfl rfl 1 rfl (by rw [toI_length, unhide HN]; omega) ?_
            intro vk14 uk13 ky2
            have KY2 : Hid (Gm u0 uk13 false (some vk14) (toI es ++ [((p : Int), (q : Int))]) none (some bk12)) := ky2
            clear ky2
            refine hK.out _ _ (((unhide XD).step (unhide KY2).bel).cells) (fun hS2 => ?_)
            clear hK K hS KY; have hS := hS2; clear hS2; have KY := KY2; clear KY2
            simp only [Act.put, List.getElem_toArray, List.getElem_cons_zero, List.getElem_cons_succ, List.setIfInBounds_toArray, List.set_cons_zero, List.set_cons_succ]
            obtain ⟨va, vc, rfl, _⟩ := es_of_owns ((unhide KY).hrow vk14 rfl) (by rw [List.length_append, toI_length, unhide HN]; simp; omega)
            rw [hlen1] at KY ⊢
            refine wpAnyH_take (i := 11) (v := ?_) rfl (by kernel_rfl) (by kernel_rfl) (by kernel_rfl) (fun _ _ _ h => h) (Or.inl ⟨by rfl, ?_⟩) hS ?_
            rotate_left
            · intro u hu; (try dsimp only at hu); go_simp; try with_reducible rfl
            simp only [Act.put, List.getElem_toArray, List.getElem_cons_zero, List.getElem_cons_succ, List.setIfInBounds_toArray, List.set_cons_zero, List.set_cons_succ]
            obtain ⟨t0, t1, t2, t3⟩ := (unhide KY).boxCells
            refine wpAnyH_ready (rs := [13]) (by kernel_rfl) (by simp) ?_
            refine AllReadyH.cons rfl (fun K hK => ?_) AllReadyH.nil
            go_simp
            have KZ := hide ((unhide KY).stored (.int .i64 (V : Int)) (.slice va (n + 1) vc))
            refine hK.out _ _ (((unhide XD).step (unhide KZ).1).cells) (fun hS2 => ?_)
            clear hK K hS hS2 t0 t1 t2 t3
            refine wpAnyH_done (by kernel_rfl) ?_ _
            go_wp2_with fail
            go_meet
            exact ⟨bk12, va, vc, rfl, (unhide XD).step (unhide KZ).1, (unhide KZ).2.1, (by have h := (unhide KZ).2.2; rw [unhide HSU] at h; exact h)⟩
        · go_simp
          have KY2 : Hid (Gm u0 (uk3.alloc (.cells #[.int .i64 0, .slice none 0 0] 33)) false (some vk4) (toI es) none (some uk3.heap.size)) := (unhide KY).box
          refine hK.out _ _ (((unhide XD).step (unhide KY2).bel).cells) (fun hS2 => ?_)
          clear hK K hS KY; have hS := hS2; clear hS2; have KY := KY2; clear KY2
          generalize uk3.alloc (.cells #[.int .i64 0, .slice none 0 0] 33) = uk15 at KY hS ⊢
          generalize uk3.heap.size = bk16 at KY ⊢
          refine wpAnyH_ready (rs := [9]) (by kernel_rfl) (by simp) ?_
          refine AllReadyH.cons rfl (fun K hK => ?_) AllReadyH.nil
          go_simp
          have KY2 : Hid (Gm u0 (uk15.alloc (.cells #[.int .i64 (p : Int), .int .i64 (q : Int)] 45)) false (some vk4) (toI es) (some (uk15.heap.size, (p : Int), (q : Int))) (some bk16)) := (unhide KY).edge (p : Int) (q : Int)
          refine hK.out _ _ (((unhide XD).step (unhide KY2).bel).cells) (fun hS2 => ?_)
          clear hK K hS KY; have hS := hS2; clear hS2; have KY := KY2; clear KY2
          generalize uk15.alloc (.cells #[.int .i64 (p : Int), .int .i64 (q : Int)] 45) = uk17 at KY hS ⊢
          generalize uk15.heap.size = bk18 at KY ⊢
          refine wpAnyH_ready (rs := [10]) (by kernel_rfl) (by simp) ?_
          refine AllReadyH.cons rfl (fun K hK => ?_) AllReadyH.nil
          rw [if_pos (by rfl)]
          refine Gm.appE (unhide KY) (.tmp 38) (.tmp 42) rfl rfl 1 rfl (by rw [toI_length, unhide HN]; omega) ?_
          intro vk20 uk19 ky2
          have KY2 : Hid (Gm u0 uk19 false (some vk20) (toI es ++ [((p : Int), (q : Int))]) none (some bk16)) := ky2
          clear ky2
          refine hK.out _ _ (((unhide XD).step (unhide KY2).bel).cells) (fun hS2 => ?_)
          clear hK K hS KY; have hS := hS2; clear hS2; have KY := KY2; clear KY2
          simp only [Act.put, List.getElem_toArray, List.getElem_cons_zero, List.getElem_cons_succ, List.setIfInBounds_toArray, List.set_cons_zero, List.set_cons_succ]
          obtain ⟨va, vc, rfl, _⟩ := es_of_owns ((unhide KY).hrow vk20 rfl) (by rw [List.length_append, toI_length, unhide HN]; simp; omega)
          rw [hlen1] at KY ⊢
          refine wpAnyH_take (i := 11) (v := ?_) rfl (by kernel_rfl) (by kernel_rfl) (by kernel_rfl) (fun _ _ _ h => h) (Or.inl ⟨by rfl, ?_⟩) hS ?_
          rotate_left
          · intro u hu; (try dsimp only at hu); go_simp; try with_reducible rfl
          simp only [Act.put, List.getElem_toArray, List.getElem_cons_zero, List.getElem_cons_succ, List.setIfInBounds_toArray, List.set_cons_zero, List.set_cons_succ]
          obtain ⟨t0, t1, t2, t3⟩ := (unhide KY).boxCells
          refine wpAnyH_ready (rs := [13]) (by kernel_rfl) (by simp) ?_
          refine AllReadyH.cons rfl (fun K hK => ?_) AllReadyH.nil
          go_simp
          have KZ := hide ((unhide KY).stored (.int .i64 (V : Int)) (.slice va (n + 1) vc))
          refine hK.out _ _ (((unhide XD).step (unhide KZ).1).cells) (fun hS2 => ?_)
          clear hK K hS hS2 t0 t1 t2 t3
          refine wpAnyH_done (by kernel_rfl) ?_ _
          go_wp2_with fail
          go_meet
          exact ⟨bk16, va, vc, rfl, (unhide XD).step (unhide KZ).1, (unhide KZ).2.1, (by have h := (unhide KZ).2.2; rw [unhide HSU] at h; exact h)⟩
      · go_simp
        have KY2 : Hid (Gm u0 (uk1.alloc (.cells #[.int .i64 (p : Int), .int .i64 (q : Int)] 45)) true (some (.slice (some ⟨bk2, 0, none⟩) 0 0)) [] (some (uk1.heap.size, (p : Int), (q : Int))) none) := (unhide KY).edge (p : Int) (q : Int)
        refine hK.out _ _ (((unhide XD).step (unhide KY2).bel).cells) (fun hS2 => ?_)
        clear hK K hS KY; have hS := hS2; clear hS2; have KY := KY2; clear KY2
        generalize uk1.alloc (.cells #[.int .i64 (p : Int), .int .i64 (q : Int)] 45) = uk21 at KY hS ⊢
        generalize uk1.heap.size = bk22 at KY ⊢
        refine wpAnyH_ready (rs := [5, 12]) (by kernel_rfl) (by simp) ?_
        refine AllReadyH.cons rfl (fun K hK => ?_) (AllReadyH.cons rfl (fun K hK => ?_) AllReadyH.nil)
        · rw [if_pos (by rfl)]
          refine Gm.app (unhide KY) (.inl rfl) (.tmp 35) (.tmp 37) rfl rfl a n cap (toI es) rfl hnil ((unhide HEU).below (unhide KY).bel) (by simp; omega) ?_
          intro vk24 uk23 ky2
          rw [List.nil_append] at ky2
          have KY2 : Hid (Gm u0 uk23 false (some vk24) (toI es) (some (bk22, (p : Int), (q : Int))) none) := ky2
          clear ky2
          refine hK.out _ _ (((unhide XD).step (unhide KY2).bel).cells) (fun hS2 => ?_)
          clear hK K hS KY; have hS := hS2; clear hS2; have KY := KY2; clear KY2
          simp only [Act.put, List.getElem_toArray, List.getElem_cons_zero, List.getElem_cons_succ, List.setIfInBounds_toArray, List.set_cons_zero, List.set_cons_succ]
          refine wpAnyH_ready (rs := [10, 12]) (by kernel_rfl) (by simp) ?_
          refine AllReadyH.cons rfl (fun K hK => ?_) (AllReadyH.cons rfl (fun K hK => ?_) AllReadyH.nil)
          · rw [if_pos (by rfl)]
            refine Gm.appE (unhide KY) (.tmp 38) (.tmp 42) rfl rfl 1 rfl (by rw [toI_length, unhide HN]; omega) ?_
            intro vk26 uk25 ky2
            have KY2 : Hid (Gm u0 uk25 false (some vk26) (toI es ++ [((p : Int), (q : Int))]) none none) := ky2
            clear ky2
            refine hK.out _ _ (((unhide XD).step (unhide KY2).bel).cells) (fun hS2 => ?_)
            clear hK K hS KY; have hS := hS2; clear hS2; have KY := KY2; clear KY2
            simp only [Act.put, List.getElem_toArray, List.getElem_cons_zero, List.getElem_cons_succ, List.setIfInBounds_toArray, List.set_cons_zero, List.set_cons_succ]
            obtain ⟨va, vc, rfl, _⟩ := es_of_owns ((unhide KY).hrow vk26 rfl) (by rw [List.length_append, toI_length, unhide HN]; simp; omega)
            rw [hlen1] at KY ⊢
            refine wpAnyH_take (i := 11) (v := ?_) rfl (by kernel_rfl) (by kernel_rfl) (by kernel_rfl) (fun _ _ _ h => h) (Or.inl ⟨by rfl, ?_⟩) hS ?_
            rotate_left
            · intro u hu; (try dsimp only at hu); go_simp; try with_reducible rfl
            simp only [Act.put, List.getElem_toArray, List.getElem_cons_zero, List.getElem_cons_succ, List.setIfInBounds_toArray, List.set_cons_zero, List.set_cons_succ]
            refine wpAnyH_ready (rs := [12]) (by kernel_rfl) (by simp) ?_
            refine AllReadyH.cons rfl (fun K hK => ?_) AllReadyH.nil
            go_simp
            have KY2 : Hid (Gm u0 (uk25.alloc (.cells #[.int .i64 0, .slice none 0 0] 33)) false (some (.slice va (n + 1) vc)) (toI es ++ [((p : Int), (q : Int))]) none (some uk25.heap.size)) := (unhide KY).box
            refine hK.out _ _ (((unhide XD).step (unhide KY2).bel).cells) (fun hS2 => ?_)
            clear hK K hS KY; have hS := hS2; clear hS2; have KY := KY2; clear KY2
            generalize uk25.alloc (.cells #[.int .i64 0, .slice none 0 0] 33) = uk27 at KY hS ⊢
            generalize uk25.heap.size = bk28 at KY ⊢
            obtain ⟨t0, t1, t2, t3⟩ := (unhide KY).boxCells
            refine wpAnyH_ready (rs := [13]) (by kernel_rfl) (by simp) ?_
            refine AllReadyH.cons rfl (fun K hK => ?_) AllReadyH.nil
            go_simp
            have KZ := hide ((unhide KY).stored (.int .i64 (V : Int)) (.slice va (n + 1) vc))
            refine hK.out _ _ (((unhide XD).step (unhide KZ).1).cells) (fun hS2 => ?_)
            clear hK K hS hS2 t0 t1 t2 t3
            refine wpAnyH_done (by kernel_rfl) ?_ _
            go_wp2_with fail
            go_meet
            exact ⟨bk28, va, vc, rfl, (unhide XD).step (unhide KZ).1, (unhide KZ).2.1, (by have h := (unhide KZ).2.2; rw [unhide HSU] at h; exact h)⟩
          · go_simp
            have KY2 : Hid (Gm u0 (uk23.alloc (.cells #[.int .i64 0, .slice none 0 0] 33)) false (some vk24) (toI es) (some (bk22, (p : Int), (q : Int))) (some uk23.heap.size)) := (unhide KY).box
            refine hK.out _ _ (((unhide XD).step (unhide KY2).bel).cells) (fun hS2 => ?_)
            clear hK K hS KY; have hS := hS2; clear hS2; have KY := KY2; clear KY2
            generalize uk23.alloc (.cells #[.int .i64 0, .slice none 0 0] 33) = uk29 at KY hS ⊢
            generalize uk23.heap.size = bk30 at KY ⊢
            refine wpAnyH_ready (rs := [10]) (by kernel_rfl) (by simp) ?_
            refine AllReadyH.cons rfl (fun K hK => ?_) AllReadyH.nil
            rw [if_pos (by rfl)]
            refine Gm.appE (unhide KY) (.tmp 38) (.tmp 42) rfl rfl 1 rfl (by rw [toI_length, unhide HN]; omega) ?_
            intro vk32 uk31 ky2
            have KY2 : Hid (Gm u0 uk31 false (some vk32) (toI es ++ [((p : Int), (q : Int))]) none (some bk30)) := ky2
            clear ky2
            refine hK.out _ _ (((unhide XD).step (unhide KY2).bel).cells) (fun hS2 => ?_)
            clear hK K hS KY; have hS := hS2; clear hS2; have KY := KY2; clear KY2
            simp only [Act.put, List.getElem_toArray, List.getElem_cons_zero, List.getElem_cons_succ, List.setIfInBounds_toArray, List.set_cons_zero, List.set_cons_succ]
            obtain ⟨va, vc, rfl, _⟩ := es_of_owns ((unhide KY).hrow vk32 rfl) (by rw [List.length_append, toI_length, unhide HN]; simp; omega)
            rw [hlen1] at KY ⊢
            refine wpAnyH_take (i := 11) (v := ?_) rfl (by kernel_rfl) (by kernel_rfl) (by kernel_rfl) (fun _ _ _ h => h) (Or.inl ⟨by rfl, ?_⟩) hS ?_
            rotate_left
            · intro u hu; (try dsimp only at hu); go_simp; try with_reducible rfl
            simp only [Act.put, List.getElem_toArray, List.getElem_cons_zero, List.getElem_cons_succ, List.setIfInBounds_toArray, List.set_cons_zero, List.set_cons_succ]
            obtain ⟨t0, t1, t2, t3⟩ := (unhide KY).boxCells
            refine wpAnyH_ready (rs := [13]) (by kernel_rfl) (by simp) ?_
            refine AllReadyH.cons rfl (fun K hK => ?_) AllReadyH.nil
            go_simp
            have KZ := hide ((unhide KY).stored (.int .i64 (V : Int)) (.slice va (n + 1) vc))
            refine hK.out _ _ (((unhide XD).step (unhide KZ).1).cells) (fun hS2 => ?_)
            clear hK K hS hS2 t0 t1 t2 t3
            refine wpAnyH_done (by kernel_rfl) ?_ _
            go_wp2_with fail
            go_meet
            exact ⟨bk30, va, vc, rfl, (unhide XD).step (unhide KZ).1, (unhide KZ).2.1, (by have h := (unhide KZ).2.2; rw [unhide HSU] at h; exact h)⟩
        · go_simp
          have KY2 : Hid (Gm u0 (uk21.alloc (.cells #[.int .i64 0, .slice none 0 0] 33)) true (some (.slice (some ⟨bk2, 0, none⟩) 0 0)) [] (some (bk22, (p : Int), (q : Int))) (some uk21.heap.size)) := (unhide KY).box
          refine hK.out _ _ (((unhide XD).step (unhide KY2).bel).cells) (fun hS2 => ?_)
          clear hK K hS KY; have hS := hS2; clear hS2; have KY := KY2; clear KY2
          generalize uk21.alloc (.cells #[.int .i64 0, .slice none 0 0] 33) = uk33 at KY hS ⊢
          generalize uk21.heap.size = bk34 at KY ⊢
          refine wpAnyH_ready (rs := [5]) (by kernel_rfl) (by simp) ?_
          refine AllReadyH.cons rfl (fun K hK => ?_) AllReadyH.nil
          rw [if_pos (by rfl)]
          refine Gm.app (unhide KY) (.inl rfl) (.tmp 35) (.tmp 37) rfl rfl a n cap (toI es) rfl hnil ((unhide HEU).below (unhide KY).bel) (by simp; omega) ?_
          intro vk36 uk35 ky2
          rw [List.nil_append] at ky2
          have KY2 : Hid (Gm u0 uk35 false (some vk36) (toI es) (some (bk22, (p : Int), (q : Int))) (some bk34)) := ky2
          clear ky2
          refine hK.out _ _ (((unhide XD).step (unhide KY2).bel).cells) (fun hS2 => ?_)
          clear hK K hS KY; have hS := hS2; clear hS2; have KY := KY2; clear KY2
          simp only [Act.put, List.getElem_toArray, List.getElem_cons_zero, List.getElem_cons_succ, List.setIfInBounds_toArray, List.set_cons_zero, List.set_cons_succ]
          refine wpAnyH_ready (rs := [10]) (by kernel_rfl) (by simp) ?_
          refine AllReadyH.cons rfl (fun K hK => ?_) AllReadyH.nil
          rw [if_pos (by rfl)]
          refine Gm.appE (unhide KY) (.tmp 38) (.tmp 42) rfl rfl 1 rfl (by rw [toI_length, unhide HN]; omega) ?_
          intro vk38 uk37 ky2
          have KY2 : Hid (Gm u0 uk37 false (some vk38) (toI es ++ [((p : Int), (q : Int))]) none (some bk34)) := ky2
          clear ky2
          refine hK.out _ _ (((unhide XD).step (unhide KY2).bel).cells) (fun hS2 => ?_)
          clear hK K hS KY; have hS := hS2; clear hS2; have KY := KY2; clear KY2
          simp only [Act.put, List.getElem_toArray, List.getElem_cons_zero, List.getElem_cons_succ, List.setIfInBounds_toArray, List.set_cons_zero, List.set_cons_succ]
          obtain ⟨va, vc, rfl, _⟩ := es_of_owns ((unhide KY).hrow vk38 rfl) (by rw [List.length_append, toI_length, unhide HN]; simp; omega)
          rw [hlen1] at KY ⊢
          refine wpAnyH_take (i := 11) (v := ?_) rfl (by kernel_rfl) (by kernel_rfl) (by kernel_rfl) (fun _ _ _ h => h) (Or.inl ⟨by rfl, ?_⟩) hS ?_
          rotate_left
          · intro u hu; (try dsimp only at hu); go_simp; try with_reducible rfl
          simp only [Act.put, List.getElem_toArray, List.getElem_cons_zero, List.getElem_cons_succ, List.setIfInBounds_toArray, List.set_cons_zero, List.set_cons_succ]
          obtain ⟨t0, t1, t2, t3⟩ := (unhide KY).boxCells
          refine wpAnyH_ready (rs := [13]) (by kernel_rfl) (by simp) ?_
          refine AllReadyH.cons rfl (fun K hK => ?_) AllReadyH.nil
          go_simp
          have KZ := hide ((unhide KY).stored (.int .i64 (V : Int)) (.slice va (n + 1) vc))
          refine hK.out _ _ (((unhide XD).step (unhide KZ).1).cells) (fun hS2 => ?_)
          clear hK K hS hS2 t0 t1 t2 t3
          refine wpAnyH_done (by kernel_rfl) ?_ _
          go_wp2_with fail
          go_meet
          exact ⟨bk34, va, vc, rfl, (unhide XD).step (unhide KZ).1, (unhide KZ).2.1, (by have h := (unhide KZ).2.2; rw [unhide HSU] at h; exact h)⟩
      · go_simp
        have KY2 : Hid (Gm u0 (uk1.alloc (.cells #[.int .i64 0, .slice none 0 0] 33)) true (some (.slice (some ⟨bk2, 0, none⟩) 0 0)) [] none (some uk1.heap.size)) := (unhide KY).box
        refine hK.out _ _ (((unhide XD).step (unhide KY2).bel).cells) (fun hS2 => ?_)
        clear hK K hS KY; have hS := hS2; clear hS2; have KY := KY2; clear KY2
        generalize uk1.alloc (.cells #[.int .i64 0, .slice none 0 0] 33) = uk39 at KY hS ⊢
        generalize uk1.heap.size = bk40 at KY ⊢
        refine wpAnyH_ready (rs := [5, 9]) (by kernel_rfl) (by simp) ?_
        refine AllReadyH.cons rfl (fun K hK => ?_) (AllReadyH.cons rfl (fun K hK => ?_) AllReadyH.nil)
        · rw [if_pos (by rfl)]
          refine Gm.app (unhide KY) (.inl rfl) (.tmp 35) (.tmp 37) rfl rfl a n cap (toI es) rfl hnil ((unhide HEU).below (unhide KY).bel) (by simp; omega) ?_
          intro vk42 uk41 ky2
          rw [List.nil_append] at ky2
          have KY2 : Hid (Gm u0 uk41 false (some vk42) (toI es) none (some bk40)) := ky2
          clear ky2
          refine hK.out _ _ (((unhide XD).step (unhide KY2).bel).cells) (fun hS2 => ?_)
          clear hK K hS KY; have hS := hS2; clear hS2; have KY := KY2; clear KY2
          simp only [Act.put, List.getElem_toArray, List.getElem_cons_zero, List.getElem_cons_succ, List.setIfInBounds_toArray, List.set_cons_zero, List.set_cons_succ]
          refine wpAnyH_ready (rs := [9]) (by kernel_rfl) (by simp) ?_
          refine AllReadyH.cons rfl (fun K hK => ?_) AllReadyH.nil
          go_simp
          have KY2 : Hid (Gm u0 (uk41.alloc (.cells #[.int .i64 (p : Int), .int .i64 (q : Int)] 45)) false (some vk42) (toI es) (some (uk41.heap.size, (p : Int), (q : Int))) (some bk40)) := (unhide KY).edge (p : Int) (q : Int)
          refine hK.out _ _ (((unhide XD).step (unhide KY2).bel).cells) (fun hS2 => ?_)
          clear hK K hS KY; have hS := hS2; clear hS2; have KY := KY2; clear KY2
          generalize uk41.alloc (.cells #[.int .i64 (p : Int), .int .i64 (q : Int)] 45) = uk43 at KY hS ⊢
          generalize uk41.heap.size = bk44 at KY ⊢
          refine wpAnyH_ready (rs := [10]) (by kernel_rfl) (by simp) ?_
          refine AllReadyH.cons rfl (fun K hK => ?_) AllReadyH.nil
          rw [if_pos (by rfl)]
          refine Gm.appE (unhide KY) (.tmp 38) (.tmp 42) rfl rfl 1 rfl (by rw [toI_length, unhide HN]; omega) ?_
          intro vk46 uk45 ky2
          have KY2 : Hid (Gm u0 uk45 false (some vk46) (toI es ++ [((p : Int), (q : Int))]) none (some bk40)) := ky2
          clear ky2
          refine hK.out _ _ (((unhide XD).step (unhide KY2).bel).cells) (fun hS2 => ?_)
          clear hK K hS KY; have hS := hS2; clear hS2; have KY := KY2; clear KY2
          simp only [Act.put, List.getElem_toArray, List.getElem_cons_zero, List.getElem_cons_succ, List.setIfInBounds_toArray, List.set_cons_zero, List.set_cons_succ]
          obtain ⟨va, vc, rfl, _⟩ := es_of_owns ((unhide KY).hrow vk46 rfl) (by rw [List.length_append, toI_length, unhide HN]; simp; omega)
          rw [hlen1] at KY ⊢
          refine wpAnyH_take (i := 11) (v := ?_) rfl (by kernel_rfl) (by kernel_rfl) (by kernel_rfl) (fun _ _ _ h => h) (Or.inl ⟨by rfl, ?_⟩) hS ?_
          rotate_left
          · intro u hu; (try dsimp only at hu); go_simp; try with_reducible rfl
          simp only [Act.put, List.getElem_toArray, List.getElem_cons_zero, List.getElem_cons_succ, List.setIfInBounds_toArray, List.set_cons_zero, List.set_cons_succ]
          obtain ⟨t0, t1, t2, t3⟩ := (unhide KY).boxCells
          refine wpAnyH_ready (rs := [13]) (by kernel_rfl) (by simp) ?_
          refine AllReadyH.cons rfl (fun K hK => ?_) AllReadyH.nil
          go_simp
          have KZ := hide ((unhide KY).stored (.int .i64 (V : Int)) (.slice va (n + 1) vc))
          refine hK.out _ _ (((unhide XD).step (unhide KZ).1).cells) (fun hS2 => ?_)
          clear hK K hS hS2 t0 t1 t2 t3
          refine wpAnyH_done (by kernel_rfl) ?_ _
          go_wp2_with fail
          go_meet
          exact ⟨bk40, va, vc, rfl, (unhide XD).step (unhide KZ).1, (unhide KZ).2.1, (by have h := (unhide KZ).2.2; rw [unhide HSU] at h; exact h)⟩
        · go_simp
          have KY2 : Hid (Gm u0 (uk39.alloc (.cells #[.int .i64 (p : Int), .int .i64 (q : Int)] 45)) true (some (.slice (some ⟨bk2, 0, none⟩) 0 0)) [] (some (uk39.heap.size, (p : Int), (q : Int))) (some bk40)) := (unhide KY).edge (p : Int) (q : Int)
          refine hK.out _ _ (((unhide XD).step (unhide KY2).bel).cells) (fun hS2 => ?_)
          clear hK K hS KY; have hS := hS2; clear hS2; have KY := KY2; clear KY2
          generalize uk39.alloc (.cells #[.int .i64 (p : Int), .int .i64 (q : Int)] 45) = uk47 at KY hS ⊢
          generalize uk39.heap.size = bk48 at KY ⊢
          refine wpAnyH_ready (rs := [5]) (by kernel_rfl) (by simp) ?_
          refine AllReadyH.cons rfl (fun K hK => ?_) AllReadyH.nil
          rw [if_pos (by rfl)]
          refine Gm.app (unhide KY) (.inl rfl) (.tmp 35) (.tmp 37) rfl rfl a n cap (toI es) rfl hnil ((unhide HEU).below (unhide KY).bel) (by simp; omega) ?_
          intro vk50 uk49 ky2
          rw [List.nil_append] at ky2
          have KY2 : Hid (Gm u0 uk49 false (some vk50) (toI es) (some (bk48, (p : Int), (q : Int))) (some bk40)) := ky2
          clear ky2
          refine hK.out _ _ (((unhide XD).step (unhide KY2).bel).cells) (fun hS2 => ?_)
          clear hK K hS KY; have hS := hS2; clear hS2; have KY := KY2; clear KY2
          simp only [Act.put, List.getElem_toArray, List.getElem_cons_zero, List.getElem_cons_succ, List.setIfInBounds_toArray, List.set_cons_zero, List.set_cons_succ]
          refine wpAnyH_ready (rs := [10]) (by kernel_rfl) (by simp) ?_
          refine AllReadyH.cons rfl (fun K hK => ?_) AllReadyH.nil
          rw [if_pos (by rfl)]
          refine Gm.appE (unhide KY) (.tmp 38) (.tmp 42) rfl rfl 1 rfl (by rw [toI_length, unhide HN]; omega) ?_
          intro vk52 uk51 ky2
          have KY2 : Hid (Gm u0 uk51 false (some vk52) (toI es ++ [((p : Int), (q : Int))]) none (some bk40)) := ky2
          clear ky2
          refine hK.out _ _ (((unhide XD).step (unhide KY2).bel).cells) (fun hS2 => ?_)
          clear hK K hS KY; have hS := hS2; clear hS2; have KY := KY2; clear KY2
          simp only [Act.put, List.getElem_toArray, List.getElem_cons_zero, List.getElem_cons_succ, List.setIfInBounds_toArray, List.set_cons_zero, List.set_cons_succ]
          obtain ⟨va, vc, rfl, _⟩ := es_of_owns ((unhide KY).hrow vk52 rfl) (by rw [List.length_append, toI_length, unhide HN]; simp; omega)
          rw [hlen1] at KY ⊢
          refine wpAnyH_take (i := 11) (v := ?_) rfl (by kernel_rfl) (by kernel_rfl) (by kernel_rfl) (fun _ _ _ h => h) (Or.inl ⟨by rfl, ?_⟩) hS ?_
          rotate_left
          · intro u hu; (try dsimp only at hu); go_simp; try with_reducible rfl
          simp only [Act.put, List.getElem_toArray, List.getElem_cons_zero, List.getElem_cons_succ, List.setIfInBounds_toArray, List.set_cons_zero, List.set_cons_succ]
          obtain ⟨t0, t1, t2, t3⟩ := (unhide KY).boxCells
          refine wpAnyH_ready (rs := [13]) (by kernel_rfl) (by simp) ?_
          refine AllReadyH.cons rfl (fun K hK => ?_) AllReadyH.nil
          go_simp
          have KZ := hide ((unhide KY).stored (.int .i64 (V : Int)) (.slice va (n + 1) vc))
          refine hK.out _ _ (((unhide XD).step (unhide KZ).1).cells) (fun hS2 => ?_)
          clear hK K hS hS2 t0 t1 t2 t3
          refine wpAnyH_done (by kernel_rfl) ?_ _
          go_wp2_with fail
          go_meet
          exact ⟨bk40, va, vc, rfl, (unhide XD).step (unhide KZ).1, (unhide KZ).2.1, (by have h := (unhide KZ).2.2; rw [unhide HSU] at h; exact h)⟩
    · go_simp
      have KY2 : Hid (Gm u0 (u0.alloc (.cells #[.int .i64 (p : Int), .int .i64 (q : Int)] 45)) true none [] (some (u0.heap.size, (p : Int), (q : Int))) none) := (unhide KY).edge (p : Int) (q : Int)
      refine hK.out _ _ (((unhide XD).step (unhide KY2).bel).cells) (fun hS2 => ?_)
      clear hK K hS KY; have hS := hS2; clear hS2; have KY := KY2; clear KY2
      generalize u0.alloc (.cells #[.int .i64 (p : Int), .int .i64 (q : Int)] 45) = uk53 at KY hS ⊢
      generalize u0.heap.size = bk54 at KY ⊢
      refine wpAnyH_ready (rs := [2, 12]) (by kernel_rfl) (by simp) ?_
      refine AllReadyH.cons rfl (fun K hK => ?_) (AllReadyH.cons rfl (fun K hK => ?_) AllReadyH.nil)
      · go_simp
        have KY2 : Hid (Gm u0 (uk53.alloc (.cells #[] 45)) true (some (.slice (some ⟨uk53.heap.size, 0, none⟩) 0 0)) [] (some (bk54, (p : Int), (q : Int))) none) := (unhide KY).row
        refine hK.out _ _ (((unhide XD).step (unhide KY2).bel).cells) (fun hS2 => ?_)
        clear hK K hS KY; have hS := hS2; clear hS2; have KY := KY2; clear KY2
        generalize uk53.alloc (.cells #[] 45) = uk55 at KY hS ⊢
        generalize uk53.heap.size = bk56 at KY ⊢
        refine wpAnyH_ready (rs := [5, 12]) (by kernel_rfl) (by simp) ?_
        refine AllReadyH.cons rfl (fun K hK => ?_) (AllReadyH.cons rfl (fun K hK => ?_) AllReadyH.nil)
        · rw [if_pos (by rfl)]
          refine Gm.app (unhide KY) (.inl rfl) (.tmp 35) (.tmp 37) rfl rfl a n cap (toI es) rfl hnil ((unhide HEU).below (unhide KY).bel) (by simp; omega) ?_
          intro vk58 uk57 ky2
          rw [List.nil_append] at ky2
          have KY2 : Hid (Gm u0 uk57 false (some vk58) (toI es) (some (bk54, (p : Int), (q : Int))) none) := ky2
          clear ky2
          refine hK.out _ _ (((unhide XD).step (unhide KY2).bel).cells) (fun hS2 => ?_)
          clear hK K hS KY; have hS := hS2; clear hS2; have KY := KY2; clear KY2
          simp only [Act.put, List.getElem_toArray, List.getElem_cons_zero, List.getElem_cons_succ, List.setIfInBounds_toArray, List.set_cons_zero, List.set_cons_succ]
          refine wpAnyH_ready (rs := [10, 12]) (by kernel_rfl) (by simp) ?_
          refine AllReadyH.cons rfl (fun K hK => ?_) (AllReadyH.cons rfl (fun K hK => ?_) AllReadyH.nil)
          · rw [if_pos (by rfl)]
            refine Gm.appE (unhide KY) (.tmp 38) (.tmp 42) rfl rfl 1 rfl (by rw [toI_length, unhide HN]; omega) ?_
            intro vk60 uk59 ky2
            have KY2 : Hid (Gm u0 uk59 false (some vk60) (toI es ++ [((p : Int), (q : Int))]) none none) := ky2
            clear ky2
            refine hK.out _ _ (((unhide XD).step (unhide KY2).bel).cells) (fun hS2 => ?_)
            clear hK K hS KY; have hS := hS2; clear hS2; have KY := KY2; clear KY2
            simp only [Act.put, List.getElem_toArray, List.getElem_cons_zero, List.getElem_cons_succ, List.setIfInBounds_toArray, List.set_cons_zero, List.set_cons_succ]
            obtain ⟨va, vc, rfl, _⟩ := es_of_owns ((unhide KY).hrow vk60 rfl) (by rw [List.length_append, toI_length, unhide HN]; simp; omega)
            rw [hlen1] at KY ⊢
            refine wpAnyH_take (i := 11) (v := ?_) rfl (by kernel_rfl) (by kernel_rfl) (by kernel_rfl) (fun _ _ _ h => h) (Or.inl ⟨by rfl, ?_⟩) hS ?_
            rotate_left
            · intro u hu; (try dsimp only at hu); go_simp; try with_reducible rfl
            simp only [Act.put, List.getElem_toArray, List.getElem_cons_zero, List.getElem_cons_succ, List.setIfInBounds_toArray, List.set_cons_zero, List.set_cons_succ]
            refine wpAnyH_ready (rs := [12]) (by kernel_rfl) (by simp) ?_
            refine AllReadyH.cons rfl (fun K hK => ?_) AllReadyH.nil
            go_simp
            have KY2 : Hid (Gm u0 (uk59.alloc (.cells #[.int .i64 0, .slice none 0 0] 33)) false (some (.slice va (n + 1) vc)) (toI es ++ [((p : Int), (q : Int))]) none (some uk59.heap.size)) := (unhide KY).box
            refine hK.out _ _ (((unhide XD).step (unhide KY2).bel).cells) (fun hS2 => ?_)
            clear hK K hS KY; have hS := hS2; clear hS2; have KY := KY2; clear KY2
            generalize uk59.alloc (.cells #[.int .i64 0, .slice none 0 0] 33) = uk61 at KY hS ⊢
            generalize uk59.heap.size = bk62 at KY ⊢
            obtain ⟨t0, t1, t2, t3⟩ := (unhide KY).boxCells
            refine wpAnyH_ready (rs := [13]) (by kernel_rfl) (by simp) ?_
            refine AllReadyH.cons rfl (fun K hK => ?_) AllReadyH.nil
            go_simp
            have KZ := hide ((unhide KY).stored (.int .i64 (V : Int)) (.slice va (n + 1) vc))
            refine hK.out _ _ (((unhide XD).step (unhide KZ).1).cells) (fun hS2 => ?_)
            clear hK K hS hS2 t0 t1 t2 t3
            refine wpAnyH_done (by kernel_rfl) ?_ _
            go_wp2_with fail
            go_meet
            exact ⟨bk62, va, vc, rfl, (unhide XD).step (unhide KZ).1, (unhide KZ).2.1, (by have h := (unhide KZ).2.2; rw [unhide HSU] at h; exact h)⟩
          · go_simp
            have KY2 : Hid (Gm u0 (uk57.alloc (.cells #[.int .i64 0, .slice none 0 0] 33)) false (some vk58) (toI es) (some (bk54, (p : Int), (q : Int))) (some uk57.heap.size)) := (unhide KY).box
            refine hK.out _ _ (((unhide XD).step (unhide KY2).bel).cells) (fun hS2 => ?_)
            clear hK K hS KY; have hS := hS2; clear hS2; have KY := KY2; clear KY2
            generalize uk57.alloc (.cells #[.int .i64 0, .slice none 0 0] 33) = uk63 at KY hS ⊢
            generalize uk57.heap.size = bk64 at KY ⊢
            refine wpAnyH_ready (rs := [10]) (by kernel_rfl) (by simp) ?_
            refine AllReadyH.cons rfl (fun K hK => ?_) AllReadyH.nil
            rw [if_pos (by rfl)]
            refine Gm.appE (unhide KY) (.tmp 38) (.tmp 42) rfl rfl 1 rfl (by rw [toI_length, unhide HN]; omega) ?_
            intro vk66 uk65 ky2
            have KY2 : Hid (Gm u0 uk65 false (some vk66) (toI es ++ [((p : Int), (q : Int))]) none (some bk64)) := ky2
            clear ky2
            refine hK.out _ _ (((unhide XD).step (unhide KY2).bel).cells) (fun hS2 => ?_)
            clear hK K hS KY; have hS := hS2; clear hS2; have KY := KY2; clear KY2
            simp only [Act.put, List.getElem_toArray, List.getElem_cons_zero, List.getElem_cons_succ, List.setIfInBounds_toArray, List.set_cons_zero, List.set_cons_succ]
            obtain ⟨va, vc, rfl, _⟩ := es_of_owns ((unhide KY).hrow vk66 rfl) (by rw [List.length_append, toI_length, unhide HN]; simp; omega)
            rw [hlen1] at KY ⊢
            refine wpAnyH_take (i := 11) (v := ?_) rfl (by kernel_rfl) (by kernel_rfl) (by kernel_rfl) (fun _ _ _ h => h) (Or.inl ⟨by rfl, ?_⟩) hS ?_
            rotate_left
            · intro u hu; (try dsimp only at hu); go_simp; try with_reducible rfl
            simp only [Act.put, List.getElem_toArray, List.getElem_cons_zero, List.getElem_cons_succ, List.setIfInBounds_toArray, List.set_cons_zero, List.set_cons_succ]
            obtain ⟨t0, t1, t2, t3⟩ := (unhide KY).boxCells
            refine wpAnyH_ready (rs := [13]) (by kernel_rfl) (by simp) ?_
            refine AllReadyH.cons rfl (fun K hK => ?_) AllReadyH.nil
            go_simp
            have KZ := hide ((unhide KY).stored (.int .i64 (V : Int)) (.slice va (n + 1) vc))
            refine hK.out _ _ (((unhide XD).step (unhide KZ).1).cells) (fun hS2 => ?_)
            clear hK K hS hS2 t0 t1 t2 t3
            refine wpAnyH_done (by kernel_rfl) ?_ _
            go_wp2_with fail
            go_meet
            exact ⟨bk64, va, vc, rfl, (unhide XD).step (unhide KZ).1, (unhide KZ).2.1, (by have h := (unhide KZ).2.2; rw [unhide HSU] at h; exact h)⟩
        · go_simp
          have KY2 : Hid (Gm u0 (uk55.alloc (.cells #[.int .i64 0, .slice none 0 0] 33)) true (some (.slice (some ⟨bk56, 0, none⟩) 0 0)) [] (some (bk54, (p : Int), (q : Int))) (some uk55.heap.size)) := (unhide KY).box
          refine hK.out _ _ (((unhide XD).step (unhide KY2).bel).cells) (fun hS2 => ?_)
          clear hK K hS KY; have hS := hS2; clear hS2; have KY := KY2; clear KY2
          generalize uk55.alloc (.cells #[.int .i64 0, .slice none 0 0] 33) = uk67 at KY hS ⊢
          generalize uk55.heap.size = bk68 at KY ⊢
          refine wpAnyH_ready (rs := [5]) (by kernel_rfl) (by simp) ?_
          refine AllReadyH.cons rfl (fun K hK => ?_) AllReadyH.nil
          rw [if_pos (by rfl)]
          refine Gm.app (unhide KY) (.inl rfl) (.tmp 35) (.tmp 37) rfl rfl a n cap (toI es) rfl hnil ((unhide HEU).below (unhide KY).bel) (by simp; omega) ?_
          intro vk70 uk69 ky2
          rw [List.nil_append] at ky2
          have KY2 : Hid (Gm u0 uk69 false (some vk70) (toI es) (some (bk54, (p : Int), (q : Int))) (some bk68)) := ky2
          clear ky2
          refine hK.out _ _ (((unhide XD).step (unhide KY2).bel).cells) (fun hS2 => ?_)
          clear hK K hS KY; have hS := hS2; clear hS2; have KY := KY2; clear KY2
          simp only [Act.put, List.getElem_toArray, List.getElem_cons_zero, List.getElem_cons_succ, List.setIfInBounds_toArray, List.set_cons_zero, List.set_cons_succ]
          refine wpAnyH_ready (rs := [10]) (by kernel_rfl) (by simp) ?_
          refine AllReadyH.cons rfl (fun K hK => ?_) AllReadyH.nil
          rw [if_pos (by rfl)]
          refine Gm.appE (unhide KY) (.tmp 38) (.tmp 42) rfl rfl 1 rfl (by rw [toI_length, unhide HN]; omega) ?_
          intro vk72 uk71 ky2
          have KY2 : Hid (Gm u0 uk71 false (some vk72) (toI es ++ [((p : Int), (q : Int))]) none (some bk68)) := ky2
          clear ky2
          refine hK.out _ _ (((unhide XD).step (unhide KY2).bel).cells) (fun hS2 => ?_)
          clear hK K hS KY; have hS := hS2; clear hS2; have KY := KY2; clear KY2
          simp only [Act.put, List.getElem_toArray, List.getElem_cons_zero, List.getElem_cons_succ, List.setIfInBounds_toArray, List.set_cons_zero, List.set_cons_succ]
          obtain ⟨va, vc, rfl, _⟩ := es_of_owns ((unhide KY).hrow vk72 rfl) (by rw [List.length_append, toI_length, unhide HN]; simp; omega)
          rw [hlen1] at KY ⊢
          refine wpAnyH_take (i := 11) (v := ?_) rfl (by kernel_rfl) (by kernel_rfl) (by kernel_rfl) (fun _ _ _ h => h) (Or.inl ⟨by rfl, ?_⟩) hS ?_
          rotate_left
          · intro u hu; (try dsimp only at hu); go_simp; try with_reducible rfl
          simp only [Act.put, List.getElem_toArray, List.getElem_cons_zero, List.getElem_cons_succ, List.setIfInBounds_toArray, List.set_cons_zero, List.set_cons_succ]
          obtain ⟨t0, t1, t2, t3⟩ := (unhide KY).boxCells
          refine wpAnyH_ready (rs := [13]) (by kernel_rfl) (by simp) ?_
          refine AllReadyH.cons rfl (fun K hK => ?_) AllReadyH.nil
          go_simp
          have KZ := hide ((unhide KY).stored (.int .i64 (V : Int)) (.slice va (n + 1) vc))
          refine hK.out _ _ (((unhide XD).step (unhide KZ).1).cells) (fun hS2 => ?_)
          clear hK K hS hS2 t0 t1 t2 t3
          refine wpAnyH_done (by kernel_rfl) ?_ _
          go_wp2_with fail
          go_meet
          exact ⟨bk68, va, vc, rfl, (unhide XD).step (unhide KZ).1, (unhide KZ).2.1, (by have h := (unhide KZ).2.2; rw [unhide HSU] at h; exact h)⟩
      · go_simp
        have KY2 : Hid (Gm u0 (uk53.alloc (.cells #[.int .i64 0, .slice none 0 0] 33)) true none [] (some (bk54, (p : Int), (q : Int))) (some uk53.heap.size)) := (unhide KY).box
        refine hK.out _ _ (((unhide XD).step (unhide KY2).bel).cells) (fun hS2 => ?_)
        clear hK K hS KY; have hS := hS2; clear hS2; have KY := KY2; clear KY2
        generalize uk53.alloc (.cells #[.int .i64 0, .slice none 0 0] 33) = uk73 at KY hS ⊢
        generalize uk53.heap.size = bk74 at KY ⊢
        refine wpAnyH_ready (rs := [2]) (by kernel_rfl) (by simp) ?_
        refine AllReadyH.cons rfl (fun K hK => ?_) AllReadyH.nil
        go_simp
        have KY2 : Hid (Gm u0 (uk73.alloc (.cells #[] 45)) true (some (.slice (some ⟨uk73.heap.size, 0, none⟩) 0 0)) [] (some (bk54, (p : Int), (q : Int))) (some bk74)) := (unhide KY).row
        refine hK.out _ _ (((unhide XD).step (unhide KY2).bel).cells) (fun hS2 => ?_)
        clear hK K hS KY; have hS := hS2; clear hS2; have KY := KY2; clear KY2
        generalize uk73.alloc (.cells #[] 45) = uk75 at KY hS ⊢
        generalize uk73.heap.size = bk76 at KY ⊢
        refine wpAnyH_ready (rs := [5]) (by kernel_rfl) (by simp) ?_
        refine AllReadyH.cons rfl (fun K hK => ?_) AllReadyH.nil
        rw [if_pos (by rfl)]
        refine Gm.app (unhide KY) (.inl rfl) (.tmp 35) (.tmp 37) rfl rfl a n cap (toI es) rfl hnil ((unhide HEU).below (unhide KY).bel) (by simp; omega) ?_
        intro vk78 uk77 ky2
        rw [List.nil_append] at ky2
        have KY2 : Hid (Gm u0 uk77 false (some vk78) (toI es) (some (bk54, (p : Int), (q : Int))) (some bk74)) := ky2
        clear ky2
        refine hK.out _ _ (((unhide XD).step (unhide KY2).bel).cells) (fun hS2 => ?_)
        clear hK K hS KY; have hS := hS2; clear hS2; have KY := KY2; clear KY2
        simp only [Act.put, List.getElem_toArray, List.getElem_cons_zero, List.getElem_cons_succ, List.setIfInBounds_toArray, List.set_cons_zero, List.set_cons_succ]
        refine wpAnyH_ready (rs := [10]) (by kernel_rfl) (by simp) ?_
        refine AllReadyH.cons rfl (fun K hK => ?_) AllReadyH.nil
        rw [if_pos (by rfl)]
        refine Gm.appE (unhide KY) (.tmp 38) (.tmp 42) rfl rfl 1 rfl (by rw [toI_length, unhide HN]; omega) ?_
        intro vk80 uk79 ky2
        have KY2 : Hid (Gm u0 uk79 false (some vk80) (toI es ++ [((p : Int), (q : Int))]) none (some bk74)) := ky2
        clear ky2
        refine hK.out _ _ (((unhide XD).step (unhide KY2).bel).cells) (fun hS2 => ?_)
        clear hK K hS KY; have hS := hS2; clear hS2; have KY := KY2; clear KY2
        simp only [Act.put, List.getElem_toArray, List.getElem_cons_zero, List.getElem_cons_succ, List.setIfInBounds_toArray, List.set_cons_zero, List.set_cons_succ]
        obtain ⟨va, vc, rfl, _⟩ := es_of_owns ((unhide KY).hrow vk80 rfl) (by rw [List.length_append, toI_length, unhide HN]; simp; omega)
        rw [hlen1] at KY ⊢
        refine wpAnyH_take (i := 11) (v := ?_) rfl (by kernel_rfl) (by kernel_rfl) (by kernel_rfl) (fun _ _ _ h => h) (Or.inl ⟨by rfl, ?_⟩) hS ?_
        rotate_left
        · intro u hu; (try dsimp only at hu); go_simp; try with_reducible rfl
        simp only [Act.put, List.getElem_toArray, List.getElem_cons_zero, List.getElem_cons_succ, List.setIfInBounds_toArray, List.set_cons_zero, List.set_cons_succ]
        obtain ⟨t0, t1, t2, t3⟩ := (unhide KY).boxCells
        refine wpAnyH_ready (rs := [13]) (by kernel_rfl) (by simp) ?_
        refine AllReadyH.cons rfl (fun K hK => ?_) AllReadyH.nil
        go_simp
        have KZ := hide ((unhide KY).stored (.int .i64 (V : Int)) (.slice va (n + 1) vc))
        refine hK.out _ _ (((unhide XD).step (unhide KZ).1).cells) (fun hS2 => ?_)
        clear hK K hS hS2 t0 t1 t2 t3
        refine wpAnyH_done (by kernel_rfl) ?_ _
        go_wp2_with fail
        go_meet
        exact ⟨bk74, va, vc, rfl, (unhide XD).step (unhide KZ).1, (unhide KZ).2.1, (by have h := (unhide KZ).2.2; rw [unhide HSU] at h; exact h)⟩
    · go_simp
      have KY2 : Hid (Gm u0 (u0.alloc (.cells #[.int .i64 0, .slice none 0 0] 33)) true none [] none (some u0.heap.size)) := (unhide KY).box
      refine hK.out _ _ (((unhide XD).step (unhide KY2).bel).cells) (fun hS2 => ?_)
      clear hK K hS KY; have hS := hS2; clear hS2; have KY := KY2; clear KY2
      generalize u0.alloc (.cells #[.int .i64 0, .slice none 0 0] 33) = uk81 at KY hS ⊢
      generalize u0.heap.size = bk82 at KY ⊢
      refine wpAnyH_ready (rs := [2, 9]) (by kernel_rfl) (by simp) ?_
      refine AllReadyH.cons rfl (fun K hK => ?_) (AllReadyH.cons rfl (fun K hK => ?_) AllReadyH.nil)
      · go_simp
        have KY2 : Hid (Gm u0 (uk81.alloc (.cells #[] 45)) true (some (.slice (some ⟨uk81.heap.size, 0, none⟩) 0 0)) [] none (some bk82)) := (unhide KY).row
        refine hK.out _ _ (((unhide XD).step (unhide KY2).bel).cells) (fun hS2 => ?_)
        clear hK K hS KY; have hS := hS2; clear hS2; have KY := KY2; clear KY2
        generalize uk81.alloc (.cells #[] 45) = uk83 at KY hS ⊢
        generalize uk81.heap.size = bk84 at KY ⊢
        refine wpAnyH_ready (rs := [5, 9]) (by kernel_rfl) (by simp) ?_
        refine AllReadyH.cons rfl (fun K hK => ?_) (AllReadyH.cons rfl (fun K hK => ?_) AllReadyH.nil)
        · rw [if_pos (by rfl)]
          refine Gm.app (unhide KY) (.inl rfl) (.tmp 35) (.tmp 37) rfl rfl a n cap (toI es) rfl hnil ((unhide HEU).below (unhide KY).bel) (by simp; omega) ?_
          intro vk86 uk85 ky2
          rw [List.nil_append] at ky2
          have KY2 : Hid (Gm u0 uk85 false (some vk86) (toI es) none (some bk82)) := ky2
          clear ky2
          refine hK.out _ _ (((unhide XD).step (unhide KY2).bel).cells) (fun hS2 => ?_)
          clear hK K hS KY; have hS := hS2; clear hS2; have KY := KY2; clear KY2
          simp only [Act.put, List.getElem_toArray, List.getElem_cons_zero, List.getElem_cons_succ, List.setIfInBounds_toArray, List.set_cons_zero, List.set_cons_succ]
          refine wpAnyH_ready (rs := [9]) (by kernel_rfl) (by simp) ?_
          refine AllReadyH.cons rfl (fun K hK => ?_) AllReadyH.nil
          go_simp
          have KY2 : Hid (Gm u0 (uk85.alloc (.cells #[.int .i64 (p : Int), .int .i64 (q : Int)] 45)) false (some vk86) (toI es) (some (uk85.heap.size, (p : Int), (q : Int))) (some bk82)) := (unhide KY).edge (p : Int) (q : Int)
          refine hK.out _ _ (((unhide XD).step (unhide KY2).bel).cells) (fun hS2 => ?_)
          clear hK K hS KY; have hS := hS2; clear hS2; have KY := KY2; clear KY2
          generalize uk85.alloc (.cells #[.int .i64 (p : Int), .int .i64 (q : Int)] 45) = uk87 at KY hS ⊢
          generalize uk85.heap.size = bk88 at KY ⊢
          refine wpAnyH_ready (rs := [10]) (by kernel_rfl) (by simp) ?_
          refine AllReadyH.cons rfl (fun K hK => ?_) AllReadyH.nil
          rw [if_pos (by rfl)]
          refine Gm.appE (unhide KY) (.tmp 38) (.tmp 42) rfl rfl 1 rfl (by rw [toI_length, unhide HN]; omega) ?_
          intro vk90 uk89 ky2
          have KY2 : Hid (Gm u0 uk89 false (some vk90) (toI es ++ [((p : Int), (q : Int))]) none (some bk82)) := ky2
          clear ky2
          refine hK.out _ _ (((unhide XD).step (unhide KY2).bel).cells) (fun hS2 => ?_)
          clear hK K hS KY; have hS := hS2; clear hS2; have KY := KY2; clear KY2
          simp only [Act.put, List.getElem_toArray, List.getElem_cons_zero, List.getElem_cons_succ, List.setIfInBounds_toArray, List.set_cons_zero, List.set_cons_succ]
          obtain ⟨va, vc, rfl, _⟩ := es_of_owns ((unhide KY).hrow vk90 rfl) (by rw [List.length_append, toI_length, unhide HN]; simp; omega)
          rw [hlen1] at KY ⊢
          refine wpAnyH_take (i := 11) (v := ?_) rfl (by kernel_rfl) (by kernel_rfl) (by kernel_rfl) (fun _ _ _ h => h) (Or.inl ⟨by rfl, ?_⟩) hS ?_
          rotate_left
          · intro u hu; (try dsimp only at hu); go_simp; try with_reducible rfl
          simp only [Act.put, List.getElem_toArray, List.getElem_cons_zero, List.getElem_cons_succ, List.setIfInBounds_toArray, List.set_cons_zero, List.set_cons_succ]
          obtain ⟨t0, t1, t2, t3⟩ := (unhide KY).boxCells
          refine wpAnyH_ready (rs := [13]) (by kernel_rfl) (by simp) ?_
          refine AllReadyH.cons rfl (fun K hK => ?_) AllReadyH.nil
          go_simp
          have KZ := hide ((unhide KY).stored (.int .i64 (V : Int)) (.slice va (n + 1) vc))
          refine hK.out _ _ (((unhide XD).step (unhide KZ).1).cells) (fun hS2 => ?_)
          clear hK K hS hS2 t0 t1 t2 t3
          refine wpAnyH_done (by kernel_rfl) ?_ _
          go_wp2_with fail
          go_meet
          exact ⟨bk82, va, vc, rfl, (unhide XD).step (unhide KZ).1, (unhide KZ).2.1, (by have h := (unhide KZ).2.2; rw [unhide HSU] at h; exact h)⟩
        · go_simp
          have KY2 : Hid (Gm u0 (uk83.alloc (.cells #[.int .i64 (p : Int), .int .i64 (q : Int)] 45)) true (some (.slice (some ⟨bk84, 0, none⟩) 0 0)) [] (some (uk83.heap.size, (p : Int), (q : Int))) (some bk82)) := (unhide KY).edge (p : Int) (q : Int)
          refine hK.out _ _ (((unhide XD).step (unhide KY2).bel).cells) (fun hS2 => ?_)
          clear hK K hS KY; have hS := hS2; clear hS2; have KY := KY2; clear KY2
          generalize uk83.alloc (.cells #[.int .i64 (p : Int), .int .i64 (q : Int)] 45) = uk91 at KY hS ⊢
          generalize uk83.heap.size = bk92 at KY ⊢
          refine wpAnyH_ready (rs := [5]) (by kernel_rfl) (by simp) ?_
          refine AllReadyH.cons rfl (fun K hK => ?_) AllReadyH.nil
          rw [if_pos (by rfl)]
          refine Gm.app (unhide KY) (.inl rfl) (.tmp 35) (.tmp 37) rfl rfl a n cap (toI es) rfl hnil ((unhide HEU).below (unhide KY).bel) (by simp; omega) ?_
          intro vk94 uk93 ky2
          rw [List.nil_append] at ky2
          have KY2 : Hid (Gm u0 uk93 false (some vk94) (toI es) (some (bk92, (p : Int), (q : Int))) (some bk82)) := ky2
          clear ky2
          refine hK.out _ _ (((unhide XD).step (unhide KY2).bel).cells) (fun hS2 => ?_)
          clear hK K hS KY; have hS := hS2; clear hS2; have KY := KY2; clear KY2
          simp only [Act.put, List.getElem_toArray, List.getElem_cons_zero, List.getElem_cons_succ, List.setIfInBounds_toArray, List.set_cons_zero, List.set_cons_succ]
          refine wpAnyH_ready (rs := [10]) (by kernel_rfl) (by simp) ?_
          refine AllReadyH.cons rfl (fun K hK => ?_) AllReadyH.nil
          rw [if_pos (by rfl)]
          refine Gm.appE (unhide KY) (.tmp 38) (.tmp 42) rfl rfl 1 rfl (by rw [toI_length, unhide HN]; omega) ?_
          intro vk96 uk95 ky2
          have KY2 : Hid (Gm u0 uk95 false (some vk96) (toI es ++ [((p : Int), (q : Int))]) none (some bk82)) := ky2
          clear ky2
          refine hK.out _ _ (((unhide XD).step (unhide KY2).bel).cells) (fun hS2 => ?_)
          clear hK K hS KY; have hS := hS2; clear hS2; have KY := KY2; clear KY2
          simp only [Act.put, List.getElem_toArray, List.getElem_cons_zero, List.getElem_cons_succ, List.setIfInBounds_toArray, List.set_cons_zero, List.set_cons_succ]
          obtain ⟨va, vc, rfl, _⟩ := es_of_owns ((unhide KY).hrow vk96 rfl) (by rw [List.length_append, toI_length, unhide HN]; simp; omega)
          rw [hlen1] at KY ⊢
          refine wpAnyH_take (i := 11) (v := ?_) rfl (by kernel_rfl) (by kernel_rfl) (by kernel_rfl) (fun _ _ _ h => h) (Or.inl ⟨by rfl, ?_⟩) hS ?_
          rotate_left
          · intro u hu; (try dsimp only at hu); go_simp; try with_reducible rfl
          simp only [Act.put, List.getElem_toArray, List.getElem_cons_zero, List.getElem_cons_succ, List.setIfInBounds_toArray, List.set_cons_zero, List.set_cons_succ]
          obtain ⟨t0, t1, t2, t3⟩ := (unhide KY).boxCells
          refine wpAnyH_ready (rs := [13]) (by kernel_rfl) (by simp) ?_
          refine AllReadyH.cons rfl (fun K hK => ?_) AllReadyH.nil
          go_simp
          have KZ := hide ((unhide KY).stored (.int .i64 (V : Int)) (.slice va (n + 1) vc))
          refine hK.out _ _ (((unhide XD).step (unhide KZ).1).cells) (fun hS2 => ?_)
          clear hK K hS hS2 t0 t1 t2 t3
          refine wpAnyH_done (by kernel_rfl) ?_ _
          go_wp2_with fail
          go_meet
          exact ⟨bk82, va, vc, rfl, (unhide XD).step (unhide KZ).1, (unhide KZ).2.1, (by have h := (unhide KZ).2.2; rw [unhide HSU] at h; exact h)⟩
      · go_simp
        have KY2 : Hid (Gm u0 (uk81.alloc (.cells #[.int .i64 (p : Int), .int .i64 (q : Int)] 45)) true none [] (some (uk81.heap.size, (p : Int), (q : Int))) (some bk82)) := (unhide KY).edge (p : Int) (q : Int)
        refine hK.out _ _ (((unhide XD).step (unhide KY2).bel).cells) (fun hS2 => ?_)
        clear hK K hS KY; have hS := hS2; clear hS2; have KY := KY2; clear KY2
        generalize uk81.alloc (.cells #[.int .i64 (p : Int), .int .i64 (q : Int)] 45) = uk97 at KY hS ⊢
        generalize uk81.heap.size = bk98 at KY ⊢
        refine wpAnyH_ready (rs := [2]) (by kernel_rfl) (by simp) ?_
        refine AllReadyH.cons rfl (fun K hK => ?_) AllReadyH.nil
        go_simp
        have KY2 : Hid (Gm u0 (uk97.alloc (.cells #[] 45)) true (some (.slice (some ⟨uk97.heap.size, 0, none⟩) 0 0)) [] (some (bk98, (p : Int), (q : Int))) (some bk82)) := (unhide KY).row
        refine hK.out _ _ (((unhide XD).step (unhide KY2).bel).cells) (fun hS2 => ?_)
        clear hK K hS KY; have hS := hS2; clear hS2; have KY := KY2; clear KY2
        generalize uk97.alloc (.cells #[] 45) = uk99 at KY hS ⊢
        generalize uk97.heap.size = bk100 at KY ⊢
        refine wpAnyH_ready (rs := [5]) (by kernel_rfl) (by simp) ?_
        refine AllReadyH.cons rfl (fun K hK => ?_) AllReadyH.nil
        rw [if_pos (by rfl)]
        refine Gm.app (unhide KY) (.inl rfl) (.tmp 35) (.tmp 37) rfl rfl a n cap (toI es) rfl hnil ((unhide HEU).below (unhide KY).bel) (by simp; omega) ?_
        intro vk102 uk101 ky2
        rw [List.nil_append] at ky2
        have KY2 : Hid (Gm u0 uk101 false (some vk102) (toI es) (some (bk98, (p : Int), (q : Int))) (some bk82)) := ky2
        clear ky2
        refine hK.out _ _ (((unhide XD).step (unhide KY2).bel).cells) (fun hS2 => ?_)
        clear hK K hS KY; have hS := hS2; clear hS2; have KY := KY2; clear KY2
        simp only [Act.put, List.getElem_toArray, List.getElem_cons_zero, List.getElem_cons_succ, List.setIfInBounds_toArray, List.set_cons_zero, List.set_cons_succ]
        refine wpAnyH_ready (rs := [10]) (by kernel_rfl) (by simp) ?_
        refine AllReadyH.cons rfl (fun K hK => ?_) AllReadyH.nil
        rw [if_pos (by rfl)]
        refine Gm.appE (unhide KY) (.tmp 38) (.tmp 42) rfl rfl 1 rfl (by rw [toI_length, unhide HN]; omega) ?_
        intro vk104 uk103 ky2
        have KY2 : Hid (Gm u0 uk103 false (some vk104) (toI es ++ [((p : Int), (q : Int))]) none (some bk82)) := ky2
        clear ky2
        refine hK.out _ _ (((unhide XD).step (unhide KY2).bel).cells) (fun hS2 => ?_)
        clear hK K hS KY; have hS := hS2; clear hS2; have KY := KY2; clear KY2
        simp only [Act.put, List.getElem_toArray, List.getElem_cons_zero, List.getElem_cons_succ, List.setIfInBounds_toArray, List.set_cons_zero, List.set_cons_succ]
        obtain ⟨va, vc, rfl, _⟩ := es_of_owns ((unhide KY).hrow vk104 rfl) (by rw [List.length_append, toI_length, unhide HN]; simp; omega)
        rw [hlen1] at KY ⊢
        refine wpAnyH_take (i := 11) (v := ?_) rfl (by kernel_rfl) (by kernel_rfl) (by kernel_rfl) (fun _ _ _ h => h) (Or.inl ⟨by rfl, ?_⟩) hS ?_
        rotate_left
        · intro u hu; (try dsimp only at hu); go_simp; try with_reducible rfl
        simp only [Act.put, List.getElem_toArray, List.getElem_cons_zero, List.getElem_cons_succ, List.setIfInBounds_toArray, List.set_cons_zero, List.set_cons_succ]
        obtain ⟨t0, t1, t2, t3⟩ := (unhide KY).boxCells
        refine wpAnyH_ready (rs := [13]) (by kernel_rfl) (by simp) ?_
        refine AllReadyH.cons rfl (fun K hK => ?_) AllReadyH.nil
        go_simp
        have KZ := hide ((unhide KY).stored (.int .i64 (V : Int)) (.slice va (n + 1) vc))
        refine hK.out _ _ (((unhide XD).step (unhide KZ).1).cells) (fun hS2 => ?_)
        clear hK K hS hS2 t0 t1 t2 t3
        refine wpAnyH_done (by kernel_rfl) ?_ _
        go_wp2_with fail
        go_meet
        exact ⟨bk82, va, vc, rfl, (unhide XD).step (unhide KZ).1, (unhide KZ).2.1, (by have h := (unhide KZ).2.2; rw [unhide HSU] at h; exact h)⟩

  case rest =>
    obtain ⟨gb, va, vc, rfl, HB4, HG4, HO4⟩ := hcut
    obtain ⟨F, hF⟩ := allReach_ex (unhide HP)
    have hPx := snoc_plain (unhide HP) (by rw [unhide HN]; exact hn) hpV hqV
    obtain ⟨F', hF'⟩ := allReach_ex hPx
    have HEX := hide (show Es w3.heap.size wc va (n + 1) (toI (es ++ [(p, q)])) by
      obtain ⟨a', c', he, hh⟩ := es_of_owns (unhide HO4) (by rw [hlen1]; omega)
      rw [hlen1] at he hh
      cases he
      have : toI (es ++ [(p, q)]) = toI es ++ [((p : Int), (q : Int))] := by simp [toI]
      rw [this]
      exact hh)
    have HF1 := hide (fun (u : World) (hT : Tab u) (h : Es B u a n (toI es)) => show Calls Tryd.prog 12 #[.agg #[.int .i64 V, .slice a n cap]] u fun e w' => (∃ g, e = .returned (.slice (some ⟨g, 0, none⟩) V V) ∧ u.heap.size ≤ g ∧ RowU w' g V F) ∧ Below u.heap.size u w' from by
      have hl := unhide HN
      subst hl
      exact from_all u hT V a cap es h (unhide HP) F hF)
    have HF2 := hide (fun (u : World) (hT : Tab u) (h : Es w3.heap.size u va (n + 1) (toI (es ++ [(p, q)]))) => show Calls Tryd.prog 12 #[.agg #[.int .i64 V, .slice va (n + 1) vc]] u fun e w' => (∃ g, e = .returned (.slice (some ⟨g, 0, none⟩) V V) ∧ u.heap.size ≤ g ∧ RowU w' g V F') ∧ Below u.heap.size u w' from by
      have hl : n + 1 = (es ++ [(p, q)]).length := by rw [List.length_append, unhide HN]; rfl
      rw [hl] at h ⊢
      exact from_all u hT V va vc _ h hPx F' hF')
    have HRS := hide (fun i hi => reach_snoc hF hF' hqV i hi)
    have HFL := hide (fun i hi => (hF i hi).1)
    have HFR := hide (fun i hi => show (F i).testBit i = true from ((hF i hi).2 i).2 .refl)
    clear hF hF' hPx hlen1 HO4 hnil
    have HCX := hide (fun (u : World) (X : Below wc.heap.size wc u) => show u.cell? ⟨w.heap.size, 0, none⟩ = some (.int .i64 V) ∧ u.cell? ⟨w.heap.size, 1, none⟩ = some (.slice a n cap) ∧ u.cell? ⟨gb, 0, none⟩ = some (.int .i64 V) ∧ u.cell? ⟨gb, 1, none⟩ = some (.slice va (n + 1) vc) from by
      have hc := ((unhide HB4).step X).cells
      have hg : u.heap[gb]? = some (.cells #[.int .i64 (V : Int), .slice va (n + 1) vc] 33 (0, 0)) := by rw [X.block gb (heap_lt (unhide HG4))]; exact unhide HG4
      exact ⟨hc.1, hc.2, by simp [World.cell?, hg], by simp [World.cell?, hg]⟩)
    go_wp2_with fail
    refine wp_region_held_drew (S := fun u => u.cell? ⟨w.heap.size, 0, none⟩ = some (.int .i64 V) ∧ u.cell? ⟨w.heap.size, 1, none⟩ = some (.slice a n cap) ∧ u.cell? ⟨gb, 0, none⟩ = some (.int .i64 V) ∧ u.cell? ⟨gb, 1, none⟩ = some (.slice va (n + 1) vc)) (by kernel_rfl) (unhide HCX _ (Below.refl _ _).drew) (fun hS => ?_)
    have X5 := hide (show Below wc.heap.size wc wc.drew from (Below.refl _ _).drew)
    generalize wc.drew = w5 at X5 hS ⊢
    refine wpAnyH_take (i := 0) (v := ?_) rfl (by kernel_rfl) (by kernel_rfl) (by kernel_rfl) (fun _ _ _ h => h) (Or.inl ⟨by rfl, ?_⟩) hS ?_
    rotate_left
    · intro u hu; (try dsimp only at hu); go_simp; try with_reducible rfl
    simp only [Act.put, List.getElem_toArray, List.getElem_cons_zero, List.setIfInBounds_toArray, List.set_cons_zero, List.set_cons_succ]
    refine wpAnyH_take (i := 2) (v := ?_) rfl (by kernel_rfl) (by kernel_rfl) (by kernel_rfl) (fun _ _ _ h => h) (Or.inl ⟨by rfl, ?_⟩) hS ?_
    rotate_left
    · intro u hu; (try dsimp only at hu); go_simp; try with_reducible rfl
    simp only [Act.put, List.getElem_toArray, List.getElem_cons_zero, List.getElem_cons_succ, List.setIfInBounds_toArray, List.set_cons_zero, List.set_cons_succ]
    refine wpAnyH_ready (rs := [1]) (by kernel_rfl) (by simp) ?_
    refine AllReadyH.cons rfl (fun K hK => ?_) AllReadyH.nil
    go_simp
    go_wp2_with (go_at_call 12; refine (unhide HF1 _ ((unhide HT).below ((unhide HB4).step (unhide X5)).bel) ((unhide HE).below ((unhide HB4).step (unhide X5)).bel)).mono ?_; rintro e w6 ⟨⟨g1, rfl, hg1, hr1⟩, hb6⟩; have X6 := hide (bto (unhide X5) hb6); have R1 := hide hr1; clear hb6 hr1 hg1 X5)
    refine hK.out _ _ (unhide HCX _ (unhide X6)) (fun hS2 => ?_)
    clear hK K hS
    refine wpAnyH_ready (rs := [3]) (by kernel_rfl) (by simp) ?_
    refine AllReadyH.cons rfl (fun K hK => ?_) AllReadyH.nil
    go_simp
    go_wp2_with (go_at_call 12; refine (unhide HF2 _ ((unhide HT).below ((unhide HB4).step (unhide X6)).bel) ((unhide HEX).below (unhide X6))).mono ?_; rintro e w7 ⟨⟨g2, rfl, hg2, hr2⟩, hb7⟩; have X7 := hide (bto (unhide X6) hb7); have R2 := hide hr2; have R1' := hide ((unhide R1).below hb7); clear hb7 hr2 hg2 X6 R1)
    refine hK.out _ _ (unhide HCX _ (unhide X7)) (fun hS3 => ?_)
    clear hK K hS2
    refine wpAnyH_take (i := 4) (v := ?_) rfl (by kernel_rfl) (by kernel_rfl) (by kernel_rfl) (fun _ _ _ h => h) (Or.inl ⟨by rfl, ?_⟩) hS3 ?_
    rotate_left
    · intro u hu; (try dsimp only at hu); go_simp; try with_reducible rfl
    simp only [Act.put, List.getElem_toArray, List.getElem_cons_zero, List.getElem_cons_succ, List.setIfInBounds_toArray, List.set_cons_zero, List.set_cons_succ]
    refine wpAnyH_take (i := 5) (v := ?_) rfl (by kernel_rfl) (by kernel_rfl) (by kernel_rfl) (fun _ _ _ h => h) (Or.inl ⟨by rfl, ?_⟩) hS3 ?_
    rotate_left
    · intro u hu; (try dsimp only at hu); go_simp; try with_reducible rfl
    simp only [Act.put, List.getElem_toArray, List.getElem_cons_zero, List.getElem_cons_succ, List.setIfInBounds_toArray, List.set_cons_zero, List.set_cons_succ]
    refine wpAnyH_done (by kernel_rfl) ?_ _
    clear hS3 HF1 HF2 HEX
    obtain ⟨c0, c1, c2, c3⟩ := unhide HCX _ (unhide X7)
    have hdz : ((V : Int) != (V : Int)) = false := by simp
    go_wp2_with fail
    clear c0 c1 c2 c3
    go_loopw [63] (fun i wr => ∃ k : Nat, i = .int .i64 k ∧ k ≤ V ∧ Hid (Below w7.heap.size w7 wr)) (fun i wr => V - (intOf i).toNat)
    case atStart => exact ⟨0, rfl, by omega, Below.refl _ _⟩
    case round =>
      obtain ⟨k, rfl, hk, HB⟩ := hrel
      by_cases hlt : k < V
      · have hlt2 : (k : Int) < (V : Int) := by omega
        have hpV2 : (p : Int) < (V : Int) := by omega
        have hqV2 : (q : Int) < (V : Int) := by omega
        have r1k := ((unhide R1').below (unhide HB)).cell hlt
        have r1q := ((unhide R1').below (unhide HB)).cell hqV
        have r2k := ((unhide R2).below (unhide HB)).cell hlt
        rw [unhide HRS k hlt] at r2k
        have hfk := unhide HFL k hlt
        have hfq := unhide HFL q hqV
        have hkk := unhide HFR k hlt
        generalize F k = fk at *
        generalize F q = fq at *
        obtain ⟨r, hr⟩ : ∃ r, fk.testBit p = r := ⟨_, rfl⟩
        have HH1 := hide (fun (u : World) => show Calls Tryd.prog 9 #[.int .u64 fk, .int .i64 p] u fun e w' => e = .returned (.bool r) ∧ Below u.heap.size u w' from by
          refine (has_any u fk hfk p).mono ?_
          rintro e w' ⟨rfl, hb⟩
          exact ⟨ret_b (by rw [hasI_nat hfk, hr]), hb⟩)
        have HH2 := hide (fun (u : World) => show Calls Tryd.prog 9 #[.int .u64 fk, .int .i64 k] u fun e w' => e = .returned (.bool true) ∧ Below u.heap.size u w' from by
          refine (has_any u fk hfk k).mono ?_
          rintro e w' ⟨rfl, hb⟩
          exact ⟨ret_b (by rw [hasI_nat hfk, hkk]), hb⟩)
        have hor := u64_or_nat fk fq hfk hfq
        rw [hr] at r2k
        clear hr hkk
        have hsz := (unhide R1').lt
        have hszq := (unhide R2).lt
        have hszr := (unhide HB).size
        go_wp2_with fail
        refine (unhide HH1 wr).mono ?_
        rintro e w8 ⟨rfl, hb8⟩
        have HB8 := hide (bto (unhide HB) hb8)
        have s1k : w8.cell? ⟨g1, k, none⟩ = some (.int .u64 (fk : Nat)) := by rw [hb8.cell (p := ⟨g1, k, none⟩) (show g1 < wr.heap.size by omega)]; exact r1k
        have s1q : w8.cell? ⟨g1, q, none⟩ = some (.int .u64 (fq : Nat)) := by rw [hb8.cell (p := ⟨g1, q, none⟩) (show g1 < wr.heap.size by omega)]; exact r1q
        have s2k : w8.cell? ⟨g2, k, none⟩ = some (.int .u64 ((if r = true then fk ||| fq else fk : Nat) : Nat)) := by rw [hb8.cell (p := ⟨g2, k, none⟩) (show g2 < wr.heap.size by omega)]; exact r2k
        clear hb8 r1k r1q r2k HH1
        cases r with
        | true =>
          simp only [if_true] at s2k
          go_wp2_with fail
          refine (unhide HH2 w8).mono ?_
          rintro e w9 ⟨rfl, hb9⟩
          have HB9 := hide (bto (unhide HB8) hb9)
          clear hb9
          go_wp2_with fail
          go_roundw
          case rel => exact ⟨k + 1, by go_num, by omega, HB9⟩
          case measure => simp [intOf]; omega
        | false =>
          simp only [Bool.false_eq_true, if_false] at s2k
          go_wp2_with fail
          refine (unhide HH2 w8).mono ?_
          rintro e w9 ⟨rfl, hb9⟩
          have HB9 := hide (bto (unhide HB8) hb9)
          clear hb9
          go_wp2_with fail
          go_roundw
          case rel => exact ⟨k + 1, by go_num, by omega, HB9⟩
          case measure => simp [intOf]; omega
      · obtain rfl : k = V := by omega
        go_wp2_with fail
        go_ret
        exact ⟨rfl, bto ((unhide HB4).step (unhide X7)).bel (unhide HB)⟩

set_option maxHeartbeats 1000000 in
theorem grows_early (w : World) (hT : Tab w) (V : Int) (a : Option Addr) (n cap : Nat) (x0 y0 : Int) (r : Bool)
    (hM : ∀ u, Below w.heap.size w u → Calls Tryd.prog 13 #[.agg #[.int .i64 V, .slice a n cap]] u fun e w' => e = .returned (.bool r) ∧ Below u.heap.size u w') (hr : r = false ∨ 100 < n) :
    Calls Tryd.prog 6 #[.agg #[.int .i64 V, .slice a n cap], .int .i64 x0, .int .i64 y0] w fun e w' => e = .returned (.bool true) ∧ Below w.heap.size w w' := by
  have HT := hide hT
  have HM := hide hM
  have HB0 := hide (Bg.start w (.int .i64 V) (.slice a n cap))
  clear hT hM
  go_enter Tryd.func6, Tryd.ntmps6
  go_wp2_with fail
  refine (speaks_any _ ((unhide HT).below (unhide HB0).bel)).mono ?_
  rintro e w1 ⟨rfl, hb1⟩
  have HB1 := hide ((unhide HB0).step hb1)
  obtain ⟨g0, g1⟩ := (unhide HB1).cells
  clear hb1 HB0
  go_wp2_with fail
  refine (unhide HM _ (unhide HB1).bel).mono ?_
  rintro e w2 ⟨rfl, hb2⟩
  have HB2 := hide ((unhide HB1).step hb2)
  clear hb2 HB1 g0 g1
  obtain ⟨g0, g1⟩ := (unhide HB2).cells
  cases r with
  | false =>
    go_wp2_with fail
    go_ret
    exact ⟨rfl, (unhide HB2).bel⟩
  | true =>
    have hn : 100 < n := by
      rcases hr with h | h
      · cases h
      · exact h
    have hn2 : (100 : Int) < (n : Int) := by omega
    go_wp2_with fail
    go_ret
    exact ⟨rfl, (unhide HB2).bel⟩
theorem grows_any (w : World) (hT : Tab w) (V : Int) (a : Option Addr) (n cap : Nat) (zs : List (Int × Int)) (x0 y0 : Int) (hnil : a = none → n = 0 ∧ cap = 0) (h : 200 < n ∨ Es 0 w a n zs) :
    Calls Tryd.prog 6 #[.agg #[.int .i64 V, .slice a n cap], .int .i64 x0, .int .i64 y0] w fun e w' => e = .returned (.bool true) ∧ Below w.heap.size w w' := by
  rcases h with h | h
  · exact grows_early w hT V a n cap x0 y0 false (fun u _ => refmay_big u V a n cap (by omega)) (.inl rfl)
  · by_cases hg : Good V n zs
    · obtain ⟨v, es, rfl, rfl, hn, hp⟩ := plain_of_good h.1 hg
      by_cases h100 : 100 < n
      · exact grows_early w hT v a n cap x0 y0 true (fun u hu => refmay_yes u v a n cap es (h.below hu) hn.symm hp) (.inr h100)
      · exact grows_walk w hT v a n cap es x0 y0 h hn.symm hnil hp (by omega)
    · exact grows_early w hT V a n cap x0 y0 false (fun u hu => refmay_no u V a n cap zs (h.below hu) hg) (.inl rfl)
end Go.Proofs.YtjklmbboklgdpaaDoor



/-
  The walk of the statement ReachTells. Conditions: the graph lies in memory as told; the table of math/bits holds what its initialiser lays.
-/
import Derived.Test.YtjklmbboklgdpaaDoorSpk
import Derived.Test.YtjklmbboklgdpaaDoorFr
import Derived.Test.YtjklmbboklgdpaaDoorRm
import Derived.Test.YtjklmbboklgdpaaDoorRefTr
import Derived.Test.YtjklmbboklgdpaaDoorRefPt
import Derived.Test.YtjklmbboklgdpaaDoorPrt
import Derived.OrdersHeld
import Derived.Deep.RegionHeld
namespace Go.Proofs.YtjklmbboklgdpaaDoor
open Go.RowKit
set_option linter.unusedVariables false

theorem cs_all (es : List (Nat × Nat)) (u v : Nat) : Cs es false (fun _ => true) u v ↔ Via es u v := by
  unfold Cs Via
  constructor
  · rintro ⟨t, ht, _, h | ⟨hb, _⟩⟩
    · rw [← h]; exact getD_mem ht
    · cases hb
  · intro h
    obtain ⟨t, ht, he⟩ := List.mem_iff_getElem.1 h
    exact ⟨t, ht, rfl, .inl (by simp [List.getD, ht, he])⟩
theorem isL_rep {V : Nat} {es : List (Nat × Nat)} {wo rp : Nat → Bool} {C : Nat → Nat} {L : Nat → Int} (hP : IsPt V es wo C rp) (hL : IsL V es wo L) {x : Nat} (hx : x < V) : L x = (x : Int) ↔ rp x = true := by
  rw [hP.rep x hx]
  cases hw : wo x with
  | true =>
    rw [(hL x hx).1 hw]
    constructor
    · intro h; omega
    · intro h; rw [h.1] at hw; cases hw
  | false =>
    obtain ⟨y, h1, h2, h3, h4⟩ := (hL x hx).2 hw
    rw [h1]
    constructor
    · intro h
      have : y = x := by omega
      rw [← this]; exact h4
    · intro h
      have := h.only h4 h3
      omega
theorem isL_in {V : Nat} {es : List (Nat × Nat)} (hp : Plain V es) {wo rp : Nat → Bool} {C : Nat → Nat} {L : Nat → Int} (hP : IsPt V es wo C rp) (hL : IsL V es wo L) {x : Nat} (hx : x < V) (hr : rp x = true) {y : Nat} (hy : y < V) : (L y == (x : Int)) = (C x).testBit y := by
  have hR := (hP.rep x hx).1 hr
  rw [Bool.eq_iff_iff, hP.bit x hx, beq_iff_eq]
  constructor
  · intro h
    cases hw : wo y with
    | true => rw [(hL y hy).1 hw] at h; omega
    | false =>
      obtain ⟨z, h1, h2, h3, h4⟩ := (hL y hy).2 hw
      have : z = x := by omega
      rw [this] at h3
      exact Conn.symm h3
  · intro h
    obtain ⟨z, h1, h2, h3, h4⟩ := (hL y hy).2 (Conn.free h hR.1)
    rw [h1, hR.only h4 (h.trans h3)]
theorem isPt_out {V : Nat} {es : List (Nat × Nat)} (hp : Plain V es) {wo rp : Nat → Bool} {C : Nat → Nat} (hP : IsPt V es wo C rp) {x : Nat} (hx : x < V) {y : Nat} (hy : V ≤ y) : (C x).testBit y = false := by
  cases h : (C x).testBit y with
  | false => rfl
  | true =>
    have := Conn.bnd hp ((hP.bit x hx y).1 h) hx
    omega
theorem repsL_at (rp : Nat → Bool) (C : Nat → Nat) (x V : Nat) (hx : x < V) (hr : rp x = true) : (repsL rp C V)[(repsL rp C x).length]? = some (C x) := by
  induction V with
  | zero => omega
  | succ V ih =>
    by_cases h : x = V
    · subst h
      rw [repsL_yes hr]
      simp
    · have h1 := ih (by omega)
      have h2 := (List.getElem?_eq_some_iff.1 h1).1
      cases hv : rp V with
      | true => rw [repsL_yes hv, List.getElem?_append_left h2]; exact h1
      | false => rw [repsL_no hv]; exact h1
theorem repsL_lt {rp : Nat → Bool} {C : Nat → Nat} {x V : Nat} (hx : x < V) (hr : rp x = true) : (repsL rp C x).length < (repsL rp C V).length := (List.getElem?_eq_some_iff.1 (repsL_at rp C x V hx hr)).1
theorem us_of_owns {w : World} {base : Nat} {v : Value} {l : List Nat} {n : Nat} (h : w.ownsRow base 25 1 v n (ucells l)) (hn : n ≤ 1000000) :
    ∃ a cap, v = .slice a n cap ∧ l.length = n ∧ Us w a n (fun k => l.getD k 0) := by
  have hl : l.length = n := by have := h.1; simpa [ucells] using this
  rcases h.2 with ⟨hv, h0⟩ | ⟨g, cap, cur, rfl, hb, hg, h1, h2, h3, h4⟩
  · exact ⟨none, 0, by rw [hv, h0], hl, hn, fun k hk => by omega⟩
  · refine ⟨_, cap, rfl, hl, hn, fun k hk => ⟨g, 0, rfl, (Array.getElem?_eq_some_iff.1 hg).1, ?_⟩⟩
    rw [Nat.zero_add, h.cellAt k (by omega)]
    subst hl
    simp [ucells, hk]
/-- one bit, as it is looked at -/
theorem bit_at (S x : Nat) : ((S / 2 ^ x) % 2 = 1) ↔ S.testBit x = true := by
  rw [Nat.testBit_eq_decide_div_mod_eq]
  simp
theorem shift_bit (S k : Nat) (hS : S < 18446744073709551616) : (bits BinOp.and IntKind.u64 ((S : Int) / 2 ^ k) 1 == 1) = S.testBit k := by
  have h1 : ((S : Int) / 2 ^ k) = ((S / 2 ^ k : Nat) : Int) := by simp
  have h2 : S / 2 ^ k < 18446744073709551616 := Nat.lt_of_le_of_lt (Nat.div_le_self _ _) hS
  have h3 := u64_and_nat (S / 2 ^ k) 1 h2 (by decide)
  rw [h1]
  rw [show (1 : Int) = ((1 : Nat) : Int) from rfl, h3, Nat.and_one_is_mod, Bool.eq_iff_iff, ← bit_at]
  simp only [beq_iff_eq]
  omega
theorem shift_none (f V : Nat) (hf : f < 18446744073709551616) (hb : ∀ j, f.testBit j = true → j < V) : (f : Int) / 2 ^ V = 0 := by
  have h : f < 2 ^ V := by
    apply Classical.byContradiction
    intro hno
    obtain ⟨j, hj, ht⟩ := Nat.exists_ge_and_testBit_of_ge_two_pow (Nat.le_of_not_lt hno)
    have := hb j ht
    omega
  have : f / 2 ^ V = 0 := Nat.div_eq_of_lt h
  rw [show ((f : Int) / 2 ^ V) = ((f / 2 ^ V : Nat) : Int) by simp, this]
  rfl

set_option maxRecDepth 20000 in
set_option maxHeartbeats 8000000 in
theorem tells_walk (w : World) (hT : Tab w) (V : Nat) (a : Option Addr) (n cap : Nat) (es : List (Nat × Nat)) (S : Nat) (hS : S < 18446744073709551616) {B : Nat} (h : Es B w a n (toI es)) (hne : es.length = n) (hc : n ≤ cap) (hp : Plain V es) :
    Calls Tryd.prog 4 #[.agg #[.int .i64 V, .slice a n cap], .int .u64 S] w fun e w' => e = .returned (.bool true) ∧ Below w.heap.size w w' := by
  have hv64 := hp.v64
  have hv1 := hp.v1
  have hn128 := hp.n128
  rw [hne] at hn128
  obtain ⟨F, hF⟩ := allReach_ex hp
  obtain ⟨C, rp, hPT⟩ := pt_ex hp S.testBit
  obtain ⟨L, hL⟩ := isL_ex V es S.testBit
  have HT := hide hT
  have HE := hide h
  have HP := hide hp
  have HN := hide hne
  have HPT := hide hPT
  have HL := hide hL
  have HF := hide hF
  have hn' : (n : Int) ≤ 200 := by omega
  have HB0 := hide (Bg.start w (.int .i64 V) (.slice a n cap))
  have HMAY := hide fun (w : World) (h : Es B w a n (toI es)) => refmay_yes w V a n cap es h hne hp
  have HFRO := hide (fun (u : World) (hT : Tab u) (h : Es B u a n (toI es)) => show Calls Tryd.prog 12 #[.agg #[.int .i64 V, .slice a n cap]] u fun e w' => (∃ g, e = .returned (.slice (some ⟨g, 0, none⟩) V V) ∧ u.heap.size ≤ g ∧ RowU w' g V F) ∧ Below u.heap.size u w' from by
    subst hne
    exact from_all u hT V a cap es h hp F hF)
  obtain ⟨lt, hlt⟩ : ∃ l, IsTr es n l := by
    classical
    exact ⟨(List.range n).filter fun i => decide (Trv es i), fun i => decide (Trv es i), fun i _ => by simp, rfl⟩
  have hltl := hlt.len
  have HTR1 := hide (fun (u : World) (hT : Tab u) (h : Es B u a n (toI es)) => show Calls Tryd.prog 14 #[.agg #[.int .i64 V, .slice a n cap]] u fun e w' => (∃ la lc, e = .returned (.slice la lt.length lc) ∧ Ns w' la lt.length (toIs lt)) ∧ Below u.heap.size u w' from by
    subst hne
    refine (trans_any u hT V a cap es h hc hp).mono ?_
    rintro e w' ⟨⟨v, l, rfl, hl, ho⟩, hb⟩
    obtain rfl := hl.only hlt
    obtain ⟨la, lc, rfl, _, hns⟩ := ns_of_owns ho (by omega)
    exact ⟨⟨la, lc, rfl, hns⟩, hb⟩)
  have HTR2 := hide (fun (u : World) (h : Es B u a n (toI es)) => show Calls Tryd.prog 16 #[.agg #[.int .i64 V, .slice a n cap]] u fun e w' => (∃ la lc, e = .returned (.slice la lt.length lc) ∧ Ns w' la lt.length (toIs lt)) ∧ Below u.heap.size u w' from by
    refine (reftr_any u V a n cap es h hne hp).mono ?_
    rintro e w' ⟨⟨v, l, rfl, hl, ho⟩, hb⟩
    obtain rfl := hl.only hlt
    obtain ⟨la, lc, rfl, _, hns⟩ := ns_of_owns ho (by omega)
    exact ⟨⟨la, lc, rfl, hns⟩, hb⟩)
  have HEV := hide (fun (u : World) => every_any u V a n cap (by omega))
  have HGO := hide (fun (u : World) (h : Es B u a n (toI es)) (x : Nat) (hx : x < V) (ca : Option Addr) (cc : Nat) (hC : Bs u ca n (fun _ => true)) => show Calls Tryd.prog 17 #[.agg #[.int .i64 V, .slice a n cap], .int .i64 x, .bool false, .slice ca n cc] u fun e w' => (∃ g f, e = .returned (.slice (some ⟨g, 0, none⟩) V V) ∧ RowB w' g V f ∧ ∀ j, j < V → f j = (F x).testBit j) ∧ Below u.heap.size u w' from by
    refine (refgo_any u V a n cap es h hne hp x hx false ca cc _ hC).mono ?_
    rintro e w' ⟨⟨g, f, rfl, _, hr, hf⟩, hb⟩
    exact ⟨⟨g, f, rfl, hr, fun j hj => by rw [Bool.eq_iff_iff, hf j hj, (hF x hx).2, star_iff (cs_all es)]⟩, hb⟩)
  have HPAR := hide (fun (u : World) (h : Es B u a n (toI es)) (wa : Option Addr) (wcap : Nat) (hW : Bs u wa V S.testBit) => show Calls Tryd.prog 19 #[.agg #[.int .i64 V, .slice a n cap], .slice wa V wcap] u fun e w' => (∃ pa pc, e = .returned (.slice pa V pc) ∧ Ns w' pa V ((List.range V).map L)) ∧ Below u.heap.size u w' from by
    refine (refpart_any u V a n cap es h hne hp wa wcap S.testBit hW L hL).mono ?_
    rintro e w' ⟨⟨v, rfl, ho⟩, hb⟩
    obtain ⟨pa, pc, rfl, _, hns⟩ := ns_of_owns ho (by omega)
    exact ⟨⟨pa, pc, rfl, hns⟩, hb⟩)
  have hrl := repsL_len rp C V
  have HPTS := hide (fun (u : World) (hT : Tab u) (h : Es B u a n (toI es)) => show Calls Tryd.prog 15 #[.agg #[.int .i64 V, .slice a n cap], .int .u64 S] u fun e w' => (∃ pa pc, e = .returned (.slice pa (repsL rp C V).length pc) ∧ Us w' pa (repsL rp C V).length (fun k => (repsL rp C V).getD k 0)) ∧ Below u.heap.size u w' from by
    refine (parts_any u hT V a n cap es h hne hp S hS C rp hPT).mono ?_
    rintro e w' ⟨⟨v, rfl, ho⟩, hb⟩
    obtain ⟨pa, pc, rfl, _, hns⟩ := us_of_owns ho (by omega)
    exact ⟨⟨pa, pc, rfl, hns⟩, hb⟩)
  clear h hp hT hne hF hPT hL hlt
  generalize lt.length = ltn at HTR1 HTR2 hltl
  generalize toIs lt = ltl at HTR1 HTR2
  obtain ⟨i0, hi0, hz0, hz1, hz2⟩ := info_parts info4
  have HI := hide hi0
  have HZ0 := hide hz0
  have HZ1 := hide hz1
  have hzb : i0.bytes * V ≤ 281474976710656 := by rw [hz2]; omega
  clear hi0 hz0 hz1 hz2
  go_enter Tryd.func4, Tryd.ntmps4
  go_wp2_with fail
  refine (speaks_any _ ((unhide HT).below (unhide HB0).bel)).mono ?_
  rintro e w1 ⟨rfl, hb1⟩
  have HB1 := hide ((unhide HB0).step hb1)
  obtain ⟨g0, g1⟩ := (unhide HB1).cells
  clear hb1 HB0
  go_wp2_with fail
  refine (unhide HFRO _ ((unhide HT).below (unhide HB1).bel) ((unhide HE).below (unhide HB1).bel)).mono ?_
  rintro e w2 ⟨⟨gA, rfl, hgA, hrA⟩, hb2⟩
  have HB2 := hide ((unhide HB1).step hb2)
  have RA2 := hide hrA
  clear hb2 HB1 g0 g1 HFRO hgA hrA
  obtain ⟨g0, g1⟩ := (unhide HB2).cells
  go_wp2_with fail
  refine (unhide HMAY _ ((unhide HE).below (unhide HB2).bel)).mono ?_
  rintro e w3 ⟨rfl, hb3⟩
  have HB3 := hide ((unhide HB2).step hb3)
  have RA3 := hide (Row.below (unhide RA2) hb3)
  clear hb3 HB2 g0 g1 HMAY RA2
  obtain ⟨g0, g1⟩ := (unhide HB3).cells
  go_wp2_with fail
  have X3 := hide (show Below w3.heap.size w3 w3.drew from b_dr)
  refine wp_region_held_drew (S := fun u => u.cell? ⟨w.heap.size, 0, none⟩ = some (.int .i64 V) ∧ u.cell? ⟨w.heap.size, 1, none⟩ = some (.slice a n cap)) (by kernel_rfl) ((unhide HB3).step (unhide X3)).cells (fun hS1 => ?_)
  clear g0 g1
  generalize w3.drew = w4 at X3 hS1 ⊢
  refine wpAnyH_take (i := 0) (v := ?_) rfl (by kernel_rfl) (by kernel_rfl) (by kernel_rfl) (fun _ _ _ h => h) (Or.inl ⟨by rfl, ?_⟩) hS1 ?_
  rotate_left
  · intro u hu; (try dsimp only at hu); go_simp; try with_reducible rfl
  simp only [Act.put, List.getElem_toArray, List.getElem_cons_zero, List.setIfInBounds_toArray, List.set_cons_zero, List.set_cons_succ]
  refine wpAnyH_take (i := 1) (v := ?_) rfl (by kernel_rfl) (by kernel_rfl) (by kernel_rfl) (fun _ _ _ h => h) (Or.inl ⟨by rfl, ?_⟩) hS1 ?_
  rotate_left
  · intro u hu; (try dsimp only at hu); go_simp; try with_reducible rfl
  simp only [Act.put, List.getElem_toArray, List.getElem_cons_zero, List.getElem_cons_succ, List.setIfInBounds_toArray, List.set_cons_zero, List.set_cons_succ]
  refine wpAnyH_take (i := 2) (v := ?_) rfl (by kernel_rfl) (by kernel_rfl) (by kernel_rfl) (fun _ _ _ h => h) (Or.inl ⟨by rfl, ?_⟩) hS1 ?_
  rotate_left
  · intro u hu; (try dsimp only at hu); go_simp; try with_reducible rfl
  simp only [Act.put, List.getElem_toArray, List.getElem_cons_zero, List.getElem_cons_succ, List.setIfInBounds_toArray, List.set_cons_zero, List.set_cons_succ]
  refine wpAnyH_take (i := 3) (v := ?_) rfl (by kernel_rfl) (by kernel_rfl) (by kernel_rfl) (fun _ _ _ h => h) (Or.inl ⟨by rfl, ?_⟩) hS1 ?_
  rotate_left
  · intro u hu; (try dsimp only at hu); go_simp; try with_reducible rfl
  simp only [Act.put, List.getElem_toArray, List.getElem_cons_zero, List.getElem_cons_succ, List.setIfInBounds_toArray, List.set_cons_zero, List.set_cons_succ]
  refine wpAnyH_take (i := 4) (v := ?_) rfl (by kernel_rfl) (by kernel_rfl) (by kernel_rfl) (fun _ _ _ h => h) (Or.inl ⟨by rfl, ?_⟩) hS1 ?_
  rotate_left
  · intro u hu; (try dsimp only at hu); go_simp; try with_reducible rfl
  simp only [Act.put, List.getElem_toArray, List.getElem_cons_zero, List.getElem_cons_succ, List.setIfInBounds_toArray, List.set_cons_zero, List.set_cons_succ]
  refine wpAnyH_take (i := 5) (v := ?_) rfl (by kernel_rfl) (by kernel_rfl) (by kernel_rfl) (fun _ _ _ h => h) (Or.inl ⟨by rfl, ?_⟩) hS1 ?_
  rotate_left
  · intro u hu; (try dsimp only at hu); go_simp; try with_reducible rfl
  simp only [Act.put, List.getElem_toArray, List.getElem_cons_zero, List.getElem_cons_succ, List.setIfInBounds_toArray, List.set_cons_zero, List.set_cons_succ]
  refine wpAnyH_take (i := 6) (v := ?_) rfl (by kernel_rfl) (by kernel_rfl) (by kernel_rfl) (fun _ _ _ h => h) (Or.inl ⟨by rfl, ?_⟩) hS1 ?_
  rotate_left
  · intro u hu; (try dsimp only at hu); go_simp; try with_reducible rfl
  simp only [Act.put, List.getElem_toArray, List.getElem_cons_zero, List.getElem_cons_succ, List.setIfInBounds_toArray, List.set_cons_zero, List.set_cons_succ]
  refine wpAnyH_take (i := 8) (v := ?_) rfl (by kernel_rfl) (by kernel_rfl) (by kernel_rfl) (fun _ _ _ h => h) (Or.inl ⟨by rfl, ?_⟩) hS1 ?_
  rotate_left
  · intro u hu; (try dsimp only at hu); go_simp; try with_reducible rfl
  simp only [Act.put, List.getElem_toArray, List.getElem_cons_zero, List.getElem_cons_succ, List.setIfInBounds_toArray, List.set_cons_zero, List.set_cons_succ]
  refine wpAnyH_ready (rs := [7]) (by kernel_rfl) (by simp) ?_
  refine AllReadyH.cons rfl (fun K hK => ?_) AllReadyH.nil
  go_simp
  go_wp2_with (go_at_call 14; refine (unhide HTR1 _ ((unhide HT).below ((unhide HB3).step (unhide X3)).bel) ((unhide HE).below ((unhide HB3).step (unhide X3)).bel)).mono ?_; rintro e w5 ⟨⟨la1, lc1, rfl, hn1⟩, hb5⟩; have X5 := hide (bto (unhide X3) hb5); have N1 := hide hn1; clear hb5 hn1)
  refine hK.out _ _ ((unhide HB3).step (unhide X5)).cells (fun hS2 => ?_)
  clear hK K hS1
  refine wpAnyH_ready (rs := [9]) (by kernel_rfl) (by simp) ?_
  refine AllReadyH.cons rfl (fun K hK => ?_) AllReadyH.nil
  go_simp
  go_wp2_with (go_at_call 16; refine (unhide HTR2 _ ((unhide HE).below ((unhide HB3).step (unhide X5)).bel)).mono ?_; rintro e w6 ⟨⟨la2, lc2, rfl, hn2⟩, hb6⟩; have X6 := hide (bto (unhide X5) hb6); have N2 := hide hn2; have N1' := hide ((unhide N1).below hb6); clear hb6 hn2 N1)
  refine hK.out _ _ ((unhide HB3).step (unhide X6)).cells (fun hS3 => ?_)
  clear hK K hS2
  refine wpAnyH_ready (rs := [10]) (by kernel_rfl) (by simp) ?_
  refine AllReadyH.cons rfl (fun K hK => ?_) AllReadyH.nil
  go_simp
  go_wp2_with (go_at_call 10; refine (same_yes _ la1 la2 _ lc1 lc2 _ (unhide N1') (unhide N2)).mono ?_; rintro e w7 ⟨rfl, mm, hw7⟩; have X7 := hide (bto (unhide X6) (show Below w6.heap.size w6 w7 by rw [hw7]; exact below_refl_draws _ _)); clear hw7)
  refine hK.out _ _ ((unhide HB3).step (unhide X7)).cells (fun hS4 => ?_)
  clear hK K hS3
  refine wpAnyH_take (i := 11) (v := ?_) rfl (by kernel_rfl) (by kernel_rfl) (by kernel_rfl) (fun _ _ _ h => h) (Or.inl ⟨by rfl, ?_⟩) hS4 ?_
  rotate_left
  · intro u hu; (try dsimp only at hu); go_simp; try with_reducible rfl
  simp only [Act.put, List.getElem_toArray, List.getElem_cons_zero, List.getElem_cons_succ, List.setIfInBounds_toArray, List.set_cons_zero, List.set_cons_succ]
  refine wpAnyH_take (i := 12) (v := ?_) rfl (by kernel_rfl) (by kernel_rfl) (by kernel_rfl) (fun _ _ _ h => h) (Or.inl ⟨by rfl, ?_⟩) hS4 ?_
  rotate_left
  · intro u hu; (try dsimp only at hu); go_simp; try with_reducible rfl
  simp only [Act.put, List.getElem_toArray, List.getElem_cons_zero, List.getElem_cons_succ, List.setIfInBounds_toArray, List.set_cons_zero, List.set_cons_succ]
  refine wpAnyH_done (by kernel_rfl) ?_ _
  clear hS4 HTR1 HTR2 N1' N2 X5 X6 X3
  have HB7 := hide ((unhide HB3).step (unhide X7))
  have RA7 := hide (Row.below (unhide RA3) (unhide X7))
  clear HB3 RA3 X7
  obtain ⟨g0, g1⟩ := (unhide HB7).cells
  have hsz7 := (unhide HB7).lt
  go_wp2_with (refine wpList_make_full _ rfl (.tmp 53) (.tmp 53) 39 rfl w7.heap.size 4 i0 (.bool false) 1 Tryd.underlying39 (unhide HI) (unhide HZ0) (unhide HZ1) .i64 .i64 _ _ V rfl rfl rfl rfl hzb ?m1 ?m2 ?_)
  case m1 => unfold maxLen; omega
  case m2 => simp
  intro w8 hown8 hg8
  rw [toList_madeCells_one] at hown8
  have HX8 := hide (show Below w7.heap.size w7 w8 from ⟨hg8.os, hg8.tape, hg8.output, hg8.size, fun k hk => hg8.block k hk (by simp)⟩)
  have HR8 := hide (show RowB w8 w7.heap.size V (fun t => if t < 0 then S.testBit t else false) from Row.congr (Row.of_owns hown8) fun t ht => by simp)
  clear hown8 hg8 g0 g1
  go_wp2_with fail
  go_loopw [57] (fun i wr => ∃ k : Nat, i = .int .i64 k ∧ k ≤ V ∧ Hid (RowB wr w7.heap.size V (fun t => if t < k then S.testBit t else false)) ∧ Hid (Below w7.heap.size w7 wr)) (fun i wr => V - (intOf i).toNat)
  case atStart => exact ⟨0, rfl, by omega, HR8, HX8⟩
  case round =>
    clear HR8 HX8
    obtain ⟨k, rfl, hk, HR, HX⟩ := hrel
    have HBX := hide ((unhide HB7).step (unhide HX))
    have RAX := hide (Row.below (unhide RA7) (unhide HX))
    by_cases hlt : k < V
    · have hlt2 : (k : Int) < (V : Int) := by omega
      have r0 := (unhide HR).cell hlt
      have r1 := (unhide HR).fz k
      have hsh := shift_bit S k hS
      go_wp2_with fail
      have HR2 := hide (show RowB (wr.setCell ⟨w7.heap.size, k, none⟩ (.bool (S.testBit k))) w7.heap.size V (fun t => if t < k + 1 then S.testBit t else false) from by
        refine Row.congr (RowB.set (unhide HR) k (S.testBit k)) fun t ht => ?_
        unfold upd
        by_cases h1 : t = k
        · subst h1; simp
        · rw [if_neg h1]
          dsimp only
          by_cases h2 : t < k
          · rw [if_pos h2, if_pos (by omega)]
          · rw [if_neg h2, if_neg (by omega)])
      have HX2 := hide ((unhide HX).setCell (p := ⟨w7.heap.size, k, none⟩) (Nat.le_refl _) (.bool (S.testBit k)))
      clear r0 r1 HR HBX RAX hsh HX
      generalize (wr.setCell ⟨w7.heap.size, k, none⟩ (.bool (S.testBit k))) = wv at HR2 HX2 ⊢
      have HSX := hide (fun (u : World) (X : Below wv.heap.size wv u) => ((unhide HB7).step (bto (unhide HX2) X)).cells)
      have HEX := hide (fun (u : World) (X : Below wv.heap.size wv u) => (unhide HE).below ((unhide HB7).step (bto (unhide HX2) X)).bel)
      have X1 := hide (show Below wv.heap.size wv wv.drew from b_dr)
      refine wp_region_held_drew (S := fun u => u.cell? ⟨w.heap.size, 0, none⟩ = some (.int .i64 V) ∧ u.cell? ⟨w.heap.size, 1, none⟩ = some (.slice a n cap)) (by kernel_rfl) (unhide HSX _ (unhide X1)) (fun hS1 => ?_)
      generalize wv.drew = wu at X1 hS1 ⊢
      refine wpAnyH_take (i := 0) (v := ?_) rfl (by kernel_rfl) (by kernel_rfl) (by kernel_rfl) (fun _ _ _ h => h) (Or.inl ⟨by rfl, ?_⟩) hS1 ?_
      rotate_left
      · intro u hu; (try dsimp only at hu); go_simp; try with_reducible rfl
      simp only [Act.put, List.getElem_toArray, List.getElem_cons_zero, List.setIfInBounds_toArray, List.set_cons_zero, List.set_cons_succ]
      refine wpAnyH_take (i := 1) (v := ?_) rfl (by kernel_rfl) (by kernel_rfl) (by kernel_rfl) (fun _ _ _ h => h) (Or.inl ⟨by rfl, ?_⟩) hS1 ?_
      rotate_left
      · intro u hu; (try dsimp only at hu); go_simp; try with_reducible rfl
      simp only [Act.put, List.getElem_toArray, List.getElem_cons_zero, List.getElem_cons_succ, List.setIfInBounds_toArray, List.set_cons_zero, List.set_cons_succ]
      refine wpAnyH_take (i := 2) (v := ?_) rfl (by kernel_rfl) (by kernel_rfl) (by kernel_rfl) (fun _ _ _ h => h) (Or.inl ⟨by rfl, ?_⟩) hS1 ?_
      rotate_left
      · intro u hu; (try dsimp only at hu); go_simp; try with_reducible rfl
      simp only [Act.put, List.getElem_toArray, List.getElem_cons_zero, List.getElem_cons_succ, List.setIfInBounds_toArray, List.set_cons_zero, List.set_cons_succ]
      refine wpAnyH_ready (rs := [3]) (by kernel_rfl) (by simp) ?_
      refine AllReadyH.cons rfl (fun K hK => ?_) AllReadyH.nil
      go_simp
      go_wp2_with (go_at_call 18; refine (unhide HEV _).mono ?_; rintro e wa ⟨⟨ge, rfl, hge, hre⟩, hba⟩; have X2 := hide (bto (unhide X1) hba); have RE := hide hre; clear hba hre hge)
      refine hK.out _ _ (unhide HSX _ (unhide X2)) (fun hS2 => ?_)
      clear hK K hS1
      refine wpAnyH_ready (rs := [4]) (by kernel_rfl) (by simp) ?_
      refine AllReadyH.cons rfl (fun K hK => ?_) AllReadyH.nil
      go_simp
      go_wp2_with (go_at_call 17; refine (unhide HGO _ (unhide HEX _ (unhide X2)) k hlt _ _ (RowB.read (unhide RE) (by omega))).mono ?_; rintro e wb ⟨⟨gf, f, rfl, hrf, hf⟩, hbb⟩; have X3 := hide (bto (unhide X2) hbb); have RF := hide hrf; have HFJ := hide hf; clear hbb hrf hf)
      refine hK.out _ _ (unhide HSX _ (unhide X3)) (fun hS3 => ?_)
      clear hK K hS2
      refine wpAnyH_take (i := 5) (v := ?_) rfl (by kernel_rfl) (by kernel_rfl) (by kernel_rfl) (fun _ _ _ h => h) (Or.inl ⟨by rfl, ?_⟩) hS3 ?_
      rotate_left
      · intro u hu; (try dsimp only at hu); go_simp; try with_reducible rfl
      simp only [Act.put, List.getElem_toArray, List.getElem_cons_zero, List.getElem_cons_succ, List.setIfInBounds_toArray, List.set_cons_zero, List.set_cons_succ]
      refine wpAnyH_done (by kernel_rfl) ?_ _
      clear hS3 X1 X2 RE
      have RAB := hide (Row.below (unhide RA7) (bto (unhide HX2) (unhide X3)))
      have hfk := (unhide HF k hlt).1
      have hbndk : ∀ j, (F k).testBit j = true → j < V := fun j hj => star_bnd (unhide HP) hlt (((unhide HF k hlt).2 j).1 hj)
      have hshr := shift_none (F k) V hfk hbndk
      have HSHR := hide hshr
      clear hshr hbndk
      go_wp2_with fail
      obtain ⟨wo, rfl⟩ : ∃ wo, wo = wr := ⟨_, rfl⟩
      go_loopw [75] (fun i wr => ∃ y : Nat, i = .int .i64 y ∧ y ≤ V ∧ Hid (Below wb.heap.size wb wr)) (fun i wr => V - (intOf i).toNat)
      case atStart => exact ⟨0, rfl, by omega, Below.refl _ _⟩
      case round =>
        obtain ⟨y, rfl, hy, HY⟩ := hrel
        by_cases hyV : y < V
        · have hy2 : (y : Int) < (V : Int) := by omega
          have s0 := (Row.below (unhide RAB) (unhide HY)).cell hlt
          have s1 := (Row.below (unhide RF) (unhide HY)).cell hyV
          rw [unhide HFJ y hyV] at s1
          have HH := hide (fun (u : World) => show Calls Tryd.prog 9 #[.int .u64 ((F k : Nat) : Int), .int .i64 y] u fun e w' => e = .returned (.bool ((F k).testBit y)) ∧ Below u.heap.size u w' from by
            refine (has_any u (F k) hfk y).mono ?_
            rintro e w' ⟨rfl, hb⟩
            exact ⟨ret_b (hasI_nat hfk y), hb⟩)
          generalize hst : (F k).testBit y = st at s1 HH
          generalize hfg : F k = fk at s0 HH
          clear hst
          have hsA := (unhide RAB).lt
          have hsF := (unhide RF).lt
          go_wp2_with fail
          have hZ := hide (show Below wr.heap.size wr wr.drew from b_dr)
          refine wp_region_held_drew (S := fun u => u.cell? ⟨gA, k, none⟩ = some (.int .u64 (fk : Nat)) ∧ u.cell? ⟨gf, y, none⟩ = some (.bool st)) (by kernel_rfl) ⟨s0, s1⟩ (fun hS1 => ?_)
          have HY2 := hide (bto (unhide HY) (unhide hZ))
          clear hZ s0 s1
          generalize wr.drew = wu2 at HY2 hS1 ⊢
          refine wpAnyH_take (i := 0) (v := ?_) rfl (by kernel_rfl) (by kernel_rfl) (by kernel_rfl) (fun _ _ _ h => h) (Or.inl ⟨by rfl, ?_⟩) hS1 ?_
          rotate_left
          · intro u hu; (try dsimp only at hu); go_simp; try with_reducible rfl
          simp only [Act.put, List.getElem_toArray, List.getElem_cons_zero, List.setIfInBounds_toArray, List.set_cons_zero, List.set_cons_succ]
          refine wpAnyH_take (i := 1) (v := ?_) rfl (by kernel_rfl) (by kernel_rfl) (by kernel_rfl) (fun _ _ _ h => h) (Or.inl ⟨by rfl, ?_⟩) hS1 ?_
          rotate_left
          · intro u hu; (try dsimp only at hu); go_simp; try with_reducible rfl
          simp only [Act.put, List.getElem_toArray, List.getElem_cons_zero, List.getElem_cons_succ, List.setIfInBounds_toArray, List.set_cons_zero, List.set_cons_succ]
          refine wpAnyH_take (i := 2) (v := ?_) rfl (by kernel_rfl) (by kernel_rfl) (by kernel_rfl) (fun _ _ _ h => h) (Or.inl ⟨by rfl, ?_⟩) hS1 ?_
          rotate_left
          · intro u hu; (try dsimp only at hu); go_simp; try with_reducible rfl
          simp only [Act.put, List.getElem_toArray, List.getElem_cons_zero, List.getElem_cons_succ, List.setIfInBounds_toArray, List.set_cons_zero, List.set_cons_succ]
          refine wpAnyH_take (i := 3) (v := ?_) rfl (by kernel_rfl) (by kernel_rfl) (by kernel_rfl) (fun _ _ _ h => h) (Or.inl ⟨by rfl, ?_⟩) hS1 ?_
          rotate_left
          · intro u hu; (try dsimp only at hu); go_simp; try with_reducible rfl
          simp only [Act.put, List.getElem_toArray, List.getElem_cons_zero, List.getElem_cons_succ, List.setIfInBounds_toArray, List.set_cons_zero, List.set_cons_succ]
          refine wpAnyH_take (i := 4) (v := ?_) rfl (by kernel_rfl) (by kernel_rfl) (by kernel_rfl) (fun _ _ _ h => h) (Or.inl ⟨by rfl, ?_⟩) hS1 ?_
          rotate_left
          · intro u hu; (try dsimp only at hu); go_simp; try with_reducible rfl
          simp only [Act.put, List.getElem_toArray, List.getElem_cons_zero, List.getElem_cons_succ, List.setIfInBounds_toArray, List.set_cons_zero, List.set_cons_succ]
          refine wpAnyH_take (i := 6) (v := ?_) rfl (by kernel_rfl) (by kernel_rfl) (by kernel_rfl) (fun _ _ _ h => h) (Or.inl ⟨by rfl, ?_⟩) hS1 ?_
          rotate_left
          · intro u hu; (try dsimp only at hu); go_simp; try with_reducible rfl
          simp only [Act.put, List.getElem_toArray, List.getElem_cons_zero, List.getElem_cons_succ, List.setIfInBounds_toArray, List.set_cons_zero, List.set_cons_succ]
          refine wpAnyH_take (i := 7) (v := ?_) rfl (by kernel_rfl) (by kernel_rfl) (by kernel_rfl) (fun _ _ _ h => h) (Or.inl ⟨by rfl, ?_⟩) hS1 ?_
          rotate_left
          · intro u hu; (try dsimp only at hu); go_simp; try with_reducible rfl
          simp only [Act.put, List.getElem_toArray, List.getElem_cons_zero, List.getElem_cons_succ, List.setIfInBounds_toArray, List.set_cons_zero, List.set_cons_succ]
          refine wpAnyH_take (i := 8) (v := ?_) rfl (by kernel_rfl) (by kernel_rfl) (by kernel_rfl) (fun _ _ _ h => h) (Or.inl ⟨by rfl, ?_⟩) hS1 ?_
          rotate_left
          · intro u hu; (try dsimp only at hu); go_simp; try with_reducible rfl
          simp only [Act.put, List.getElem_toArray, List.getElem_cons_zero, List.getElem_cons_succ, List.setIfInBounds_toArray, List.set_cons_zero, List.set_cons_succ]
          refine wpAnyH_take (i := 9) (v := ?_) rfl (by kernel_rfl) (by kernel_rfl) (by kernel_rfl) (fun _ _ _ h => h) (Or.inl ⟨by rfl, ?_⟩) hS1 ?_
          rotate_left
          · intro u hu; (try dsimp only at hu); go_simp; try with_reducible rfl
          simp only [Act.put, List.getElem_toArray, List.getElem_cons_zero, List.getElem_cons_succ, List.setIfInBounds_toArray, List.set_cons_zero, List.set_cons_succ]
          refine wpAnyH_ready (rs := [5]) (by kernel_rfl) (by simp) ?_
          refine AllReadyH.cons rfl (fun K hK => ?_) AllReadyH.nil
          go_simp
          go_wp2_with (go_at_call 9; refine (unhide HH _).mono ?_; rintro e wd ⟨rfl, hbd⟩; have HY3 := hide (bto (unhide HY2) hbd); have hs2 : wd.cell? ⟨gA, k, none⟩ = some (.int .u64 (fk : Nat)) ∧ wd.cell? ⟨gf, y, none⟩ = some (.bool st) := ⟨by rw [hbd.cell (p := ⟨gA, k, none⟩) (show gA < wu2.heap.size by have := (unhide HY2).size; omega)]; exact hS1.1, by rw [hbd.cell (p := ⟨gf, y, none⟩) (show gf < wu2.heap.size by have := (unhide HY2).size; omega)]; exact hS1.2⟩; clear hbd)
          refine hK.out _ _ hs2 (fun hS2 => ?_)
          clear hK K hS1 hs2
          refine wpAnyH_take (i := 10) (v := ?_) rfl (by kernel_rfl) (by kernel_rfl) (by kernel_rfl) (fun _ _ _ h => h) (Or.inl ⟨by rfl, ?_⟩) hS2 ?_
          rotate_left
          · intro u hu; (try dsimp only at hu); go_simp; try with_reducible rfl
          simp only [Act.put, List.getElem_toArray, List.getElem_cons_zero, List.getElem_cons_succ, List.setIfInBounds_toArray, List.set_cons_zero, List.set_cons_succ]
          refine wpAnyH_done (by kernel_rfl) ?_ _
          clear hS2
          go_wp2_with fail
          go_roundw
          case rel => exact ⟨y + 1, by go_num, by omega, HY3⟩
          case measure => simp [intOf]; omega
        · obtain rfl : y = V := by omega
          have s0 := (Row.below (unhide RAB) (unhide HY)).cell hlt
          have hcc := unhide HSX _ (bto (unhide X3) (unhide HY))
          have hshr := unhide HSHR
          generalize hfg : F k = fk at s0 hshr
          go_wp2_with fail
          refine wp_region_held_drew (S := fun u => u.cell? ⟨gA, k, none⟩ = some (.int .u64 (fk : Nat)) ∧ u.cell? ⟨w.heap.size, 0, none⟩ = some (.int .i64 y)) (by kernel_rfl) ⟨s0, hcc.1⟩ (fun hS1 => ?_)
          have HY2 := hide (show Below wb.heap.size wb wr.drew from (unhide HY).drew)
          clear s0 hcc
          generalize wr.drew = wu2 at HY2 hS1 ⊢
          refine wpAnyH_take (i := 0) (v := ?_) rfl (by kernel_rfl) (by kernel_rfl) (by kernel_rfl) (fun _ _ _ h => h) (Or.inl ⟨by rfl, ?_⟩) hS1 ?_
          rotate_left
          · intro u hu; (try dsimp only at hu); go_simp; try with_reducible rfl
          simp only [Act.put, List.getElem_toArray, List.getElem_cons_zero, List.setIfInBounds_toArray, List.set_cons_zero, List.set_cons_succ]
          refine wpAnyH_take (i := 1) (v := ?_) rfl (by kernel_rfl) (by kernel_rfl) (by kernel_rfl) (fun _ _ _ h => h) (Or.inl ⟨by rfl, ?_⟩) hS1 ?_
          rotate_left
          · intro u hu; (try dsimp only at hu); go_simp; try with_reducible rfl
          simp only [Act.put, List.getElem_toArray, List.getElem_cons_zero, List.getElem_cons_succ, List.setIfInBounds_toArray, List.set_cons_zero, List.set_cons_succ]
          refine wpAnyH_take (i := 2) (v := ?_) rfl (by kernel_rfl) (by kernel_rfl) (by kernel_rfl) (fun _ _ _ h => h) (Or.inl ⟨by rfl, ?_⟩) hS1 ?_
          rotate_left
          · intro u hu; (try dsimp only at hu); go_simp; try with_reducible rfl
          simp only [Act.put, List.getElem_toArray, List.getElem_cons_zero, List.getElem_cons_succ, List.setIfInBounds_toArray, List.set_cons_zero, List.set_cons_succ]
          refine wpAnyH_take (i := 3) (v := ?_) rfl (by kernel_rfl) (by kernel_rfl) (by kernel_rfl) (fun _ _ _ h => h) (Or.inl ⟨by rfl, ?_⟩) hS1 ?_
          rotate_left
          · intro u hu; (try dsimp only at hu); go_simp; try with_reducible rfl
          simp only [Act.put, List.getElem_toArray, List.getElem_cons_zero, List.getElem_cons_succ, List.setIfInBounds_toArray, List.set_cons_zero, List.set_cons_succ]
          refine wpAnyH_take (i := 4) (v := ?_) rfl (by kernel_rfl) (by kernel_rfl) (by kernel_rfl) (fun _ _ _ h => h) (Or.inl ⟨by rfl, ?_⟩) hS1 ?_
          rotate_left
          · intro u hu; (try dsimp only at hu); go_simp; try with_reducible rfl
          simp only [Act.put, List.getElem_toArray, List.getElem_cons_zero, List.getElem_cons_succ, List.setIfInBounds_toArray, List.set_cons_zero, List.set_cons_succ]
          refine wpAnyH_take (i := 5) (v := ?_) rfl (by kernel_rfl) (by kernel_rfl) (by kernel_rfl) (fun _ _ _ h => h) (Or.inl ⟨by rfl, ?_⟩) hS1 ?_
          rotate_left
          · intro u hu; (try dsimp only at hu); go_simp; try with_reducible rfl
          simp only [Act.put, List.getElem_toArray, List.getElem_cons_zero, List.getElem_cons_succ, List.setIfInBounds_toArray, List.set_cons_zero, List.set_cons_succ]
          refine wpAnyH_take (i := 6) (v := ?_) rfl (by kernel_rfl) (by kernel_rfl) (by kernel_rfl) (fun _ _ _ h => h) (Or.inl ⟨by rfl, ?_⟩) hS1 ?_
          rotate_left
          · intro u hu; (try dsimp only at hu); go_simp; try with_reducible rfl
          simp only [Act.put, List.getElem_toArray, List.getElem_cons_zero, List.getElem_cons_succ, List.setIfInBounds_toArray, List.set_cons_zero, List.set_cons_succ]
          refine wpAnyH_take (i := 7) (v := ?_) rfl (by kernel_rfl) (by kernel_rfl) (by kernel_rfl) (fun _ _ _ h => h) (Or.inl ⟨by rfl, ?_⟩) hS1 ?_
          rotate_left
          · intro u hu; (try dsimp only at hu); go_simp; try with_reducible rfl
          simp only [Act.put, List.getElem_toArray, List.getElem_cons_zero, List.getElem_cons_succ, List.setIfInBounds_toArray, List.set_cons_zero, List.set_cons_succ]
          refine wpAnyH_done (by kernel_rfl) ?_ _
          clear hS1
          go_wp2_with fail
          go_roundw
          case rel => exact ⟨k + 1, by go_num, by omega, Row.below (unhide HR2) (bto (unhide X3) (unhide HY2)), bto (unhide HX2) (bto (unhide X3) (unhide HY2))⟩
          case measure => simp [intOf]; omega
    · have hnlt2 : ¬ (k : Int) < (V : Int) := by omega
      have RO := hide (show RowB wr w7.heap.size V S.testBit from Row.congr (unhide HR) fun t ht => by simp [show t < k by omega])
      clear HR
      obtain ⟨g0, g1⟩ := (unhide HBX).cells
      go_wp2_with fail
      refine (unhide HPAR _ ((unhide HE).below (unhide HBX).bel) _ _ (RowB.read (unhide RO) (by omega))).mono ?_
      rintro e wA ⟨⟨pa, pc, rfl, hnp⟩, hbA⟩
      have HBA := hide ((unhide HBX).step hbA)
      have NP := hide hnp
      clear hbA hnp g0 g1 RO
      obtain ⟨g0, g1⟩ := (unhide HBA).cells
      go_wp2_with fail
      refine (unhide HPTS _ ((unhide HT).below (unhide HBA).bel) ((unhide HE).below (unhide HBA).bel)).mono ?_
      rintro e wB ⟨⟨qa, qc, rfl, huq⟩, hbB⟩
      have HBB := hide ((unhide HBA).step hbB)
      have NPB := hide ((unhide NP).below hbB)
      have UQ := hide huq
      clear hbB huq g0 g1 HBX RAX HX HBA NP
      obtain ⟨m2, hm2⟩ : ∃ m, (repsL rp C V).length = m := ⟨_, rfl⟩
      have HM2 := hide hm2
      rw [hm2] at UQ hrl ⊢
      clear hm2
      go_wp2_with fail
      obtain ⟨wo1, rfl⟩ : ∃ wo1, wo1 = wr := ⟨_, rfl⟩
      go_loopw [12, 107] (fun vk i wr => ∃ x m1 : Nat, i = .int .i64 x ∧ x ≤ V ∧ vk = .int .i64 m1 ∧ m1 ≤ 64 ∧ Hid ((repsL rp C x).length = m1) ∧ Hid (Below wB.heap.size wB wr)) (fun vk i wr => V - (intOf i).toNat)
      case atStart => exact ⟨0, 0, rfl, by omega, rfl, by omega, rfl, Below.refl _ _⟩
      case round =>
        obtain ⟨x, m1, rfl, hx, rfl, hm1, HM1, HY⟩ := hrel
        by_cases hxV : x < V
        · have hxV2 : (x : Int) < (V : Int) := by omega
          obtain ⟨gp, op, hpa, hgp, cp⟩ := (unhide NPB).2.2 x hxV
          subst hpa
          have hgL : ∀ t, t < V → ((List.range V).map L).getD t 0 = L t := fun t ht => by simp [List.getD, ht]
          rw [hgL x hxV] at cp
          have HGL := hide hgL
          clear hgL
          have d0 : wr.cell? ⟨gp, op + x, none⟩ = some (.int .i64 (L x)) := by rw [(unhide HY).cell (p := ⟨gp, op + x, none⟩) hgp]; exact cp
          clear cp
          have hiff := isL_rep (unhide HPT) (unhide HL) hxV
          cases hrp : rp x with
          | false =>
            have hne : (L x != (x : Int)) = true := by
              rw [hrp] at hiff
              simp
              intro h
              have := hiff.1 h
              cases this
            have HM1' := hide (show (repsL rp C (x + 1)).length = m1 by rw [repsL_no hrp]; exact unhide HM1)
            clear hiff hrp
            generalize L x = lx at d0 hne
            go_wp2_with fail
            go_roundw
            case rel => exact ⟨x + 1, m1, by go_num, by omega, rfl, hm1, HM1', HY⟩
            case measure => simp [intOf]; omega
          | true =>
            have hlx : L x = (x : Int) := hiff.2 hrp
            rw [hlx] at d0
            have hm12 := repsL_lt (C := C) hxV hrp
            have hat := repsL_at rp C x V hxV hrp
            rw [unhide HM1] at hat hm12
            rw [unhide HM2] at hm12
            have HM1' := hide (show (repsL rp C (x + 1)).length = m1 + 1 by rw [repsL_yes hrp, List.length_append, unhide HM1]; rfl)
            obtain ⟨gq, oq, hqa, hgq, cq⟩ := (unhide UQ).2 m1 hm12
            subst hqa
            dsimp only at cq
            rw [show (repsL rp C V).getD m1 0 = C x by rw [List.getD_eq_getElem?_getD, hat]; rfl] at cq
            have hm12' : (m1 : Int) < (m2 : Int) := by omega
            have hd118 : decide (m2 ≤ m1) = false := decide_eq_false (by omega)
            have hckl := (unhide HPT).lt x hxV
            have HIN := hide (fun y (hy : y < V) => isL_in (unhide HP) (unhide HPT) (unhide HL) hxV hrp hy)
            have HOUT := hide (fun y (hy : V ≤ y) => isPt_out (unhide HP) (unhide HPT) hxV hy)
            clear hiff hlx hat hrp
            generalize C x = cx at cq hckl HIN HOUT
            have CQ := hide cq
            clear cq
            go_wp2_with fail
            obtain ⟨wo2, rfl⟩ : ∃ wo2, wo2 = wr := ⟨_, rfl⟩
            go_loopw [15] (fun i wr => ∃ y : Nat, i = .int .i64 y ∧ y ≤ 64 ∧ Hid (Below wB.heap.size wB wr)) (fun i wr => 64 - (intOf i).toNat)
            case atStart => exact ⟨0, rfl, by omega, HY⟩
            case round =>
              clear HY d0
              obtain ⟨y, rfl, hy, HY⟩ := hrel
              by_cases hy64 : y < 64
              · have hy642 : (y : Int) < 64 := by omega
                have s0 : wr.cell? ⟨gq, oq + m1, none⟩ = some (.int .u64 (cx : Nat)) := by rw [(unhide HY).cell (p := ⟨gq, oq + m1, none⟩) hgq]; exact unhide CQ
                have hcc := ((unhide HBB).step (unhide HY)).cells.1
                have HSX := hide (fun (u : World) (X : Below wB.heap.size wB u) => show u.cell? ⟨gq, oq + m1, none⟩ = some (.int .u64 (cx : Nat)) ∧ u.cell? ⟨w.heap.size, 0, none⟩ = some (.int .i64 V) from ⟨by rw [X.cell (p := ⟨gq, oq + m1, none⟩) hgq]; exact unhide CQ, ((unhide HBB).step X).cells.1⟩)
                by_cases hyV : y < V
                · obtain ⟨gp', op', hpa', _, cp'⟩ := (unhide NPB).2.2 y hyV
                  cases hpa'
                  rw [unhide HGL y hyV] at cp'
                  have hin := unhide HIN y hyV
                  have HH := hide (fun (u : World) => show Calls Tryd.prog 9 #[.int .u64 (cx : Nat), .int .i64 y] u fun e w' => e = .returned (.bool (cx.testBit y)) ∧ Below u.heap.size u w' from by
                    refine (has_any u cx hckl y).mono ?_
                    rintro e w' ⟨rfl, hb⟩
                    exact ⟨ret_b (hasI_nat hckl y), hb⟩)
                  generalize cx.testBit y = st at HH hin
                  generalize L y = ly at hin cp'
                  have CP' := hide cp'
                  have s2 : wr.cell? ⟨gp, op + y, none⟩ = some (.int .i64 ly) := by rw [(unhide HY).cell (p := ⟨gp, op + y, none⟩) hgp]; exact cp'
                  have hyV2 : (y : Int) < (V : Int) := by omega
                  have hVz : ¬ V = 0 := by omega
                  have hmod : (y : Int).tmod (V : Int) = (y : Int) := Int.tmod_eq_of_lt (by omega) (by omega)
                  have hwy : IntKind.i64.wrap (y : Int) = (y : Int) := by rw [IntKind.wrap_i64]; omega
                  clear cp'
                  go_wp2_with fail
                  refine wp_region_held_drew (S := fun u => u.cell? ⟨gq, oq + m1, none⟩ = some (.int .u64 (cx : Nat)) ∧ u.cell? ⟨w.heap.size, 0, none⟩ = some (.int .i64 V) ∧ u.cell? ⟨gp, op + y, none⟩ = some (.int .i64 ly)) (by kernel_rfl) ⟨s0, hcc, s2⟩ (fun hS1 => ?_)
                  have HY2 := hide (show Below wB.heap.size wB wr.drew from (unhide HY).drew)
                  clear s0 hcc s2
                  generalize wr.drew = wu2 at HY2 hS1 ⊢
                  refine wpAnyH_take (i := 0) (v := ?_) rfl (by kernel_rfl) (by kernel_rfl) (by kernel_rfl) (fun _ _ _ h => h) (Or.inl ⟨by rfl, ?_⟩) hS1 ?_
                  rotate_left
                  · intro u hu; (try dsimp only at hu); go_simp; try with_reducible rfl
                  simp only [Act.put, List.getElem_toArray, List.getElem_cons_zero, List.setIfInBounds_toArray, List.set_cons_zero, List.set_cons_succ]
                  refine wpAnyH_take (i := 1) (v := ?_) rfl (by kernel_rfl) (by kernel_rfl) (by kernel_rfl) (fun _ _ _ h => h) (Or.inl ⟨by rfl, ?_⟩) hS1 ?_
                  rotate_left
                  · intro u hu; (try dsimp only at hu); go_simp; try with_reducible rfl
                  simp only [Act.put, List.getElem_toArray, List.getElem_cons_zero, List.getElem_cons_succ, List.setIfInBounds_toArray, List.set_cons_zero, List.set_cons_succ]
                  refine wpAnyH_take (i := 2) (v := ?_) rfl (by kernel_rfl) (by kernel_rfl) (by kernel_rfl) (fun _ _ _ h => h) (Or.inl ⟨by rfl, ?_⟩) hS1 ?_
                  rotate_left
                  · intro u hu; (try dsimp only at hu); go_simp; try with_reducible rfl
                  simp only [Act.put, List.getElem_toArray, List.getElem_cons_zero, List.getElem_cons_succ, List.setIfInBounds_toArray, List.set_cons_zero, List.set_cons_succ]
                  refine wpAnyH_take (i := 3) (v := ?_) rfl (by kernel_rfl) (by kernel_rfl) (by kernel_rfl) (fun _ _ _ h => h) (Or.inl ⟨by rfl, ?_⟩) hS1 ?_
                  rotate_left
                  · intro u hu; (try dsimp only at hu); go_simp; try with_reducible rfl
                  simp only [Act.put, List.getElem_toArray, List.getElem_cons_zero, List.getElem_cons_succ, List.setIfInBounds_toArray, List.set_cons_zero, List.set_cons_succ]
                  refine wpAnyH_take (i := 4) (v := ?_) rfl (by kernel_rfl) (by kernel_rfl) (by kernel_rfl) (fun _ _ _ h => h) (Or.inl ⟨by rfl, ?_⟩) hS1 ?_
                  rotate_left
                  · intro u hu; (try dsimp only at hu); go_simp; try with_reducible rfl
                  simp only [Act.put, List.getElem_toArray, List.getElem_cons_zero, List.getElem_cons_succ, List.setIfInBounds_toArray, List.set_cons_zero, List.set_cons_succ]
                  refine wpAnyH_take (i := 6) (v := ?_) rfl (by kernel_rfl) (by kernel_rfl) (by kernel_rfl) (fun _ _ _ h => h) (Or.inl ⟨by rfl, ?_⟩) hS1 ?_
                  rotate_left
                  · intro u hu; (try dsimp only at hu); go_simp; try with_reducible rfl
                  simp only [Act.put, List.getElem_toArray, List.getElem_cons_zero, List.getElem_cons_succ, List.setIfInBounds_toArray, List.set_cons_zero, List.set_cons_succ]
                  refine wpAnyH_take (i := 7) (v := ?_) rfl (by kernel_rfl) (by kernel_rfl) (by kernel_rfl) (fun _ _ _ h => h) (Or.inl ⟨by rfl, ?_⟩) hS1 ?_
                  rotate_left
                  · intro u hu; (try dsimp only at hu); go_simp; try with_reducible rfl
                  simp only [Act.put, List.getElem_toArray, List.getElem_cons_zero, List.getElem_cons_succ, List.setIfInBounds_toArray, List.set_cons_zero, List.set_cons_succ]
                  refine wpAnyH_take (i := 8) (v := ?_) rfl (by kernel_rfl) (by kernel_rfl) (by kernel_rfl) (fun _ _ _ h => h) (Or.inl ⟨by rfl, ?_⟩) hS1 ?_
                  rotate_left
                  · intro u hu; (try dsimp only at hu); go_simp; try with_reducible rfl
                  simp only [Act.put, List.getElem_toArray, List.getElem_cons_zero, List.getElem_cons_succ, List.setIfInBounds_toArray, List.set_cons_zero, List.set_cons_succ]
                  refine wpAnyH_take (i := 9) (v := ?_) rfl (by kernel_rfl) (by kernel_rfl) (by kernel_rfl) (fun _ _ _ h => h) (Or.inl ⟨by rfl, ?_⟩) hS1 ?_
                  rotate_left
                  · intro u hu; (try dsimp only at hu); go_simp; try with_reducible rfl
                  simp only [Act.put, List.getElem_toArray, List.getElem_cons_zero, List.getElem_cons_succ, List.setIfInBounds_toArray, List.set_cons_zero, List.set_cons_succ]
                  refine wpAnyH_ready (rs := [5]) (by kernel_rfl) (by simp) ?_
                  refine AllReadyH.cons rfl (fun K hK => ?_) AllReadyH.nil
                  go_simp
                  go_wp2_with (go_at_call 9; refine (unhide HH _).mono ?_; rintro e wd ⟨rfl, hbd⟩; have HY3 := hide (bto (unhide HY2) hbd); clear hbd)
                  have hS2' : wd.cell? ⟨gq, oq + m1, none⟩ = some (.int .u64 (cx : Nat)) ∧ wd.cell? ⟨w.heap.size, 0, none⟩ = some (.int .i64 V) ∧ wd.cell? ⟨gp, op + y, none⟩ = some (.int .i64 ly) := ⟨(unhide HSX _ (unhide HY3)).1, (unhide HSX _ (unhide HY3)).2, by rw [(unhide HY3).cell (p := ⟨gp, op + y, none⟩) hgp]; exact unhide CP'⟩
                  refine hK.out _ _ hS2' (fun hS2 => ?_)
                  clear hK K hS1 hS2'
                  refine wpAnyH_take (i := 10) (v := ?_) rfl (by kernel_rfl) (by kernel_rfl) (by kernel_rfl) (fun _ _ _ h => h) (Or.inl ⟨by rfl, ?_⟩) hS2 ?_
                  rotate_left
                  · intro u hu; (try dsimp only at hu); go_simp; try with_reducible rfl
                  simp only [Act.put, List.getElem_toArray, List.getElem_cons_zero, List.getElem_cons_succ, List.setIfInBounds_toArray, List.set_cons_zero, List.set_cons_succ]
                  refine wpAnyH_take (i := 11) (v := ?_) rfl (by kernel_rfl) (by kernel_rfl) (by kernel_rfl) (fun _ _ _ h => h) (Or.inl ⟨by rfl, ?_⟩) hS2 ?_
                  rotate_left
                  · intro u hu; (try dsimp only at hu); go_simp; try with_reducible rfl
                  simp only [Act.put, List.getElem_toArray, List.getElem_cons_zero, List.getElem_cons_succ, List.setIfInBounds_toArray, List.set_cons_zero, List.set_cons_succ]
                  refine wpAnyH_take (i := 12) (v := ?_) rfl (by kernel_rfl) (by kernel_rfl) (by kernel_rfl) (fun _ _ _ h => h) (Or.inl ⟨by rfl, ?_⟩) hS2 ?_
                  rotate_left
                  · intro u hu; (try dsimp only at hu); go_simp; try with_reducible rfl
                  simp only [Act.put, List.getElem_toArray, List.getElem_cons_zero, List.getElem_cons_succ, List.setIfInBounds_toArray, List.set_cons_zero, List.set_cons_succ]
                  refine wpAnyH_take (i := 13) (v := ?_) rfl (by kernel_rfl) (by kernel_rfl) (by kernel_rfl) (fun _ _ _ h => h) (Or.inl ⟨by rfl, ?_⟩) hS2 ?_
                  rotate_left
                  · intro u hu; (try dsimp only at hu); go_simp; try with_reducible rfl
                  simp only [Act.put, List.getElem_toArray, List.getElem_cons_zero, List.getElem_cons_succ, List.setIfInBounds_toArray, List.set_cons_zero, List.set_cons_succ]
                  refine wpAnyH_take (i := 14) (v := ?_) rfl (by kernel_rfl) (by kernel_rfl) (by kernel_rfl) (fun _ _ _ h => h) (Or.inl ⟨by rfl, ?_⟩) hS2 ?_
                  rotate_left
                  · intro u hu; (try dsimp only at hu); go_simp; try with_reducible rfl
                  simp only [Act.put, List.getElem_toArray, List.getElem_cons_zero, List.getElem_cons_succ, List.setIfInBounds_toArray, List.set_cons_zero, List.set_cons_succ]
                  refine wpAnyH_take (i := 15) (v := ?_) rfl (by kernel_rfl) (by kernel_rfl) (by kernel_rfl) (fun _ _ _ h => h) (Or.inl ⟨by rfl, ?_⟩) hS2 ?_
                  rotate_left
                  · intro u hu; (try dsimp only at hu); go_simp; try with_reducible rfl
                  simp only [Act.put, List.getElem_toArray, List.getElem_cons_zero, List.getElem_cons_succ, List.setIfInBounds_toArray, List.set_cons_zero, List.set_cons_succ]
                  refine wpAnyH_take (i := 16) (v := ?_) rfl (by kernel_rfl) (by kernel_rfl) (by kernel_rfl) (fun _ _ _ h => h) (Or.inl ⟨by rfl, ?_⟩) hS2 ?_
                  rotate_left
                  · intro u hu; (try dsimp only at hu); go_simp; try with_reducible rfl
                  simp only [Act.put, List.getElem_toArray, List.getElem_cons_zero, List.getElem_cons_succ, List.setIfInBounds_toArray, List.set_cons_zero, List.set_cons_succ]
                  refine wpAnyH_take (i := 17) (v := ?_) rfl (by kernel_rfl) (by kernel_rfl) (by kernel_rfl) (fun _ _ _ h => h) (Or.inl ⟨by rfl, ?_⟩) hS2 ?_
                  rotate_left
                  · intro u hu; (try dsimp only at hu); go_simp; try with_reducible rfl
                  simp only [Act.put, List.getElem_toArray, List.getElem_cons_zero, List.getElem_cons_succ, List.setIfInBounds_toArray, List.set_cons_zero, List.set_cons_succ]
                  refine wpAnyH_take (i := 18) (v := ?_) rfl (by kernel_rfl) (by kernel_rfl) (by kernel_rfl) (fun _ _ _ h => h) (Or.inl ⟨by rfl, ?_⟩) hS2 ?_
                  rotate_left
                  · intro u hu; (try dsimp only at hu); go_simp; try with_reducible rfl
                  simp only [Act.put, List.getElem_toArray, List.getElem_cons_zero, List.getElem_cons_succ, List.setIfInBounds_toArray, List.set_cons_zero, List.set_cons_succ]
                  refine wpAnyH_take (i := 19) (v := ?_) rfl (by kernel_rfl) (by kernel_rfl) (by kernel_rfl) (fun _ _ _ h => h) (Or.inl ⟨by rfl, ?_⟩) hS2 ?_
                  rotate_left
                  · intro u hu; (try dsimp only at hu); go_simp; try with_reducible rfl
                  simp only [Act.put, List.getElem_toArray, List.getElem_cons_zero, List.getElem_cons_succ, List.setIfInBounds_toArray, List.set_cons_zero, List.set_cons_succ]
                  refine wpAnyH_take (i := 20) (v := ?_) rfl (by kernel_rfl) (by kernel_rfl) (by kernel_rfl) (fun _ _ _ h => h) (Or.inl ⟨by rfl, ?_⟩) hS2 ?_
                  rotate_left
                  · intro u hu; (try dsimp only at hu); go_simp; try with_reducible rfl
                  simp only [Act.put, List.getElem_toArray, List.getElem_cons_zero, List.getElem_cons_succ, List.setIfInBounds_toArray, List.set_cons_zero, List.set_cons_succ]
                  refine wpAnyH_take (i := 21) (v := ?_) rfl (by kernel_rfl) (by kernel_rfl) (by kernel_rfl) (fun _ _ _ h => h) (Or.inl ⟨by rfl, ?_⟩) hS2 ?_
                  rotate_left
                  · intro u hu; (try dsimp only at hu); go_simp; try with_reducible rfl
                  simp only [Act.put, List.getElem_toArray, List.getElem_cons_zero, List.getElem_cons_succ, List.setIfInBounds_toArray, List.set_cons_zero, List.set_cons_succ]
                  refine wpAnyH_done (by kernel_rfl) ?_ _
                  clear hS2
                  go_wp2_with fail
                  go_roundw
                  case rel => exact ⟨y + 1, by go_num, by omega, HY3⟩
                  case measure => simp [intOf]; omega
                · have hout := unhide HOUT y (by omega)
                  have HH := hide (fun (u : World) => show Calls Tryd.prog 9 #[.int .u64 (cx : Nat), .int .i64 y] u fun e w' => e = .returned (.bool false) ∧ Below u.heap.size u w' from by
                    refine (has_any u cx hckl y).mono ?_
                    rintro e w' ⟨rfl, hb⟩
                    exact ⟨ret_b (by rw [hasI_nat hckl y, hout]), hb⟩)
                  have hyV2 : ¬ (y : Int) < (V : Int) := by omega
                  have hyd : decide ((y : Int) < (V : Int)) = false := decide_eq_false hyV2
                  clear hout
                  go_wp2_with fail
                  refine wp_region_held_drew (S := fun u => u.cell? ⟨gq, oq + m1, none⟩ = some (.int .u64 (cx : Nat)) ∧ u.cell? ⟨w.heap.size, 0, none⟩ = some (.int .i64 V)) (by kernel_rfl) ⟨s0, hcc⟩ (fun hS1 => ?_)
                  have HY2 := hide (show Below wB.heap.size wB wr.drew from (unhide HY).drew)
                  clear s0 hcc
                  generalize wr.drew = wu2 at HY2 hS1 ⊢
                  refine wpAnyH_take (i := 0) (v := ?_) rfl (by kernel_rfl) (by kernel_rfl) (by kernel_rfl) (fun _ _ _ h => h) (Or.inl ⟨by rfl, ?_⟩) hS1 ?_
                  rotate_left
                  · intro u hu; (try dsimp only at hu); go_simp; try with_reducible rfl
                  simp only [Act.put, List.getElem_toArray, List.getElem_cons_zero, List.setIfInBounds_toArray, List.set_cons_zero, List.set_cons_succ]
                  refine wpAnyH_take (i := 1) (v := ?_) rfl (by kernel_rfl) (by kernel_rfl) (by kernel_rfl) (fun _ _ _ h => h) (Or.inl ⟨by rfl, ?_⟩) hS1 ?_
                  rotate_left
                  · intro u hu; (try dsimp only at hu); go_simp; try with_reducible rfl
                  simp only [Act.put, List.getElem_toArray, List.getElem_cons_zero, List.getElem_cons_succ, List.setIfInBounds_toArray, List.set_cons_zero, List.set_cons_succ]
                  refine wpAnyH_take (i := 2) (v := ?_) rfl (by kernel_rfl) (by kernel_rfl) (by kernel_rfl) (fun _ _ _ h => h) (Or.inl ⟨by rfl, ?_⟩) hS1 ?_
                  rotate_left
                  · intro u hu; (try dsimp only at hu); go_simp; try with_reducible rfl
                  simp only [Act.put, List.getElem_toArray, List.getElem_cons_zero, List.getElem_cons_succ, List.setIfInBounds_toArray, List.set_cons_zero, List.set_cons_succ]
                  refine wpAnyH_take (i := 3) (v := ?_) rfl (by kernel_rfl) (by kernel_rfl) (by kernel_rfl) (fun _ _ _ h => h) (Or.inl ⟨by rfl, ?_⟩) hS1 ?_
                  rotate_left
                  · intro u hu; (try dsimp only at hu); go_simp; try with_reducible rfl
                  simp only [Act.put, List.getElem_toArray, List.getElem_cons_zero, List.getElem_cons_succ, List.setIfInBounds_toArray, List.set_cons_zero, List.set_cons_succ]
                  refine wpAnyH_take (i := 4) (v := ?_) rfl (by kernel_rfl) (by kernel_rfl) (by kernel_rfl) (fun _ _ _ h => h) (Or.inl ⟨by rfl, ?_⟩) hS1 ?_
                  rotate_left
                  · intro u hu; (try dsimp only at hu); go_simp; try with_reducible rfl
                  simp only [Act.put, List.getElem_toArray, List.getElem_cons_zero, List.getElem_cons_succ, List.setIfInBounds_toArray, List.set_cons_zero, List.set_cons_succ]
                  refine wpAnyH_take (i := 6) (v := ?_) rfl (by kernel_rfl) (by kernel_rfl) (by kernel_rfl) (fun _ _ _ h => h) (Or.inl ⟨by rfl, ?_⟩) hS1 ?_
                  rotate_left
                  · intro u hu; (try dsimp only at hu); go_simp; try with_reducible rfl
                  simp only [Act.put, List.getElem_toArray, List.getElem_cons_zero, List.getElem_cons_succ, List.setIfInBounds_toArray, List.set_cons_zero, List.set_cons_succ]
                  refine wpAnyH_take (i := 7) (v := ?_) rfl (by kernel_rfl) (by kernel_rfl) (by kernel_rfl) (fun _ _ _ h => h) (Or.inl ⟨by rfl, ?_⟩) hS1 ?_
                  rotate_left
                  · intro u hu; (try dsimp only at hu); go_simp; try with_reducible rfl
                  simp only [Act.put, List.getElem_toArray, List.getElem_cons_zero, List.getElem_cons_succ, List.setIfInBounds_toArray, List.set_cons_zero, List.set_cons_succ]
                  refine wpAnyH_take (i := 8) (v := ?_) rfl (by kernel_rfl) (by kernel_rfl) (by kernel_rfl) (fun _ _ _ h => h) (Or.inl ⟨by rfl, ?_⟩) hS1 ?_
                  rotate_left
                  · intro u hu; (try dsimp only at hu); go_simp; try with_reducible rfl
                  simp only [Act.put, List.getElem_toArray, List.getElem_cons_zero, List.getElem_cons_succ, List.setIfInBounds_toArray, List.set_cons_zero, List.set_cons_succ]
                  refine wpAnyH_take (i := 9) (v := ?_) rfl (by kernel_rfl) (by kernel_rfl) (by kernel_rfl) (fun _ _ _ h => h) (Or.inl ⟨by rfl, ?_⟩) hS1 ?_
                  rotate_left
                  · intro u hu; (try dsimp only at hu); go_simp; try with_reducible rfl
                  simp only [Act.put, List.getElem_toArray, List.getElem_cons_zero, List.getElem_cons_succ, List.setIfInBounds_toArray, List.set_cons_zero, List.set_cons_succ]
                  refine wpAnyH_ready (rs := [5]) (by kernel_rfl) (by simp) ?_
                  refine AllReadyH.cons rfl (fun K hK => ?_) AllReadyH.nil
                  go_simp
                  go_wp2_with (go_at_call 9; refine (unhide HH _).mono ?_; rintro e wd ⟨rfl, hbd⟩; have HY3 := hide (bto (unhide HY2) hbd); clear hbd)
                  refine hK.out _ _ (unhide HSX _ (unhide HY3)) (fun hS2 => ?_)
                  clear hK K hS1
                  refine wpAnyH_take (i := 10) (v := ?_) rfl (by kernel_rfl) (by kernel_rfl) (by kernel_rfl) (fun _ _ _ h => h) (Or.inl ⟨by rfl, ?_⟩) hS2 ?_
                  rotate_left
                  · intro u hu; (try dsimp only at hu); go_simp; try with_reducible rfl
                  simp only [Act.put, List.getElem_toArray, List.getElem_cons_zero, List.getElem_cons_succ, List.setIfInBounds_toArray, List.set_cons_zero, List.set_cons_succ]
                  refine wpAnyH_take (i := 11) (v := undef) rfl (by kernel_rfl) (by kernel_rfl) (by kernel_rfl) (fun _ _ _ h => h) (Or.inr ⟨by rfl, rfl⟩) hS2 ?_
                  simp only [Act.put, List.getElem_toArray, List.getElem_cons_zero, List.getElem_cons_succ, List.setIfInBounds_toArray, List.set_cons_zero, List.set_cons_succ]
                  refine wpAnyH_take (i := 12) (v := undef) rfl (by kernel_rfl) (by kernel_rfl) (by kernel_rfl) (fun _ _ _ h => h) (Or.inr ⟨by rfl, rfl⟩) hS2 ?_
                  simp only [Act.put, List.getElem_toArray, List.getElem_cons_zero, List.getElem_cons_succ, List.setIfInBounds_toArray, List.set_cons_zero, List.set_cons_succ]
                  refine wpAnyH_take (i := 13) (v := undef) rfl (by kernel_rfl) (by kernel_rfl) (by kernel_rfl) (fun _ _ _ h => h) (Or.inr ⟨by rfl, rfl⟩) hS2 ?_
                  simp only [Act.put, List.getElem_toArray, List.getElem_cons_zero, List.getElem_cons_succ, List.setIfInBounds_toArray, List.set_cons_zero, List.set_cons_succ]
                  refine wpAnyH_take (i := 14) (v := undef) rfl (by kernel_rfl) (by kernel_rfl) (by kernel_rfl) (fun _ _ _ h => h) (Or.inr ⟨by rfl, rfl⟩) hS2 ?_
                  simp only [Act.put, List.getElem_toArray, List.getElem_cons_zero, List.getElem_cons_succ, List.setIfInBounds_toArray, List.set_cons_zero, List.set_cons_succ]
                  refine wpAnyH_take (i := 15) (v := undef) rfl (by kernel_rfl) (by kernel_rfl) (by kernel_rfl) (fun _ _ _ h => h) (Or.inr ⟨by rfl, rfl⟩) hS2 ?_
                  simp only [Act.put, List.getElem_toArray, List.getElem_cons_zero, List.getElem_cons_succ, List.setIfInBounds_toArray, List.set_cons_zero, List.set_cons_succ]
                  refine wpAnyH_take (i := 16) (v := undef) rfl (by kernel_rfl) (by kernel_rfl) (by kernel_rfl) (fun _ _ _ h => h) (Or.inr ⟨by rfl, rfl⟩) hS2 ?_
                  simp only [Act.put, List.getElem_toArray, List.getElem_cons_zero, List.getElem_cons_succ, List.setIfInBounds_toArray, List.set_cons_zero, List.set_cons_succ]
                  refine wpAnyH_take (i := 17) (v := undef) rfl (by kernel_rfl) (by kernel_rfl) (by kernel_rfl) (fun _ _ _ h => h) (Or.inr ⟨by rfl, rfl⟩) hS2 ?_
                  simp only [Act.put, List.getElem_toArray, List.getElem_cons_zero, List.getElem_cons_succ, List.setIfInBounds_toArray, List.set_cons_zero, List.set_cons_succ]
                  refine wpAnyH_take (i := 18) (v := undef) rfl (by kernel_rfl) (by kernel_rfl) (by kernel_rfl) (fun _ _ _ h => h) (Or.inr ⟨by rfl, rfl⟩) hS2 ?_
                  simp only [Act.put, List.getElem_toArray, List.getElem_cons_zero, List.getElem_cons_succ, List.setIfInBounds_toArray, List.set_cons_zero, List.set_cons_succ]
                  refine wpAnyH_take (i := 19) (v := undef) rfl (by kernel_rfl) (by kernel_rfl) (by kernel_rfl) (fun _ _ _ h => h) (Or.inr ⟨by rfl, rfl⟩) hS2 ?_
                  simp only [Act.put, List.getElem_toArray, List.getElem_cons_zero, List.getElem_cons_succ, List.setIfInBounds_toArray, List.set_cons_zero, List.set_cons_succ]
                  refine wpAnyH_take (i := 20) (v := ?_) rfl (by kernel_rfl) (by kernel_rfl) (by kernel_rfl) (fun _ _ _ h => h) (Or.inl ⟨by rfl, ?_⟩) hS2 ?_
                  rotate_left
                  · intro u hu; (try dsimp only at hu); go_simp; try with_reducible rfl
                  simp only [Act.put, List.getElem_toArray, List.getElem_cons_zero, List.getElem_cons_succ, List.setIfInBounds_toArray, List.set_cons_zero, List.set_cons_succ]
                  refine wpAnyH_take (i := 21) (v := ?_) rfl (by kernel_rfl) (by kernel_rfl) (by kernel_rfl) (fun _ _ _ h => h) (Or.inl ⟨by rfl, ?_⟩) hS2 ?_
                  rotate_left
                  · intro u hu; (try dsimp only at hu); go_simp; try with_reducible rfl
                  simp only [Act.put, List.getElem_toArray, List.getElem_cons_zero, List.getElem_cons_succ, List.setIfInBounds_toArray, List.set_cons_zero, List.set_cons_succ]
                  refine wpAnyH_done (by kernel_rfl) ?_ _
                  clear hS2
                  go_wp2_with fail
                  go_roundw
                  case rel => exact ⟨y + 1, by go_num, by omega, HY3⟩
                  case measure => simp [intOf]; omega
              · obtain rfl : y = 64 := by omega
                go_wp2_with fail
                go_roundw
                case rel => exact ⟨x + 1, m1 + 1, by go_num, by omega, by go_num, by omega, HM1', HY⟩
                case measure => simp [intOf]; omega
        · have hxe : x = V := by omega
          have hme : m1 = m2 := by rw [← unhide HM1, hxe]; exact unhide HM2
          subst hme
          have hnx : ¬ (x : Int) < (V : Int) := by omega
          clear hxe
          go_wp2_with fail
          go_ret
          exact ⟨rfl, ((unhide HBB).step (unhide HY)).bel⟩
end Go.Proofs.YtjklmbboklgdpaaDoor


/-
  The walk of the statement BlockTree. Conditions: the graph lies in memory as told.
-/
import Derived.Test.YtbecmaandhadhaaTree
import Derived.Test.YtbecmaandhadhaaWt
import Derived.Deep.RegionHeld3
import Derived.Maps.AppendAt
namespace Go.Proofs.Ytbecmaandhadhaa.pt
open Go.RowKit
set_option linter.unusedVariables false
set_option maxRecDepth 20000

theorem neq_node (w : World) (a1 : Bool) (a2 a3 : Int) : (binOp .neq 35 (.agg #[.bool a1, .int .i64 a2, .int .i64 a3]) (.agg #[.bool a1, .int .i64 a2, .int .i64 a3])).run Try.prog w = .ok (.bool false) w := by
  have u35 := Try.underlying35
  go_simp
theorem hangK_pre (N : List Nd) (p : Int) (c : Bool) (l : List Nat) {i : Nat} (hi : i < N.length) (d : Nd) : (hangK N p c l).getD i d = N.getD i d := by
  unfold hangK
  induction l generalizing N with
  | nil => rfl
  | cons x l ih =>
    show (List.foldl _ (put1 N p c x) l).getD i d = _
    rw [ih (put1 N p c x) (Nat.lt_of_lt_of_le hi (put1_le N p c x)), put1_pre N p c x hi]
theorem seqN_head (V : Nat) (es : List (Nat × Nat)) (L : List (List Nat)) : ∀ k, 0 < (seqN V es L k).length ∧ (seqN V es L k).getD 0 (false, 0, 0) = (false, 0, -1)
  | 0 => ⟨by simp [seqN], rfl⟩
  | k + 1 => by
    obtain ⟨h1, h2⟩ := seqN_head V es L k
    exact ⟨Nat.lt_of_lt_of_le h1 (hangK_le _ _ _ _), (hangK_pre _ _ _ _ h1 _).trans h2⟩

theorem take_snocD {B : List Nd} {t : Nat} (ht : t < B.length) : B.take (t + 1) = B.take t ++ [B.getD t (false, 0, 0)] := by
  rw [List.take_succ_eq_append_getElem ht]
  congr 2
  simp [List.getD, ht]
theorem filter_snoc (p : Nat → Bool) {B : List Nat} {t : Nat} (ht : t < B.length) : (B.take (t + 1)).filter p = (B.take t).filter p ++ if p (B.getD t 0) then [B.getD t 0] else [] := by
  rw [take_snocN ht, List.filter_append]
  congr 1
  generalize B.getD t 0 = x
  cases h : p x <;> simp [h]
/-- what stands wherever all stands but boxes of lists -/
def Ro27 (w : World) (P : World → Prop) : Prop := ∀ W : World, w.heap.size ≤ W.heap.size → (∀ (b : Nat) (cur : Array Value) (ty : TypeId) (fz : Nat × Nat), w.heap[b]? = some (Obj.cells cur ty fz) → ty ≠ 27 → W.heap[b]? = w.heap[b]?) → P W
theorem Ro27.step {w w' : World} {P : World → Prop} (h : Ro27 w P) (hb : Below w.heap.size w w') : Ro27 w' P := fun W hs hW => h W (Nat.le_trans hb.size hs) fun b cur ty fz hc ht => by
  have hb' := hb.block b (heap_lt hc)
  rw [hW b cur ty fz (hb'.trans hc) ht, hb']
theorem Ro27.set {w : World} {P : World → Prop} (h : Ro27 w P) {gb : Nat} {c : Array Value} (hg : w.heap[gb]? = some (Obj.cells c 27 (0, 0))) (v : Value) : P (w.setCell ⟨gb, 0, none⟩ v) := h _ (by simp [World.setCell]) fun b cur ty fz hc ht => Below.heap_setCell _ _ _ _ fun e => by
  have e : b = gb := e
  subst e
  rw [hg] at hc
  simp at hc
  exact ht hc.2.1.symm

set_option maxHeartbeats 4000000 in
theorem btree_loose (w : World) (V : Int) (a : Option Addr) (n cap : Nat) (zs : List (Int × Int)) (h : 200 < n ∨ Es 0 w a n zs) (hl : LooseP V n zs) :
    Calls Try.prog 4 #[.agg #[.int .i64 V, .slice a n cap]] w fun e w' => e = .returned (.bool true) ∧ Below w.heap.size w w' := by
  have HE := hide h
  have HL := hide hl
  have HB0 := hide (Bg.start w (.int .i64 V) (.slice a n cap))
  clear h hl
  go_enter Try.func4, Try.ntmps4
  go_wp2_with fail
  refine (speaks_any _).mono ?_
  rintro e w1 ⟨rfl, hb1⟩
  have HB1 := hide ((unhide HB0).step hb1)
  obtain ⟨g0, g1⟩ := (unhide HB1).cells
  clear hb1 HB0
  go_wp2_with fail
  refine (loose_any w1 V a n cap zs (B := 0) ((unhide HE).imp id fun h => h.below (unhide HB1).bel)).mono ?_
  rintro e w2 ⟨⟨r, rfl, hr⟩, hb2⟩
  have hrt : r = true := hr.2 (unhide HL)
  subst hrt
  have HB2 := hide ((unhide HB1).step hb2)
  clear hb2 HB1 g0 g1 hr
  go_wp2_with fail
  go_ret
  exact ⟨rfl, (unhide HB2).bel⟩

set_option maxHeartbeats 4000000 in
theorem btree_zero (w : World) (V : Nat) (a : Option Addr) (cap : Nat) (es : List (Nat × Nat)) (h : Es 0 w a 0 (toI es)) (hl : ¬ LooseP V 0 (toI es)) (C : ∀ u : World, Below w.heap.size w u → Calls Try.prog 11 #[.agg #[.int .i64 V, .slice a 0 cap]] u fun e w' => e = .returned (.slice none 0 0) ∧ Below u.heap.size u w') :
    Calls Try.prog 4 #[.agg #[.int .i64 (V : Int), .slice a 0 cap]] w fun e w' => e = .returned (.bool true) ∧ Below w.heap.size w w' := by
  have HE := hide h
  have HLO := hide hl
  have HC := hide C
  have HB0 := hide (Bg.start w (.int .i64 (V : Int)) (.slice a 0 cap))
  clear h hl C
  go_enter Try.func4, Try.ntmps4
  go_wp2_with fail
  refine (speaks_any _).mono ?_
  rintro e w1 ⟨rfl, hb1⟩
  have HB1 := hide ((unhide HB0).step hb1)
  obtain ⟨g0, g1⟩ := (unhide HB1).cells
  clear hb1 HB0
  go_wp2_with fail
  refine (loose_any w1 V a 0 cap (toI es) (B := 0) (.inr ((unhide HE).below (unhide HB1).bel))).mono ?_
  rintro e w2 ⟨⟨r, rfl, hr⟩, hb2⟩
  have hrt : r = false := by
    cases r with
    | false => rfl
    | true => exact absurd (hr.1 rfl) (unhide HLO)
  subst hrt
  have HB2 := hide ((unhide HB1).step hb2)
  clear hb2 HB1 g0 g1 hr HLO
  obtain ⟨g0, g1⟩ := (unhide HB2).cells
  go_wp2_with fail
  refine (unhide HC w2 (unhide HB2).bel).mono ?_
  rintro e w3 ⟨rfl, hb3⟩
  have HB3 := hide ((unhide HB2).step hb3)
  clear hb3 HB2 g0 g1
  obtain ⟨g0, g1⟩ := (unhide HB3).cells
  go_wp2_with fail
  go_ret
  exact ⟨rfl, (unhide HB3).bel⟩

set_option maxHeartbeats 16000000 in
theorem btree_walk (w : World) (V : Nat) (a : Option Addr) (n cap : Nat) (es : List (Nat × Nat)) (h : Es 0 w a n (toI es)) (hne : es.length = n) (hl : ¬ LooseP V n (toI es)) (hn : n ≤ 40) (hn0 : 0 < n) (hV : V ≤ 64) (L : List (List Nat)) (hL : IsBl es L) (nL nC : Nat) (hnL : L.length = nL) (hnLn : nL ≤ n) (hnL0 : 0 < nL) (cuts : List Nat) (hnC : cuts.length = nC) (hnCV : nC ≤ V) (hcV : ∀ x ∈ cuts, x < V)
    (S : Nat → List Nd) (hS0 : S 0 = [(false, 0, -1)]) (hSs : ∀ k nc na np, (S k).getD k (false, 0, 0) = (nc, na, np) → S (k + 1) = hangK (S k) (k : Int) (!nc) (if nc then (List.range nL).filter (fun b => hasAt es (L.getD b []) na) else cuts.filter fun x => hasAt es (L.getD na []) x)) (hInv : ∀ k, InvN V nL (S k)) (kE : Nat) (hkE : (S kE).length = kE) (hkj : ∀ j, j < kE → j < (S j).length) (hkE0 : 0 < kE) (hhd : (S kE).getD 0 (false, 0, 0) = (false, 0, -1))
    (c11 : ∀ u : World, Below w.heap.size w u → Calls Try.prog 11 #[.agg #[.int .i64 V, .slice a n cap]] u fun e w' => (∃ na ncap, e = .returned (.slice na kE ncap) ∧ Hid (Rn3 w' na kE (S kE))) ∧ Below u.heap.size u w')
    (c13 : ∀ u : World, Below w.heap.size w u → Calls Try.prog 13 #[.agg #[.int .i64 V, .slice a n cap]] u fun e w' => (∃ pa pc, e = .returned (.slice pa nL pc) ∧ Hid (Ro27 w' fun W => Rd W pa nL (fun k => L.getD k []))) ∧ Below u.heap.size u w')
    (c15 : ∀ u : World, Below w.heap.size w u → Calls Try.prog 15 #[.agg #[.int .i64 V, .slice a n cap]] u fun e w' => (∃ ca cc, e = .returned (.slice ca nC cc) ∧ Hid (Ro27 w' fun W => Ns W ca nC (toIs cuts))) ∧ Below u.heap.size u w')
    (c17 : ∀ (u : World), Below w.heap.size w u → ∀ (b : Nat), b < nL → ∀ (ba : Option Addr) (bc : Nat), Ns u ba (L.getD b []).length (toIs (L.getD b [])) → ∀ x : Nat, Calls Try.prog 17 #[.agg #[.int .i64 V, .slice a n cap], .slice ba (L.getD b []).length bc, .int .i64 (x : Int)] u fun e w' => e = .returned (.bool (hasAt es (L.getD b []) x)) ∧ Below u.heap.size u w') :
    Calls Try.prog 4 #[.agg #[.int .i64 (V : Int), .slice a n cap]] w fun e w' => e = .returned (.bool true) ∧ Below w.heap.size w w' := by
  have HE := hide h
  have HLO := hide hl
  have HSS := hide hSs
  have HINV := hide hInv
  have HKE := hide hkE
  have HKJ := hide hkj
  have HHD := hide hhd
  have HS0 := hide hS0
  have HCL := hide hnC
  have HCV := hide hcV
  have C11 := hide c11
  have C13 := hide c13
  have C15 := hide c15
  have C17 := hide c17
  have HB0 := hide (Bg.start w (.int .i64 (V : Int)) (.slice a n cap))
  obtain ⟨k0, hk0, hy0, hy1, hy2⟩ := info_parts info35
  have HK := hide hk0
  have HY0 := hide hy0
  have HY1 := hide hy1
  have HY2 := hide hy2
  have t0 : ((n : Int) == 0) = false := by simp; omega
  have t1 : ((kE : Int) == 0) = false := by simp; omega
  clear h hl hSs hInv hkE hkj hhd hS0 hnC hcV c11 c13 c15 c17 hk0 hy0 hy1 hy2 hne hL hnL
  go_enter Try.func4, Try.ntmps4
  go_wp2_with fail
  refine (speaks_any _).mono ?_
  rintro e w1 ⟨rfl, hb1⟩
  have HB1 := hide ((unhide HB0).step hb1)
  obtain ⟨g0, g1⟩ := (unhide HB1).cells
  clear hb1 HB0
  go_wp2_with fail
  refine (loose_any w1 V a n cap (toI es) (B := 0) (.inr ((unhide HE).below (unhide HB1).bel))).mono ?_
  rintro e w2 ⟨⟨r, rfl, hr⟩, hb2⟩
  have hrt : r = false := by
    cases r with
    | false => rfl
    | true => exact absurd (hr.1 rfl) (unhide HLO)
  subst hrt
  have HB2 := hide ((unhide HB1).step hb2)
  clear hb2 HB1 g0 g1 hr HLO
  obtain ⟨g0, g1⟩ := (unhide HB2).cells
  go_wp2_with fail
  refine (unhide C11 w2 (unhide HB2).bel).mono ?_
  rintro e w3 ⟨⟨ta, tc, rfl, HT3⟩, hb3⟩
  have HB3 := hide ((unhide HB2).step hb3)
  clear hb3 HB2 g0 g1 C11
  obtain ⟨g0, g1⟩ := (unhide HB3).cells
  go_upto_region 8 with fail
  have HSC := hide (fun (W : World) (hW : Below w3.heap.size w3 W) => show W.cell? ⟨w.heap.size, 0, none⟩ = some (.int .i64 (V : Int)) ∧ W.cell? ⟨w.heap.size, 1, none⟩ = some (.slice a n cap) from ((unhide HB3).step hW).cells)
  have HBW := hide (fun (W : World) (hW : Below w3.heap.size w3 W) => ((unhide HB3).step hW).bel)
  have hlt3 := (unhide HB3).lt
  go_cut [4, 5] from 32 to 36 (fun v4 v5 wx => ∃ gb pa pc ca cc, v4 = .pointer (some ⟨gb, 0, none⟩) ∧ v5 = .slice ca nC cc ∧ Hid (wx.heap[gb]? = some (.cells #[.slice pa nL pc] 27 (0, 0))) ∧ Hid (Rd wx pa nL (fun k => L.getD k [])) ∧ Hid (Ns wx ca nC (toIs cuts)) ∧ Hid (Below w3.heap.size w3 wx))
  case first =>
    have hs0 := unhide HSC w3 (Below.refl _ _)
    have HX0 := hide (show Below w3.heap.size w3 w3.drew from b_dr)
    refine wp_region_held_drew (S := fun u => u.cell? ⟨w.heap.size, 0, none⟩ = some (.int .i64 (V : Int)) ∧ u.cell? ⟨w.heap.size, 1, none⟩ = some (.slice a n cap)) (by kernel_rfl) hs0 (fun hS => ?_)
    generalize w3.drew = wd at HX0 hS ⊢
    clear hs0 g0 g1
    refine wpAnyH_take (i := 0) (v := ?_) rfl (by kernel_rfl) (by kernel_rfl) (by kernel_rfl) (fun _ _ _ h => h) (Or.inl ⟨by rfl, ?_⟩) hS ?_
    rotate_left
    · intro u hu; (try dsimp only at hu); go_simp; try with_reducible rfl
    simp only [Act.put, List.getElem_toArray, List.getElem_cons_zero, List.setIfInBounds_toArray, List.set_cons_zero, List.set_cons_succ]
    refine wpAnyH_take (i := 2) (v := ?_) rfl (by kernel_rfl) (by kernel_rfl) (by kernel_rfl) (fun _ _ _ h => h) (Or.inl ⟨by rfl, ?_⟩) hS ?_
    rotate_left
    · intro u hu; (try dsimp only at hu); go_simp; try with_reducible rfl
    simp only [Act.put, List.getElem_toArray, List.getElem_cons_zero, List.getElem_cons_succ, List.setIfInBounds_toArray, List.set_cons_zero, List.set_cons_succ]
    refine wpAnyH_ready (rs := [1, 4]) (by kernel_rfl) (by simp) ?_
    refine AllReadyH.cons rfl (fun K hK => ?_) (AllReadyH.cons rfl (fun K hK => ?_) AllReadyH.nil)
    · go_simp
      refine (unhide C13 wd (unhide HBW wd (unhide HX0))).mono ?_
      rintro e we ⟨⟨pa, pc, rfl, HRD0⟩, hbb⟩
      have HX1 := hide (bto (unhide HX0) hbb)
      refine hK.out _ _ (unhide HSC _ (unhide HX1)) (fun hS2 => ?_)
      clear hK K hS hbb HX0
      have hS := hS2
      clear hS2
      refine wpAnyH_ready (rs := [3, 4]) (by kernel_rfl) (by simp) ?_
      refine AllReadyH.cons rfl (fun K hK => ?_) (AllReadyH.cons rfl (fun K hK => ?_) AllReadyH.nil)
      · go_simp
        refine (unhide C15 we (unhide HBW we (unhide HX1))).mono ?_
        rintro e wf ⟨⟨ca, cc, rfl, HNS0⟩, hbb⟩
        have HX2 := hide (bto (unhide HX1) hbb)
        have HRD1 := hide ((unhide HRD0).step hbb)
        clear HRD0
        have HRD0 := HRD1
        clear HRD1
        refine hK.out _ _ (unhide HSC _ (unhide HX2)) (fun hS2 => ?_)
        clear hK K hS hbb HX1
        have hS := hS2
        clear hS2
        refine wpAnyH_ready (rs := [4]) (by kernel_rfl) (by simp) ?_
        refine AllReadyH.cons rfl (fun K hK => ?_) AllReadyH.nil
        go_simp
        have hbb := b_al (w := wf) (.cells #[.slice none 0 0] 27)
        have HX3 := hide (bto (unhide HX2) hbb)
        have HGB := hide (bx_alloc wf #[.slice none 0 0] 27)
        have HGL := hide (show w3.heap.size ≤ wf.heap.size from (unhide HX2).size)
        have HRD1 := hide ((unhide HRD0).step hbb)
        clear HRD0
        have HRD0 := HRD1
        clear HRD1
        have HNS1 := hide ((unhide HNS0).step hbb)
        clear HNS0
        have HNS0 := HNS1
        clear HNS1
        refine hK.out _ _ (unhide HSC _ (unhide HX3)) (fun hS2 => ?_)
        clear hK K hS hbb HX2
        have hS := hS2
        clear hS2
        generalize wf.alloc (.cells #[.slice none 0 0] 27) = wg at *
        generalize wf.heap.size = gb at *
        refine wpAnyH_ready (rs := [5]) (by kernel_rfl) (by simp) ?_
        refine AllReadyH.cons rfl (fun K hK => ?_) AllReadyH.nil
        have q0 : wg.cell? ⟨gb, 0, none⟩ = some (.slice none 0 0) := by simp [World.cell?, unhide HGB]
        have q1 : wg.frozen? ⟨gb, 0, none⟩ = false := by simp [World.frozen?, unhide HGB]
        go_simp
        have hxs : Below w3.heap.size w3 (wg.setCell ⟨gb, 0, none⟩ (.slice pa nL pc)) := (unhide HX3).setCell (p := ⟨gb, 0, none⟩) (unhide HGL) _
        have HXS := hide hxs
        have HGE := hide (show (wg.setCell ⟨gb, 0, none⟩ (.slice pa nL pc)).heap[gb]? = some (.cells #[.slice pa nL pc] 27 (0, 0)) by simp [World.setCell, Array.getElem?_modify, unhide HGB])
        have HRE := hide ((unhide HRD0).set (unhide HGB) (.slice pa nL pc))
        have HNE := hide ((unhide HNS0).set (unhide HGB) (.slice pa nL pc))
        refine hK.out _ _ (unhide HSC _ hxs) (fun hS2 => ?_)
        clear hK K hS q0 q1 hxs HRD0 HNS0 HGB
        refine wpAnyH_take (i := 6) (v := ?_) rfl (by kernel_rfl) (by kernel_rfl) (by kernel_rfl) (fun _ _ _ h => h) (Or.inl ⟨by rfl, ?_⟩) hS2 ?_
        rotate_left
        · intro u hu; (try dsimp only at hu); go_simp; try with_reducible rfl
        simp only [Act.put, List.getElem_toArray, List.getElem_cons_zero, List.getElem_cons_succ, List.setIfInBounds_toArray, List.set_cons_zero, List.set_cons_succ]
        refine wpAnyH_done (by kernel_rfl) ?_ _
        go_wp2_with fail
        go_meet
        exact ⟨gb, pa, pc, ca, cc, rfl, rfl, HGE, HRE, HNE, HXS⟩
      · go_simp
        have hbb := b_al (w := we) (.cells #[.slice none 0 0] 27)
        have HX2 := hide (bto (unhide HX1) hbb)
        have HGB := hide (bx_alloc we #[.slice none 0 0] 27)
        have HGL := hide (show w3.heap.size ≤ we.heap.size from (unhide HX1).size)
        have HRD1 := hide ((unhide HRD0).step hbb)
        clear HRD0
        have HRD0 := HRD1
        clear HRD1
        refine hK.out _ _ (unhide HSC _ (unhide HX2)) (fun hS2 => ?_)
        clear hK K hS hbb HX1
        have hS := hS2
        clear hS2
        generalize we.alloc (.cells #[.slice none 0 0] 27) = wf at *
        generalize we.heap.size = gb at *
        refine wpAnyH_ready (rs := [3]) (by kernel_rfl) (by simp) ?_
        refine AllReadyH.cons rfl (fun K hK => ?_) AllReadyH.nil
        go_simp
        refine (unhide C15 wf (unhide HBW wf (unhide HX2))).mono ?_
        rintro e wg ⟨⟨ca, cc, rfl, HNS0⟩, hbb⟩
        have HX3 := hide (bto (unhide HX2) hbb)
        have HRD1 := hide ((unhide HRD0).step hbb)
        clear HRD0
        have HRD0 := HRD1
        clear HRD1
        have HGB1 := hide ((hbb.block gb (heap_lt (unhide HGB))).trans (unhide HGB))
        clear HGB
        have HGB := HGB1
        clear HGB1
        refine hK.out _ _ (unhide HSC _ (unhide HX3)) (fun hS2 => ?_)
        clear hK K hS hbb HX2
        have hS := hS2
        clear hS2
        refine wpAnyH_ready (rs := [5]) (by kernel_rfl) (by simp) ?_
        refine AllReadyH.cons rfl (fun K hK => ?_) AllReadyH.nil
        have q0 : wg.cell? ⟨gb, 0, none⟩ = some (.slice none 0 0) := by simp [World.cell?, unhide HGB]
        have q1 : wg.frozen? ⟨gb, 0, none⟩ = false := by simp [World.frozen?, unhide HGB]
        go_simp
        have hxs : Below w3.heap.size w3 (wg.setCell ⟨gb, 0, none⟩ (.slice pa nL pc)) := (unhide HX3).setCell (p := ⟨gb, 0, none⟩) (unhide HGL) _
        have HXS := hide hxs
        have HGE := hide (show (wg.setCell ⟨gb, 0, none⟩ (.slice pa nL pc)).heap[gb]? = some (.cells #[.slice pa nL pc] 27 (0, 0)) by simp [World.setCell, Array.getElem?_modify, unhide HGB])
        have HRE := hide ((unhide HRD0).set (unhide HGB) (.slice pa nL pc))
        have HNE := hide ((unhide HNS0).set (unhide HGB) (.slice pa nL pc))
        refine hK.out _ _ (unhide HSC _ hxs) (fun hS2 => ?_)
        clear hK K hS q0 q1 hxs HRD0 HNS0 HGB
        refine wpAnyH_take (i := 6) (v := ?_) rfl (by kernel_rfl) (by kernel_rfl) (by kernel_rfl) (fun _ _ _ h => h) (Or.inl ⟨by rfl, ?_⟩) hS2 ?_
        rotate_left
        · intro u hu; (try dsimp only at hu); go_simp; try with_reducible rfl
        simp only [Act.put, List.getElem_toArray, List.getElem_cons_zero, List.getElem_cons_succ, List.setIfInBounds_toArray, List.set_cons_zero, List.set_cons_succ]
        refine wpAnyH_done (by kernel_rfl) ?_ _
        go_wp2_with fail
        go_meet
        exact ⟨gb, pa, pc, ca, cc, rfl, rfl, HGE, HRE, HNE, HXS⟩
    · go_simp
      have hbb := b_al (w := wd) (.cells #[.slice none 0 0] 27)
      have HX1 := hide (bto (unhide HX0) hbb)
      have HGB := hide (bx_alloc wd #[.slice none 0 0] 27)
      have HGL := hide (show w3.heap.size ≤ wd.heap.size from (unhide HX0).size)
      refine hK.out _ _ (unhide HSC _ (unhide HX1)) (fun hS2 => ?_)
      clear hK K hS hbb HX0
      have hS := hS2
      clear hS2
      generalize wd.alloc (.cells #[.slice none 0 0] 27) = we at *
      generalize wd.heap.size = gb at *
      refine wpAnyH_ready (rs := [1]) (by kernel_rfl) (by simp) ?_
      refine AllReadyH.cons rfl (fun K hK => ?_) AllReadyH.nil
      go_simp
      refine (unhide C13 we (unhide HBW we (unhide HX1))).mono ?_
      rintro e wf ⟨⟨pa, pc, rfl, HRD0⟩, hbb⟩
      have HX2 := hide (bto (unhide HX1) hbb)
      have HGB1 := hide ((hbb.block gb (heap_lt (unhide HGB))).trans (unhide HGB))
      clear HGB
      have HGB := HGB1
      clear HGB1
      refine hK.out _ _ (unhide HSC _ (unhide HX2)) (fun hS2 => ?_)
      clear hK K hS hbb HX1
      have hS := hS2
      clear hS2
      refine wpAnyH_ready (rs := [3]) (by kernel_rfl) (by simp) ?_
      refine AllReadyH.cons rfl (fun K hK => ?_) AllReadyH.nil
      go_simp
      refine (unhide C15 wf (unhide HBW wf (unhide HX2))).mono ?_
      rintro e wg ⟨⟨ca, cc, rfl, HNS0⟩, hbb⟩
      have HX3 := hide (bto (unhide HX2) hbb)
      have HRD1 := hide ((unhide HRD0).step hbb)
      clear HRD0
      have HRD0 := HRD1
      clear HRD1
      have HGB1 := hide ((hbb.block gb (heap_lt (unhide HGB))).trans (unhide HGB))
      clear HGB
      have HGB := HGB1
      clear HGB1
      refine hK.out _ _ (unhide HSC _ (unhide HX3)) (fun hS2 => ?_)
      clear hK K hS hbb HX2
      have hS := hS2
      clear hS2
      refine wpAnyH_ready (rs := [5]) (by kernel_rfl) (by simp) ?_
      refine AllReadyH.cons rfl (fun K hK => ?_) AllReadyH.nil
      have q0 : wg.cell? ⟨gb, 0, none⟩ = some (.slice none 0 0) := by simp [World.cell?, unhide HGB]
      have q1 : wg.frozen? ⟨gb, 0, none⟩ = false := by simp [World.frozen?, unhide HGB]
      go_simp
      have hxs : Below w3.heap.size w3 (wg.setCell ⟨gb, 0, none⟩ (.slice pa nL pc)) := (unhide HX3).setCell (p := ⟨gb, 0, none⟩) (unhide HGL) _
      have HXS := hide hxs
      have HGE := hide (show (wg.setCell ⟨gb, 0, none⟩ (.slice pa nL pc)).heap[gb]? = some (.cells #[.slice pa nL pc] 27 (0, 0)) by simp [World.setCell, Array.getElem?_modify, unhide HGB])
      have HRE := hide ((unhide HRD0).set (unhide HGB) (.slice pa nL pc))
      have HNE := hide ((unhide HNS0).set (unhide HGB) (.slice pa nL pc))
      refine hK.out _ _ (unhide HSC _ hxs) (fun hS2 => ?_)
      clear hK K hS q0 q1 hxs HRD0 HNS0 HGB
      refine wpAnyH_take (i := 6) (v := ?_) rfl (by kernel_rfl) (by kernel_rfl) (by kernel_rfl) (fun _ _ _ h => h) (Or.inl ⟨by rfl, ?_⟩) hS2 ?_
      rotate_left
      · intro u hu; (try dsimp only at hu); go_simp; try with_reducible rfl
      simp only [Act.put, List.getElem_toArray, List.getElem_cons_zero, List.getElem_cons_succ, List.setIfInBounds_toArray, List.set_cons_zero, List.set_cons_succ]
      refine wpAnyH_done (by kernel_rfl) ?_ _
      go_wp2_with fail
      go_meet
      exact ⟨gb, pa, pc, ca, cc, rfl, rfl, HGE, HRE, HNE, HXS⟩
  case rest =>
    obtain ⟨gb, pa, pc, ca, cc, rfl, rfl, HGE, HRE, HNE, HXS⟩ := hcut
    rename World => wx
    have HBX := hide ((unhide HB3).step (unhide HXS))
    have HTX := hide ((unhide HT3).below (unhide HXS))
    obtain ⟨gt, ot, hta, hgt, e0, e1, e2⟩ := (unhide HTX).2 0 hkE0
    subst hta
    rw [unhide HHD] at e0 e1 e2
    simp only [Nat.zero_mul, Nat.add_zero] at e0 e1 e2
    have e1' : wx.cell? ⟨gt, ot + 1, none⟩ = some (.int .i64 0) := by simpa using e1
    have e2' : wx.cell? ⟨gt, ot + 2, none⟩ = some (.int .i64 (-1)) := by simpa using e2
    have hkE2 : (0 : Int) < (kE : Int) := by omega
    have hgtx := hgt
    obtain ⟨gp, op, _, _, hpa, _, _, _⟩ := (unhide HRE) 0 hnL0
    subst hpa
    clear e1 e2 HT3 HB3 HSC HBW HXS g0 g1
    have HO0 := hide (show (wx.alloc (.cells #[.bool false, .int .i64 0, .int .i64 (-1)] 35)).ownsRow wx.heap.size 35 3 (.slice (some ⟨wx.heap.size, 0, none⟩) 1 1) (S 0).length (ncells (S 0)) by
      rw [unhide HS0]
      exact World.ownsRow_lit wx #[.bool false, .int .i64 0, .int .i64 (-1)] 1 (Nat.le_refl _) (by unfold maxLen; omega) rfl)
    have HXB0 := hide (b_al (w := wx) (.cells #[.bool false, .int .i64 0, .int .i64 (-1)] 35))
    go_wp2_with fail
    clear e0 e1' e2' hgt hgtx
    go_loopw [7, 8] (fun v7 v8 wr => ∃ k : Nat, v8 = .int .i64 k ∧ Hid (k ≤ (S k).length) ∧ Hid (∀ j, j < k → j < (S j).length) ∧ Hid (wr.ownsRow wx.heap.size 35 3 v7 (S k).length (ncells (S k))) ∧ Hid (Below wx.heap.size wx wr)) (fun v7 v8 wr => V + nL + 1 - (intOf v8).toNat)
    case atStart => exact ⟨0, rfl, Nat.zero_le _, fun j hj => by omega, HO0, HXB0⟩
    case round =>
      clear HO0 HXB0
      obtain ⟨k, rfl, HKL, HJ, HO, HX⟩ := hrel
      rename World => w5
      have hlen := (unhide HINV k).len
      have hkle := unhide HKL
      obtain ⟨na, ncap, hnv, hrn⟩ := rn_of_owns (unhide HO)
      subst hnv
      have HINVk := hide (unhide HINV k)
      have HSSk := hide (unhide HSS k)
      obtain ⟨T, hT⟩ : ∃ T, S k = T := ⟨_, rfl⟩
      have HT := hide hT
      rw [hT] at hlen hkle hrn HINVk HSSk HO
      obtain ⟨sl, hsl⟩ : ∃ sl, T.length = sl := ⟨_, rfl⟩
      rw [hsl] at hlen hkle hrn HO
      have HSL := hide hsl
      have hws5 := (unhide HX).size
      have HB5 := hide ((unhide HBX).step (unhide HX))
      rw [hT, hsl]
      clear hT hsl
      by_cases hkl : k < sl
      · have hlt2 : (k : Int) < (sl : Int) := by omega
        obtain ⟨gr, off, hna, hgr, d0, d1, d2⟩ := hrn.2 k hkl
        subst hna
        obtain ⟨⟨nc, nx, np⟩, hnd⟩ : ∃ x, T.getD k (false, 0, 0) = x := ⟨_, rfl⟩
        have hkT : k < T.length := by rw [unhide HSL]; exact hkl
        have hrg := (unhide HINVk).rg (T.getD k (false, 0, 0)) (by simp [List.getD, hkT])
        rw [hnd] at d0 d1 d2 hrg
        simp only at d0 d1 d2 hrg
        have HND := hide hnd
        have HSUC := hide (unhide HSSk nc nx np hnd)
        have HJ1 := hide (show ∀ j, j < k + 1 → j < (S j).length from fun j hj => by
          by_cases e : j = k
          · rw [e, unhide HT, unhide HSL]; exact hkl
          · exact unhide HJ j (by omega))
        have HM0 := hide (owns_lit_empty w5 35 3 w5.heap.size (Nat.le_refl _))
        have HXM0 := hide (b_al (w := w5) (.cells #[] 35))
        clear hnd hrn hkT HSSk
        cases nc with
        | true =>
          have hnxb : nx < V := hrg.1 rfl
          obtain ⟨cand, hcand⟩ : ∃ cand : List Nat, cand = (List.range nL) := ⟨_, rfl⟩
          have hcl : cand.length = nL := by rw [hcand]; simp
          have HCN := hide hcl
          have HCG := hide (show ∀ t, t < nL → cand.getD t 0 = t from fun t ht => by rw [hcand]; simp [List.getD, ht])
          obtain ⟨p, hpd⟩ : ∃ p : Nat → Bool, p = (fun x => hasAt es (L.getD x []) nx) := ⟨_, rfl⟩
          have HPD := hide hpd
          have HSU := hide (show S (k + 1) = hangK T (k : Int) false (cand.filter p) by
            rw [unhide HSUC, hcand, hpd]
            rfl)
          have hmb : nL ≤ 64 := by omega
          have HBN := hide (show ∀ t, (hangK T (k : Int) false ((cand.take t).filter p)).length ≤ 1000 from fun t => Nat.le_trans ((unhide HINVk).hang (k : Int) (c := false) (l := (cand.take t).filter p) (fun x hx => by
            have hxc : x ∈ cand := List.mem_of_mem_take (List.mem_filter.1 hx).1
            rw [hcand] at hxc
            exact ⟨fun e => (by cases e), fun _ => List.mem_range.1 hxc⟩)).len (by omega))
          obtain ⟨CL, hCL⟩ : ∃ CL : List Nd, CL = cand.map fun x => (false, x, (k : Int)) := ⟨_, rfl⟩
          have hCLl : CL.length = nL := by rw [hCL, List.length_map, hcl]
          have HCLL := hide hCLl
          have HCLG := hide (show ∀ t, t < nL → CL.getD t (false, 0, 0) = (false, cand.getD t 0, (k : Int)) from fun t ht => by
            have : t < cand.length := by rw [hcl]; exact ht
            rw [hCL]; simp [List.getD, this])
          clear hCL hCLl
          have hbx5 : w5.cell? ⟨gb, 0, none⟩ = some (.slice (some ⟨gp, op, none⟩) nL pc) := ((unhide HX).cell (p := ⟨gb, 0, none⟩) (heap_lt (unhide HGE))).trans (by simp [World.cell?, unhide HGE])
          have hgb5 : gb < w5.heap.size := Nat.lt_of_lt_of_le (heap_lt (unhide HGE)) hws5
          clear hcand hcl hpd HSUC
          go_wp2_with fail
          go_loopw [9, 76] (fun v9 vi wr => ∃ t : Nat, vi = .int .i64 t ∧ t ≤ nL ∧ Hid (wr.ownsRow w5.heap.size 35 3 v9 t (ncells (CL.take t))) ∧ Hid (Below w5.heap.size w5 wr)) (fun v9 vi wr => nL - (intOf vi).toNat)
          case atStart => exact ⟨0, rfl, by omega, HM0, HXM0⟩
          case round =>
            clear HM0 HXM0
            obtain ⟨t, rfl, ht, HM, HXM⟩ := hrel
            have hs6 := (unhide HXM).size
            by_cases htm : t < nL
            · have htm2 : (t : Int) < (nL : Int) := by omega
              have hsn := take_snocD (B := CL) (t := t) (by rw [unhide HCLL]; exact htm)
              rw [unhide HCLG t htm] at hsn
              rw [unhide HCG t htm] at hsn
              have HSN := hide (show ncells (CL.take (t + 1)) = ncells (CL.take t) ++ [.bool false, .int .i64 (t : Int), .int .i64 (k : Int)] by rw [hsn]; exact ncells_snoc _ (false, t, (k : Int)))
              clear hsn
              go_wp2_with (at_builtin; refine wpList_append_own _ rfl (.tmp 79) (.tmp 83) 31 rfl w5.heap.size 35 k0 (.agg #[.bool false, .int .i64 0, .int .i64 0]) 3 24 Try.underlying31 (unhide HK) (unhide HY0) (unhide HY1) (unhide HY2) rfl (by decide) u9 t _ rfl ((unhide HM).alloc _) ⟨wr.heap.size, 0, none⟩ 1 1 [.bool false, .int .i64 (t : Int), .int .i64 (k : Int)] rfl rfl (cell_three_new _ _ _ _ _) (three_n _ _ _) ?a3 ?a4 ?a5 ?_)
              case a3 => unfold maxLen; omega
              case a4 => omega
              case a5 => simp; omega
              intro v8 w8 ho8 hg8 _
              have HM8 := hide (show w8.ownsRow w5.heap.size 35 3 v8 (t + 1) (ncells (CL.take (t + 1))) by rw [unhide HSN]; exact ho8)
              have HX8 := hide (((unhide HXM).trans ((b_al (w := wr) (.cells #[.bool false, .int .i64 (t : Int), .int .i64 (k : Int)] 35)).mono hs6)).grown hg8 (by simp; omega) fun b hb => ((unhide HM).lt b hb).1)
              clear ho8 hg8 HM HXM
              go_wp2_with fail
              go_roundw
              case rel => exact ⟨t + 1, by go_num, by omega, HM8, HX8⟩
              case measure => simp [intOf]; omega
            · obtain rfl : nL = t := by omega
              rename World => w6
              have htk : CL.take nL = CL := List.take_of_length_le (by rw [unhide HCLL]; exact Nat.le_refl _)
              have hM6 : w6.ownsRow w5.heap.size 35 3 u9 nL (ncells CL) := by have := unhide HM; rwa [htk] at this
              obtain ⟨ma, mc, hmv, _⟩ := rn_of_owns hM6
              subst hmv
              have HM6 := hide hM6
              have HO6 := hide (owns_below (unhide HO) (unhide HXM))
              have HX6 := hide (bto (unhide HX) (unhide HXM))
              have HNQ0 := hide (show ∀ g, (Value.slice ma nL mc).ownBlock = some g → (Value.slice (some ⟨gr, off, none⟩) sl ncap).ownBlock ≠ some g from fun g hg e => by
                have h1 := (hM6.lt g hg).1
                have h2 := ((unhide HO).lt g e).2
                omega)
              have HN0 := hide (show T = hangK T (k : Int) false ((cand.take 0).filter p) from rfl)
              have HTI := hide (show ∀ N, (∃ l, N = hangK T (k : Int) false l) → N.getD k (false, 0, 0) = (true, nx, np) ∧ k < N.length from fun N hN => by
                obtain ⟨l, rfl⟩ := hN
                have hk' : k < T.length := by rw [unhide HSL]; exact hkl
                exact ⟨(hangK_pre T _ _ _ hk' _).trans (unhide HND), Nat.lt_of_lt_of_le hk' (hangK_le _ _ _ _)⟩)
              have HO6' := hide (show w6.ownsRow wx.heap.size 35 3 (.slice (some ⟨gr, off, none⟩) sl ncap) T.length (ncells T) by rw [unhide HSL]; exact unhide HO6)
              clear htk hM6 HM HO HX HXM HO6
              go_wp2_with fail
              go_loopw [7, 101] (fun v7 v101 wr => ∃ (t : Nat) (N : List Nd), v101 = .int .i64 t ∧ t ≤ nL ∧ Hid (N = hangK T (k : Int) false ((cand.take t).filter p)) ∧ Hid (wr.ownsRow wx.heap.size 35 3 v7 N.length (ncells N)) ∧ Hid (wr.ownsRow w5.heap.size 35 3 (.slice ma nL mc) nL (ncells CL)) ∧ Hid (∀ g, (Value.slice ma nL mc).ownBlock = some g → v7.ownBlock ≠ some g) ∧ Hid (Below wx.heap.size wx wr)) (fun v7 v101 wr => nL - (intOf v101).toNat)
              case atStart => exact ⟨0, T, rfl, by omega, HN0, HO6', HM6, HNQ0, HX6⟩
              case round =>
                clear HN0 HO6' HM6 HNQ0 HX6
                obtain ⟨t, N, rfl, ht, HN, HO, HM, HNQ, HX⟩ := hrel
                rename World => w7
                obtain ⟨hNk, hkN⟩ := unhide HTI N ⟨_, unhide HN⟩
                have hNb : N.length ≤ 1000 := by rw [unhide HN]; exact unhide HBN t
                obtain ⟨na7, nc7, hv7, hrn7⟩ := rn_of_owns (unhide HO)
                subst hv7
                have hws7 := (unhide HX).size
                by_cases htm : t < nL
                · have htm2 : (t : Int) < (nL : Int) := by omega
                  obtain ⟨ma', mc', hmv, hrm⟩ := rn_of_owns (unhide HM)
                  cases hmv
                  obtain ⟨gm, om, hma, hgm, f0, f1, f2⟩ := hrm.2 t htm
                  subst hma
                  rw [unhide HCLG t htm] at f0 f1 f2
                  simp only at f0 f1 f2
                  have hfs := filter_snoc p (B := cand) (t := t) (by rw [unhide HCN]; exact htm)
                  have hxb : cand.getD t 0 < nL := by rw [unhide HCG t htm]; exact htm
                  generalize cand.getD t 0 = x at f0 f1 f2 hfs hxb
                  have HFS := hide hfs
                  obtain ⟨gw, ow, hna7, hgw, r0, r1, r2⟩ := hrn7.2 k hkN
                  subst hna7
                  rw [hNk] at r0 r1 r2
                  simp only at r0 r1 r2
                  have hkN2 : (k : Int) < (N.length : Int) := by omega
                  obtain ⟨w8, hw8⟩ : ∃ w8 : World, w8 = w7.alloc (.cells #[.bool false, .int .i64 (x : Int), .int .i64 (k : Int)] 35) := ⟨_, rfl⟩
                  have hb8 : Below w7.heap.size w7 w8 := by rw [hw8]; exact b_al _
                  have k8 : w8.heap[w7.heap.size]? = some (.cells #[.bool false, .int .i64 (x : Int), .int .i64 (k : Int)] 35 (0, 0)) := by rw [hw8]; exact bx_alloc _ _ _
                  have HX8 := hide (bto (unhide HX) hb8)
                  have HC16 := hide (fun (W : World) (hW : Below w8.heap.size w8 W) => show Calls Try.prog 16 #[.agg #[.bool false, .int .i64 (x : Int), .int .i64 (k : Int)], .agg #[.bool true, .int .i64 (nx : Int), .int .i64 np], .pointer (some ⟨gb, 0, none⟩), .pointer (some ⟨w.heap.size, 0, none⟩)] W fun e w' => e = .returned (.bool (p x)) ∧ Below W.heap.size W w' from by
                    have hWx := bto (unhide HX8) hW
                    have hbW := (unhide HBX).step hWx
                    obtain ⟨gp', op', ba, bc, h1, h2, h3, h4⟩ := ((unhide HRE).below hWx) x hxb
                    cases h1
                    rw [unhide HPD]
                    exact in_cut W x nx (k : Int) np gb w.heap.size V a n cap nL pc gp op ba _ bc _ ((hWx.cell (p := ⟨gb, 0, none⟩) (heap_lt (unhide HGE))).trans (by simp [World.cell?, unhide HGE])) h3 hbW.cells.1 hbW.cells.2 (Nat.lt_of_lt_of_le (heap_lt (unhide HGE)) hWx.size) h2 hbW.lt hxb (by omega) (fun W' hW' => unhide C17 W' (bto hbW.bel hW') x hxb ba bc (h4.below hW') nx))
                  obtain ⟨px, hpx⟩ : ∃ px, p x = px := ⟨_, rfl⟩
                  rw [hpx] at HC16
                  have HPX := hide hpx
                  have HS8 := hide (fun (W : World) (hW : Below w8.heap.size w8 W) => show W.cell? ⟨w7.heap.size, 0, none⟩ = some (.bool false) ∧ W.cell? ⟨w7.heap.size, 1, none⟩ = some (.int .i64 (x : Int)) ∧ W.cell? ⟨w7.heap.size, 2, none⟩ = some (.int .i64 (k : Int)) ∧ W.cell? ⟨gw, ow + k * 3, none⟩ = some (.bool true) ∧ W.cell? ⟨gw, ow + k * 3 + 1, none⟩ = some (.int .i64 (nx : Int)) ∧ W.cell? ⟨gw, ow + k * 3 + 2, none⟩ = some (.int .i64 np) ∧ Hid (Below w8.heap.size w8 W) from
                    ⟨by rw [hW.cell (p := ⟨w7.heap.size, 0, none⟩) (heap_lt k8)]; simp [World.cell?, k8], by rw [hW.cell (p := ⟨w7.heap.size, 1, none⟩) (heap_lt k8)]; simp [World.cell?, k8], by rw [hW.cell (p := ⟨w7.heap.size, 2, none⟩) (heap_lt k8)]; simp [World.cell?, k8],
                      ((bto hb8 hW).cell (p := ⟨gw, ow + k * 3, none⟩) hgw).trans r0, ((bto hb8 hW).cell (p := ⟨gw, ow + k * 3 + 1, none⟩) hgw).trans r1, ((bto hb8 hW).cell (p := ⟨gw, ow + k * 3 + 2, none⟩) hgw).trans r2, hW⟩)
                  have HO8 := hide (owns_below (unhide HO) hb8)
                  have HM8 := hide (owns_below (unhide HM) hb8)
                  have hs78 : w7.heap.size < w8.heap.size := heap_lt k8
                  go_upto_region 31 with fail
                  rw [← hw8]
                  have hS1 := unhide HS8 w8 (Below.refl _ _)
                  have hS0 := unhide HS8 w8.drew b_dr
                  clear hpx hw8 hb8 k8 r0 r1 r2 f0 f1 f2 hrm hrn7 HO HM HX hfs hgw hgm
                  go_region_held3 (fun u => u.cell? ⟨w7.heap.size, 0, none⟩ = some (.bool false) ∧ u.cell? ⟨w7.heap.size, 1, none⟩ = some (.int .i64 (x : Int)) ∧ u.cell? ⟨w7.heap.size, 2, none⟩ = some (.int .i64 (k : Int)) ∧ u.cell? ⟨gw, ow + k * 3, none⟩ = some (.bool true) ∧ u.cell? ⟨gw, ow + k * 3 + 1, none⟩ = some (.int .i64 (nx : Int)) ∧ u.cell? ⟨gw, ow + k * 3 + 2, none⟩ = some (.int .i64 np) ∧ Hid (Below w8.heap.size w8 u)) (first | exact hS0 | exact hS1 | assumption | exact unhide HS8 _ (bto (unhide hS0.2.2.2.2.2.2) hb9)) ((go_at_call 16; refine (unhide HC16 _ (unhide hS0.2.2.2.2.2.2)).mono ?_; rintro e w9 ⟨rfl, hb9⟩))
                  have HX9 := hide (show Below w8.heap.size w8 w9 from bto b_dr hb9)
                  clear hS0 hS1 hb9 HC16
                  obtain ⟨nl, hnl⟩ : ∃ nl, N.length = nl := ⟨_, rfl⟩
                  have HNLL := hide hnl
                  rw [hnl] at HO8 hkN2 hNb hkN ⊢
                  clear hnl
                  have HY0' := hide (Below.refl w9.heap.size w9)
                  have hkn0 : (!px) = (!px || (N.take 0).any fun n => n.1 == false && n.2.1 == x) := by simp
                  rw [hkn0]
                  clear hkn0
                  go_wp2_with fail
                  go_loopw [15, 115] (fun v15 v115 wr => ∃ (j : Nat) (kn : Bool), v115 = .int .i64 j ∧ v15 = .bool kn ∧ j ≤ nl ∧ Hid (kn = (!px || (N.take j).any fun n => n.1 == false && n.2.1 == x)) ∧ Hid (Below w9.heap.size w9 wr)) (fun v15 v115 wr => nl - (intOf v115).toNat)
                  case atStart => exact ⟨0, _, rfl, rfl, by omega, rfl, HY0'⟩
                  case round =>
                    clear HY0'
                    obtain ⟨j, kn, rfl, rfl, hj, HKN, HY⟩ := hrel
                    by_cases hjl : j < nl
                    · have hjl2 : (j : Int) < (nl : Int) := by omega
                      obtain ⟨na8, nc8, hv8, hrn8⟩ := rn_of_owns (owns_below (unhide HO8) (bto (unhide HX9) (unhide HY)))
                      cases hv8
                      obtain ⟨gj, oj, hnaj, hgj, z0, z1, z2⟩ := hrn8.2 j hjl
                      cases hnaj
                      have hsnj := take_snocD (B := N) (t := j) (by rw [unhide HNLL]; exact hjl)
                      generalize N.getD j (false, 0, 0) = nd at z0 z1 z2 hsnj
                      obtain ⟨a1, a2, a3⟩ := nd
                      simp only at z0 z1 z2
                      obtain ⟨x0, x1, x2, _⟩ := unhide HS8 wr (bto (unhide HX9) (unhide HY))
                      have hs7r : w7.heap.size < wr.heap.size := Nat.lt_of_lt_of_le hs78 (bto (unhide HX9) (unhide HY)).size
                      have HKN1 := hide (show ∀ b, (kn || (a1 == false && a2 == x)) = b → b = (!px || (N.take (j + 1)).any fun n => n.1 == false && n.2.1 == x) from fun b hb => by
                        rw [← hb, unhide HKN, hsnj, List.any_append, Bool.or_assoc]
                        simp)
                      have HYA := hide (bto (unhide HY) (b_al (w := wr) (.cells #[.bool a1, .int .i64 (a2 : Int), .int .i64 a3] 35)))
                      clear hsnj hrn8 HKN HY
                      have fin : ∀ b : Bool, (kn || (a1 == false && a2 == x)) = b → Hid (b = (!px || (N.take (j + 1)).any fun n => n.1 == false && n.2.1 == x)) := fun b hb => unhide HKN1 b hb
                      have FIN := hide fin
                      clear fin HKN1
                      by_cases hax : a2 = x
                      · have t6 : ((a2 : Int) == (x : Int)) = true := by simp [hax]
                        have HAX := hide (show (a2 == x) = true by simp [hax])
                        clear hax
                        cases kn <;> cases a1
                        all_goals
                          go_wp2_with fail
                          go_roundw
                          case rel => exact ⟨j + 1, _, by go_num, rfl, by omega, unhide FIN _ (by rw [unhide HAX]; rfl), HYA⟩
                          case measure => simp [intOf]; omega
                      · have t6 : ((a2 : Int) == (x : Int)) = false := by simp; omega
                        have HAX := hide (show (a2 == x) = false by simp [hax])
                        clear hax
                        cases kn <;> cases a1
                        all_goals
                          go_wp2_with fail
                          go_roundw
                          case rel => exact ⟨j + 1, _, by go_num, rfl, by omega, unhide FIN _ (by rw [unhide HAX]; rfl), HYA⟩
                          case measure => simp [intOf]; omega
                    · obtain rfl : nl = j := by omega
                      rename World => w10
                      have hkn : kn = (!px || hasN N false x) := by
                        have := unhide HKN
                        rwa [show N.take nl = N from List.take_of_length_le (by rw [unhide HNLL]; exact Nat.le_refl _)] at this
                      have HXA := hide (bto (unhide HX9) (unhide HY))
                      have HOA := hide (owns_below (unhide HO8) (unhide HXA))
                      have HMA := hide (owns_below (unhide HM8) (unhide HXA))
                      have HXX := hide (bto (unhide HX8) (unhide HXA))
                      obtain ⟨x0, x1, x2, _⟩ := unhide HS8 w10 (unhide HXA)
                      clear HKN HY HX9 HO8 HM8 HX8 HS8
                      cases kn with
                      | true =>
                        have HN1 := hide (show N = hangK T (k : Int) false ((cand.take (t + 1)).filter p) by
                          rw [unhide HFS, unhide HPX]
                          cases px with
                          | false => rw [show (if (false : Bool) = true then [x] else ([] : List Nat)) = [] from rfl, List.append_nil]; exact unhide HN
                          | true =>
                            rw [show (if (true : Bool) = true then [x] else ([] : List Nat)) = [x] from rfl, hangK_snoc, ← unhide HN, put1, if_pos (by simpa using hkn.symm)])
                        have HOB := hide (show w10.ownsRow wx.heap.size 35 3 (.slice (some ⟨gw, ow, none⟩) nl nc7) N.length (ncells N) by rw [unhide HNLL]; exact unhide HOA)
                        clear hkn x0 x1 x2
                        rw [unhide HNLL] at HNQ
                        go_wp2_with fail
                        go_roundw
                        case rel => exact ⟨t + 1, N, by go_num, by omega, HN1, HOB, HMA, HNQ, HXX⟩
                        case measure => simp [intOf]; omega
                      | false =>
                        have hpt : px = true := by
                          cases px with
                          | true => rfl
                          | false => simp at hkn
                        have hhn : hasN N false x = false := by
                          rw [hpt] at hkn
                          simpa using hkn.symm
                        have hN1 : N ++ [(false, x, (k : Int))] = hangK T (k : Int) false ((cand.take (t + 1)).filter p) := by
                          rw [unhide HFS, unhide HPX, hpt, show (if (true : Bool) = true then [x] else ([] : List Nat)) = [x] from rfl, hangK_snoc, ← unhide HN, put1, if_neg (by rw [hhn]; simp)]
                        have hbd1 : N.length + 1 ≤ 1000 := by
                          have := unhide HBN (t + 1)
                          rw [← hN1, List.length_append] at this
                          exact this
                        have HN1 := hide hN1
                        rw [unhide HNLL] at hbd1 HNQ
                        have hsx := (unhide HXX).size
                        clear hkn hpt hhn hN1
                        go_wp2_with (at_builtin; refine wpList_append_own_at _ rfl (.tmp 137) (.tmp 139) 31 rfl wx.heap.size 35 k0 (.agg #[.bool false, .int .i64 0, .int .i64 0]) 3 24 Try.underlying31 (unhide HK) (unhide HY0) (unhide HY1) (unhide HY2) rfl (by decide) (.slice (some ⟨gw, ow, none⟩) nl nc7) nl _ rfl ((unhide HOA).alloc _) ⟨w10.heap.size, 0, none⟩ 1 1 [.bool false, .int .i64 (x : Int), .int .i64 (k : Int)] rfl rfl (cell_three_new _ _ _ _ _) (three_n _ _ _) ?a3 ?a4 ?a5 ?_)
                        case a3 => unfold maxLen; omega
                        case a4 => omega
                        case a5 => simp; omega
                        intro v11 w11 ho11 hg11 _ hloc
                        have HOB := hide (show w11.ownsRow wx.heap.size 35 3 v11 (N ++ [(false, x, (k : Int))]).length (ncells (N ++ [(false, x, (k : Int))])) by
                          rw [List.length_append, unhide HNLL, ncells_snoc]
                          exact ho11)
                        have HMB := hide (((unhide HMA).alloc (.cells #[.bool false, .int .i64 (x : Int), .int .i64 (k : Int)] 35)).kept hg11 (Or.inr fun e => unhide HNQ gm rfl e.symm))
                        have HNQB := hide (show ∀ g, (Value.slice (some ⟨gm, om, none⟩) nL mc).ownBlock = some g → v11.ownBlock ≠ some g from fun g hg e => by
                          rcases hloc with h | h
                          · exact unhide HNQ g hg (h.symm.trans e)
                          · rw [h] at e
                            have h1 := ((unhide HMA).lt g hg).2
                            simp at e
                            omega)
                        have HXB := hide (((unhide HXX).trans ((b_al (w := w10) (.cells #[.bool false, .int .i64 (x : Int), .int .i64 (k : Int)] 35)).mono hsx)).grown hg11 (by simp; omega) fun b hb => ((unhide HOA).lt b hb).1)
                        clear ho11 hg11 hloc x0 x1 x2 HOA HMA HXX HNQ
                        go_wp2_with fail
                        go_roundw
                        case rel => exact ⟨t + 1, _, by go_num, by omega, HN1, HOB, HMB, HNQB, HXB⟩
                        case measure => simp [intOf]; omega
                · obtain rfl : nL = t := by omega
                  have hct : cand.take nL = cand := List.take_of_length_le (by rw [unhide HCN]; exact Nat.le_refl _)
                  have HSK := hide (show N = S (k + 1) by rw [unhide HN, hct, unhide HSU])
                  have HOE := hide (show w7.ownsRow wx.heap.size 35 3 (.slice na7 N.length nc7) (S (k + 1)).length (ncells (S (k + 1))) by rw [← unhide HSK]; exact unhide HO)
                  have HKL1 := hide (show k + 1 ≤ (S (k + 1)).length by rw [← unhide HSK]; omega)
                  clear HN HO HM HNQ hrn7 hct HSK
                  go_wp2_with fail
                  go_roundw
                  case rel => exact ⟨k + 1, by go_num, HKL1, HJ1, HOE, HX⟩
                  case measure => simp [intOf]; omega
        | false =>
          have hnxb : nx < nL := hrg.2 rfl
          obtain ⟨cand, hcand⟩ : ∃ cand : List Nat, cand = cuts := ⟨_, rfl⟩
          have hcl : cand.length = nC := by rw [hcand]; exact unhide HCL
          have HCN := hide hcl
          have HCG := hide (show ∀ t, t < nC → True from fun t ht => by trivial)
          obtain ⟨p, hpd⟩ : ∃ p : Nat → Bool, p = (fun x => hasAt es (L.getD nx []) x) := ⟨_, rfl⟩
          have HPD := hide hpd
          have HSU := hide (show S (k + 1) = hangK T (k : Int) true (cand.filter p) by
            rw [unhide HSUC, hcand, hpd]
            rfl)
          have hmb : nC ≤ 64 := by omega
          have HBN := hide (show ∀ t, (hangK T (k : Int) true ((cand.take t).filter p)).length ≤ 1000 from fun t => Nat.le_trans ((unhide HINVk).hang (k : Int) (c := true) (l := (cand.take t).filter p) (fun x hx => by
            have hxc : x ∈ cand := List.mem_of_mem_take (List.mem_filter.1 hx).1
            rw [hcand] at hxc
            exact ⟨fun _ => unhide HCV x hxc, fun e => (by cases e)⟩)).len (by omega))
          obtain ⟨CL, hCL⟩ : ∃ CL : List Nd, CL = cand.map fun x => (true, x, (k : Int)) := ⟨_, rfl⟩
          have hCLl : CL.length = nC := by rw [hCL, List.length_map, hcl]
          have HCLL := hide hCLl
          have HCLG := hide (show ∀ t, t < nC → CL.getD t (false, 0, 0) = (true, cand.getD t 0, (k : Int)) from fun t ht => by
            have : t < cand.length := by rw [hcl]; exact ht
            rw [hCL]; simp [List.getD, this])
          clear hCL hCLl
          have HCC := hide (show ∀ t, cand.getD t 0 = cuts.getD t 0 from fun t => by rw [hcand])
          have HNW := hide (fun (W : World) (hW : Below wx.heap.size wx W) => (unhide HNE).below hW)
          clear hcand hcl hpd HSUC
          go_wp2_with fail
          go_loopw [9, 88] (fun v9 vi wr => ∃ t : Nat, vi = .int .i64 t ∧ t ≤ nC ∧ Hid (wr.ownsRow w5.heap.size 35 3 v9 t (ncells (CL.take t))) ∧ Hid (Below w5.heap.size w5 wr)) (fun v9 vi wr => nC - (intOf vi).toNat)
          case atStart => exact ⟨0, rfl, by omega, HM0, HXM0⟩
          case round =>
            clear HM0 HXM0
            obtain ⟨t, rfl, ht, HM, HXM⟩ := hrel
            have hs6 := (unhide HXM).size
            by_cases htm : t < nC
            · have htm2 : (t : Int) < (nC : Int) := by omega
              have hsn := take_snocD (B := CL) (t := t) (by rw [unhide HCLL]; exact htm)
              rw [unhide HCLG t htm] at hsn
              obtain ⟨gc, oc, hca, hgc, cc0⟩ := (unhide HNW wr (bto (unhide HX) (unhide HXM))).2.2 t htm
              subst hca
              rw [toIs_getD, ← unhide HCC t] at cc0
              have HSN := hide (show ncells (CL.take (t + 1)) = ncells (CL.take t) ++ [.bool true, .int .i64 ((cand.getD t 0 : Nat) : Int), .int .i64 (k : Int)] by rw [hsn]; exact ncells_snoc _ (true, cand.getD t 0, (k : Int)))
              generalize cand.getD t 0 = xq at cc0 HSN
              clear hsn
              go_wp2_with (at_builtin; refine wpList_append_own _ rfl (.tmp 92) (.tmp 96) 31 rfl w5.heap.size 35 k0 (.agg #[.bool false, .int .i64 0, .int .i64 0]) 3 24 Try.underlying31 (unhide HK) (unhide HY0) (unhide HY1) (unhide HY2) rfl (by decide) u9 t _ rfl ((unhide HM).alloc _) ⟨wr.heap.size, 0, none⟩ 1 1 [.bool true, .int .i64 (xq : Int), .int .i64 (k : Int)] rfl rfl (cell_three_new _ _ _ _ _) (three_n _ _ _) ?a3 ?a4 ?a5 ?_)
              case a3 => unfold maxLen; omega
              case a4 => omega
              case a5 => simp; omega
              intro v8 w8 ho8 hg8 _
              have HM8 := hide (show w8.ownsRow w5.heap.size 35 3 v8 (t + 1) (ncells (CL.take (t + 1))) by rw [unhide HSN]; exact ho8)
              have HX8 := hide (((unhide HXM).trans ((b_al (w := wr) (.cells #[.bool true, .int .i64 (xq : Int), .int .i64 (k : Int)] 35)).mono hs6)).grown hg8 (by simp; omega) fun b hb => ((unhide HM).lt b hb).1)
              clear ho8 hg8 HM HXM
              go_wp2_with fail
              go_roundw
              case rel => exact ⟨t + 1, by go_num, by omega, HM8, HX8⟩
              case measure => simp [intOf]; omega
            · obtain rfl : nC = t := by omega
              rename World => w6
              have htk : CL.take nC = CL := List.take_of_length_le (by rw [unhide HCLL]; exact Nat.le_refl _)
              have hM6 : w6.ownsRow w5.heap.size 35 3 u9 nC (ncells CL) := by have := unhide HM; rwa [htk] at this
              obtain ⟨ma, mc, hmv, _⟩ := rn_of_owns hM6
              subst hmv
              have HM6 := hide hM6
              have HO6 := hide (owns_below (unhide HO) (unhide HXM))
              have HX6 := hide (bto (unhide HX) (unhide HXM))
              have HNQ0 := hide (show ∀ g, (Value.slice ma nC mc).ownBlock = some g → (Value.slice (some ⟨gr, off, none⟩) sl ncap).ownBlock ≠ some g from fun g hg e => by
                have h1 := (hM6.lt g hg).1
                have h2 := ((unhide HO).lt g e).2
                omega)
              have HN0 := hide (show T = hangK T (k : Int) true ((cand.take 0).filter p) from rfl)
              have HTI := hide (show ∀ N, (∃ l, N = hangK T (k : Int) true l) → N.getD k (false, 0, 0) = (false, nx, np) ∧ k < N.length from fun N hN => by
                obtain ⟨l, rfl⟩ := hN
                have hk' : k < T.length := by rw [unhide HSL]; exact hkl
                exact ⟨(hangK_pre T _ _ _ hk' _).trans (unhide HND), Nat.lt_of_lt_of_le hk' (hangK_le _ _ _ _)⟩)
              have HO6' := hide (show w6.ownsRow wx.heap.size 35 3 (.slice (some ⟨gr, off, none⟩) sl ncap) T.length (ncells T) by rw [unhide HSL]; exact unhide HO6)
              clear htk hM6 HM HO HX HXM HO6
              go_wp2_with fail
              go_loopw [7, 101] (fun v7 v101 wr => ∃ (t : Nat) (N : List Nd), v101 = .int .i64 t ∧ t ≤ nC ∧ Hid (N = hangK T (k : Int) true ((cand.take t).filter p)) ∧ Hid (wr.ownsRow wx.heap.size 35 3 v7 N.length (ncells N)) ∧ Hid (wr.ownsRow w5.heap.size 35 3 (.slice ma nC mc) nC (ncells CL)) ∧ Hid (∀ g, (Value.slice ma nC mc).ownBlock = some g → v7.ownBlock ≠ some g) ∧ Hid (Below wx.heap.size wx wr)) (fun v7 v101 wr => nC - (intOf v101).toNat)
              case atStart => exact ⟨0, T, rfl, by omega, HN0, HO6', HM6, HNQ0, HX6⟩
              case round =>
                clear HN0 HO6' HM6 HNQ0 HX6
                obtain ⟨t, N, rfl, ht, HN, HO, HM, HNQ, HX⟩ := hrel
                rename World => w7
                obtain ⟨hNk, hkN⟩ := unhide HTI N ⟨_, unhide HN⟩
                have hNb : N.length ≤ 1000 := by rw [unhide HN]; exact unhide HBN t
                obtain ⟨na7, nc7, hv7, hrn7⟩ := rn_of_owns (unhide HO)
                subst hv7
                have hws7 := (unhide HX).size
                by_cases htm : t < nC
                · have htm2 : (t : Int) < (nC : Int) := by omega
                  obtain ⟨ma', mc', hmv, hrm⟩ := rn_of_owns (unhide HM)
                  cases hmv
                  obtain ⟨gm, om, hma, hgm, f0, f1, f2⟩ := hrm.2 t htm
                  subst hma
                  rw [unhide HCLG t htm] at f0 f1 f2
                  simp only at f0 f1 f2
                  have hfs := filter_snoc p (B := cand) (t := t) (by rw [unhide HCN]; exact htm)
                  have hxb : True := by trivial
                  generalize cand.getD t 0 = x at f0 f1 f2 hfs hxb
                  have HFS := hide hfs
                  obtain ⟨gw, ow, hna7, hgw, r0, r1, r2⟩ := hrn7.2 k hkN
                  subst hna7
                  rw [hNk] at r0 r1 r2
                  simp only at r0 r1 r2
                  have hkN2 : (k : Int) < (N.length : Int) := by omega
                  obtain ⟨w8, hw8⟩ : ∃ w8 : World, w8 = w7.alloc (.cells #[.bool true, .int .i64 (x : Int), .int .i64 (k : Int)] 35) := ⟨_, rfl⟩
                  have hb8 : Below w7.heap.size w7 w8 := by rw [hw8]; exact b_al _
                  have k8 : w8.heap[w7.heap.size]? = some (.cells #[.bool true, .int .i64 (x : Int), .int .i64 (k : Int)] 35 (0, 0)) := by rw [hw8]; exact bx_alloc _ _ _
                  have HX8 := hide (bto (unhide HX) hb8)
                  have HC16 := hide (fun (W : World) (hW : Below w8.heap.size w8 W) => show Calls Try.prog 16 #[.agg #[.bool true, .int .i64 (x : Int), .int .i64 (k : Int)], .agg #[.bool false, .int .i64 (nx : Int), .int .i64 np], .pointer (some ⟨gb, 0, none⟩), .pointer (some ⟨w.heap.size, 0, none⟩)] W fun e w' => e = .returned (.bool (p x)) ∧ Below W.heap.size W w' from by
                    have hWx := bto (unhide HX8) hW
                    have hbW := (unhide HBX).step hWx
                    obtain ⟨gp', op', ba, bc, h1, h2, h3, h4⟩ := ((unhide HRE).below hWx) nx hnxb
                    cases h1
                    rw [unhide HPD]
                    exact in_blk W x nx (k : Int) np gb w.heap.size V a n cap nL pc gp op ba _ bc _ ((hWx.cell (p := ⟨gb, 0, none⟩) (heap_lt (unhide HGE))).trans (by simp [World.cell?, unhide HGE])) h3 hbW.cells.1 hbW.cells.2 (Nat.lt_of_lt_of_le (heap_lt (unhide HGE)) hWx.size) h2 hbW.lt hnxb (by omega) (fun W' hW' => unhide C17 W' (bto hbW.bel hW') nx hnxb ba bc (h4.below hW') x))
                  obtain ⟨px, hpx⟩ : ∃ px, p x = px := ⟨_, rfl⟩
                  rw [hpx] at HC16
                  have HPX := hide hpx
                  have HS8 := hide (fun (W : World) (hW : Below w8.heap.size w8 W) => show W.cell? ⟨w7.heap.size, 0, none⟩ = some (.bool true) ∧ W.cell? ⟨w7.heap.size, 1, none⟩ = some (.int .i64 (x : Int)) ∧ W.cell? ⟨w7.heap.size, 2, none⟩ = some (.int .i64 (k : Int)) ∧ W.cell? ⟨gw, ow + k * 3, none⟩ = some (.bool false) ∧ W.cell? ⟨gw, ow + k * 3 + 1, none⟩ = some (.int .i64 (nx : Int)) ∧ W.cell? ⟨gw, ow + k * 3 + 2, none⟩ = some (.int .i64 np) ∧ Hid (Below w8.heap.size w8 W) from
                    ⟨by rw [hW.cell (p := ⟨w7.heap.size, 0, none⟩) (heap_lt k8)]; simp [World.cell?, k8], by rw [hW.cell (p := ⟨w7.heap.size, 1, none⟩) (heap_lt k8)]; simp [World.cell?, k8], by rw [hW.cell (p := ⟨w7.heap.size, 2, none⟩) (heap_lt k8)]; simp [World.cell?, k8],
                      ((bto hb8 hW).cell (p := ⟨gw, ow + k * 3, none⟩) hgw).trans r0, ((bto hb8 hW).cell (p := ⟨gw, ow + k * 3 + 1, none⟩) hgw).trans r1, ((bto hb8 hW).cell (p := ⟨gw, ow + k * 3 + 2, none⟩) hgw).trans r2, hW⟩)
                  have HO8 := hide (owns_below (unhide HO) hb8)
                  have HM8 := hide (owns_below (unhide HM) hb8)
                  have hs78 : w7.heap.size < w8.heap.size := heap_lt k8
                  go_upto_region 31 with fail
                  rw [← hw8]
                  have hS1 := unhide HS8 w8 (Below.refl _ _)
                  have hS0 := unhide HS8 w8.drew b_dr
                  clear hpx hw8 hb8 k8 r0 r1 r2 f0 f1 f2 hrm hrn7 HO HM HX hfs hgw hgm
                  go_region_held3 (fun u => u.cell? ⟨w7.heap.size, 0, none⟩ = some (.bool true) ∧ u.cell? ⟨w7.heap.size, 1, none⟩ = some (.int .i64 (x : Int)) ∧ u.cell? ⟨w7.heap.size, 2, none⟩ = some (.int .i64 (k : Int)) ∧ u.cell? ⟨gw, ow + k * 3, none⟩ = some (.bool false) ∧ u.cell? ⟨gw, ow + k * 3 + 1, none⟩ = some (.int .i64 (nx : Int)) ∧ u.cell? ⟨gw, ow + k * 3 + 2, none⟩ = some (.int .i64 np) ∧ Hid (Below w8.heap.size w8 u)) (first | exact hS0 | exact hS1 | assumption | exact unhide HS8 _ (bto (unhide hS0.2.2.2.2.2.2) hb9)) ((go_at_call 16; refine (unhide HC16 _ (unhide hS0.2.2.2.2.2.2)).mono ?_; rintro e w9 ⟨rfl, hb9⟩))
                  have HX9 := hide (show Below w8.heap.size w8 w9 from bto b_dr hb9)
                  clear hS0 hS1 hb9 HC16
                  obtain ⟨nl, hnl⟩ : ∃ nl, N.length = nl := ⟨_, rfl⟩
                  have HNLL := hide hnl
                  rw [hnl] at HO8 hkN2 hNb hkN ⊢
                  clear hnl
                  have HY0' := hide (Below.refl w9.heap.size w9)
                  have hkn0 : (!px) = (!px || (N.take 0).any fun n => n.1 == true && n.2.1 == x) := by simp
                  rw [hkn0]
                  clear hkn0
                  go_wp2_with fail
                  go_loopw [15, 115] (fun v15 v115 wr => ∃ (j : Nat) (kn : Bool), v115 = .int .i64 j ∧ v15 = .bool kn ∧ j ≤ nl ∧ Hid (kn = (!px || (N.take j).any fun n => n.1 == true && n.2.1 == x)) ∧ Hid (Below w9.heap.size w9 wr)) (fun v15 v115 wr => nl - (intOf v115).toNat)
                  case atStart => exact ⟨0, _, rfl, rfl, by omega, rfl, HY0'⟩
                  case round =>
                    clear HY0'
                    obtain ⟨j, kn, rfl, rfl, hj, HKN, HY⟩ := hrel
                    by_cases hjl : j < nl
                    · have hjl2 : (j : Int) < (nl : Int) := by omega
                      obtain ⟨na8, nc8, hv8, hrn8⟩ := rn_of_owns (owns_below (unhide HO8) (bto (unhide HX9) (unhide HY)))
                      cases hv8
                      obtain ⟨gj, oj, hnaj, hgj, z0, z1, z2⟩ := hrn8.2 j hjl
                      cases hnaj
                      have hsnj := take_snocD (B := N) (t := j) (by rw [unhide HNLL]; exact hjl)
                      generalize N.getD j (false, 0, 0) = nd at z0 z1 z2 hsnj
                      obtain ⟨a1, a2, a3⟩ := nd
                      simp only at z0 z1 z2
                      obtain ⟨x0, x1, x2, _⟩ := unhide HS8 wr (bto (unhide HX9) (unhide HY))
                      have hs7r : w7.heap.size < wr.heap.size := Nat.lt_of_lt_of_le hs78 (bto (unhide HX9) (unhide HY)).size
                      have HKN1 := hide (show ∀ b, (kn || (a1 == true && a2 == x)) = b → b = (!px || (N.take (j + 1)).any fun n => n.1 == true && n.2.1 == x) from fun b hb => by
                        rw [← hb, unhide HKN, hsnj, List.any_append, Bool.or_assoc]
                        simp)
                      have HYA := hide (bto (unhide HY) (b_al (w := wr) (.cells #[.bool a1, .int .i64 (a2 : Int), .int .i64 a3] 35)))
                      clear hsnj hrn8 HKN HY
                      have fin : ∀ b : Bool, (kn || (a1 == true && a2 == x)) = b → Hid (b = (!px || (N.take (j + 1)).any fun n => n.1 == true && n.2.1 == x)) := fun b hb => unhide HKN1 b hb
                      have FIN := hide fin
                      clear fin HKN1
                      by_cases hax : a2 = x
                      · have t6 : ((a2 : Int) == (x : Int)) = true := by simp [hax]
                        have HAX := hide (show (a2 == x) = true by simp [hax])
                        clear hax
                        cases kn <;> cases a1
                        all_goals
                          go_wp2_with fail
                          go_roundw
                          case rel => exact ⟨j + 1, _, by go_num, rfl, by omega, unhide FIN _ (by rw [unhide HAX]; rfl), HYA⟩
                          case measure => simp [intOf]; omega
                      · have t6 : ((a2 : Int) == (x : Int)) = false := by simp; omega
                        have HAX := hide (show (a2 == x) = false by simp [hax])
                        clear hax
                        cases kn <;> cases a1
                        all_goals
                          go_wp2_with fail
                          go_roundw
                          case rel => exact ⟨j + 1, _, by go_num, rfl, by omega, unhide FIN _ (by rw [unhide HAX]; rfl), HYA⟩
                          case measure => simp [intOf]; omega
                    · obtain rfl : nl = j := by omega
                      rename World => w10
                      have hkn : kn = (!px || hasN N true x) := by
                        have := unhide HKN
                        rwa [show N.take nl = N from List.take_of_length_le (by rw [unhide HNLL]; exact Nat.le_refl _)] at this
                      have HXA := hide (bto (unhide HX9) (unhide HY))
                      have HOA := hide (owns_below (unhide HO8) (unhide HXA))
                      have HMA := hide (owns_below (unhide HM8) (unhide HXA))
                      have HXX := hide (bto (unhide HX8) (unhide HXA))
                      obtain ⟨x0, x1, x2, _⟩ := unhide HS8 w10 (unhide HXA)
                      clear HKN HY HX9 HO8 HM8 HX8 HS8
                      cases kn with
                      | true =>
                        have HN1 := hide (show N = hangK T (k : Int) true ((cand.take (t + 1)).filter p) by
                          rw [unhide HFS, unhide HPX]
                          cases px with
                          | false => rw [show (if (false : Bool) = true then [x] else ([] : List Nat)) = [] from rfl, List.append_nil]; exact unhide HN
                          | true =>
                            rw [show (if (true : Bool) = true then [x] else ([] : List Nat)) = [x] from rfl, hangK_snoc, ← unhide HN, put1, if_pos (by simpa using hkn.symm)])
                        have HOB := hide (show w10.ownsRow wx.heap.size 35 3 (.slice (some ⟨gw, ow, none⟩) nl nc7) N.length (ncells N) by rw [unhide HNLL]; exact unhide HOA)
                        clear hkn x0 x1 x2
                        rw [unhide HNLL] at HNQ
                        go_wp2_with fail
                        go_roundw
                        case rel => exact ⟨t + 1, N, by go_num, by omega, HN1, HOB, HMA, HNQ, HXX⟩
                        case measure => simp [intOf]; omega
                      | false =>
                        have hpt : px = true := by
                          cases px with
                          | true => rfl
                          | false => simp at hkn
                        have hhn : hasN N true x = false := by
                          rw [hpt] at hkn
                          simpa using hkn.symm
                        have hN1 : N ++ [(true, x, (k : Int))] = hangK T (k : Int) true ((cand.take (t + 1)).filter p) := by
                          rw [unhide HFS, unhide HPX, hpt, show (if (true : Bool) = true then [x] else ([] : List Nat)) = [x] from rfl, hangK_snoc, ← unhide HN, put1, if_neg (by rw [hhn]; simp)]
                        have hbd1 : N.length + 1 ≤ 1000 := by
                          have := unhide HBN (t + 1)
                          rw [← hN1, List.length_append] at this
                          exact this
                        have HN1 := hide hN1
                        rw [unhide HNLL] at hbd1 HNQ
                        have hsx := (unhide HXX).size
                        clear hkn hpt hhn hN1
                        go_wp2_with (at_builtin; refine wpList_append_own_at _ rfl (.tmp 137) (.tmp 139) 31 rfl wx.heap.size 35 k0 (.agg #[.bool false, .int .i64 0, .int .i64 0]) 3 24 Try.underlying31 (unhide HK) (unhide HY0) (unhide HY1) (unhide HY2) rfl (by decide) (.slice (some ⟨gw, ow, none⟩) nl nc7) nl _ rfl ((unhide HOA).alloc _) ⟨w10.heap.size, 0, none⟩ 1 1 [.bool true, .int .i64 (x : Int), .int .i64 (k : Int)] rfl rfl (cell_three_new _ _ _ _ _) (three_n _ _ _) ?a3 ?a4 ?a5 ?_)
                        case a3 => unfold maxLen; omega
                        case a4 => omega
                        case a5 => simp; omega
                        intro v11 w11 ho11 hg11 _ hloc
                        have HOB := hide (show w11.ownsRow wx.heap.size 35 3 v11 (N ++ [(true, x, (k : Int))]).length (ncells (N ++ [(true, x, (k : Int))])) by
                          rw [List.length_append, unhide HNLL, ncells_snoc]
                          exact ho11)
                        have HMB := hide (((unhide HMA).alloc (.cells #[.bool true, .int .i64 (x : Int), .int .i64 (k : Int)] 35)).kept hg11 (Or.inr fun e => unhide HNQ gm rfl e.symm))
                        have HNQB := hide (show ∀ g, (Value.slice (some ⟨gm, om, none⟩) nC mc).ownBlock = some g → v11.ownBlock ≠ some g from fun g hg e => by
                          rcases hloc with h | h
                          · exact unhide HNQ g hg (h.symm.trans e)
                          · rw [h] at e
                            have h1 := ((unhide HMA).lt g hg).2
                            simp at e
                            omega)
                        have HXB := hide (((unhide HXX).trans ((b_al (w := w10) (.cells #[.bool true, .int .i64 (x : Int), .int .i64 (k : Int)] 35)).mono hsx)).grown hg11 (by simp; omega) fun b hb => ((unhide HOA).lt b hb).1)
                        clear ho11 hg11 hloc x0 x1 x2 HOA HMA HXX HNQ
                        go_wp2_with fail
                        go_roundw
                        case rel => exact ⟨t + 1, _, by go_num, by omega, HN1, HOB, HMB, HNQB, HXB⟩
                        case measure => simp [intOf]; omega
                · obtain rfl : nC = t := by omega
                  have hct : cand.take nC = cand := List.take_of_length_le (by rw [unhide HCN]; exact Nat.le_refl _)
                  have HSK := hide (show N = S (k + 1) by rw [unhide HN, hct, unhide HSU])
                  have HOE := hide (show w7.ownsRow wx.heap.size 35 3 (.slice na7 N.length nc7) (S (k + 1)).length (ncells (S (k + 1))) by rw [← unhide HSK]; exact unhide HO)
                  have HKL1 := hide (show k + 1 ≤ (S (k + 1)).length by rw [← unhide HSK]; omega)
                  clear HN HO HM HNQ hrn7 hct HSK
                  go_wp2_with fail
                  go_roundw
                  case rel => exact ⟨k + 1, by go_num, HKL1, HJ1, HOE, HX⟩
                  case measure => simp [intOf]; omega
      · obtain rfl : sl = k := by omega
        have hkk : sl = kE := by
          have h1 : (S sl).length = sl := by rw [unhide HT, unhide HSL]
          rcases Nat.lt_trichotomy sl kE with e | e | e
          · have := unhide HKJ sl e; omega
          · exact e
          · have := unhide HJ kE e
            have := unhide HKE
            omega
        have hT5 : Rn3 w5 (some ⟨gt, ot, none⟩) sl T := by
          have := (unhide HTX).below (unhide HX)
          rw [← hkk, unhide HT] at this
          exact this
        have HT5 := hide hT5
        have HW5 := hide hrn
        have t8 : ((kE : Int) != (sl : Int)) = false := by rw [hkk]; simp
        have hkE3 : (sl : Int) = (kE : Int) := by rw [hkk]
        have HKK := hide hkk
        have hnq := neq_node
        have HD0 := hide (show ∃ mm, w5 = w5.drewN mm from ⟨0, rfl⟩)
        clear hT5 hrn hkk hkE3
        go_wp2_with fail
        go_loopw [149] (fun v149 wr => ∃ i : Nat, v149 = .int .i64 i ∧ i ≤ kE ∧ Hid (∃ mm, wr = w5.drewN mm)) (fun v149 wr => kE - (intOf v149).toNat)
        case atStart => exact ⟨0, rfl, by omega, HD0⟩
        case round =>
          clear HD0
          obtain ⟨i, rfl, hi, HD⟩ := hrel
          by_cases hik : i < kE
          · have hik2 : (i : Int) < (kE : Int) := by omega
            have hik3 : (i : Int) < (sl : Int) := by have := unhide HKK; omega
            have hbd : Below w5.heap.size w5 wr := by obtain ⟨mm, rfl⟩ := unhide HD; exact below_refl_draws _ _
            have his : i < sl := by have := unhide HKK; omega
            obtain ⟨gA, oA, hA, hgA, y0, y1, y2⟩ := ((unhide HT5).below hbd).2 i his
            cases hA
            obtain ⟨gB, oB, hB, hgB, z0, z1, z2⟩ := ((unhide HW5).below hbd).2 i his
            subst hB
            generalize T.getD i (false, 0, 0) = nd at y0 y1 y2 z0 z1 z2
            obtain ⟨a1, a2, a3⟩ := nd
            simp only at y0 y1 y2 z0 z1 z2
            clear hbd
            go_wp2_with fail
            go_quiet (fail)
            go_wp2_with fail
            go_roundw
            case rel =>
              refine ⟨i + 1, by go_num, by omega, ?_⟩
              obtain ⟨mm, rfl⟩ := unhide HD
              exact ⟨_, World.drewN_drewN _ _ _⟩
            case measure => simp [intOf]; omega
          · obtain rfl : kE = i := by omega
            have HBE := hide (show Below w.heap.size w wr by
              obtain ⟨mm, rfl⟩ := unhide HD
              exact below_draws (unhide HB5).bel _)
            go_wp2_with fail
            go_ret
            exact ⟨rfl, unhide HBE⟩
end Go.Proofs.Ytbecmaandhadhaa.pt
namespace Go.Proofs.Ytbecmaandhadhaa.pt
open Go.RowKit
set_option linter.unusedVariables false
set_option maxRecDepth 20000

theorem end_ex {V m : Nat} {es : List (Nat × Nat)} {L : List (List Nat)} (hi : ∀ k, InvN V m (seqN V es L k)) : ∃ k, EndN V es L k := by
  have key : ∀ q, (∃ k, EndN V es L k) ∨ ∀ j, j ≤ q → j < (seqN V es L j).length := by
    intro q
    induction q with
    | zero => exact .inr fun j hj => by obtain rfl : j = 0 := by omega
                                        exact (seqN_head V es L 0).1
    | succ q ih =>
      rcases ih with ih | ih
      · exact .inl ih
      · have h1 : (seqN V es L q).length ≤ (seqN V es L (q + 1)).length := hangK_le _ _ _ _
        have h2 := ih q (Nat.le_refl _)
        by_cases e : (seqN V es L (q + 1)).length = q + 1
        · exact .inl ⟨q + 1, e, fun j hj => ih j (by omega)⟩
        · refine .inr fun j hj => ?_
          by_cases ej : j = q + 1
          · subst ej; omega
          · exact ih j (by omega)
  rcases key (V + m) with h | h
  · exact h
  · have h1 := h (V + m) (Nat.le_refl _)
    have h2 := (hi (V + m)).len
    omega
theorem rd_own {base : Nat} {wr : World} {bv : Value} {R : Nat → Value} {Ls : List (List Nat)} (own : wr.ownsRow base 29 1 bv Ls.length ((List.range Ls.length).map R)) (rows : ∀ j, j < Ls.length → wr.ownsRow base 3 1 (R j) (Ls.getD j []).length (zcells (toIs (Ls.getD j [])))) (hm : ∀ B ∈ Ls, B.length ≤ 128) {ba : Option Addr} {bc : Nat} (hv : bv = .slice ba Ls.length bc) : Rd wr ba Ls.length (fun k => Ls.getD k []) := by
  intro k hk
  rcases own.2 with ⟨h1, h0⟩ | ⟨g, cap, cur, h1, hb, hg, _, _, _, h4⟩
  · omega
  · rw [hv] at h1
    cases h1
    have hB : (Ls.getD k []).length ≤ 128 := hm _ (by simp [List.getD, hk])
    obtain ⟨la, lc, hl, _, hn⟩ := ns_of_owns (rows k hk) (by omega)
    have : (cur.toList.take (Ls.length * 1))[k]? = ((List.range Ls.length).map R)[k]? := by rw [h4]
    rw [List.getElem?_take] at this
    simp [hk] at this
    exact ⟨g, 0, la, lc, rfl, heap_lt hg, by simp [World.cell?, hg, this, hl], hn⟩
theorem own27 {w W : World} {base : Nat} {e : TypeId} {size : Nat} {v : Value} {n : Nat} {xs : List Value} (h : w.ownsRow base e size v n xs) (he : e ≠ 27) (hW : ∀ (b : Nat) (cur : Array Value) (ty : TypeId) (fz : Nat × Nat), w.heap[b]? = some (Obj.cells cur ty fz) → ty ≠ 27 → W.heap[b]? = w.heap[b]?) : W.ownsRow base e size v n xs :=
  owns_keep h fun g hg => by
    obtain ⟨cur, hc⟩ := owns_type h hg
    exact hW g cur e (0, 0) hc he

theorem btree_some (w : World) (V : Nat) (a : Option Addr) (n cap : Nat) (es : List (Nat × Nat)) (h : Es 0 w a n (toI es)) (hne : es.length = n) (hno : a = none → n = 0 ∧ cap = 0) (hp : Plain V es) (hnl : Df.NoLoop es) (L : List (List Nat)) (hL : IsBl es L) (hl : ¬ LooseP V n (toI es)) (hn : n ≤ 40) (hn0 : 0 < n) :
    Calls Try.prog 4 #[.agg #[.int .i64 (V : Int), .slice a n cap]] w fun e w' => e = .returned (.bool true) ∧ Below w.heap.size w w' := by
  have hLn : 0 < L.length := by
    have h0 : 0 ∈ L.flatten := (hL.cls.mem 0).2 (by omega)
    cases L with
    | nil => simp at h0
    | cons B L => simp
  have hea := hL.each (by omega)
  have hinv := fun k => seqN_inv (V := V) (es := es) (L := L) hLn k
  obtain ⟨kE, hkE⟩ := end_ex hinv
  have hhd := seqN_head V es L kE
  have hmb : ∀ b, b < L.length → L.getD b [] ∈ L := fun b hb => by simp [List.getD, hb]
  refine btree_walk w V a n cap es h hne hl hn hn0 hp.v64 L hL L.length (cutsOf V es L V).length rfl (by rw [← hne]; exact hL.len) hLn (cutsOf V es L V) rfl (cutsOf_len V es L V) (fun x hx => by simp [cutsOf] at hx; exact hx.1)
    (seqN V es L) rfl (fun k nc na np hk => (seqN_succ hk).trans rfl) hinv kE hkE.1 hkE.2 (by have := hhd.1; rw [hkE.1] at this; exact this) hhd.2 (fun u hu => ?_) (fun u hu => ?_) (fun u hu => ?_) (fun u hu b hb ba bc hB x => ?_)
  · refine (tree_some u V a n cap es (h.below hu) hne hno hp hnl L hL hLn).mono ?_
    rintro e w' ⟨⟨k, na, ncap, hend, rfl, hrn⟩, hb⟩
    obtain rfl := hend.one hkE
    exact ⟨⟨na, ncap, rfl, hrn⟩, hb⟩
  · refine (refblocks_any u V a n cap es (h.below hu) hne hp hnl).mono ?_
    rintro e w' ⟨⟨s, v, R, hs, rfl, u0, hu0, hol⟩, hb⟩
    have hbl : blF n s = L := by
      have := IsLs.bl hs
      rw [hne] at this
      exact this.one hL
    rw [hbl] at hol
    obtain ⟨ba, bc, hv⟩ := owns_slice hol.own
    subst hv
    exact ⟨⟨ba, bc, rfl, fun W _ hW => rd_own (own27 hol.own (by decide) hW) (fun j hj => own27 (hol.rows j hj) (by decide) hW) (fun B hB => (hea B hB).2.1) rfl⟩, hb⟩
  · refine (refcuts_any u V a n cap es (h.below hu) hne hp hnl L hL).mono ?_
    rintro e w' ⟨⟨v, rfl, ho⟩, hb⟩
    obtain ⟨ca, cc, hv⟩ := owns_slice ho
    subst hv
    have hlen := cutsOf_len V es L V
    have hv64 := hp.v64
    refine ⟨⟨ca, cc, rfl, fun W _ hW => ?_⟩, hb⟩
    obtain ⟨a', c', h1, _, h2⟩ := ns_of_owns (own27 ho (by decide) hW) (by omega)
    cases h1
    exact h2
  · refine (refat_any u V a n cap es (h.below hu) hne (by omega) ba _ bc (L.getD b []) hB (fun j hj => (hea _ (hmb b hb)).2.2 j hj) (x : Int)).mono ?_
    rintro e w' ⟨⟨r, rfl, hr⟩, hbb⟩
    refine ⟨ret_b ?_, hbb⟩
    rw [atB_iff] at hr
    cases r with
    | true => exact (hr.1 rfl).symm
    | false =>
      cases hh : hasAt es (L.getD b []) x with
      | false => rfl
      | true => have := hr.2 hh; cases this
theorem btree_none (w : World) (V : Nat) (a : Option Addr) (cap : Nat) (es : List (Nat × Nat)) (h : Es 0 w a 0 (toI es)) (hne : es.length = 0) (hno : a = none → (0 : Nat) = 0 ∧ cap = 0) (hp : Plain V es) (hnl : Df.NoLoop es) (L : List (List Nat)) (hL : IsBl es L) (hl : ¬ LooseP V 0 (toI es)) :
    Calls Try.prog 4 #[.agg #[.int .i64 (V : Int), .slice a 0 cap]] w fun e w' => e = .returned (.bool true) ∧ Below w.heap.size w w' := by
  refine btree_zero w V a cap es h hl fun u hu => tree_none u V a 0 cap fun u' hu' => ?_
  have hL0 : L.length = 0 := by have := hL.len; omega
  have := blocks_good u' V a cap es (B := 0) (by rw [hne]; exact h.below (bto hu hu')) (by rw [hne]; exact hno) hp hnl L hL
  rw [hne] at this
  refine this.mono ?_
  rintro e w' ⟨⟨pa, pc, rfl, _⟩, hb⟩
  rw [hL0]
  exact ⟨⟨pa, pc, rfl⟩, hb⟩
end Go.Proofs.Ytbecmaandhadhaa.pt


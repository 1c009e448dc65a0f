/-
  The contract of Place, where the vertex is ready. Conditions: as told.
-/
import Derived.Test.YtdkchihomllokaaPl9
import Derived.Maps.AppendAt
namespace Go.Proofs.Ytdkchihomllokaa
open Go.RowKit
set_option linter.unusedVariables false
set_option maxRecDepth 20000

/-- what ended, and the front in which a vertex more is placed -/
def PlaceTold (N b V : Nat) (s : Fs) (ends row2 : List It) (pl2 : List Nat) (pv : Value) (w w' : World) (e : Ending) : Prop :=
  ∃ v ra' rc' pv', e = .returned (.tuple #[v, .int .i64 0]) ∧ w'.ownsRow w.heap.size 72 3 v ends.length (icells ends) ∧ Fb N w' b V s ra' rc' row2 pv' pl2 ∧ (∀ g off, ra' = some ⟨g, off, none⟩ → w.heap.size ≤ g) ∧ ra' ≠ none ∧ (∀ g, pv'.ownBlock = some g → pv.ownBlock = some g ∨ w.heap.size ≤ g) ∧ (∀ g, v.ownBlock = some g → pv'.ownBlock ≠ some g)

set_option maxHeartbeats 8000000 in
theorem place_ok (w : World) (N b V : Nat) (es : List (Nat × Nat)) (s : Fs) (ra : Option Addr) (rc : Nat) (row : List It) (pv : Value) (pl : List Nat) (hF : Fb N w b V s ra rc row pv pl) (hD : Sd w V es s) (hp : Plain V es) (src : Nat) (hsrc : bare (Pl.ins es) V = [src]) (hR : RowOk V row)
    (y : Nat) (hy : y < V) (oa : Option Addr) (on oc : Nat) (zs : List Int) (hO : Ns w oa on zs) (hno : oa = none → on = 0 ∧ oc = 0) (hon : on * 8 ≤ 140737488355328) (m : Nat) (hm : m < (wholeF V es src row pl).length) (hh : ((wholeF V es src row pl).getD m b0).head = (y : Int)) (hbef : ∀ j, j < m → ((wholeF V es src row pl).getD j b0).head ≠ (y : Int)) (bn : Bn) (hbn : (wholeF V es src row pl).getD m b0 = bn) (hok : srtZ zs = toIs (Pl.outs es y)) (o : List Nat) (hzo : zs = toIs o) (hlh : bn.lo ≤ bn.hi) (hhi : bn.hi ≤ row.length) (hrr : row = [] → ra = none) (hl2 : row ≠ [] → bn.lo < bn.hi) (htot : bn.lo + (aboveF es y o).length + (row.length - bn.hi) ≤ 400) (hpl : pl.length < 100) (hNw : N ≤ w.heap.size) (b1 : Nat) (hSn : Sn N b1 w V es s) (hbb : b = b1 ∨ N ≤ b) (hos : ∀ g off, oa = some ⟨g, off, none⟩ → 0 < on → ¬ (g = b ∨ pv.ownBlock = some g)) (hoe : ∀ i ∈ o, i < es.length) (hol : o.length ≤ 128) :
    Calls Try.prog 13 #[.pointer (some ⟨b, 0, none⟩), .int .i64 (y : Nat), .slice oa on oc] w fun e w' => PlaceTold N b V s ((row.take bn.hi).drop bn.lo) (row.take bn.lo ++ (aboveF es y o ++ row.drop bn.hi)) (pl ++ [y]) pv w w' e ∧ Bz (min b N) (fun i => i = b ∨ pv.ownBlock = some i) w w' := by
  obtain ⟨i0, hi0, hz0, hz1, hz2⟩ := info_parts info3
  have HI := hide hi0
  have HZ0 := hide hz0
  have HZ1 := hide hz1
  have HZ2 := hide hz2
  obtain ⟨pa, pc, hpv0⟩ := own_shape hF.own
  obtain ⟨pn, hpn⟩ : ∃ pn, pl.length = pn := ⟨_, rfl⟩
  rw [hpn] at hpv0 hpl
  have HPV := hide hpv0
  have HPN := hide hpn
  have HPW := hide (show ∀ g, pv.ownBlock = some g → g < w.heap.size ∧ N ≤ g from fun g hg => ⟨(hF.own.lt g hg).2, (hF.own.lt g hg).1⟩)
  have HRL := hide (show ∀ g off, ra = some ⟨g, off, none⟩ → g < w.heap.size from by
    by_cases hr : row = []
    · rw [hrr hr]; intro g off he; cases he
    · exact hF.rlt hr)
  have HSN := hide hSn
  have HOS := hide hos
  have HOE := hide hoe
  have HOL := hide hol
  clear hpv0 hpn hi0 hz0 hz1 hz2 hSn hos hoe hol
  have HOK := hide hok
  have HZO := hide hzo
  have HTOT := hide htot
  have HRR := hide hrr
  have HL2 := hide hl2
  clear hok hzo htot hrr hl2
  have hb0 := b_al (w := w) (.cells #[.int .i64 (y : Nat)] 3)
  have hD0 := hD.below hb0
  have hF0 := hF.below hb0
  have C := hide (whole_any _ N b V es s ra rc row pv pl hF0 hD0 hp src hsrc hR (hD0.ilt hp.v1))
  have hx0 : (w.alloc (.cells #[.int .i64 (y : Nat)] 3)).heap[w.heap.size]? = some (.cells #[.int .i64 (y : Nat)] 3 (0, 0)) := (MapKept.heap_alloc w _).1
  have HX0 := hide hx0
  have HB0 := hide hb0
  have HD0 := hide hD0
  have HF0 := hide hF0
  have HO := hide hO
  have HNO := hide hno
  have HP := hide hp
  obtain ⟨W, hW⟩ : ∃ W, w.alloc (.cells #[.int .i64 (y : Nat)] 3) = W := ⟨_, rfl⟩
  have HWS := hide (show W.heap.size = w.heap.size + 1 by subst hW; simp)
  rw [hW] at C HX0 HB0 HD0 HF0
  have hbl := hF.lt
  generalize wholeF V es src row pl = l at C hm hh hbef hbn
  have hix : ixp l.length (fun j => ((l.getD j b0).head == (y : Int))) = (m : Int) := ixp_hit m hm (by rw [hh]; simp) (fun j hj => by rw [beq_eq_false_iff_ne]; exact hbef j hj)
  have HIX := hide hix
  have HBN := hide hbn
  clear hD hD0 hb0 hx0 hix hh hbef hF0 hO hno hp
  go_enter Try.func13, Try.ntmps13
  go_wp2_with fail
  refine (unhide C).mono ?_
  rintro e w1 ⟨⟨a, c, rfl, hB1, hlo1⟩, hb1⟩
  have hx1 : w1.heap[w.heap.size]? = some (.cells #[.int .i64 (y : Nat)] 3 (0, 0)) := by rw [hb1.block _ (by rw [unhide HWS]; omega)]; exact unhide HX0
  have hx1c : w1.cell? ⟨w.heap.size, 0, none⟩ = some (.int .i64 (y : Nat)) := by simp [World.cell?, hx1]
  have C2 := hide (indexHead_any w1 a c l hB1 (y : Nat) w.heap.size hx1c)
  rw [unhide HIX] at C2
  have hB01 : Below w.heap.size w w1 := (unhide HB0).trans (hb1.mono (by rw [unhide HWS]; omega))
  have HB1 := hide hB01
  have hw1s : w.heap.size + 1 ≤ w1.heap.size := by have := hb1.size; rw [unhide HWS] at this; exact this
  have HX1 := hide hx1
  have HD1 := hide ((unhide HD0).below hb1)
  have HF1 := hide ((unhide HF0).below hb1)
  have HBS1 := hide hB1
  have HLO1 := hide hlo1
  obtain ⟨n, hn⟩ : ∃ n, l.length = n := ⟨_, rfl⟩
  have HN := hide hn
  rw [hn] at C2 hm ⊢
  clear C hB1 hb1 hx1 hn hW hx1c hB01 hlo1 HX0 HD0 HF0
  go_wp2_with fail
  refine (unhide C2).mono ?_
  rintro e w2 ⟨rfl, hb2⟩
  have hsz12 := hb2.size
  have hF2 := (unhide HF1).below hb2
  have hD2 := (unhide HD1).below hb2
  have hx2 : w2.heap[w.heap.size]? = some (.cells #[.int .i64 (y : Nat)] 3 (0, 0)) := by rw [hb2.block _ (by omega)]; exact unhide HX1
  have hBs2 := (unhide HBS1).below hb2
  have hB2 : Below w.heap.size w w2 := (unhide HB1).trans (hb2.mono (unhide HB1).size)
  have hw2s : w.heap.size + 1 ≤ w2.heap.size := by omega
  have HF2 := hide hF2
  have HD2 := hide hD2
  have HX2 := hide hx2
  have HBS2 := hide hBs2
  have HB2 := hide hB2
  have q1 : w2.cell? ⟨b, 1, none⟩ = some (.pointer (some ⟨s.vb, 0, none⟩)) := hF2.cells.2.1
  have qx : w2.cell? ⟨w.heap.size, 0, none⟩ = some (.int .i64 (y : Nat)) := by simp [World.cell?, hx2]
  have hm0 : ¬ (m : Int) < 0 := by omega
  clear C2 hb2 HF1 HD1 HX1 HBS1 HB1 hF2 hD2 hx2 hBs2 hB2 hw1s hsz12
  go_wp2_with fail
  refine wp_region_held_drew (S := fun u => u.cell? ⟨b, 1, none⟩ = some (.pointer (some ⟨s.vb, 0, none⟩)) ∧ u.cell? ⟨w.heap.size, 0, none⟩ = some (.int .i64 (y : Nat))) (by kernel_rfl) ⟨q1, qx⟩ (fun hS0 => ?_)
  have HF3 := hide ((unhide HF2).below b_dr)
  have HD3 := hide ((unhide HD2).below b_dr)
  have HX3 := hide (show w2.drew.heap[w.heap.size]? = _ from unhide HX2)
  have HBS3 := hide ((unhide HBS2).below b_dr)
  have HB3 := hide ((unhide HB2).drew)
  replace hw2s : w.heap.size + 1 ≤ w2.drew.heap.size := hw2s
  clear HF2 HD2 HX2 HBS2 HB2 q1 qx
  generalize w2.drew = w3 at hS0 HF3 HD3 HX3 HBS3 HB3 hw2s ⊢
  clear w2
  refine wpAnyH_take (i := 0) (v := ?_) rfl (by kernel_rfl) (by kernel_rfl) (by kernel_rfl) (fun _ _ _ h => h) (Or.inl ⟨by rfl, ?_⟩) hS0 ?_
  rotate_left
  · intro u hu; (try dsimp only at hu); go_simp; try with_reducible rfl
  simp only [Act.put, List.getElem_toArray, List.getElem_cons_zero, List.setIfInBounds_toArray, List.set_cons_zero, List.set_cons_succ]
  refine wpAnyH_take (i := 1) (v := ?_) rfl (by kernel_rfl) (by kernel_rfl) (by kernel_rfl) (fun _ _ _ h => h) (Or.inl ⟨by rfl, ?_⟩) hS0 ?_
  rotate_left
  · intro u hu; (try dsimp only at hu); go_simp; try with_reducible rfl
  simp only [Act.put, List.getElem_toArray, List.getElem_cons_zero, List.getElem_cons_succ, List.setIfInBounds_toArray, List.set_cons_zero, List.set_cons_succ]
  refine wpAnyH_take (i := 2) (v := ?_) rfl (by kernel_rfl) (by kernel_rfl) (by kernel_rfl) (fun _ _ _ h => h) (Or.inl ⟨by rfl, ?_⟩) hS0 ?_
  rotate_left
  · intro u hu; (try dsimp only at hu); go_simp; try with_reducible rfl
  simp only [Act.put, List.getElem_toArray, List.getElem_cons_zero, List.getElem_cons_succ, List.setIfInBounds_toArray, List.set_cons_zero, List.set_cons_succ]
  refine wpAnyH_take (i := 3) (v := ?_) rfl (by kernel_rfl) (by kernel_rfl) (by kernel_rfl) (fun _ _ _ h => h) (Or.inl ⟨by rfl, ?_⟩) hS0 ?_
  rotate_left
  · intro u hu; (try dsimp only at hu); go_simp; try with_reducible rfl
  simp only [Act.put, List.getElem_toArray, List.getElem_cons_zero, List.getElem_cons_succ, List.setIfInBounds_toArray, List.set_cons_zero, List.set_cons_succ]
  refine wpAnyH_take (i := 4) (v := ?_) rfl (by kernel_rfl) (by kernel_rfl) (by kernel_rfl) (fun _ _ _ h => h) (Or.inl ⟨by rfl, ?_⟩) hS0 ?_
  rotate_left
  · intro u hu; (try dsimp only at hu); go_simp; try with_reducible rfl
  simp only [Act.put, List.getElem_toArray, List.getElem_cons_zero, List.getElem_cons_succ, List.setIfInBounds_toArray, List.set_cons_zero, List.set_cons_succ]
  refine wpAnyH_take (i := 5) (v := ?_) rfl (by kernel_rfl) (by kernel_rfl) (by kernel_rfl) (fun _ _ _ h => h) (Or.inl ⟨by rfl, ?_⟩) hS0 ?_
  rotate_left
  · intro u hu; (try dsimp only at hu); go_simp; try with_reducible rfl
  simp only [Act.put, List.getElem_toArray, List.getElem_cons_zero, List.getElem_cons_succ, List.setIfInBounds_toArray, List.set_cons_zero, List.set_cons_succ]
  refine wpAnyH_ready (rs := [6]) (by kernel_rfl) (by simp) ?_
  refine AllReadyH.cons rfl (fun K hK => ?_) AllReadyH.nil
  go_simp
  refine (outs_any w3 s.vb V es _ _ _ _ _ _ _ _ _ (y : Nat) (unhide HD3).view (unhide HP)).mono ?_
  rintro e w4 ⟨he, hb4⟩
  obtain ⟨v4, rfl, ho4⟩ : ∃ v, e = .returned v ∧ w4.ownsRow w3.heap.size 3 1 v (Pl.outs es y).length (zcells (toIs (Pl.outs es y))) := by
    rcases he with ⟨y', v, hy', hlt', he, ho⟩ | ⟨hi, _⟩
    · obtain rfl : y = y' := by omega
      exact ⟨v, he, ho⟩
    · simp [inB] at hi; omega
  obtain ⟨a4, c4, hv4, _, hN4⟩ := ns_of_owns ho4 (by have := Pl.sel_len es (fun e => e.1 == y) es.length; have := (unhide HP).n128; unfold Pl.outs; omega)
  subst hv4
  have hF4 := (unhide HF3).below hb4
  have hx4 : w4.heap[w.heap.size]? = some (.cells #[.int .i64 (y : Nat)] 3 (0, 0)) := by rw [hb4.block _ (by omega)]; exact unhide HX3
  have hB4 : Below w.heap.size w w4 := (unhide HB3).trans (hb4.mono (by omega))
  have C5 := hide (isSame_any w4 oa a4 on oc (Pl.outs es y).length c4 zs (toIs (Pl.outs es y)) ((unhide HO).below (hB4)) (unhide HNO) hN4 hon)
  have HF4 := hide hF4
  have HD4 := hide ((unhide HD3).below hb4)
  have HX4 := hide hx4
  have HBS4 := hide ((unhide HBS3).below hb4)
  have HB4 := hide hB4
  have hw4s : w.heap.size + 1 ≤ w4.heap.size := by have := hb4.size; omega
  refine hK.out _ _ ⟨hF4.cells.2.1, by simp [World.cell?, hx4]⟩ (fun hS1 => ?_)
  obtain ⟨k4, hk4⟩ : ∃ k4, (Pl.outs es y).length = k4 := ⟨_, rfl⟩
  rw [hk4] at C5 ⊢
  clear hK K hS0 he ho4 hN4 hF4 hx4 hB4 hb4 HF3 HD3 HX3 HBS3 HB3 hk4
  refine wpAnyH_ready (rs := [7]) (by kernel_rfl) (by simp) ?_
  refine AllReadyH.cons rfl (fun K hK => ?_) AllReadyH.nil
  go_simp
  refine (unhide C5).mono ?_
  rintro e w5 ⟨rfl, hb5⟩
  rw [show decide (srtZ zs = toIs (Pl.outs es y)) = true from decide_eq_true (unhide HOK)]
  have hF5 := (unhide HF4).below hb5
  have hx5 : w5.heap[w.heap.size]? = some (.cells #[.int .i64 (y : Nat)] 3 (0, 0)) := by rw [hb5.block _ (by omega)]; exact unhide HX4
  have hB5 : Below w.heap.size w w5 := (unhide HB4).trans (hb5.mono (by omega))
  have HF5 := hide hF5
  have HD5 := hide ((unhide HD4).below hb5)
  have HX5 := hide hx5
  have HBS5 := hide ((unhide HBS4).below hb5)
  have HB5 := hide hB5
  have hw5s : w.heap.size + 1 ≤ w5.heap.size := by have := hb5.size; omega
  refine hK.out _ _ ⟨hF5.cells.2.1, by simp [World.cell?, hx5]⟩ (fun hS2 => ?_)
  clear hK K hS1 hF5 hx5 hB5 hb5 C5 HF4 HD4 HX4 HBS4 HB4
  refine wpAnyH_take (i := 8) (v := ?_) rfl (by kernel_rfl) (by kernel_rfl) (by kernel_rfl) (fun _ _ _ h => h) (Or.inl ⟨by rfl, ?_⟩) hS2 ?_
  rotate_left
  · intro u hu; (try dsimp only at hu); go_simp; try with_reducible rfl
  simp only [Act.put, List.getElem_toArray, List.getElem_cons_zero, List.getElem_cons_succ, List.setIfInBounds_toArray, List.set_cons_zero, List.set_cons_succ]
  refine wpAnyH_done (by kernel_rfl) ?_ _
  clear hS2
  go_wp2_with fail
  have hx5 := unhide HX5
  have qx5 : w5.cell? ⟨w.heap.size, 0, none⟩ = some (.int .i64 (y : Nat)) := by simp [World.cell?, hx5]
  refine wp_region_held_drew (S := fun u => u.cell? ⟨w.heap.size, 0, none⟩ = some (.int .i64 (y : Nat))) (by kernel_rfl) qx5 (fun hU0 => ?_)
  have hF6 := (unhide HF5).below b_dr
  have HF6 := hide hF6
  have HX6 := hide (show w5.drew.heap[w.heap.size]? = _ from hx5)
  have HBS6 := hide ((unhide HBS5).below b_dr)
  have HB6 := hide ((unhide HB5).drew)
  replace hw5s : w.heap.size + 1 ≤ w5.drew.heap.size := hw5s
  clear HF5 HX5 HBS5 HB5 hx5 qx5 HD5
  generalize w5.drew = w6 at hU0 hF6 HF6 HX6 HBS6 HB6 hw5s ⊢
  clear w5
  have hb67 := b_al (w := w6) (.cells #[.int .i64 (y : Nat)] 3)
  have hF7 := hF6.below hb67
  have hpv := unhide HPV
  have y6 : w6.cell? ⟨b, 3, none⟩ = some (.slice pa pn pc) := by rw [← hpv]; exact hF6.cells.2.2.2
  have y7 : (w6.alloc (.cells #[.int .i64 (y : Nat)] 3)).cell? ⟨b, 3, none⟩ = some (.slice pa pn pc) := by rw [← hpv]; exact hF7.cells.2.2.2
  have own7 : (w6.alloc (.cells #[.int .i64 (y : Nat)] 3)).ownsRow N 3 1 (.slice pa pn pc) pn (zcells (toIs pl)) := by have := hF7.own; rw [hpv, unhide HPN] at this; exact this
  have hNw6 : N ≤ (w6.alloc (.cells #[.int .i64 (y : Nat)] 3)).heap.size := by simp; omega
  obtain ⟨v8, w8, r8, own8, hg8, _, hat8⟩ := run_append_own_at (P := Try.prog) (w6.alloc (.cells #[.int .i64 (y : Nat)] 3)) N 34 34 3 i0 (.int .i64 0) 1 8 Try.underlying34 (unhide HI) (unhide HZ0) (unhide HZ1) (unhide HZ2) rfl (by decide) (.slice pa pn pc) pn (zcells (toIs pl)) own7 ⟨w6.heap.size, 0, none⟩ 1 1 [.int .i64 (y : Nat)] rfl (cell_one_new _ _ _) (one_int y) (by unfold maxLen; omega) (by omega) hNw6
  rw [zcells_snoc, toIs_snoc] at own8
  obtain ⟨va8, vc8, rfl⟩ := own_shape own8
  have hbx7 : (w6.alloc (.cells #[.int .i64 (y : Nat)] 3)).heap[w.heap.size]? = some (.cells #[.int .i64 (y : Nat)] 3 (0, 0)) := by rw [hb67.block _ (by omega)]; exact unhide HX6
  have hs67 : (w6.alloc (.cells #[.int .i64 (y : Nat)] 3)).heap.size = w6.heap.size + 1 := by simp
  have hpw : ∀ g, (Value.slice pa pn pc).ownBlock = some g → g < w.heap.size ∧ N ≤ g := by rw [← hpv]; exact unhide HPW
  have hpb : (Value.slice pa pn pc).ownBlock ≠ some b := by rw [← hpv]; exact hF7.pne
  have hbx8 : w8.heap[w.heap.size]? = some (.cells #[.int .i64 (y : Nat)] 3 (0, 0)) := by
    rw [hg8.block _ (by omega) (fun e => by have := (hpw _ e.symm).1; omega)]; exact hbx7
  have box8 : w8.heap[b]? = some (.cells #[.slice ra row.length rc, .pointer (some ⟨s.vb, 0, none⟩), .slice s.ia V s.ic, .slice pa pn pc] 45 (0, 0)) := by
    rw [hg8.block b (by omega) (fun e => hpb e.symm), ← hpv]; exact hF7.box
  have y8 : w8.cell? ⟨b, 3, none⟩ = some (.slice pa pn pc) := by simp [World.cell?, box8]
  have f8 : w8.frozen? ⟨b, 3, none⟩ = false := by simp [World.frozen?, box8]
  have qx8 : w8.cell? ⟨w.heap.size, 0, none⟩ = some (.int .i64 (y : Nat)) := by simp [World.cell?, hbx8]
  have qx7 : (w6.alloc (.cells #[.int .i64 (y : Nat)] 3)).cell? ⟨w.heap.size, 0, none⟩ = some (.int .i64 (y : Nat)) := by simp [World.cell?, hbx7]
  have hnb : w.heap.size ≠ b := by omega
  have qx9 : (w8.setCell ⟨b, 3, none⟩ (.slice va8 (pn + 1) vc8)).cell? ⟨w.heap.size, 0, none⟩ = some (.int .i64 (y : Nat)) := by rw [cell_set_far _ _ _ _ hnb]; exact qx8
  have hat9 : ∀ g, (Value.slice va8 (pn + 1) vc8).ownBlock = some g → (Value.slice pa pn pc).ownBlock = some g ∨ w6.heap.size ≤ g := fun g hg => by
    rcases hat8 with h | h
    · left; rw [← h]; exact hg
    · right; rw [h, hs67] at hg; cases hg; omega
  have hp8b : (Value.slice va8 (pn + 1) vc8).ownBlock ≠ some b := fun h => by
    rcases hat9 b h with h | h
    · exact hpb h
    · omega
  have h9 : ∀ i, i ≠ b → (w8.setCell ⟨b, 3, none⟩ (.slice va8 (pn + 1) vc8)).heap[i]? = w8.heap[i]? := fun i hi => Below.heap_setCell _ _ _ _ hi
  have hs9 : (w8.setCell ⟨b, 3, none⟩ (.slice va8 (pn + 1) vc8)).heap.size = w8.heap.size := by simp [World.setCell]
  have hs78 : w6.heap.size + 1 ≤ w8.heap.size := by have := hg8.size; omega
  have hF9 : Fb N (w8.setCell ⟨b, 3, none⟩ (.slice va8 (pn + 1) vc8)) b V s ra rc row (.slice va8 (pn + 1) vc8) (pl ++ [y]) := by
    refine ⟨box_set3 box8, hF7.rno, hF7.rcap, hF7.rlo, fun g off he => ⟨(hF7.rne g off he).1, fun h => ?_⟩, ?_, ?_, hp8b, ⟨hF7.small.1, by rw [List.length_append, unhide HPN]; simp; omega⟩⟩
    · rcases hat9 g h with h | h
      · exact (hF7.rne g off he).2 (by rw [hpv]; exact h)
      · have := unhide HRL g off he; omega
    · refine Cr.keep hF7.items (by omega) (fun g off he hg => ?_)
      rw [h9 g (hF7.rne g off he).1]
      exact hg8.block g hg (fun e => (hF7.rne g off he).2 (by rw [hpv]; exact e.symm))
    · rw [show (pl ++ [y]).length = pn + 1 by rw [List.length_append, unhide HPN]; rfl]
      exact owns_keep own8 (fun g hg => h9 g (fun e => hp8b (by rw [hg, e])))
  have hBz : Bz (min b N) (fun i => i = b ∨ pv.ownBlock = some i) w (w8.setCell ⟨b, 3, none⟩ (.slice va8 (pn + 1) vc8)) := by
    refine ((Bz.of ((unhide HB6).trans (hb67.mono (unhide HB6).size)) (Nat.le_trans (Nat.min_le_right _ _) hNw)).trans (Bz.grown hg8 (fun g hg => ⟨.inr (by rw [hpv]; exact hg), Nat.le_trans (Nat.min_le_right _ _) (hpw g hg).2⟩) (Nat.le_trans (Nat.min_le_right _ _) hNw6))).trans (Bz.set (S := fun i => i = b ∨ pv.ownBlock = some i) (B := min b N) (p := ⟨b, 3, none⟩) (.inl rfl) (Nat.min_le_left _ _) (Nat.le_trans (Nat.min_le_right _ _) (by omega)) _)
  have HF9 := hide hF9
  have HBZ := hide hBz
  have HAT9 := hide hat9
  have HBS9 := hide (show Bs (w8.setCell ⟨b, 3, none⟩ (.slice va8 (pn + 1) vc8)) a l from by
    refine Cr.keep (Bs.below (unhide HBS6) hb67) (by omega) (fun g off he hg => ?_)
    have := unhide HLO1 g off he
    rw [unhide HWS] at this
    rw [h9 g (by omega)]
    exact hg8.block g hg (fun e => by have := (hpw g e.symm).1; omega))
  have HX9 := hide (show (w8.setCell ⟨b, 3, none⟩ (.slice va8 (pn + 1) vc8)).heap[w.heap.size]? = some (.cells #[.int .i64 (y : Nat)] 3 (0, 0)) by rw [h9 _ (by omega)]; exact hbx8)
  have hw9s : w.heap.size + 1 ≤ (w8.setCell ⟨b, 3, none⟩ (.slice va8 (pn + 1) vc8)).heap.size := by omega
  clear hF6 hb67 hF7 own7 own8 hg8 hat8 hbx7 hbx8 box8 hpw hpb hat9 hp8b h9 hs9 hs78 hF9 hBz HF6 HX6 HBS6 HB6 hpv hNw6
  refine wpAnyH_take (i := 0) (v := ?_) rfl (by kernel_rfl) (by kernel_rfl) (by kernel_rfl) (fun _ _ _ h => h) (Or.inl ⟨by rfl, ?_⟩) hU0 ?_
  rotate_left
  · intro u hu; (try dsimp only at hu); go_simp; try with_reducible rfl
  simp only [Act.put, List.getElem_toArray, List.getElem_cons_zero, List.setIfInBounds_toArray, List.set_cons_zero, List.set_cons_succ]
  refine wpAnyH_take (i := 1) (v := ?_) rfl (by kernel_rfl) (by kernel_rfl) (by kernel_rfl) (fun _ _ _ h => h) (Or.inl ⟨by rfl, ?_⟩) hU0 ?_
  rotate_left
  · intro u hu; (try dsimp only at hu); go_simp; try with_reducible rfl
  simp only [Act.put, List.getElem_toArray, List.getElem_cons_zero, List.getElem_cons_succ, List.setIfInBounds_toArray, List.set_cons_zero, List.set_cons_succ]
  refine wpAnyH_take (i := 2) (v := ?_) rfl (by kernel_rfl) (by kernel_rfl) (by kernel_rfl) (fun _ _ _ h => h) (Or.inl ⟨by rfl, ?_⟩) hU0 ?_
  rotate_left
  · intro u hu; (try dsimp only at hu); go_simp; try with_reducible rfl
  simp only [Act.put, List.getElem_toArray, List.getElem_cons_zero, List.getElem_cons_succ, List.setIfInBounds_toArray, List.set_cons_zero, List.set_cons_succ]
  refine wpAnyH_take (i := 3) (v := ?_) rfl (by kernel_rfl) (by kernel_rfl) (by kernel_rfl) (fun _ _ _ h => h) (Or.inl ⟨by rfl, ?_⟩) hU0 ?_
  rotate_left
  · intro u hu; (try dsimp only at hu); go_simp; try with_reducible rfl
  simp only [Act.put, List.getElem_toArray, List.getElem_cons_zero, List.getElem_cons_succ, List.setIfInBounds_toArray, List.set_cons_zero, List.set_cons_succ]
  refine wpAnyH_take (i := 5) (v := ?_) rfl (by kernel_rfl) (by kernel_rfl) (by kernel_rfl) (fun _ _ _ h => h) (Or.inl ⟨by rfl, ?_⟩) hU0 ?_
  rotate_left
  · intro u hu; (try dsimp only at hu); go_simp; try with_reducible rfl
  simp only [Act.put, List.getElem_toArray, List.getElem_cons_zero, List.getElem_cons_succ, List.setIfInBounds_toArray, List.set_cons_zero, List.set_cons_succ]
  refine wpAnyH_ready (rs := [4, 6]) (by kernel_rfl) (by simp) ?_
  refine AllReadyH.cons rfl (fun K hK => ?_) (AllReadyH.cons rfl (fun K hK => ?_) AllReadyH.nil)
  · go_simp
    refine hK.out _ _ hU0 (fun hU1 => ?_)
    clear hK K
    refine wpAnyH_ready (rs := [6]) (by kernel_rfl) (by simp) ?_
    refine AllReadyH.cons rfl (fun K hK => ?_) AllReadyH.nil
    go_simp
    refine hK.out _ _ qx7 (fun hU2 => ?_)
    clear hK K
    refine wpAnyH_ready (rs := [7]) (by kernel_rfl) (by simp) ?_
    refine AllReadyH.cons rfl (fun K hK => ?_) AllReadyH.nil
    refine Eq.mpr (if_pos rfl) ?_
    change Oper.wp Try.prog { dst := some 33, op := Op.call { callee := .builtin .append, args := #[.tmp 30, .tmp 32], argTypes := #[34, 34] }, type := 34, pos := _, after := _, guard := _ } _ _ _ _
    unfold Oper.wp execOp
    simp only [resolve, invoke, builtin, Sem.run_bind, Sem.run_pure, Result.andThen_ok, List.map_toArray, List.map_cons, List.map_nil]
    change Oper.upon _ _ _ _ _ ((Sem.run Try.prog (Builtin.append_ #[34, 34] 34 #[.slice pa pn pc, .slice (some ⟨w6.heap.size, 0, none⟩) 1 1]) _).andThen _)
    rw [r8]
    simp only [Result.andThen_ok, Oper.upon]
    refine hK.out _ _ qx8 (fun hU3 => ?_)
    clear hK K r8
    refine wpAnyH_take (i := 8) (v := ?_) rfl (by kernel_rfl) (by kernel_rfl) (by kernel_rfl) (fun _ _ _ h => h) (Or.inl ⟨by rfl, ?_⟩) hU3 ?_
    rotate_left
    · intro u hu; (try dsimp only at hu); go_simp; try with_reducible rfl
    simp only [Act.put, List.getElem_toArray, List.getElem_cons_zero, List.getElem_cons_succ, List.setIfInBounds_toArray, List.set_cons_zero, List.set_cons_succ]
    refine wpAnyH_take (i := 9) (v := ?_) rfl (by kernel_rfl) (by kernel_rfl) (by kernel_rfl) (fun _ _ _ h => h) (Or.inl ⟨by rfl, ?_⟩) hU3 ?_
    rotate_left
    · intro u hu; (try dsimp only at hu); go_simp; try with_reducible rfl
    simp only [Act.put, List.getElem_toArray, List.getElem_cons_zero, List.getElem_cons_succ, List.setIfInBounds_toArray, List.set_cons_zero, List.set_cons_succ]
    refine wpAnyH_ready (rs := [10]) (by kernel_rfl) (by simp) ?_
    refine AllReadyH.cons rfl (fun K hK => ?_) AllReadyH.nil
    go_simp
    refine hK.out _ _ qx9 (fun hU4 => ?_)
    clear hK K y6 y7 y8 f8 hU0 hU1 hU2 hU3 qx7 qx8
    refine wpAnyH_done (by kernel_rfl) ?_ _
    clear hU4
    obtain ⟨w9, hw9⟩ : ∃ w9, w8.setCell ⟨b, 3, none⟩ (.slice va8 (pn + 1) vc8) = w9 := ⟨_, rfl⟩
    rw [hw9] at HF9 HBZ HBS9 HX9 hw9s qx9 ⊢
    clear hw9
    obtain ⟨ga, oga, hea, hga, c0, c1, c2, c3⟩ := (unhide HBS9).at (show m < l.length by rw [unhide HN]; exact hm)
    rw [unhide HBN] at c0 c1 c2 c3
    have hgal := unhide HLO1 ga oga hea
    rw [unhide HWS] at hgal
    subst hea
    have hmn : (m : Int) < (n : Int) := by omega
    go_wp2_with fail
    refine wp_region_held_drew (S := fun u => (u.cell? ⟨ga, oga + m * 4, none⟩ = some (.int .i64 bn.head) ∧ u.cell? ⟨ga, oga + m * 4 + 1, none⟩ = some (.int .i64 (bn.count : Nat)) ∧ u.cell? ⟨ga, oga + m * 4 + 2, none⟩ = some (.int .i64 (bn.lo : Nat)) ∧ u.cell? ⟨ga, oga + m * 4 + 3, none⟩ = some (.int .i64 (bn.hi : Nat))) ∧ u.cell? ⟨w.heap.size, 0, none⟩ = some (.int .i64 (y : Nat))) (by kernel_rfl) ⟨⟨c0, c1, c2, c3⟩, qx9⟩ (fun hS0 => ?_)
    have HF10 := hide ((unhide HF9).below b_dr)
    have HBZ10 := hide (show Bz (min b N) (fun i => i = b ∨ pv.ownBlock = some i) w w9.drew from ⟨(unhide HBZ).bel.drew, (unhide HBZ).size, (unhide HBZ).far⟩)
    have HS10 := hide (show (w9.drew.cell? ⟨ga, oga + m * 4, none⟩ = some (.int .i64 bn.head) ∧ w9.drew.cell? ⟨ga, oga + m * 4 + 1, none⟩ = some (.int .i64 (bn.count : Nat)) ∧ w9.drew.cell? ⟨ga, oga + m * 4 + 2, none⟩ = some (.int .i64 (bn.lo : Nat)) ∧ w9.drew.cell? ⟨ga, oga + m * 4 + 3, none⟩ = some (.int .i64 (bn.hi : Nat))) ∧ w9.drew.cell? ⟨w.heap.size, 0, none⟩ = some (.int .i64 (y : Nat)) from ⟨⟨c0, c1, c2, c3⟩, qx9⟩)
    have hw10s : w.heap.size + 1 ≤ w9.drew.heap.size := hw9s
    have hga10 : ga < w9.drew.heap.size := hga
    clear HF9 HBZ HBS9 HX9 hw9s qx9 c0 c1 c2 c3 hga
    generalize w9.drew = w10 at hS0 HF10 HBZ10 HS10 hw10s hga10 ⊢
    clear w9
    have hbz := unhide HBZ10
    have hpw : ∀ g, pv.ownBlock = some g → g < w.heap.size ∧ N ≤ g := unhide HPW
    have hD10 : Sd w10 V es s := ((unhide HSN).keep (Nat.le_trans hNw hbz.size) (fun i hi hne => hbz.far i (by omega) (fun h => by
      rcases h with h | h
      · rcases hbb with e | e
        · exact hne (by rw [h, e])
        · omega
      · have := (hpw i h).2; omega))).sd
    have hO10 : Ns w10 oa on zs := by
      obtain ⟨o1, o2, o3⟩ := unhide HO
      refine ⟨o1, o2, fun k hk => ?_⟩
      obtain ⟨g, off, ha, hg, d0⟩ := o3 k hk
      exact ⟨g, off, ha, Nat.lt_of_lt_of_le hg hbz.size, by rw [World.cell?_of_block (w := w) (hbz.far g hg (unhide HOS g off ha (by omega)))]; exact d0⟩
    rw [unhide HZO] at hO10
    have hol : on = o.length := by have := hO10.1; rw [toIs_length] at this; omega
    have C10 := hide (above_any w10 b V es s (unhide HF10).cells.2.1 hD10 y o oa oc (by rw [← hol]; exact hO10) (unhide HOE) (unhide HOL) (unhide HP).n128)
    rw [← hol] at C10
    clear hD10 hO10 hbz hpw hol
    refine wpAnyH_take (i := 0) (v := ?_) rfl (by kernel_rfl) (by kernel_rfl) (by kernel_rfl) (fun _ _ _ h => h) (Or.inl ⟨by rfl, ?_⟩) hS0 ?_
    rotate_left
    · intro u hu; (try dsimp only at hu); go_simp; try with_reducible rfl
    simp only [Act.put, List.getElem_toArray, List.getElem_cons_zero, List.setIfInBounds_toArray, List.set_cons_zero, List.set_cons_succ]
    refine wpAnyH_take (i := 1) (v := ?_) rfl (by kernel_rfl) (by kernel_rfl) (by kernel_rfl) (fun _ _ _ h => h) (Or.inl ⟨by rfl, ?_⟩) hS0 ?_
    rotate_left
    · intro u hu; (try dsimp only at hu); go_simp; try with_reducible rfl
    simp only [Act.put, List.getElem_toArray, List.getElem_cons_zero, List.getElem_cons_succ, List.setIfInBounds_toArray, List.set_cons_zero, List.set_cons_succ]
    refine wpAnyH_take (i := 2) (v := ?_) rfl (by kernel_rfl) (by kernel_rfl) (by kernel_rfl) (fun _ _ _ h => h) (Or.inl ⟨by rfl, ?_⟩) hS0 ?_
    rotate_left
    · intro u hu; (try dsimp only at hu); go_simp; try with_reducible rfl
    simp only [Act.put, List.getElem_toArray, List.getElem_cons_zero, List.getElem_cons_succ, List.setIfInBounds_toArray, List.set_cons_zero, List.set_cons_succ]
    refine wpAnyH_take (i := 3) (v := ?_) rfl (by kernel_rfl) (by kernel_rfl) (by kernel_rfl) (fun _ _ _ h => h) (Or.inl ⟨by rfl, ?_⟩) hS0 ?_
    rotate_left
    · intro u hu; (try dsimp only at hu); go_simp; try with_reducible rfl
    simp only [Act.put, List.getElem_toArray, List.getElem_cons_zero, List.getElem_cons_succ, List.setIfInBounds_toArray, List.set_cons_zero, List.set_cons_succ]
    refine wpAnyH_take (i := 4) (v := ?_) rfl (by kernel_rfl) (by kernel_rfl) (by kernel_rfl) (fun _ _ _ h => h) (Or.inl ⟨by rfl, ?_⟩) hS0 ?_
    rotate_left
    · intro u hu; (try dsimp only at hu); go_simp; try with_reducible rfl
    simp only [Act.put, List.getElem_toArray, List.getElem_cons_zero, List.getElem_cons_succ, List.setIfInBounds_toArray, List.set_cons_zero, List.set_cons_succ]
    refine wpAnyH_take (i := 5) (v := ?_) rfl (by kernel_rfl) (by kernel_rfl) (by kernel_rfl) (fun _ _ _ h => h) (Or.inl ⟨by rfl, ?_⟩) hS0 ?_
    rotate_left
    · intro u hu; (try dsimp only at hu); go_simp; try with_reducible rfl
    simp only [Act.put, List.getElem_toArray, List.getElem_cons_zero, List.getElem_cons_succ, List.setIfInBounds_toArray, List.set_cons_zero, List.set_cons_succ]
    refine wpAnyH_take (i := 6) (v := ?_) rfl (by kernel_rfl) (by kernel_rfl) (by kernel_rfl) (fun _ _ _ h => h) (Or.inl ⟨by rfl, ?_⟩) hS0 ?_
    rotate_left
    · intro u hu; (try dsimp only at hu); go_simp; try with_reducible rfl
    simp only [Act.put, List.getElem_toArray, List.getElem_cons_zero, List.getElem_cons_succ, List.setIfInBounds_toArray, List.set_cons_zero, List.set_cons_succ]
    refine wpAnyH_take (i := 7) (v := ?_) rfl (by kernel_rfl) (by kernel_rfl) (by kernel_rfl) (fun _ _ _ h => h) (Or.inl ⟨by rfl, ?_⟩) hS0 ?_
    rotate_left
    · intro u hu; (try dsimp only at hu); go_simp; try with_reducible rfl
    simp only [Act.put, List.getElem_toArray, List.getElem_cons_zero, List.getElem_cons_succ, List.setIfInBounds_toArray, List.set_cons_zero, List.set_cons_succ]
    refine wpAnyH_take (i := 8) (v := ?_) rfl (by kernel_rfl) (by kernel_rfl) (by kernel_rfl) (fun _ _ _ h => h) (Or.inl ⟨by rfl, ?_⟩) hS0 ?_
    rotate_left
    · intro u hu; (try dsimp only at hu); go_simp; try with_reducible rfl
    simp only [Act.put, List.getElem_toArray, List.getElem_cons_zero, List.getElem_cons_succ, List.setIfInBounds_toArray, List.set_cons_zero, List.set_cons_succ]
    refine wpAnyH_take (i := 9) (v := ?_) rfl (by kernel_rfl) (by kernel_rfl) (by kernel_rfl) (fun _ _ _ h => h) (Or.inl ⟨by rfl, ?_⟩) hS0 ?_
    rotate_left
    · intro u hu; (try dsimp only at hu); go_simp; try with_reducible rfl
    simp only [Act.put, List.getElem_toArray, List.getElem_cons_zero, List.getElem_cons_succ, List.setIfInBounds_toArray, List.set_cons_zero, List.set_cons_succ]
    refine wpAnyH_ready (rs := [10]) (by kernel_rfl) (by simp) ?_
    refine AllReadyH.cons rfl (fun K hK => ?_) AllReadyH.nil
    go_simp
    refine (unhide C10).mono ?_
    rintro e w11 ⟨⟨v11, rfl, ho11⟩, hb11⟩
    obtain ⟨xa, xc, hv11, _, hxno, hI11, _⟩ := cr_of_owns ho11 (by have := unhide HTOT; omega)
    subst hv11
    have hF11 := (unhide HF10).below hb11
    have hs10 := unhide HS10
    have hs11 : (w11.cell? ⟨ga, oga + m * 4, none⟩ = some (.int .i64 bn.head) ∧ w11.cell? ⟨ga, oga + m * 4 + 1, none⟩ = some (.int .i64 (bn.count : Nat)) ∧ w11.cell? ⟨ga, oga + m * 4 + 2, none⟩ = some (.int .i64 (bn.lo : Nat)) ∧ w11.cell? ⟨ga, oga + m * 4 + 3, none⟩ = some (.int .i64 (bn.hi : Nat))) ∧ w11.cell? ⟨w.heap.size, 0, none⟩ = some (.int .i64 (y : Nat)) := by
      refine ⟨⟨?_, ?_, ?_, ?_⟩, ?_⟩
      · rw [hb11.cell (p := ⟨ga, _, none⟩) hga10]; exact hs10.1.1
      · rw [hb11.cell (p := ⟨ga, _, none⟩) hga10]; exact hs10.1.2.1
      · rw [hb11.cell (p := ⟨ga, _, none⟩) hga10]; exact hs10.1.2.2.1
      · rw [hb11.cell (p := ⟨ga, _, none⟩) hga10]; exact hs10.1.2.2.2
      · rw [hb11.cell (p := ⟨w.heap.size, _, none⟩) (show w.heap.size < w10.heap.size by omega)]; exact hs10.2
    have hw11 := hb11.size
    have HPB := hide (show ∀ g, (Value.slice va8 (pn + 1) vc8).ownBlock = some g → g < w11.heap.size from fun g hg => (hF11.own.lt g hg).2)
    have hN11 : N ≤ w11.heap.size := by omega
    have C11 := hide (replace_any w11 N b V s ra rc row (.slice va8 (pn + 1) vc8) (pl ++ [y]) hF11 hN11 bn.head (bn.count : Nat) bn.lo bn.hi hlh hhi (unhide HRR) (unhide HL2) xa xc (aboveF es y o) hI11 hxno (by unfold aboveF; split; simp; rw [List.length_map]; omega) (by unfold aboveF; split; simp; rw [List.length_map]; have := unhide HOL; omega) (unhide HTOT))
    have HBZ11 := hide ((unhide HBZ10).trans (Bz.of hb11 (Nat.le_trans (Nat.min_le_right _ _) (Nat.le_trans hNw (unhide HBZ10).size))))
    refine hK.out _ _ hs11 (fun hS1 => ?_)
    clear hK K hS0 ho11 hI11 hxno hF11 hs10 hb11 C10 HF10 HBZ10 HS10
    refine wpAnyH_ready (rs := [11]) (by kernel_rfl) (by simp) ?_
    refine AllReadyH.cons rfl (fun K hK => ?_) AllReadyH.nil
    go_simp
    refine (unhide C11).mono ?_
    rintro e w12 ⟨⟨v12, ra', rc', rfl, ho12, hF12, hra12, hrn12⟩, hbz12⟩
    have HT := hide (show PlaceTold N b V s ((row.take bn.hi).drop bn.lo) (row.take bn.lo ++ (aboveF es y o ++ row.drop bn.hi)) (pl ++ [y]) pv w w12 (.returned (.tuple #[v12, .int .i64 0])) from
      ⟨v12, ra', rc', _, rfl, owns_mono ho12 (by omega), hF12, fun g off he => by have := hra12 g off he; omega, hrn12, fun g hg => by
        rw [unhide HPV]
        rcases unhide HAT9 g hg with h | h
        · exact .inl h
        · right; omega, fun g hg hg2 => by have := (ho12.lt g hg).1; have := unhide HPB g hg2; omega⟩)
    have HBZ12 := hide ((unhide HBZ11).trans (hbz12.mono (fun i hi => .inl hi)))
    have hs12 : ∀ o', w12.cell? ⟨ga, o', none⟩ = w11.cell? ⟨ga, o', none⟩ := fun o' => World.cell?_of_block (w := w11) (hbz12.far ga (by omega) (fun e => by omega))
    have hs12x : w12.cell? ⟨w.heap.size, 0, none⟩ = w11.cell? ⟨w.heap.size, 0, none⟩ := World.cell?_of_block (w := w11) (hbz12.far w.heap.size (by omega) (fun e => by omega))
    refine hK.out _ _ ⟨⟨by rw [hs12]; exact hs11.1.1, by rw [hs12]; exact hs11.1.2.1, by rw [hs12]; exact hs11.1.2.2.1, by rw [hs12]; exact hs11.1.2.2.2⟩, by rw [hs12x]; exact hs11.2⟩ (fun hS2 => ?_)
    clear hK K hS1 ho12 hF12 hra12 hrn12 hbz12 hs11 hs12 hs12x C11 HBZ11
    refine wpAnyH_take (i := 12) (v := ?_) rfl (by kernel_rfl) (by kernel_rfl) (by kernel_rfl) (fun _ _ _ h => h) (Or.inl ⟨by rfl, ?_⟩) hS2 ?_
    rotate_left
    · intro u hu; (try dsimp only at hu); go_simp; try with_reducible rfl
    simp only [Act.put, List.getElem_toArray, List.getElem_cons_zero, List.getElem_cons_succ, List.setIfInBounds_toArray, List.set_cons_zero, List.set_cons_succ]
    refine wpAnyH_take (i := 13) (v := ?_) rfl (by kernel_rfl) (by kernel_rfl) (by kernel_rfl) (fun _ _ _ h => h) (Or.inl ⟨by rfl, ?_⟩) hS2 ?_
    rotate_left
    · intro u hu; (try dsimp only at hu); go_simp; try with_reducible rfl
    simp only [Act.put, List.getElem_toArray, List.getElem_cons_zero, List.getElem_cons_succ, List.setIfInBounds_toArray, List.set_cons_zero, List.set_cons_succ]
    refine wpAnyH_done (by kernel_rfl) ?_ _
    clear hS2
    go_wp2_with fail
    go_ret2
    exact ⟨unhide HT, unhide HBZ12⟩
  · go_simp
    refine hK.out _ _ qx7 (fun hU1 => ?_)
    clear hK K
    refine wpAnyH_ready (rs := [4]) (by kernel_rfl) (by simp) ?_
    refine AllReadyH.cons rfl (fun K hK => ?_) AllReadyH.nil
    go_simp
    refine hK.out _ _ qx7 (fun hU2 => ?_)
    clear hK K
    refine wpAnyH_ready (rs := [7]) (by kernel_rfl) (by simp) ?_
    refine AllReadyH.cons rfl (fun K hK => ?_) AllReadyH.nil
    refine Eq.mpr (if_pos rfl) ?_
    change Oper.wp Try.prog { dst := some 33, op := Op.call { callee := .builtin .append, args := #[.tmp 30, .tmp 32], argTypes := #[34, 34] }, type := 34, pos := _, after := _, guard := _ } _ _ _ _
    unfold Oper.wp execOp
    simp only [resolve, invoke, builtin, Sem.run_bind, Sem.run_pure, Result.andThen_ok, List.map_toArray, List.map_cons, List.map_nil]
    change Oper.upon _ _ _ _ _ ((Sem.run Try.prog (Builtin.append_ #[34, 34] 34 #[.slice pa pn pc, .slice (some ⟨w6.heap.size, 0, none⟩) 1 1]) _).andThen _)
    rw [r8]
    simp only [Result.andThen_ok, Oper.upon]
    refine hK.out _ _ qx8 (fun hU3 => ?_)
    clear hK K r8
    refine wpAnyH_take (i := 8) (v := ?_) rfl (by kernel_rfl) (by kernel_rfl) (by kernel_rfl) (fun _ _ _ h => h) (Or.inl ⟨by rfl, ?_⟩) hU3 ?_
    rotate_left
    · intro u hu; (try dsimp only at hu); go_simp; try with_reducible rfl
    simp only [Act.put, List.getElem_toArray, List.getElem_cons_zero, List.getElem_cons_succ, List.setIfInBounds_toArray, List.set_cons_zero, List.set_cons_succ]
    refine wpAnyH_take (i := 9) (v := ?_) rfl (by kernel_rfl) (by kernel_rfl) (by kernel_rfl) (fun _ _ _ h => h) (Or.inl ⟨by rfl, ?_⟩) hU3 ?_
    rotate_left
    · intro u hu; (try dsimp only at hu); go_simp; try with_reducible rfl
    simp only [Act.put, List.getElem_toArray, List.getElem_cons_zero, List.getElem_cons_succ, List.setIfInBounds_toArray, List.set_cons_zero, List.set_cons_succ]
    refine wpAnyH_ready (rs := [10]) (by kernel_rfl) (by simp) ?_
    refine AllReadyH.cons rfl (fun K hK => ?_) AllReadyH.nil
    go_simp
    refine hK.out _ _ qx9 (fun hU4 => ?_)
    clear hK K y6 y7 y8 f8 hU0 hU1 hU2 hU3 qx7 qx8
    refine wpAnyH_done (by kernel_rfl) ?_ _
    clear hU4
    obtain ⟨w9, hw9⟩ : ∃ w9, w8.setCell ⟨b, 3, none⟩ (.slice va8 (pn + 1) vc8) = w9 := ⟨_, rfl⟩
    rw [hw9] at HF9 HBZ HBS9 HX9 hw9s qx9 ⊢
    clear hw9
    obtain ⟨ga, oga, hea, hga, c0, c1, c2, c3⟩ := (unhide HBS9).at (show m < l.length by rw [unhide HN]; exact hm)
    rw [unhide HBN] at c0 c1 c2 c3
    have hgal := unhide HLO1 ga oga hea
    rw [unhide HWS] at hgal
    subst hea
    have hmn : (m : Int) < (n : Int) := by omega
    go_wp2_with fail
    refine wp_region_held_drew (S := fun u => (u.cell? ⟨ga, oga + m * 4, none⟩ = some (.int .i64 bn.head) ∧ u.cell? ⟨ga, oga + m * 4 + 1, none⟩ = some (.int .i64 (bn.count : Nat)) ∧ u.cell? ⟨ga, oga + m * 4 + 2, none⟩ = some (.int .i64 (bn.lo : Nat)) ∧ u.cell? ⟨ga, oga + m * 4 + 3, none⟩ = some (.int .i64 (bn.hi : Nat))) ∧ u.cell? ⟨w.heap.size, 0, none⟩ = some (.int .i64 (y : Nat))) (by kernel_rfl) ⟨⟨c0, c1, c2, c3⟩, qx9⟩ (fun hS0 => ?_)
    have HF10 := hide ((unhide HF9).below b_dr)
    have HBZ10 := hide (show Bz (min b N) (fun i => i = b ∨ pv.ownBlock = some i) w w9.drew from ⟨(unhide HBZ).bel.drew, (unhide HBZ).size, (unhide HBZ).far⟩)
    have HS10 := hide (show (w9.drew.cell? ⟨ga, oga + m * 4, none⟩ = some (.int .i64 bn.head) ∧ w9.drew.cell? ⟨ga, oga + m * 4 + 1, none⟩ = some (.int .i64 (bn.count : Nat)) ∧ w9.drew.cell? ⟨ga, oga + m * 4 + 2, none⟩ = some (.int .i64 (bn.lo : Nat)) ∧ w9.drew.cell? ⟨ga, oga + m * 4 + 3, none⟩ = some (.int .i64 (bn.hi : Nat))) ∧ w9.drew.cell? ⟨w.heap.size, 0, none⟩ = some (.int .i64 (y : Nat)) from ⟨⟨c0, c1, c2, c3⟩, qx9⟩)
    have hw10s : w.heap.size + 1 ≤ w9.drew.heap.size := hw9s
    have hga10 : ga < w9.drew.heap.size := hga
    clear HF9 HBZ HBS9 HX9 hw9s qx9 c0 c1 c2 c3 hga
    generalize w9.drew = w10 at hS0 HF10 HBZ10 HS10 hw10s hga10 ⊢
    clear w9
    have hbz := unhide HBZ10
    have hpw : ∀ g, pv.ownBlock = some g → g < w.heap.size ∧ N ≤ g := unhide HPW
    have hD10 : Sd w10 V es s := ((unhide HSN).keep (Nat.le_trans hNw hbz.size) (fun i hi hne => hbz.far i (by omega) (fun h => by
      rcases h with h | h
      · rcases hbb with e | e
        · exact hne (by rw [h, e])
        · omega
      · have := (hpw i h).2; omega))).sd
    have hO10 : Ns w10 oa on zs := by
      obtain ⟨o1, o2, o3⟩ := unhide HO
      refine ⟨o1, o2, fun k hk => ?_⟩
      obtain ⟨g, off, ha, hg, d0⟩ := o3 k hk
      exact ⟨g, off, ha, Nat.lt_of_lt_of_le hg hbz.size, by rw [World.cell?_of_block (w := w) (hbz.far g hg (unhide HOS g off ha (by omega)))]; exact d0⟩
    rw [unhide HZO] at hO10
    have hol : on = o.length := by have := hO10.1; rw [toIs_length] at this; omega
    have C10 := hide (above_any w10 b V es s (unhide HF10).cells.2.1 hD10 y o oa oc (by rw [← hol]; exact hO10) (unhide HOE) (unhide HOL) (unhide HP).n128)
    rw [← hol] at C10
    clear hD10 hO10 hbz hpw hol
    refine wpAnyH_take (i := 0) (v := ?_) rfl (by kernel_rfl) (by kernel_rfl) (by kernel_rfl) (fun _ _ _ h => h) (Or.inl ⟨by rfl, ?_⟩) hS0 ?_
    rotate_left
    · intro u hu; (try dsimp only at hu); go_simp; try with_reducible rfl
    simp only [Act.put, List.getElem_toArray, List.getElem_cons_zero, List.setIfInBounds_toArray, List.set_cons_zero, List.set_cons_succ]
    refine wpAnyH_take (i := 1) (v := ?_) rfl (by kernel_rfl) (by kernel_rfl) (by kernel_rfl) (fun _ _ _ h => h) (Or.inl ⟨by rfl, ?_⟩) hS0 ?_
    rotate_left
    · intro u hu; (try dsimp only at hu); go_simp; try with_reducible rfl
    simp only [Act.put, List.getElem_toArray, List.getElem_cons_zero, List.getElem_cons_succ, List.setIfInBounds_toArray, List.set_cons_zero, List.set_cons_succ]
    refine wpAnyH_take (i := 2) (v := ?_) rfl (by kernel_rfl) (by kernel_rfl) (by kernel_rfl) (fun _ _ _ h => h) (Or.inl ⟨by rfl, ?_⟩) hS0 ?_
    rotate_left
    · intro u hu; (try dsimp only at hu); go_simp; try with_reducible rfl
    simp only [Act.put, List.getElem_toArray, List.getElem_cons_zero, List.getElem_cons_succ, List.setIfInBounds_toArray, List.set_cons_zero, List.set_cons_succ]
    refine wpAnyH_take (i := 3) (v := ?_) rfl (by kernel_rfl) (by kernel_rfl) (by kernel_rfl) (fun _ _ _ h => h) (Or.inl ⟨by rfl, ?_⟩) hS0 ?_
    rotate_left
    · intro u hu; (try dsimp only at hu); go_simp; try with_reducible rfl
    simp only [Act.put, List.getElem_toArray, List.getElem_cons_zero, List.getElem_cons_succ, List.setIfInBounds_toArray, List.set_cons_zero, List.set_cons_succ]
    refine wpAnyH_take (i := 4) (v := ?_) rfl (by kernel_rfl) (by kernel_rfl) (by kernel_rfl) (fun _ _ _ h => h) (Or.inl ⟨by rfl, ?_⟩) hS0 ?_
    rotate_left
    · intro u hu; (try dsimp only at hu); go_simp; try with_reducible rfl
    simp only [Act.put, List.getElem_toArray, List.getElem_cons_zero, List.getElem_cons_succ, List.setIfInBounds_toArray, List.set_cons_zero, List.set_cons_succ]
    refine wpAnyH_take (i := 5) (v := ?_) rfl (by kernel_rfl) (by kernel_rfl) (by kernel_rfl) (fun _ _ _ h => h) (Or.inl ⟨by rfl, ?_⟩) hS0 ?_
    rotate_left
    · intro u hu; (try dsimp only at hu); go_simp; try with_reducible rfl
    simp only [Act.put, List.getElem_toArray, List.getElem_cons_zero, List.getElem_cons_succ, List.setIfInBounds_toArray, List.set_cons_zero, List.set_cons_succ]
    refine wpAnyH_take (i := 6) (v := ?_) rfl (by kernel_rfl) (by kernel_rfl) (by kernel_rfl) (fun _ _ _ h => h) (Or.inl ⟨by rfl, ?_⟩) hS0 ?_
    rotate_left
    · intro u hu; (try dsimp only at hu); go_simp; try with_reducible rfl
    simp only [Act.put, List.getElem_toArray, List.getElem_cons_zero, List.getElem_cons_succ, List.setIfInBounds_toArray, List.set_cons_zero, List.set_cons_succ]
    refine wpAnyH_take (i := 7) (v := ?_) rfl (by kernel_rfl) (by kernel_rfl) (by kernel_rfl) (fun _ _ _ h => h) (Or.inl ⟨by rfl, ?_⟩) hS0 ?_
    rotate_left
    · intro u hu; (try dsimp only at hu); go_simp; try with_reducible rfl
    simp only [Act.put, List.getElem_toArray, List.getElem_cons_zero, List.getElem_cons_succ, List.setIfInBounds_toArray, List.set_cons_zero, List.set_cons_succ]
    refine wpAnyH_take (i := 8) (v := ?_) rfl (by kernel_rfl) (by kernel_rfl) (by kernel_rfl) (fun _ _ _ h => h) (Or.inl ⟨by rfl, ?_⟩) hS0 ?_
    rotate_left
    · intro u hu; (try dsimp only at hu); go_simp; try with_reducible rfl
    simp only [Act.put, List.getElem_toArray, List.getElem_cons_zero, List.getElem_cons_succ, List.setIfInBounds_toArray, List.set_cons_zero, List.set_cons_succ]
    refine wpAnyH_take (i := 9) (v := ?_) rfl (by kernel_rfl) (by kernel_rfl) (by kernel_rfl) (fun _ _ _ h => h) (Or.inl ⟨by rfl, ?_⟩) hS0 ?_
    rotate_left
    · intro u hu; (try dsimp only at hu); go_simp; try with_reducible rfl
    simp only [Act.put, List.getElem_toArray, List.getElem_cons_zero, List.getElem_cons_succ, List.setIfInBounds_toArray, List.set_cons_zero, List.set_cons_succ]
    refine wpAnyH_ready (rs := [10]) (by kernel_rfl) (by simp) ?_
    refine AllReadyH.cons rfl (fun K hK => ?_) AllReadyH.nil
    go_simp
    refine (unhide C10).mono ?_
    rintro e w11 ⟨⟨v11, rfl, ho11⟩, hb11⟩
    obtain ⟨xa, xc, hv11, _, hxno, hI11, _⟩ := cr_of_owns ho11 (by have := unhide HTOT; omega)
    subst hv11
    have hF11 := (unhide HF10).below hb11
    have hs10 := unhide HS10
    have hs11 : (w11.cell? ⟨ga, oga + m * 4, none⟩ = some (.int .i64 bn.head) ∧ w11.cell? ⟨ga, oga + m * 4 + 1, none⟩ = some (.int .i64 (bn.count : Nat)) ∧ w11.cell? ⟨ga, oga + m * 4 + 2, none⟩ = some (.int .i64 (bn.lo : Nat)) ∧ w11.cell? ⟨ga, oga + m * 4 + 3, none⟩ = some (.int .i64 (bn.hi : Nat))) ∧ w11.cell? ⟨w.heap.size, 0, none⟩ = some (.int .i64 (y : Nat)) := by
      refine ⟨⟨?_, ?_, ?_, ?_⟩, ?_⟩
      · rw [hb11.cell (p := ⟨ga, _, none⟩) hga10]; exact hs10.1.1
      · rw [hb11.cell (p := ⟨ga, _, none⟩) hga10]; exact hs10.1.2.1
      · rw [hb11.cell (p := ⟨ga, _, none⟩) hga10]; exact hs10.1.2.2.1
      · rw [hb11.cell (p := ⟨ga, _, none⟩) hga10]; exact hs10.1.2.2.2
      · rw [hb11.cell (p := ⟨w.heap.size, _, none⟩) (show w.heap.size < w10.heap.size by omega)]; exact hs10.2
    have hw11 := hb11.size
    have HPB := hide (show ∀ g, (Value.slice va8 (pn + 1) vc8).ownBlock = some g → g < w11.heap.size from fun g hg => (hF11.own.lt g hg).2)
    have hN11 : N ≤ w11.heap.size := by omega
    have C11 := hide (replace_any w11 N b V s ra rc row (.slice va8 (pn + 1) vc8) (pl ++ [y]) hF11 hN11 bn.head (bn.count : Nat) bn.lo bn.hi hlh hhi (unhide HRR) (unhide HL2) xa xc (aboveF es y o) hI11 hxno (by unfold aboveF; split; simp; rw [List.length_map]; omega) (by unfold aboveF; split; simp; rw [List.length_map]; have := unhide HOL; omega) (unhide HTOT))
    have HBZ11 := hide ((unhide HBZ10).trans (Bz.of hb11 (Nat.le_trans (Nat.min_le_right _ _) (Nat.le_trans hNw (unhide HBZ10).size))))
    refine hK.out _ _ hs11 (fun hS1 => ?_)
    clear hK K hS0 ho11 hI11 hxno hF11 hs10 hb11 C10 HF10 HBZ10 HS10
    refine wpAnyH_ready (rs := [11]) (by kernel_rfl) (by simp) ?_
    refine AllReadyH.cons rfl (fun K hK => ?_) AllReadyH.nil
    go_simp
    refine (unhide C11).mono ?_
    rintro e w12 ⟨⟨v12, ra', rc', rfl, ho12, hF12, hra12, hrn12⟩, hbz12⟩
    have HT := hide (show PlaceTold N b V s ((row.take bn.hi).drop bn.lo) (row.take bn.lo ++ (aboveF es y o ++ row.drop bn.hi)) (pl ++ [y]) pv w w12 (.returned (.tuple #[v12, .int .i64 0])) from
      ⟨v12, ra', rc', _, rfl, owns_mono ho12 (by omega), hF12, fun g off he => by have := hra12 g off he; omega, hrn12, fun g hg => by
        rw [unhide HPV]
        rcases unhide HAT9 g hg with h | h
        · exact .inl h
        · right; omega, fun g hg hg2 => by have := (ho12.lt g hg).1; have := unhide HPB g hg2; omega⟩)
    have HBZ12 := hide ((unhide HBZ11).trans (hbz12.mono (fun i hi => .inl hi)))
    have hs12 : ∀ o', w12.cell? ⟨ga, o', none⟩ = w11.cell? ⟨ga, o', none⟩ := fun o' => World.cell?_of_block (w := w11) (hbz12.far ga (by omega) (fun e => by omega))
    have hs12x : w12.cell? ⟨w.heap.size, 0, none⟩ = w11.cell? ⟨w.heap.size, 0, none⟩ := World.cell?_of_block (w := w11) (hbz12.far w.heap.size (by omega) (fun e => by omega))
    refine hK.out _ _ ⟨⟨by rw [hs12]; exact hs11.1.1, by rw [hs12]; exact hs11.1.2.1, by rw [hs12]; exact hs11.1.2.2.1, by rw [hs12]; exact hs11.1.2.2.2⟩, by rw [hs12x]; exact hs11.2⟩ (fun hS2 => ?_)
    clear hK K hS1 ho12 hF12 hra12 hrn12 hbz12 hs11 hs12 hs12x C11 HBZ11
    refine wpAnyH_take (i := 12) (v := ?_) rfl (by kernel_rfl) (by kernel_rfl) (by kernel_rfl) (fun _ _ _ h => h) (Or.inl ⟨by rfl, ?_⟩) hS2 ?_
    rotate_left
    · intro u hu; (try dsimp only at hu); go_simp; try with_reducible rfl
    simp only [Act.put, List.getElem_toArray, List.getElem_cons_zero, List.getElem_cons_succ, List.setIfInBounds_toArray, List.set_cons_zero, List.set_cons_succ]
    refine wpAnyH_take (i := 13) (v := ?_) rfl (by kernel_rfl) (by kernel_rfl) (by kernel_rfl) (fun _ _ _ h => h) (Or.inl ⟨by rfl, ?_⟩) hS2 ?_
    rotate_left
    · intro u hu; (try dsimp only at hu); go_simp; try with_reducible rfl
    simp only [Act.put, List.getElem_toArray, List.getElem_cons_zero, List.getElem_cons_succ, List.setIfInBounds_toArray, List.set_cons_zero, List.set_cons_succ]
    refine wpAnyH_done (by kernel_rfl) ?_ _
    clear hS2
    go_wp2_with fail
    go_ret2
    exact ⟨unhide HT, unhide HBZ12⟩
end Go.Proofs.Ytdkchihomllokaa


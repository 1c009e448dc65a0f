/-
  The contract of Place. Conditions: the front lies in memory as told; the orders of edges are lists of ints.
-/
import Derived.Test.YtdkchihomllokaaRp9
namespace Go.Proofs.Ytdkchihomllokaa
open Go.RowKit
set_option linter.unusedVariables false
set_option maxRecDepth 20000

theorem Sd.ilt {w : World} {V : Nat} {es : List (Nat × Nat)} {s : Fs} (h : Sd w V es s) (hV : 1 ≤ V) : ∀ g off, s.ia = some ⟨g, off, none⟩ → g < w.heap.size := by
  intro g off he
  obtain ⟨g', off', he', hg, _⟩ := h.ins.2.2 0 (by omega)
  rw [he] at he'
  cases he'
  exact hg
theorem ixp_head_none {l : List Bn} {x : Int} (h : ∀ b ∈ l, b.head ≠ x) : ixp l.length (fun j => ((l.getD j b0).head == x)) = -1 :=
  ixp_miss fun j hj => by
    have := h (l.getD j b0) (by rw [List.getD_eq_getElem?_getD, List.getElem?_eq_getElem hj]; exact List.getElem_mem _)
    rw [beq_eq_false_iff_ne]
    exact this

set_option maxHeartbeats 4000000 in
theorem place_none (w : World) (N b V : Nat) (es : List (Nat × Nat)) (s : Fs) (ra : Option Addr) (rc : Nat) (row : List It) (pv : Value) (pl : List Nat) (hF : Fb N w b V s ra rc row pv pl) (hD : Sd w V es s) (hp : Plain V es) (src : Nat) (hsrc : bare (Pl.ins es) V = [src]) (hR : RowOk V row)
    (x : Int) (oa : Option Addr) (on oc : Nat) (hx : ∀ bn ∈ wholeF V es src row pl, bn.head ≠ x) :
    Calls Try.prog 13 #[.pointer (some ⟨b, 0, none⟩), .int .i64 x, .slice oa on oc] w fun e w' => e = .returned (.tuple #[.slice none 0 0, .int .i64 3]) ∧ Below w.heap.size w w' := by
  have hb0 := b_al (w := w) (.cells #[.int .i64 x] 3)
  have hD0 := hD.below hb0
  have C := hide (whole_any _ N b V es s ra rc row pv pl (hF.below hb0) hD0 hp src hsrc hR (hD0.ilt hp.v1))
  have hx0 : (w.alloc (.cells #[.int .i64 x] 3)).heap[w.heap.size]? = some (.cells #[.int .i64 x] 3 (0, 0)) := (MapKept.heap_alloc w _).1
  have HX0 := hide hx0
  have HX := hide hx
  have HB0 := hide hb0
  obtain ⟨W, hW⟩ : ∃ W, w.alloc (.cells #[.int .i64 x] 3) = W := ⟨_, rfl⟩
  have HWS := hide (show W.heap.size = w.heap.size + 1 by subst hW; simp)
  rw [hW] at C HX0 HB0
  generalize wholeF V es src row pl = l at C HX
  clear hF hD hD0 hx hb0 hx0
  go_enter Try.func13, Try.ntmps13
  go_wp2_with fail
  refine (unhide C).mono ?_
  rintro e w1 ⟨⟨a, c, rfl, hB1, _⟩, hb1⟩
  have hx1 : w1.cell? ⟨w.heap.size, 0, none⟩ = some (.int .i64 x) := by
    have : w1.heap[w.heap.size]? = some (.cells #[.int .i64 x] 3 (0, 0)) := by rw [hb1.block _ (by rw [unhide HWS]; omega)]; exact unhide HX0
    simp [World.cell?, this]
  have C2 := hide (indexHead_any w1 a c l hB1 x w.heap.size hx1)
  rw [ixp_head_none (unhide HX)] at C2
  have HB1 := hide ((unhide HB0).trans (hb1.mono (by rw [unhide HWS]; omega)))
  obtain ⟨n, hn⟩ : ∃ n, l.length = n := ⟨_, rfl⟩
  rw [hn] at C2 ⊢
  clear C hB1 hb1 hx1 hn hW
  go_wp2_with fail
  refine (unhide C2).mono ?_
  rintro e w2 ⟨rfl, hb2⟩
  have HB2 := hide ((unhide HB1).trans (hb2.mono (unhide HB1).size))
  clear C2 hb2
  go_wp2_with fail
  go_ret2
  exact ⟨rfl, unhide HB2⟩

set_option maxHeartbeats 8000000 in
theorem place_arg (w : World) (N b V : Nat) (es : List (Nat × Nat)) (s : Fs) (ra : Option Addr) (rc : Nat) (row : List It) (pv : Value) (pl : List Nat) (hF : Fb N w b V s ra rc row pv pl) (hD : Sd w V es s) (hp : Plain V es) (src : Nat) (hsrc : bare (Pl.ins es) V = [src]) (hR : RowOk V row)
    (y : Nat) (hy : y < V) (oa : Option Addr) (on oc : Nat) (zs : List Int) (hO : Ns w oa on zs) (hno : oa = none → on = 0 ∧ oc = 0) (hon : on * 8 ≤ 140737488355328) (m : Nat) (hm : m < (wholeF V es src row pl).length) (hh : ((wholeF V es src row pl).getD m b0).head = (y : Int)) (hbef : ∀ j, j < m → ((wholeF V es src row pl).getD j b0).head ≠ (y : Int)) (bn : Bn) (hbn : (wholeF V es src row pl).getD m b0 = bn) (hbad : srtZ zs ≠ toIs (Pl.outs es y)) :
    Calls Try.prog 13 #[.pointer (some ⟨b, 0, none⟩), .int .i64 (y : Nat), .slice oa on oc] w fun e w' => e = .returned (.tuple #[.slice none 0 0, .int .i64 1]) ∧ Below w.heap.size w w' := by
  have HBAD := hide hbad
  clear hbad
  have hb0 := b_al (w := w) (.cells #[.int .i64 (y : Nat)] 3)
  have hD0 := hD.below hb0
  have hF0 := hF.below hb0
  have C := hide (whole_any _ N b V es s ra rc row pv pl hF0 hD0 hp src hsrc hR (hD0.ilt hp.v1))
  have hx0 : (w.alloc (.cells #[.int .i64 (y : Nat)] 3)).heap[w.heap.size]? = some (.cells #[.int .i64 (y : Nat)] 3 (0, 0)) := (MapKept.heap_alloc w _).1
  have HX0 := hide hx0
  have HB0 := hide hb0
  have HD0 := hide hD0
  have HF0 := hide hF0
  have HO := hide hO
  have HNO := hide hno
  have HP := hide hp
  obtain ⟨W, hW⟩ : ∃ W, w.alloc (.cells #[.int .i64 (y : Nat)] 3) = W := ⟨_, rfl⟩
  have HWS := hide (show W.heap.size = w.heap.size + 1 by subst hW; simp)
  rw [hW] at C HX0 HB0 HD0 HF0
  have hbl := hF.lt
  generalize wholeF V es src row pl = l at C hm hh hbef hbn
  have hix : ixp l.length (fun j => ((l.getD j b0).head == (y : Int))) = (m : Int) := ixp_hit m hm (by rw [hh]; simp) (fun j hj => by rw [beq_eq_false_iff_ne]; exact hbef j hj)
  have HIX := hide hix
  have HBN := hide hbn
  clear hD hD0 hb0 hx0 hix hh hbef hF0 hO hno hp
  go_enter Try.func13, Try.ntmps13
  go_wp2_with fail
  refine (unhide C).mono ?_
  rintro e w1 ⟨⟨a, c, rfl, hB1, hlo1⟩, hb1⟩
  have hx1 : w1.heap[w.heap.size]? = some (.cells #[.int .i64 (y : Nat)] 3 (0, 0)) := by rw [hb1.block _ (by rw [unhide HWS]; omega)]; exact unhide HX0
  have hx1c : w1.cell? ⟨w.heap.size, 0, none⟩ = some (.int .i64 (y : Nat)) := by simp [World.cell?, hx1]
  have C2 := hide (indexHead_any w1 a c l hB1 (y : Nat) w.heap.size hx1c)
  rw [unhide HIX] at C2
  have hB01 : Below w.heap.size w w1 := (unhide HB0).trans (hb1.mono (by rw [unhide HWS]; omega))
  have HB1 := hide hB01
  have hw1s : w.heap.size + 1 ≤ w1.heap.size := by have := hb1.size; rw [unhide HWS] at this; exact this
  have HX1 := hide hx1
  have HD1 := hide ((unhide HD0).below hb1)
  have HF1 := hide ((unhide HF0).below hb1)
  have HBS1 := hide hB1
  have HLO1 := hide hlo1
  obtain ⟨n, hn⟩ : ∃ n, l.length = n := ⟨_, rfl⟩
  have HN := hide hn
  rw [hn] at C2 hm ⊢
  clear C hB1 hb1 hx1 hn hW hx1c hB01 hlo1 HX0 HD0 HF0
  go_wp2_with fail
  refine (unhide C2).mono ?_
  rintro e w2 ⟨rfl, hb2⟩
  have hsz12 := hb2.size
  have hF2 := (unhide HF1).below hb2
  have hD2 := (unhide HD1).below hb2
  have hx2 : w2.heap[w.heap.size]? = some (.cells #[.int .i64 (y : Nat)] 3 (0, 0)) := by rw [hb2.block _ (by omega)]; exact unhide HX1
  have hBs2 := (unhide HBS1).below hb2
  have hB2 : Below w.heap.size w w2 := (unhide HB1).trans (hb2.mono (unhide HB1).size)
  have hw2s : w.heap.size + 1 ≤ w2.heap.size := by omega
  have HF2 := hide hF2
  have HD2 := hide hD2
  have HX2 := hide hx2
  have HBS2 := hide hBs2
  have HB2 := hide hB2
  have q1 : w2.cell? ⟨b, 1, none⟩ = some (.pointer (some ⟨s.vb, 0, none⟩)) := hF2.cells.2.1
  have qx : w2.cell? ⟨w.heap.size, 0, none⟩ = some (.int .i64 (y : Nat)) := by simp [World.cell?, hx2]
  have hm0 : ¬ (m : Int) < 0 := by omega
  clear C2 hb2 HF1 HD1 HX1 HBS1 HB1 hF2 hD2 hx2 hBs2 hB2 hw1s hsz12
  go_wp2_with fail
  refine wp_region_held_drew (S := fun u => u.cell? ⟨b, 1, none⟩ = some (.pointer (some ⟨s.vb, 0, none⟩)) ∧ u.cell? ⟨w.heap.size, 0, none⟩ = some (.int .i64 (y : Nat))) (by kernel_rfl) ⟨q1, qx⟩ (fun hS0 => ?_)
  have HF3 := hide ((unhide HF2).below b_dr)
  have HD3 := hide ((unhide HD2).below b_dr)
  have HX3 := hide (show w2.drew.heap[w.heap.size]? = _ from unhide HX2)
  have HBS3 := hide ((unhide HBS2).below b_dr)
  have HB3 := hide ((unhide HB2).drew)
  replace hw2s : w.heap.size + 1 ≤ w2.drew.heap.size := hw2s
  clear HF2 HD2 HX2 HBS2 HB2 q1 qx
  generalize w2.drew = w3 at hS0 HF3 HD3 HX3 HBS3 HB3 hw2s ⊢
  clear w2
  refine wpAnyH_take (i := 0) (v := ?_) rfl (by kernel_rfl) (by kernel_rfl) (by kernel_rfl) (fun _ _ _ h => h) (Or.inl ⟨by rfl, ?_⟩) hS0 ?_
  rotate_left
  · intro u hu; (try dsimp only at hu); go_simp; try with_reducible rfl
  simp only [Act.put, List.getElem_toArray, List.getElem_cons_zero, List.setIfInBounds_toArray, List.set_cons_zero, List.set_cons_succ]
  refine wpAnyH_take (i := 1) (v := ?_) rfl (by kernel_rfl) (by kernel_rfl) (by kernel_rfl) (fun _ _ _ h => h) (Or.inl ⟨by rfl, ?_⟩) hS0 ?_
  rotate_left
  · intro u hu; (try dsimp only at hu); go_simp; try with_reducible rfl
  simp only [Act.put, List.getElem_toArray, List.getElem_cons_zero, List.getElem_cons_succ, List.setIfInBounds_toArray, List.set_cons_zero, List.set_cons_succ]
  refine wpAnyH_take (i := 2) (v := ?_) rfl (by kernel_rfl) (by kernel_rfl) (by kernel_rfl) (fun _ _ _ h => h) (Or.inl ⟨by rfl, ?_⟩) hS0 ?_
  rotate_left
  · intro u hu; (try dsimp only at hu); go_simp; try with_reducible rfl
  simp only [Act.put, List.getElem_toArray, List.getElem_cons_zero, List.getElem_cons_succ, List.setIfInBounds_toArray, List.set_cons_zero, List.set_cons_succ]
  refine wpAnyH_take (i := 3) (v := ?_) rfl (by kernel_rfl) (by kernel_rfl) (by kernel_rfl) (fun _ _ _ h => h) (Or.inl ⟨by rfl, ?_⟩) hS0 ?_
  rotate_left
  · intro u hu; (try dsimp only at hu); go_simp; try with_reducible rfl
  simp only [Act.put, List.getElem_toArray, List.getElem_cons_zero, List.getElem_cons_succ, List.setIfInBounds_toArray, List.set_cons_zero, List.set_cons_succ]
  refine wpAnyH_take (i := 4) (v := ?_) rfl (by kernel_rfl) (by kernel_rfl) (by kernel_rfl) (fun _ _ _ h => h) (Or.inl ⟨by rfl, ?_⟩) hS0 ?_
  rotate_left
  · intro u hu; (try dsimp only at hu); go_simp; try with_reducible rfl
  simp only [Act.put, List.getElem_toArray, List.getElem_cons_zero, List.getElem_cons_succ, List.setIfInBounds_toArray, List.set_cons_zero, List.set_cons_succ]
  refine wpAnyH_take (i := 5) (v := ?_) rfl (by kernel_rfl) (by kernel_rfl) (by kernel_rfl) (fun _ _ _ h => h) (Or.inl ⟨by rfl, ?_⟩) hS0 ?_
  rotate_left
  · intro u hu; (try dsimp only at hu); go_simp; try with_reducible rfl
  simp only [Act.put, List.getElem_toArray, List.getElem_cons_zero, List.getElem_cons_succ, List.setIfInBounds_toArray, List.set_cons_zero, List.set_cons_succ]
  refine wpAnyH_ready (rs := [6]) (by kernel_rfl) (by simp) ?_
  refine AllReadyH.cons rfl (fun K hK => ?_) AllReadyH.nil
  go_simp
  refine (outs_any w3 s.vb V es _ _ _ _ _ _ _ _ _ (y : Nat) (unhide HD3).view (unhide HP)).mono ?_
  rintro e w4 ⟨he, hb4⟩
  obtain ⟨v4, rfl, ho4⟩ : ∃ v, e = .returned v ∧ w4.ownsRow w3.heap.size 3 1 v (Pl.outs es y).length (zcells (toIs (Pl.outs es y))) := by
    rcases he with ⟨y', v, hy', hlt', he, ho⟩ | ⟨hi, _⟩
    · obtain rfl : y = y' := by omega
      exact ⟨v, he, ho⟩
    · simp [inB] at hi; omega
  obtain ⟨a4, c4, hv4, _, hN4⟩ := ns_of_owns ho4 (by have := Pl.sel_len es (fun e => e.1 == y) es.length; have := (unhide HP).n128; unfold Pl.outs; omega)
  subst hv4
  have hF4 := (unhide HF3).below hb4
  have hx4 : w4.heap[w.heap.size]? = some (.cells #[.int .i64 (y : Nat)] 3 (0, 0)) := by rw [hb4.block _ (by omega)]; exact unhide HX3
  have hB4 : Below w.heap.size w w4 := (unhide HB3).trans (hb4.mono (by omega))
  have C5 := hide (isSame_any w4 oa a4 on oc (Pl.outs es y).length c4 zs (toIs (Pl.outs es y)) ((unhide HO).below (hB4)) (unhide HNO) hN4 hon)
  have HF4 := hide hF4
  have HD4 := hide ((unhide HD3).below hb4)
  have HX4 := hide hx4
  have HBS4 := hide ((unhide HBS3).below hb4)
  have HB4 := hide hB4
  have hw4s : w.heap.size + 1 ≤ w4.heap.size := by have := hb4.size; omega
  refine hK.out _ _ ⟨hF4.cells.2.1, by simp [World.cell?, hx4]⟩ (fun hS1 => ?_)
  obtain ⟨k4, hk4⟩ : ∃ k4, (Pl.outs es y).length = k4 := ⟨_, rfl⟩
  rw [hk4] at C5 ⊢
  clear hK K hS0 he ho4 hN4 hF4 hx4 hB4 hb4 HF3 HD3 HX3 HBS3 HB3 hk4
  refine wpAnyH_ready (rs := [7]) (by kernel_rfl) (by simp) ?_
  refine AllReadyH.cons rfl (fun K hK => ?_) AllReadyH.nil
  go_simp
  refine (unhide C5).mono ?_
  rintro e w5 ⟨rfl, hb5⟩
  rw [show decide (srtZ zs = toIs (Pl.outs es y)) = false from decide_eq_false (unhide HBAD)]
  have hF5 := (unhide HF4).below hb5
  have hx5 : w5.heap[w.heap.size]? = some (.cells #[.int .i64 (y : Nat)] 3 (0, 0)) := by rw [hb5.block _ (by omega)]; exact unhide HX4
  have hB5 : Below w.heap.size w w5 := (unhide HB4).trans (hb5.mono (by omega))
  have HF5 := hide hF5
  have HD5 := hide ((unhide HD4).below hb5)
  have HX5 := hide hx5
  have HBS5 := hide ((unhide HBS4).below hb5)
  have HB5 := hide hB5
  have hw5s : w.heap.size + 1 ≤ w5.heap.size := by have := hb5.size; omega
  refine hK.out _ _ ⟨hF5.cells.2.1, by simp [World.cell?, hx5]⟩ (fun hS2 => ?_)
  clear hK K hS1 hF5 hx5 hB5 hb5 C5 HF4 HD4 HX4 HBS4 HB4
  refine wpAnyH_take (i := 8) (v := ?_) rfl (by kernel_rfl) (by kernel_rfl) (by kernel_rfl) (fun _ _ _ h => h) (Or.inl ⟨by rfl, ?_⟩) hS2 ?_
  rotate_left
  · intro u hu; (try dsimp only at hu); go_simp; try with_reducible rfl
  simp only [Act.put, List.getElem_toArray, List.getElem_cons_zero, List.getElem_cons_succ, List.setIfInBounds_toArray, List.set_cons_zero, List.set_cons_succ]
  refine wpAnyH_done (by kernel_rfl) ?_ _
  clear hS2
  go_wp2_with fail
  go_ret2
  exact ⟨rfl, unhide HB5⟩

end Go.Proofs.Ytdkchihomllokaa


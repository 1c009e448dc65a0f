/-
  The contract of the walk's along, by that of its from. Conditions: the walk and the view lie in memory as told.
-/
import Derived.Test.YtbecmaandhadhaaWk
import Derived.OrdersHeld
import Derived.Deep.CutBlock
import Derived.Deep.CutRange
import Derived.Deep.RegionHeld
namespace Go.Proofs.Ytbecmaandhadhaa
open Go.RowKit
set_option linter.unusedVariables false
set_option maxRecDepth 20000

/-- what the walk's from does, with so much fuel -/
def FromC (A : Nat) (wv : World) (q gc vb V : Nat) (es : List (Nat × Nat)) (f : Nat) : Prop :=
  ∀ (x b : Nat) (bi : Int) (S : Df.St) (w : World) (R : Nat → Value) (bv : Value), bi = (b : Int) - 1 → x < V → Df.Pre es x b S → Df.SPre es b S → Df.unv V S ≤ f → Df.Sz V es S → Wk A wv.heap.size w q gc vb V S R bv → Kp A wv w →
    Calls Try.prog 24 #[.pointer (some ⟨q, 0, none⟩), .int .i64 x, .int .i64 bi] w fun e w' => e = .returned (.int .i64 ((Df.fromF es f x b S).1 : Nat)) ∧ ∃ R' bv', Wk A wv.heap.size w' q gc vb V (Df.fromF es f x b S).2 R' bv' ∧ Fr q gc (R 0) bv w (R' 0) bv' w'

theorem Wk.ov {A B : Nat} {w : World} {q gc vb V : Nat} {S : Df.St} {R : Nat → Value} {bv : Value} (h : Wk A B w q gc vb V S R bv) : ∃ a c, R 0 = .slice a S.opn.length c ∧ (S.opn ≠ [] → ∃ g, a = some ⟨g, 0, none⟩) ∧ S.opn.length ≤ c := by
  have ho := h.rows.own 0 (by omega)
  rw [rowsOf_zero] at ho
  rcases ho.2 with ⟨h1, h2⟩ | ⟨g, cap, cur, h1, h2, h3, h4, _⟩
  · exact ⟨none, 0, by rw [h1, h2], fun hne => absurd (List.length_eq_zero_iff.1 h2) hne, by omega⟩
  · exact ⟨_, _, h1, fun _ => ⟨g, rfl⟩, h4⟩
theorem Wk.bw {A B : Nat} {w : World} {q gc vb V : Nat} {S : Df.St} {R : Nat → Value} {bv : Value} (h : Wk A B w q gc vb V S R bv) : ∃ a c, bv = .slice a S.bks.length c ∧ S.bks.length ≤ c := by
  rcases h.bks.2 with ⟨h1, h2⟩ | ⟨g, cap, cur, h1, h2, h3, h4, _⟩
  · exact ⟨none, 0, by rw [h1, h2], by omega⟩
  · exact ⟨_, _, h1, h4⟩

theorem Wk.tail {A B : Nat} {w : World} {q gc vb V : Nat} {S : Df.St} {R : Nat → Value} {bv : Value} (h : Wk A B w q gc vb V S R bv) {g n c k : Nat} (h0 : R 0 = .slice (some ⟨g, 0, none⟩) n c) (hn : S.opn.length = n) (hk : k ≤ n) (hb : n ≤ 1000) : Ns w (some ⟨g, k, none⟩) (n - k) (toIs (S.opn.drop k)) := by
  have ho := h.rows.own 0 (by omega)
  rw [rowsOf_zero, h0, hn] at ho
  have hlt := (ho.lt g rfl).2
  refine ⟨by simp [toIs]; omega, by omega, fun j hj => ⟨g, k, rfl, hlt, ?_⟩⟩
  rw [ho.cellAt (k + j) (by omega)]
  have h1 : k + j < S.opn.length := by omega
  simp [zcells, toIs, List.getD, h1]
theorem Wk.bn {A B : Nat} {w : World} {q gc vb V : Nat} {S : Df.St} {R : Nat → Value} {bv : Value} (h : Wk A B w q gc vb V S R bv) {W : World} (hW : Below w.heap.size w W) : W.ownsRow B 29 1 bv S.bks.length ((List.range S.bks.length).map fun j => R (j + 1)) := (h.more hW).bks
theorem cell_q {w W : World} {q o : Nat} {v : Value} (h : w.cell? ⟨q, o, none⟩ = some v) (hW : Below w.heap.size w W) : W.cell? ⟨q, o, none⟩ = some v := by
  rw [hW.cell (p := ⟨q, o, none⟩) (World.block_lt_of_cell? w ⟨q, o, none⟩ h)]
  exact h
theorem slice_one {v : Value} (h : ∃ a n c, v = .slice a n c) : ∀ u ∈ [v], u.oneCell' = true := by
  obtain ⟨a, n, c, rfl⟩ := h
  intro u hu
  simp at hu
  subst hu
  rfl

set_option maxHeartbeats 8000000 in
theorem along_any (A : Nat) (wv : World) (q gc vb V : Nat) (es : List (Nat × Nat)) (hg : Df.Gr V es) (hV : V ≤ 64) (hm : es.length ≤ 128) (f : Nat) (hF : FromC A wv q gc vb V es f) (e x y : Nat) (S : Df.St) (w : World) (R : Nat → Value) (bv : Value) (pr : Nat → Nat) (lr : Nat) (S' : Df.St)
    (hx : x < V) (hy : y < V) (he : e < es.length) (hp : Df.Pre es y (e + 1) { S with opn := S.opn ++ [e], par := pr }) (hs : Df.SPre es (e + 1) { S with opn := S.opn ++ [e], par := pr }) (hu : Df.unv V { S with opn := S.opn ++ [e], par := pr } ≤ f)
    (hz : Df.Sz V es { S with opn := S.opn ++ [e], par := pr }) (hr : Df.fromF es f y (e + 1) { S with opn := S.opn ++ [e], par := pr } = (lr, S')) (hw : Wk A wv.heap.size w q gc vb V S R bv) (hb : Kp A wv w) :
    Calls Try.prog 45 #[.pointer (some ⟨q, 0, none⟩), .int .i64 e, .int .i64 x, .int .i64 y] w fun en w' => en = .returned (.int .i64 (lr : Nat)) ∧ ∃ R' bv',
      Wk A wv.heap.size w' q gc vb V (if S'.come x ≤ lr then { S' with bks := S'.bks ++ [S'.opn.drop S.opn.length], opn := S'.opn.take S.opn.length } else S') R' bv' ∧ Fr q gc (R 0) bv w (R' 0) bv' w' := by
  obtain ⟨S9, h9⟩ : ∃ S9, (if S'.come x ≤ lr then ({ S' with bks := S'.bks ++ [S'.opn.drop S.opn.length], opn := S'.opn.take S.opn.length } : Df.St) else S') = S9 := ⟨_, rfl⟩
  rw [h9]
  have H9 := hide h9
  clear h9
  have hzn := hz.opn
  simp only [List.length_append, List.length_singleton] at hzn
  obtain ⟨oa, oc, h0, _, hoc⟩ := hw.ov
  obtain ⟨n, hn⟩ : ∃ n, S.opn.length = n := ⟨_, rfl⟩
  rw [hn] at h0 hzn hoc
  obtain ⟨_, _, c2, c3, _⟩ := hw.cells
  rw [h0] at c3
  have HN := hide hn
  have H0 := hide h0
  have HW := hide hw
  have HB := hide hb
  have HF := hide hF
  have HP := hide hp
  have HS := hide hs
  have HU := hide hu
  have HZ := hide hz
  have HR := hide hr
  have HG := hide hg
  obtain ⟨i0, hi0, hz0, hz1, hz2⟩ := info_parts info3
  have HI := hide hi0
  have HZ0 := hide hz0
  have HZ1 := hide hz1
  have HZ2 := hide hz2
  have HOW := hide (show (w.alloc (.cells #[.int .i64 (e : Int)] 3)).ownsRow wv.heap.size 3 1 (.slice oa n oc) n (zcells (toIs S.opn)) by
    have := hw.rows.own 0 (by omega)
    rw [rowsOf_zero, h0, hn] at this
    exact this.alloc _)
  have hB := hw.B_le
  have hfz := hw.fz 3
  clear hn h0 hw hb hF hp hs hu hz hr hg hi0 hz0 hz1 hz2
  have hb63 : n + 1 ≤ maxLen := by unfold maxLen; omega
  have hbby : (n + 1) * 8 ≤ 140737488355328 := by omega
  go_enter Try.func45, Try.ntmps45
  go_wp2_with (at_builtin; refine wpList_append_lies _ rfl (.tmp 20) (.tmp 22) 29 rfl wv.heap.size 3 i0 (.int .i64 0) 1 8 Try.underlying29 (unhide HI) (unhide HZ0) (unhide HZ1) (unhide HZ2) rfl (by decide) (.slice oa n oc) n (zcells (toIs S.opn)) rfl (unhide HOW) ⟨w.heap.size, 0, none⟩ 1 1 [.int .i64 e] rfl rfl (cell_one_new _ _ _) (one_int e) (by decide) hb63 hbby ?c6 _ rfl ?_)
  case c6 => simp; omega
  intro g2 cap2 w4 hown4 hg4 hat4 hlt4
  obtain ⟨z1, z2, HK4, HF4⟩ := (unhide HW).push (unhide HN) rfl (show Below w.heap.size w (w.alloc (.cells #[.int .i64 (e : Int)] 3)) from (Below.refl _ _).alloc (Nat.le_refl _) _) hown4 (by rw [unhide H0]; exact hg4) (by rw [unhide H0]; simpa using hat4)
  have HK5 := hide HK4
  have HF5 := hide HF4
  rw [unhide H0] at z1
  clear HK4 HF4 hown4 hg4 hat4 c2 c3 hfz HOW
  go_wp2_with fail
  generalize w4.setCell ⟨q, 3, none⟩ (.slice (some ⟨g2, 0, none⟩) (n + 1) cap2) = w5 at HK5 HF5 ⊢
  refine ((unhide HF) y (e + 1) e { S with opn := S.opn ++ [e], par := pr } w5 _ bv (by omega) hy (unhide HP) (unhide HS) (unhide HU) (unhide HZ) ((unhide HK5).ghost rfl rfl rfl rfl) ((unhide HF5).bel (unhide HW) (unhide HB))).mono ?_
  rintro en w6 ⟨rfl, R6, bv6, hk6, hf6⟩
  rw [upd_same] at hf6
  have hf06 := (unhide HF5).trans hf6
  obtain ⟨seg, nb, hso⟩ := Df.from_spost (unhide HG) f y (e + 1) _ hy (unhide HP) (unhide HS) (unhide HU)
  have hsz6 := Df.from_sz (unhide HG) hy (unhide HP) (unhide HS) (unhide HU) (unhide HZ)
  rw [unhide HR] at hk6 hso hsz6 ⊢
  simp only at hk6 hso hsz6 ⊢
  have hopn := hso.opn
  have hlen6 : n + 1 ≤ S'.opn.length := by rw [hopn]; simp [unhide HN]
  obtain ⟨oa6, oc6, h06, hsome, hoc6⟩ := hk6.ov
  obtain ⟨g6, rfl⟩ := hsome (by intro h; rw [h] at hlen6; simp at hlen6)
  obtain ⟨ba6, bc6, hb6, hbc6⟩ := hk6.bw
  obtain ⟨n6, hn6⟩ : ∃ n6, S'.opn.length = n6 := ⟨_, rfl⟩
  obtain ⟨m6, hm6⟩ : ∃ m6, S'.bks.length = m6 := ⟨_, rfl⟩
  have hz6 := hsz6.opn
  have hzb6 := hsz6.bks
  rw [hn6] at h06 hlen6 hoc6 hz6
  rw [hm6] at hb6 hbc6 hzb6
  obtain ⟨_, _, d2, d3, d4⟩ := hk6.cells
  have dx := hk6.ct hx
  rw [h06] at d3
  rw [hb6] at d4
  have hx2 : (x : Int) < (V : Int) := by omega
  have HK6 := hide hk6
  have HF6 := hide hf06
  have HN6 := hide hn6
  have HM6 := hide hm6
  have H06 := hide h06
  have HB6 := hide hb6
  clear hk6 hf06 hf6 hso hsz6 hopn hn6 hm6 h06 hb6 HF HP HS HU HZ HR HK5 HF5 HW H0 z1 z2 hsome
  by_cases hpop : S'.come x ≤ lr
  · have hpop2 : (S'.come x : Int) ≤ (lr : Int) := by omega
    go_upto_region 5 with fail
    have HPOP := hide hpop
    clear hpop2 d2 dx hpop
    have hnn : (n : Int) ≤ (n6 : Int) := by omega
    have hnc : (n6 : Int) ≤ (oc6 : Int) := by omega
    have hcn : ¬ oc6 = n := by omega
    have HD4 := hide d4
    have HD3 := hide d3
    obtain ⟨j0, hj0, hy0, hy1, hy2⟩ := info_parts info28
    have HJ := hide hj0
    have HY0 := hide hy0
    have HY1 := hide hy1
    have HY2 := hide hy2
    clear d4 hj0 hy0 hy1 hy2
    have hc63 : m6 + 1 ≤ maxLen := by unfold maxLen; omega
    have hcby : (m6 + 1) * 24 ≤ 140737488355328 := by omega
    refine wp_region_held_drew (S := fun u => u.cell? ⟨q, 3, none⟩ = some (.slice (some ⟨g6, 0, none⟩) n6 oc6)) (by kernel_rfl) d3 (fun hS => ?_)
    clear d3
    have HBD := hide (show Below w6.heap.size w6 w6.drew from (Below.refl _ _).drew)
    have HT := hide (((unhide HK6).more (unhide HBD)).tail (k := n) (unhide H06) (unhide HN6) (by omega) (by omega))
    have hsd : w6.drew.heap.size = w6.heap.size := rfl
    have HSD := hide hsd
    clear hsd
    generalize w6.drew = wd at HBD HT HSD hS ⊢
    refine wpAnyH_take (i := 0) (v := ?_) rfl (by kernel_rfl) (by kernel_rfl) (by kernel_rfl) (fun _ _ _ h => h) (Or.inl ⟨by rfl, ?_⟩) hS ?_
    rotate_left
    · intro u hu; (try dsimp only at hu); go_simp; try with_reducible rfl
    simp only [Act.put, List.getElem_toArray, List.getElem_cons_zero, List.setIfInBounds_toArray, List.set_cons_zero, List.set_cons_succ]
    refine wpAnyH_take (i := 1) (v := ?_) rfl (by kernel_rfl) (by kernel_rfl) (by kernel_rfl) (fun _ _ _ h => h) (Or.inl ⟨by rfl, ?_⟩) hS ?_
    rotate_left
    · intro u hu; (try dsimp only at hu); go_simp; try with_reducible rfl
    simp only [Act.put, List.getElem_toArray, List.getElem_cons_zero, List.getElem_cons_succ, List.setIfInBounds_toArray, List.set_cons_zero, List.set_cons_succ]
    refine wpAnyH_take (i := 2) (v := ?_) rfl (by kernel_rfl) (by kernel_rfl) (by kernel_rfl) (fun _ _ _ h => h) (Or.inl ⟨by rfl, ?_⟩) hS ?_
    rotate_left
    · intro u hu; (try dsimp only at hu); go_simp; try with_reducible rfl
    simp only [Act.put, List.getElem_toArray, List.getElem_cons_zero, List.getElem_cons_succ, List.setIfInBounds_toArray, List.set_cons_zero, List.set_cons_succ]
    refine wpAnyH_take (i := 3) (v := ?_) rfl (by kernel_rfl) (by kernel_rfl) (by kernel_rfl) (fun _ _ _ h => h) (Or.inl ⟨by rfl, ?_⟩) hS ?_
    rotate_left
    · intro u hu; (try dsimp only at hu); go_simp; try with_reducible rfl
    simp only [Act.put, List.getElem_toArray, List.getElem_cons_zero, List.getElem_cons_succ, List.setIfInBounds_toArray, List.set_cons_zero, List.set_cons_succ]
    refine wpAnyH_take (i := 5) (v := ?_) rfl (by kernel_rfl) (by kernel_rfl) (by kernel_rfl) (fun _ _ _ h => h) (Or.inl ⟨by rfl, ?_⟩) hS ?_
    rotate_left
    · intro u hu; (try dsimp only at hu); go_simp; try with_reducible rfl
    simp only [Act.put, List.getElem_toArray, List.getElem_cons_zero, List.getElem_cons_succ, List.setIfInBounds_toArray, List.set_cons_zero, List.set_cons_succ]
    refine wpAnyH_take (i := 6) (v := ?_) rfl (by kernel_rfl) (by kernel_rfl) (by kernel_rfl) (fun _ _ _ h => h) (Or.inl ⟨by rfl, ?_⟩) hS ?_
    rotate_left
    · intro u hu; (try dsimp only at hu); go_simp; try with_reducible rfl
    simp only [Act.put, List.getElem_toArray, List.getElem_cons_zero, List.getElem_cons_succ, List.setIfInBounds_toArray, List.set_cons_zero, List.set_cons_succ]
    refine wpAnyH_take (i := 7) (v := ?_) rfl (by kernel_rfl) (by kernel_rfl) (by kernel_rfl) (fun _ _ _ h => h) (Or.inl ⟨by rfl, ?_⟩) hS ?_
    rotate_left
    · intro u hu; (try dsimp only at hu); go_simp; try with_reducible rfl
    simp only [Act.put, List.getElem_toArray, List.getElem_cons_zero, List.getElem_cons_succ, List.setIfInBounds_toArray, List.set_cons_zero, List.set_cons_succ]
    refine wpAnyH_take (i := 8) (v := ?_) rfl (by kernel_rfl) (by kernel_rfl) (by kernel_rfl) (fun _ _ _ h => h) (Or.inl ⟨by rfl, ?_⟩) hS ?_
    rotate_left
    · intro u hu; (try dsimp only at hu); go_simp; try with_reducible rfl
    simp only [Act.put, List.getElem_toArray, List.getElem_cons_zero, List.getElem_cons_succ, List.setIfInBounds_toArray, List.set_cons_zero, List.set_cons_succ]
    refine wpAnyH_take (i := 9) (v := ?_) rfl (by kernel_rfl) (by kernel_rfl) (by kernel_rfl) (fun _ _ _ h => h) (Or.inl ⟨by rfl, ?_⟩) hS ?_
    rotate_left
    · intro u hu; (try dsimp only at hu); go_simp; try with_reducible rfl
    simp only [Act.put, List.getElem_toArray, List.getElem_cons_zero, List.getElem_cons_succ, List.setIfInBounds_toArray, List.set_cons_zero, List.set_cons_succ]
    refine wpAnyH_take (i := 10) (v := ?_) rfl (by kernel_rfl) (by kernel_rfl) (by kernel_rfl) (fun _ _ _ h => h) (Or.inl ⟨by rfl, ?_⟩) hS ?_
    rotate_left
    · intro u hu; (try dsimp only at hu); go_simp; try with_reducible rfl
    simp only [Act.put, List.getElem_toArray, List.getElem_cons_zero, List.getElem_cons_succ, List.setIfInBounds_toArray, List.set_cons_zero, List.set_cons_succ]
    refine wpAnyH_ready (rs := [4, 11]) (by kernel_rfl) (by simp) ?_
    refine AllReadyH.cons rfl (fun K hK => ?_) (AllReadyH.cons rfl (fun K hK => ?_) AllReadyH.nil)
    · have d4 := cell_q (unhide HD4) (unhide HBD)
      go_simp
      refine hK.out _ _ hS (fun hS2 => ?_)
      clear hK K hS2 d4
      refine wpAnyH_ready (rs := [11]) (by kernel_rfl) (by simp) ?_
      refine AllReadyH.cons rfl (fun K hK => ?_) AllReadyH.nil
      go_simp
      go_wp2_with (go_at_call 55; refine (clone_any _ (some ⟨g6, n, none⟩) (n6 - n) (oc6 - n) (toIs (S'.opn.drop n)) (unhide HT) (by simp) (by omega)).mono ?_; rintro en wc ⟨⟨cv, rfl, hocv⟩, hbc⟩; obtain ⟨ca, cc, hcv, _, _⟩ := ns_of_owns hocv (by omega); subst hcv; have HCV := hide hocv; have HBC := hide (show Below w6.heap.size w6 wc from (unhide HBD).trans (hbc.mono (by rw [unhide HSD]; exact Nat.le_refl _))); have hSc := cell_q hS hbc; clear hocv hbc)
      refine hK.out _ _ hSc (fun hS2 => ?_)
      clear hK K hS hS2
      have hS := hSc
      clear hSc
      refine wpAnyH_ready (rs := [12]) (by kernel_rfl) (by simp) ?_
      refine AllReadyH.cons rfl (fun K hK => ?_) AllReadyH.nil
      go_simp
      have HBW := hide (show Below wc.heap.size wc (wc.alloc (.cells #[.slice ca (n6 - n) cc] 29)) from (Below.refl _ _).alloc (Nat.le_refl _) _)
      have HWN := hide (show (wc.alloc (.cells #[.slice ca (n6 - n) cc] 29)).heap[wc.heap.size]? = some (.cells #[.slice ca (n6 - n) cc] 29 (0, 0)) from (MapKept.heap_alloc wc _).1)
      have hSc := cell_q hS (unhide HBW)
      refine hK.out _ _ hSc (fun hS2 => ?_)
      clear hK K hS hS2
      have hS := hSc
      clear hSc
      generalize wc.alloc (.cells #[.slice ca (n6 - n) cc] 29) = W at HBW HWN hS ⊢
      refine wpAnyH_ready (rs := [13]) (by kernel_rfl) (by simp) ?_
      refine AllReadyH.cons rfl (fun K hK => ?_) AllReadyH.nil
      have HBB := hide (show Below w6.heap.size w6 W from (unhide HBC).trans ((unhide HBW).mono (unhide HBC).size))
      have HOB := hide (show W.ownsRow wv.heap.size 29 1 (.slice ba6 m6 bc6) m6 ((List.range m6).map fun j => R6 (j + 1)) by
        have := (unhide HK6).bn (unhide HBB)
        rw [unhide HM6, unhide HB6] at this
        exact this)
      have HBS := hide (show wv.heap.size ≤ W.heap.size from Nat.le_trans (unhide HK6).B_le (unhide HBB).size)
      refine step_append_lies _ rfl (.tmp 43) (.tmp 51) 27 rfl wv.heap.size 29 j0 (.slice none 0 0) 1 24 Try.underlying27 (unhide HJ) (unhide HY0) (unhide HY1) (unhide HY2) rfl (by decide) (.slice ba6 m6 bc6) m6 ((List.range m6).map fun j => R6 (j + 1)) rfl (unhide HOB) ⟨wc.heap.size, 0, none⟩ 1 1 [.slice ca (n6 - n) cc] rfl rfl (World.news_of_block (unhide HWN)) (slice_one ⟨_, _, _, rfl⟩) (by decide) hc63 hcby (unhide HBS) _ rfl ?_
      intro g7 cap7 w7 hown7 hg7 hat7 hlt7
      obtain ⟨z1, z2, z3, hk7, hf7⟩ := (unhide HK6).cut (m := S'.opn.drop n) (unhide HM6) (unhide HBC) (by rw [show (S'.opn.drop n).length = n6 - n by simp [unhide HN6]]; have := unhide HCV; rw [unhide HSD] at this; exact this) (unhide HBW) hown7 (by rw [unhide HB6]; exact hg7) (by rw [unhide HB6]; exact hat7)
      rw [unhide HB6] at z1
      rw [unhide H06] at z3
      have HK7 := hide hk7
      have HF7 := hide ((unhide HF6).trans hf7)
      refine hK.out _ _ z3 (fun hS2 => ?_)
      clear hK K hS hk7 hf7 hown7 hg7 hat7
      refine wpAnyH_take (i := 14) (v := ?_) rfl (by kernel_rfl) (by kernel_rfl) (by kernel_rfl) (fun _ _ _ h => h) (Or.inl ⟨by rfl, ?_⟩) hS2 ?_
      rotate_left
      · intro u hu; (try dsimp only at hu); go_simp; try with_reducible rfl
      simp only [Act.put, List.getElem_toArray, List.getElem_cons_zero, List.getElem_cons_succ, List.setIfInBounds_toArray, List.set_cons_zero, List.set_cons_succ]
      refine wpAnyH_take (i := 15) (v := ?_) rfl (by kernel_rfl) (by kernel_rfl) (by kernel_rfl) (fun _ _ _ h => h) (Or.inl ⟨by rfl, ?_⟩) hS2 ?_
      rotate_left
      · intro u hu; (try dsimp only at hu); go_simp; try with_reducible rfl
      simp only [Act.put, List.getElem_toArray, List.getElem_cons_zero, List.getElem_cons_succ, List.setIfInBounds_toArray, List.set_cons_zero, List.set_cons_succ]
      refine wpAnyH_ready (rs := [16]) (by kernel_rfl) (by simp) ?_
      refine AllReadyH.cons rfl (fun K hK => ?_) AllReadyH.nil
      go_simp
      have hS3 := (unhide HK7).cells.2.2.2.1
      rw [upd_other _ _ (by omega), unhide H06] at hS3
      have HFZ := hide ((unhide HK7).fz 3)
      refine hK.out _ _ hS3 (fun hS4 => ?_)
      clear hK K hS4 hS2 z1 z2 z3
      refine wpAnyH_done (by kernel_rfl) ?_ _
      generalize w7.setCell ⟨q, 4, none⟩ (.slice (some ⟨g7, 0, none⟩) (m6 + 1) cap7) = w8 at HK7 HF7 HFZ hS3 ⊢
      have hfz := unhide HFZ
      go_wp2_with fail
      go_ret
      rw [← unhide H9, if_pos (unhide HPOP)]
      obtain ⟨k8, f8⟩ := (unhide HK7).short (k := n) (show n ≤ S'.opn.length by rw [unhide HN6]; omega) (by rw [upd_other _ _ (by omega)]; exact unhide H06)
      rw [upd_other _ _ (by omega)] at f8
      rw [unhide HN]
      refine ⟨rfl, _, _, k8, ?_⟩
      rw [upd_same]
      exact (unhide HF7).trans f8
    · go_simp
      go_wp2_with (go_at_call 55; refine (clone_any _ (some ⟨g6, n, none⟩) (n6 - n) (oc6 - n) (toIs (S'.opn.drop n)) (unhide HT) (by simp) (by omega)).mono ?_; rintro en wc ⟨⟨cv, rfl, hocv⟩, hbc⟩; obtain ⟨ca, cc, hcv, _, _⟩ := ns_of_owns hocv (by omega); subst hcv; have HCV := hide hocv; have HBC := hide (show Below w6.heap.size w6 wc from (unhide HBD).trans (hbc.mono (by rw [unhide HSD]; exact Nat.le_refl _))); have hSc := cell_q hS hbc; clear hocv hbc)
      refine hK.out _ _ hSc (fun hS2 => ?_)
      clear hK K hS hS2
      have hS := hSc
      clear hSc
      refine wpAnyH_ready (rs := [4, 12]) (by kernel_rfl) (by simp) ?_
      refine AllReadyH.cons rfl (fun K hK => ?_) (AllReadyH.cons rfl (fun K hK => ?_) AllReadyH.nil)
      · have d4 := cell_q (unhide HD4) (unhide HBC)
        go_simp
        refine hK.out _ _ hS (fun hS2 => ?_)
        clear hK K hS2 d4
        refine wpAnyH_ready (rs := [12]) (by kernel_rfl) (by simp) ?_
        refine AllReadyH.cons rfl (fun K hK => ?_) AllReadyH.nil
        go_simp
        have HBW := hide (show Below wc.heap.size wc (wc.alloc (.cells #[.slice ca (n6 - n) cc] 29)) from (Below.refl _ _).alloc (Nat.le_refl _) _)
        have HWN := hide (show (wc.alloc (.cells #[.slice ca (n6 - n) cc] 29)).heap[wc.heap.size]? = some (.cells #[.slice ca (n6 - n) cc] 29 (0, 0)) from (MapKept.heap_alloc wc _).1)
        have hSc := cell_q hS (unhide HBW)
        refine hK.out _ _ hSc (fun hS2 => ?_)
        clear hK K hS hS2
        have hS := hSc
        clear hSc
        generalize wc.alloc (.cells #[.slice ca (n6 - n) cc] 29) = W at HBW HWN hS ⊢
        refine wpAnyH_ready (rs := [13]) (by kernel_rfl) (by simp) ?_
        refine AllReadyH.cons rfl (fun K hK => ?_) AllReadyH.nil
        have HBB := hide (show Below w6.heap.size w6 W from (unhide HBC).trans ((unhide HBW).mono (unhide HBC).size))
        have HOB := hide (show W.ownsRow wv.heap.size 29 1 (.slice ba6 m6 bc6) m6 ((List.range m6).map fun j => R6 (j + 1)) by
          have := (unhide HK6).bn (unhide HBB)
          rw [unhide HM6, unhide HB6] at this
          exact this)
        have HBS := hide (show wv.heap.size ≤ W.heap.size from Nat.le_trans (unhide HK6).B_le (unhide HBB).size)
        refine step_append_lies _ rfl (.tmp 43) (.tmp 51) 27 rfl wv.heap.size 29 j0 (.slice none 0 0) 1 24 Try.underlying27 (unhide HJ) (unhide HY0) (unhide HY1) (unhide HY2) rfl (by decide) (.slice ba6 m6 bc6) m6 ((List.range m6).map fun j => R6 (j + 1)) rfl (unhide HOB) ⟨wc.heap.size, 0, none⟩ 1 1 [.slice ca (n6 - n) cc] rfl rfl (World.news_of_block (unhide HWN)) (slice_one ⟨_, _, _, rfl⟩) (by decide) hc63 hcby (unhide HBS) _ rfl ?_
        intro g7 cap7 w7 hown7 hg7 hat7 hlt7
        obtain ⟨z1, z2, z3, hk7, hf7⟩ := (unhide HK6).cut (m := S'.opn.drop n) (unhide HM6) (unhide HBC) (by rw [show (S'.opn.drop n).length = n6 - n by simp [unhide HN6]]; have := unhide HCV; rw [unhide HSD] at this; exact this) (unhide HBW) hown7 (by rw [unhide HB6]; exact hg7) (by rw [unhide HB6]; exact hat7)
        rw [unhide HB6] at z1
        rw [unhide H06] at z3
        have HK7 := hide hk7
        have HF7 := hide ((unhide HF6).trans hf7)
        refine hK.out _ _ z3 (fun hS2 => ?_)
        clear hK K hS hk7 hf7 hown7 hg7 hat7
        refine wpAnyH_take (i := 14) (v := ?_) rfl (by kernel_rfl) (by kernel_rfl) (by kernel_rfl) (fun _ _ _ h => h) (Or.inl ⟨by rfl, ?_⟩) hS2 ?_
        rotate_left
        · intro u hu; (try dsimp only at hu); go_simp; try with_reducible rfl
        simp only [Act.put, List.getElem_toArray, List.getElem_cons_zero, List.getElem_cons_succ, List.setIfInBounds_toArray, List.set_cons_zero, List.set_cons_succ]
        refine wpAnyH_take (i := 15) (v := ?_) rfl (by kernel_rfl) (by kernel_rfl) (by kernel_rfl) (fun _ _ _ h => h) (Or.inl ⟨by rfl, ?_⟩) hS2 ?_
        rotate_left
        · intro u hu; (try dsimp only at hu); go_simp; try with_reducible rfl
        simp only [Act.put, List.getElem_toArray, List.getElem_cons_zero, List.getElem_cons_succ, List.setIfInBounds_toArray, List.set_cons_zero, List.set_cons_succ]
        refine wpAnyH_ready (rs := [16]) (by kernel_rfl) (by simp) ?_
        refine AllReadyH.cons rfl (fun K hK => ?_) AllReadyH.nil
        go_simp
        have hS3 := (unhide HK7).cells.2.2.2.1
        rw [upd_other _ _ (by omega), unhide H06] at hS3
        have HFZ := hide ((unhide HK7).fz 3)
        refine hK.out _ _ hS3 (fun hS4 => ?_)
        clear hK K hS4 hS2 z1 z2 z3
        refine wpAnyH_done (by kernel_rfl) ?_ _
        generalize w7.setCell ⟨q, 4, none⟩ (.slice (some ⟨g7, 0, none⟩) (m6 + 1) cap7) = w8 at HK7 HF7 HFZ hS3 ⊢
        have hfz := unhide HFZ
        go_wp2_with fail
        go_ret
        rw [← unhide H9, if_pos (unhide HPOP)]
        obtain ⟨k8, f8⟩ := (unhide HK7).short (k := n) (show n ≤ S'.opn.length by rw [unhide HN6]; omega) (by rw [upd_other _ _ (by omega)]; exact unhide H06)
        rw [upd_other _ _ (by omega)] at f8
        rw [unhide HN]
        refine ⟨rfl, _, _, k8, ?_⟩
        rw [upd_same]
        exact (unhide HF7).trans f8
      · go_simp
        have HBW := hide (show Below wc.heap.size wc (wc.alloc (.cells #[.slice ca (n6 - n) cc] 29)) from (Below.refl _ _).alloc (Nat.le_refl _) _)
        have HWN := hide (show (wc.alloc (.cells #[.slice ca (n6 - n) cc] 29)).heap[wc.heap.size]? = some (.cells #[.slice ca (n6 - n) cc] 29 (0, 0)) from (MapKept.heap_alloc wc _).1)
        have hSc := cell_q hS (unhide HBW)
        refine hK.out _ _ hSc (fun hS2 => ?_)
        clear hK K hS hS2
        have hS := hSc
        clear hSc
        generalize wc.alloc (.cells #[.slice ca (n6 - n) cc] 29) = W at HBW HWN hS ⊢
        refine wpAnyH_ready (rs := [4]) (by kernel_rfl) (by simp) ?_
        refine AllReadyH.cons rfl (fun K hK => ?_) AllReadyH.nil
        have d4 := cell_q (unhide HD4) ((unhide HBC).trans ((unhide HBW).mono (unhide HBC).size))
        go_simp
        refine hK.out _ _ hS (fun hS2 => ?_)
        clear hK K hS2 d4
        refine wpAnyH_ready (rs := [13]) (by kernel_rfl) (by simp) ?_
        refine AllReadyH.cons rfl (fun K hK => ?_) AllReadyH.nil
        have HBB := hide (show Below w6.heap.size w6 W from (unhide HBC).trans ((unhide HBW).mono (unhide HBC).size))
        have HOB := hide (show W.ownsRow wv.heap.size 29 1 (.slice ba6 m6 bc6) m6 ((List.range m6).map fun j => R6 (j + 1)) by
          have := (unhide HK6).bn (unhide HBB)
          rw [unhide HM6, unhide HB6] at this
          exact this)
        have HBS := hide (show wv.heap.size ≤ W.heap.size from Nat.le_trans (unhide HK6).B_le (unhide HBB).size)
        refine step_append_lies _ rfl (.tmp 43) (.tmp 51) 27 rfl wv.heap.size 29 j0 (.slice none 0 0) 1 24 Try.underlying27 (unhide HJ) (unhide HY0) (unhide HY1) (unhide HY2) rfl (by decide) (.slice ba6 m6 bc6) m6 ((List.range m6).map fun j => R6 (j + 1)) rfl (unhide HOB) ⟨wc.heap.size, 0, none⟩ 1 1 [.slice ca (n6 - n) cc] rfl rfl (World.news_of_block (unhide HWN)) (slice_one ⟨_, _, _, rfl⟩) (by decide) hc63 hcby (unhide HBS) _ rfl ?_
        intro g7 cap7 w7 hown7 hg7 hat7 hlt7
        obtain ⟨z1, z2, z3, hk7, hf7⟩ := (unhide HK6).cut (m := S'.opn.drop n) (unhide HM6) (unhide HBC) (by rw [show (S'.opn.drop n).length = n6 - n by simp [unhide HN6]]; have := unhide HCV; rw [unhide HSD] at this; exact this) (unhide HBW) hown7 (by rw [unhide HB6]; exact hg7) (by rw [unhide HB6]; exact hat7)
        rw [unhide HB6] at z1
        rw [unhide H06] at z3
        have HK7 := hide hk7
        have HF7 := hide ((unhide HF6).trans hf7)
        refine hK.out _ _ z3 (fun hS2 => ?_)
        clear hK K hS hk7 hf7 hown7 hg7 hat7
        refine wpAnyH_take (i := 14) (v := ?_) rfl (by kernel_rfl) (by kernel_rfl) (by kernel_rfl) (fun _ _ _ h => h) (Or.inl ⟨by rfl, ?_⟩) hS2 ?_
        rotate_left
        · intro u hu; (try dsimp only at hu); go_simp; try with_reducible rfl
        simp only [Act.put, List.getElem_toArray, List.getElem_cons_zero, List.getElem_cons_succ, List.setIfInBounds_toArray, List.set_cons_zero, List.set_cons_succ]
        refine wpAnyH_take (i := 15) (v := ?_) rfl (by kernel_rfl) (by kernel_rfl) (by kernel_rfl) (fun _ _ _ h => h) (Or.inl ⟨by rfl, ?_⟩) hS2 ?_
        rotate_left
        · intro u hu; (try dsimp only at hu); go_simp; try with_reducible rfl
        simp only [Act.put, List.getElem_toArray, List.getElem_cons_zero, List.getElem_cons_succ, List.setIfInBounds_toArray, List.set_cons_zero, List.set_cons_succ]
        refine wpAnyH_ready (rs := [16]) (by kernel_rfl) (by simp) ?_
        refine AllReadyH.cons rfl (fun K hK => ?_) AllReadyH.nil
        go_simp
        have hS3 := (unhide HK7).cells.2.2.2.1
        rw [upd_other _ _ (by omega), unhide H06] at hS3
        have HFZ := hide ((unhide HK7).fz 3)
        refine hK.out _ _ hS3 (fun hS4 => ?_)
        clear hK K hS4 hS2 z1 z2 z3
        refine wpAnyH_done (by kernel_rfl) ?_ _
        generalize w7.setCell ⟨q, 4, none⟩ (.slice (some ⟨g7, 0, none⟩) (m6 + 1) cap7) = w8 at HK7 HF7 HFZ hS3 ⊢
        have hfz := unhide HFZ
        go_wp2_with fail
        go_ret
        rw [← unhide H9, if_pos (unhide HPOP)]
        obtain ⟨k8, f8⟩ := (unhide HK7).short (k := n) (show n ≤ S'.opn.length by rw [unhide HN6]; omega) (by rw [upd_other _ _ (by omega)]; exact unhide H06)
        rw [upd_other _ _ (by omega)] at f8
        rw [unhide HN]
        refine ⟨rfl, _, _, k8, ?_⟩
        rw [upd_same]
        exact (unhide HF7).trans f8
  · have hpop2 : ¬ (S'.come x : Int) ≤ (lr : Int) := by omega
    have HPOP := hide hpop
    clear hpop
    go_wp2_with fail
    go_ret
    rw [← unhide H9, if_neg (unhide HPOP)]
    exact ⟨rfl, R6, bv6, unhide HK6, unhide HF6⟩
end Go.Proofs.Ytbecmaandhadhaa


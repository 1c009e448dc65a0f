/-
  The contracts of block.Blocks in full, and of block.Cuts. Conditions: the graph's edges lie in memory as told.
-/
import Derived.Test.YtbecmaandhadhaaBk2
import Derived.Test.YtbecmaandhadhaaPa
namespace Go.Proofs.Ytbecmaandhadhaa
open Go.RowKit
set_option linter.unusedVariables false
set_option maxRecDepth 20000

theorem blocks_good (w : World) (V : Nat) (a : Option Addr) (cap : Nat) (es : List (Nat × Nat)) {B : Nat} (h : Es B w a es.length (toI es)) (hno : a = none → es.length = 0 ∧ cap = 0) (hp : Plain V es) (hnl : Df.NoLoop es) (L : List (List Nat)) (hL : IsBl es L) :
    Calls Try.prog 9 #[.agg #[.int .i64 V, .slice a es.length cap]] w fun e w' => ListsTold w.heap.size w' L e ∧ Below w.heap.size w w' := blocks_good0 sort_any sortFunc_any sortFunc_zero w V a cap es h hno hp hnl L hL

theorem IsBl.len {es : List (Nat × Nat)} {L : List (List Nat)} (h : IsBl es L) : L.length ≤ es.length := by
  have h1 := Df.len_flat L h.cls.ne
  have h2 := Pl.nodup_le es.length _ h.cls.nd fun x hx => (h.cls.mem x).1 hx
  omega
theorem IsBl.each {es : List (Nat × Nat)} {L : List (List Nat)} (h : IsBl es L) (hm : es.length ≤ 128) : ∀ B ∈ L, B ≠ [] ∧ B.length ≤ 128 ∧ ∀ i ∈ B, i < es.length := by
  intro B hB
  have hmem : ∀ i ∈ B, i < es.length := fun i hi => (h.cls.mem i).1 (List.mem_flatten.2 ⟨B, hB, hi⟩)
  have := Pl.nodup_le es.length B ((List.pairwise_flatten.1 h.cls.nd).1 B hB) hmem
  exact ⟨h.cls.ne B hB, by omega, hmem⟩

/-- vertices with edges of two lists, or more -/
def cutsOf (V : Nat) (es : List (Nat × Nat)) (L : List (List Nat)) (k : Nat) : List Nat := (List.range k).filter fun x => decide (1 < (plK es L L.length x).length)
theorem cutsOf_succ (V : Nat) (es : List (Nat × Nat)) (L : List (List Nat)) (k : Nat) : cutsOf V es L (k + 1) = cutsOf V es L k ++ if 1 < (plK es L L.length k).length then [k] else [] := by
  unfold cutsOf
  rw [List.range_succ, List.filter_append]
  congr 1
  rw [List.filter_cons]
  by_cases h : 1 < (plK es L L.length k).length <;> simp [h]
theorem cutsOf_len (V : Nat) (es : List (Nat × Nat)) (L : List (List Nat)) (k : Nat) : (cutsOf V es L k).length ≤ k := by
  have := List.length_filter_le (fun x => decide (1 < (plK es L L.length x).length)) (List.range k)
  simpa [cutsOf] using this
theorem cutsOf_nil (V : Nat) (es : List (Nat × Nat)) (k : Nat) : cutsOf V es [] k = [] := by
  unfold cutsOf
  rw [List.filter_eq_nil_iff]
  intro x _
  simp [plK]

set_option maxHeartbeats 2000000 in
theorem places_none (w : World) (V : Int) (a : Option Addr) (n cap : Nat) (pa : Option Addr) (pc : Nat) :
    Calls Try.prog 28 #[.agg #[.int .i64 V, .slice a n cap], .slice pa 0 pc] w fun e w' => e = .returned (.slice none 0 0) ∧ Below w.heap.size w w' := by
  go_enter Try.func28, Try.ntmps28
  go_wp2
  go_ret
  exact ⟨rfl, (Below.refl _ _).alloc (Nat.le_refl _) _⟩

set_option maxHeartbeats 4000000 in
/-- where Blocks tells nothing, there is no cut vertex -/
theorem cuts_none (w : World) (V : Int) (a : Option Addr) (n cap : Nat) (hB : ∀ u : World, Below w.heap.size w u → Calls Try.prog 9 #[.agg #[.int .i64 V, .slice a n cap]] u fun e w' => (∃ pa pc, e = .returned (.slice pa 0 pc)) ∧ Below u.heap.size u w') :
    Calls Try.prog 10 #[.agg #[.int .i64 V, .slice a n cap]] w fun e w' => e = .returned (.slice none 0 0) ∧ Below w.heap.size w w' := by
  have HB0 := hide (show Below w.heap.size w (w.alloc (.cells #[.int .i64 V, .slice a n cap] 24)) from (Below.refl _ _).alloc (Nat.le_refl _) _)
  have HBL := hide hB
  clear hB
  go_enter Try.func10, Try.ntmps10
  go_upto_region 2 with fail
  have HLO := hide (show Below w.heap.size w (w.alloc (.cells #[.int .i64 V, .slice a n cap] 24)).drew from (unhide HB0).drew)
  refine wp_region_held_drew (S := fun u => u.cell? ⟨w.heap.size, 0, none⟩ = some (.int .i64 V) ∧ u.cell? ⟨w.heap.size, 1, none⟩ = some (.slice a n cap)) (by kernel_rfl) (by constructor <;> simp) (fun hS => ?_)
  generalize (w.alloc (.cells #[.int .i64 V, .slice a n cap] 24)).drew = wd at HLO hS ⊢
  refine wpAnyH_take (i := 0) (v := ?_) rfl (by kernel_rfl) (by kernel_rfl) (by kernel_rfl) (fun _ _ _ h => h) (Or.inl ⟨by rfl, ?_⟩) hS ?_
  rotate_left
  · intro u hu; (try dsimp only at hu); go_simp; try with_reducible rfl
  simp only [Act.put, List.getElem_toArray, List.getElem_cons_zero, List.setIfInBounds_toArray, List.set_cons_zero, List.set_cons_succ]
  refine wpAnyH_take (i := 1) (v := ?_) rfl (by kernel_rfl) (by kernel_rfl) (by kernel_rfl) (fun _ _ _ h => h) (Or.inl ⟨by rfl, ?_⟩) hS ?_
  rotate_left
  · intro u hu; (try dsimp only at hu); go_simp; try with_reducible rfl
  simp only [Act.put, List.getElem_toArray, List.getElem_cons_zero, List.getElem_cons_succ, List.setIfInBounds_toArray, List.set_cons_zero, List.set_cons_succ]
  refine wpAnyH_take (i := 5) (v := ?_) rfl (by kernel_rfl) (by kernel_rfl) (by kernel_rfl) (fun _ _ _ h => h) (Or.inl ⟨by rfl, ?_⟩) hS ?_
  rotate_left
  · intro u hu; (try dsimp only at hu); go_simp; try with_reducible rfl
  simp only [Act.put, List.getElem_toArray, List.getElem_cons_zero, List.getElem_cons_succ, List.setIfInBounds_toArray, List.set_cons_zero, List.set_cons_succ]
  refine wpAnyH_ready (rs := [2]) (by kernel_rfl) (by simp) ?_
  refine AllReadyH.cons rfl (fun K hK => ?_) AllReadyH.nil
  go_simp
  go_wp2_with (go_at_call 9; refine (unhide HBL wd (unhide HLO)).mono ?_; rintro en w2 ⟨⟨pa, pc, rfl⟩, hb2⟩; have hS2 : _ ∧ _ := ⟨cell_q hS.1 hb2, cell_q hS.2 hb2⟩; have HL2 := hide ((unhide HLO).trans (hb2.mono (unhide HLO).size)); clear hb2)
  refine hK.out _ _ hS2 (fun hS3 => ?_)
  clear hK K hS hS3
  refine wpAnyH_ready (rs := [3]) (by kernel_rfl) (by simp) ?_
  refine AllReadyH.cons rfl (fun K hK => ?_) AllReadyH.nil
  go_simp
  go_wp2_with (go_at_call 28; refine (places_none _ _ _ _ _ _ _).mono ?_; rintro en w3 ⟨rfl, hb3⟩; have hS3 : _ ∧ _ := ⟨cell_q hS2.1 hb3, cell_q hS2.2 hb3⟩; have HL3 := hide ((unhide HL2).trans (hb3.mono (unhide HL2).size)); clear hb3)
  refine hK.out _ _ hS3 (fun hS4 => ?_)
  clear hK K hS2 hS4
  refine wpAnyH_ready (rs := [4]) (by kernel_rfl) (by simp) ?_
  refine AllReadyH.cons rfl (fun K hK => ?_) AllReadyH.nil
  go_simp
  refine hK.out _ _ hS3 (fun hS4 => ?_)
  clear hK K hS3 hS4
  refine wpAnyH_done (by kernel_rfl) ?_ _
  go_wp2_with fail
  go_loopw [3, 11] (fun v i wr => v = .slice none 0 0 ∧ i = .int .i64 0 ∧ Hid (Below w.heap.size w wr)) (fun v i wr => 0)
  case atStart => exact ⟨rfl, rfl, HL3⟩
  case round =>
    obtain ⟨rfl, rfl, HLr⟩ := hrel
    go_wp2_with fail
    go_ret
    exact ⟨rfl, unhide HLr⟩

set_option maxHeartbeats 8000000 in
theorem cuts_some (w : World) (V : Nat) (a : Option Addr) (cap : Nat) (es : List (Nat × Nat)) {B : Nat} (h : Es B w a es.length (toI es)) (hno : a = none → es.length = 0 ∧ cap = 0) (hp : Plain V es) (hnl : Df.NoLoop es) (L : List (List Nat)) (hL : IsBl es L) (hLn : 0 < L.length) :
    Calls Try.prog 10 #[.agg #[.int .i64 V, .slice a es.length cap]] w fun e w' => (∃ v, e = .returned v ∧ w'.ownsRow w.heap.size 3 1 v (cutsOf V es L V).length (zcells (toIs (cutsOf V es L V)))) ∧ Below w.heap.size w w' := by
  have hv64 := hp.v64
  have hn128 := hp.n128
  have hLl : L.length ≤ 128 := by have := hL.len; omega
  have HE := hide h
  have HNO := hide hno
  have HP := hide hp
  have HNL := hide hnl
  have HIL := hide hL
  have HEA := hide (hL.each hn128)
  have HB0 := hide (show Below w.heap.size w (w.alloc (.cells #[.int .i64 V, .slice a es.length cap] 24)) from (Below.refl _ _).alloc (Nat.le_refl _) _)
  obtain ⟨i0, hi0, hz0, hz1, hz2⟩ := info_parts info3
  have HI := hide hi0
  have HZ0 := hide hz0
  have HZ1 := hide hz1
  have HZ2 := hide hz2
  clear h hno hp hnl hL hi0 hz0 hz1 hz2
  go_enter Try.func10, Try.ntmps10
  go_upto_region 2 with fail
  have HLO := hide (show Below w.heap.size w (w.alloc (.cells #[.int .i64 V, .slice a es.length cap] 24)).drew from (unhide HB0).drew)
  refine wp_region_held_drew (S := fun u => u.cell? ⟨w.heap.size, 0, none⟩ = some (.int .i64 V) ∧ u.cell? ⟨w.heap.size, 1, none⟩ = some (.slice a es.length cap)) (by kernel_rfl) (by constructor <;> simp) (fun hS => ?_)
  generalize (w.alloc (.cells #[.int .i64 V, .slice a es.length cap] 24)).drew = wd at HLO hS ⊢
  refine wpAnyH_take (i := 0) (v := ?_) rfl (by kernel_rfl) (by kernel_rfl) (by kernel_rfl) (fun _ _ _ h => h) (Or.inl ⟨by rfl, ?_⟩) hS ?_
  rotate_left
  · intro u hu; (try dsimp only at hu); go_simp; try with_reducible rfl
  simp only [Act.put, List.getElem_toArray, List.getElem_cons_zero, List.setIfInBounds_toArray, List.set_cons_zero, List.set_cons_succ]
  refine wpAnyH_take (i := 1) (v := ?_) rfl (by kernel_rfl) (by kernel_rfl) (by kernel_rfl) (fun _ _ _ h => h) (Or.inl ⟨by rfl, ?_⟩) hS ?_
  rotate_left
  · intro u hu; (try dsimp only at hu); go_simp; try with_reducible rfl
  simp only [Act.put, List.getElem_toArray, List.getElem_cons_zero, List.getElem_cons_succ, List.setIfInBounds_toArray, List.set_cons_zero, List.set_cons_succ]
  refine wpAnyH_take (i := 5) (v := ?_) rfl (by kernel_rfl) (by kernel_rfl) (by kernel_rfl) (fun _ _ _ h => h) (Or.inl ⟨by rfl, ?_⟩) hS ?_
  rotate_left
  · intro u hu; (try dsimp only at hu); go_simp; try with_reducible rfl
  simp only [Act.put, List.getElem_toArray, List.getElem_cons_zero, List.getElem_cons_succ, List.setIfInBounds_toArray, List.set_cons_zero, List.set_cons_succ]
  refine wpAnyH_ready (rs := [2]) (by kernel_rfl) (by simp) ?_
  refine AllReadyH.cons rfl (fun K hK => ?_) AllReadyH.nil
  go_simp
  go_wp2_with (go_at_call 9; refine (blocks_good wd V a cap es ((unhide HE).below (unhide HLO)) (unhide HNO) (unhide HP) (unhide HNL) L (unhide HIL)).mono ?_; rintro en w2 ⟨⟨pa, pc, rfl, _, _, AK, CK, hrs⟩, hb2⟩; have HRS := hide (hrs _ (Nat.le_refl _) fun _ _ _ => rfl).rs; have hS2 : _ ∧ _ := ⟨cell_q hS.1 hb2, cell_q hS.2 hb2⟩; have HL2 := hide ((unhide HLO).trans (hb2.mono (unhide HLO).size)); clear hb2 hrs)
  refine hK.out _ _ hS2 (fun hS3 => ?_)
  clear hK K hS hS3
  refine wpAnyH_ready (rs := [3]) (by kernel_rfl) (by simp) ?_
  refine AllReadyH.cons rfl (fun K hK => ?_) AllReadyH.nil
  go_simp
  go_wp2_with (go_at_call 28; refine (places_any w2 V a cap es ((unhide HE).below (unhide HL2)) (unhide HP) pa pc L (unhide HRS) (unhide HEA) hLn hLl).mono ?_; rintro en w3 ⟨⟨tg, R, rfl, htr⟩, hb3⟩; have HTR := hide htr; have hS3 : _ ∧ _ := ⟨cell_q hS2.1 hb3, cell_q hS2.2 hb3⟩; have HL3 := hide ((unhide HL2).trans (hb3.mono (unhide HL2).size)); clear hb3 htr)
  refine hK.out _ _ hS3 (fun hS4 => ?_)
  clear hK K hS2 hS4
  refine wpAnyH_ready (rs := [4]) (by kernel_rfl) (by simp) ?_
  refine AllReadyH.cons rfl (fun K hK => ?_) AllReadyH.nil
  go_simp
  refine hK.out _ _ hS3 (fun hS4 => ?_)
  clear hK K hS3 hS4
  refine wpAnyH_done (by kernel_rfl) ?_ _
  go_wp2_with fail
  have hsz3 := (unhide HL3).size
  go_loopw [3, 11] (fun v i wr => ∃ k : Nat, i = .int .i64 k ∧ k ≤ V ∧ Hid (wr.ownsRow w3.heap.size 3 1 v (cutsOf V es L k).length (zcells (toIs (cutsOf V es L k)))) ∧ Hid (Below w3.heap.size w3 wr)) (fun v i wr => V - (intOf i).toNat)
  case atStart => exact ⟨0, rfl, by omega, World.ownsRow_nil _ _ _ _, Below.refl _ _⟩
  case round =>
    obtain ⟨k, rfl, hk, HO, HLr⟩ := hrel
    have hszr := (unhide HLr).size
    have hcl := cutsOf_len V es L k
    by_cases hlt : k < V
    · have t1 : wr.cell? ⟨tg, k, none⟩ = some (R k) := by rw [(unhide HLr).cell (p := ⟨tg, k, none⟩) (unhide HTR).tab.lt]; exact (unhide HTR).tab.cell hlt
      have hpl := plK_len es L L.length k
      obtain ⟨ax, cx, hvx, _, _⟩ := ns_of_owns ((unhide HTR).rows.own k hlt) (by omega)
      rw [hvx] at t1
      have hcs := cutsOf_succ V es L k
      obtain ⟨m, hm⟩ : ∃ m, (plK es L L.length k).length = m := ⟨_, rfl⟩
      rw [hm] at t1 hcs
      have hlt2 : (k : Int) < (V : Int) := by omega
      clear hvx hpl hm
      by_cases hm1 : 1 < m
      · rw [if_pos hm1] at hcs
        have HCS := hide hcs
        have hm2 : (1 : Int) < (m : Int) := by omega
        have hb63 : (cutsOf V es L k).length + 1 ≤ maxLen := by unfold maxLen; omega
        have hbby : ((cutsOf V es L k).length + 1) * 8 ≤ 140737488355328 := by omega
        clear hcs hm1
        go_wp2_with (at_builtin; refine wpList_append_own _ rfl (.tmp 19) (.tmp 21) 29 rfl w3.heap.size 3 i0 (.int .i64 0) 1 8 Try.underlying29 (unhide HI) (unhide HZ0) (unhide HZ1) (unhide HZ2) rfl (by decide) u3 (cutsOf V es L k).length (zcells (toIs (cutsOf V es L k))) rfl ((unhide HO).alloc _) ⟨wr.heap.size, 0, none⟩ 1 1 [.int .i64 k] rfl rfl (cell_one_new _ _ _) (one_int k) hb63 hbby ?a5 ?_)
        case a5 => simp; omega
        intro v2 w4 hown4 hg4 _
        rw [zcells_snoc, toIs_snoc] at hown4
        have HO4 := hide hown4
        have HB4 := hide (((unhide HLr).alloc hszr _).grown hg4 (by simp; omega) fun j hj => ((unhide HO).lt j hj).1)
        clear hown4 hg4
        go_wp2_with fail
        go_roundw
        case rel =>
          refine ⟨k + 1, by go_num, by omega, ?_, HB4⟩
          rw [unhide HCS, List.length_append]
          exact unhide HO4
        case measure => simp [intOf]; omega
      · rw [if_neg hm1, List.append_nil] at hcs
        have HCS := hide hcs
        have hm2 : ¬ (1 : Int) < (m : Int) := by omega
        clear hcs hm1
        go_wp2_with fail
        go_roundw
        case rel => exact ⟨k + 1, by go_num, by omega, by rw [unhide HCS]; exact HO, HLr⟩
        case measure => simp [intOf]; omega
    · obtain rfl : k = V := by omega
      go_wp2_with fail
      go_ret
      exact ⟨⟨_, rfl, owns_mono (unhide HO) hsz3⟩, (unhide HL3).trans ((unhide HLr).mono hsz3)⟩
theorem cuts_good (w : World) (V : Nat) (a : Option Addr) (cap : Nat) (es : List (Nat × Nat)) {B : Nat} (h : Es B w a es.length (toI es)) (hno : a = none → es.length = 0 ∧ cap = 0) (hp : Plain V es) (hnl : Df.NoLoop es) (L : List (List Nat)) (hL : IsBl es L) :
    Calls Try.prog 10 #[.agg #[.int .i64 V, .slice a es.length cap]] w fun e w' => (∃ v, e = .returned v ∧ w'.ownsRow w.heap.size 3 1 v (cutsOf V es L V).length (zcells (toIs (cutsOf V es L V)))) ∧ Below w.heap.size w w' := by
  by_cases hLn : 0 < L.length
  · exact cuts_some w V a cap es h hno hp hnl L hL hLn
  · have hL0 : L = [] := List.length_eq_zero_iff.1 (by omega)
    subst hL0
    refine (cuts_none w V a es.length cap fun u hu => ?_).mono ?_
    · refine (blocks_good u V a cap es (h.below hu) hno hp hnl [] hL).mono ?_
      rintro e w' ⟨⟨pa, pc, rfl, _⟩, hb⟩
      exact ⟨⟨pa, pc, rfl⟩, hb⟩
    · rintro e w' ⟨rfl, hb⟩
      refine ⟨⟨_, rfl, ?_⟩, hb⟩
      rw [cutsOf_nil]
      exact World.ownsRow_nil _ _ _ _
theorem cuts_bad (w : World) (V : Int) (a : Option Addr) (n cap : Nat) (zs : List (Int × Int)) {B : Nat} (h : Es B w a n zs) (hbad : ¬ Good V n zs ∨ ∃ j, j < n ∧ (zs.getD j (0, 0)).1 = (zs.getD j (0, 0)).2) :
    Calls Try.prog 10 #[.agg #[.int .i64 V, .slice a n cap]] w fun e w' => e = .returned (.slice none 0 0) ∧ Below w.heap.size w w' := by
  refine cuts_none w V a n cap fun u hu => ?_
  refine (blocks_bad u V a n cap zs (h.below hu) hbad).mono ?_
  rintro e w' ⟨rfl, hb⟩
  exact ⟨⟨_, _, rfl⟩, hb⟩
end Go.Proofs.Ytbecmaandhadhaa


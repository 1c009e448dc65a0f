/-
  The contracts of slices.Clone, slices.Reverse and rotation.Mirror. Conditions: the rows lie in memory as told.
-/
import Derived.Test.YtmklngabfdnclaaDoorOa
namespace Go.Proofs.YtmklngabfdnclaaDoor
open Go.RowKit
set_option linter.unusedVariables false
set_option maxRecDepth 20000

set_option maxHeartbeats 2000000 in
theorem clone_any (w : World) (a : Option Addr) (n c : Nat) (xs : List Int) (h : Ns w a n xs) (hn : n ≤ 100000) :
    Calls Tryd.prog 27 #[.slice a n c] w fun e w' => (∃ v, e = .returned v ∧ w'.ownsRow w.heap.size 3 1 v n (zcells xs)) ∧ Below w.heap.size w w' := by
  have q36 : ∀ (w : World) (a : Option Addr) (n c n' c' : Nat), (binOp .eql 36 (.slice a n c) (.slice none n' c')).run Tryd.prog w = .ok (.bool a.isNone) w := fun w a n c n' c' => Lib.run_eql_slice_nil w _ _ a n c n' c' Tryd.underlying36
  cases a with
  | none =>
    have hn0 : n = 0 := by
      rcases Nat.eq_zero_or_pos n with h0 | h0
      · exact h0
      · obtain ⟨g, off, ha, _⟩ := h.2.2 0 h0
        cases ha
    subst hn0
    have hx : xs = [] := List.length_eq_zero_iff.1 h.1
    subst hx
    clear h
    go_enter Tryd.func27, Tryd.ntmps27
    go_wp2
    go_ret
    exact ⟨⟨_, rfl, World.ownsRow_nil _ _ _ _⟩, Below.refl _ _⟩
  | some p =>
    have HOE := hide (owns_lit_empty w 3 1 w.heap.size (Nat.le_refl _))
    have HNA := hide (h.below (b_al (.cells #[] 3)))
    clear h
    go_enter Tryd.func27, Tryd.ntmps27
    go_wp2_with (at_builtin; refine wpList_app_ints rfl (.tmp 5) (.tmp 6) rfl w.heap.size _ 0 [] rfl (unhide HOE) (some p) n c xs rfl (fun h => by cases h) (unhide HNA) (by omega) (by simp) ?_)
    intro v2 w7 ho7 hg7
    have HB7 := hide (show Below w.heap.size w w7 from (b_al (.cells #[] 3)).grown hg7 (by simp) fun b hb => ((unhide HOE).lt b hb).1)
    have HO7 := hide (show w7.ownsRow w.heap.size 3 1 v2 n (zcells xs) from ho7)
    clear hg7 ho7
    go_wp2
    go_ret
    exact ⟨⟨_, rfl, unhide HO7⟩, unhide HB7⟩

/-- the first k and the last k of a list have changed places -/
def turnK (xs : List Int) (k : Nat) : List Int := (List.range xs.length).map fun t => if t < k ∨ xs.length - 1 - t < k then xs.getD (xs.length - 1 - t) 0 else xs.getD t 0
theorem turnK_length (xs : List Int) (k : Nat) : (turnK xs k).length = xs.length := by simp [turnK]
theorem turnK_getD (xs : List Int) (k : Nat) {t : Nat} (ht : t < xs.length) : (turnK xs k).getD t 0 = if t < k ∨ xs.length - 1 - t < k then xs.getD (xs.length - 1 - t) 0 else xs.getD t 0 := by
  simp [turnK, List.getD, ht]
theorem turnK_zero (xs : List Int) : turnK xs 0 = xs := by
  refine ext_getD (turnK_length _ _) fun i hi => ?_
  rw [turnK_getD _ _ hi, if_neg (by omega)]
theorem rev_getD (xs : List Int) {t : Nat} (ht : t < xs.length) : xs.reverse.getD t 0 = xs.getD (xs.length - 1 - t) 0 := by
  simp only [List.getD]
  rw [List.getElem?_reverse ht]
theorem turnK_end {xs : List Int} {k : Nat} (h : xs.length ≤ 2 * k + 1) : turnK xs k = xs.reverse := by
  refine ext_getD (by rw [turnK_length, List.length_reverse]) fun i hi => ?_
  rw [List.length_reverse] at hi
  rw [turnK_getD _ _ hi, rev_getD _ hi]
  split
  · rfl
  · rw [show xs.length - 1 - i = i by omega]
theorem getD_set (xs : List Int) (j : Nat) (x : Int) {t : Nat} (ht : t < xs.length) : (xs.set j x).getD t 0 = if t = j then x else xs.getD t 0 := by
  simp only [List.getD, List.getElem?_set]
  by_cases e : j = t
  · subst e; simp [ht]
  · rw [if_neg e, if_neg (fun h => e h.symm)]
theorem turnK_step {xs : List Int} {k j : Nat} (hj : k + j + 1 = xs.length) (h : k < j) : ((turnK xs k).set k (xs.getD j 0)).set j (xs.getD k 0) = turnK xs (k + 1) := by
  refine ext_getD (by rw [List.length_set, List.length_set, turnK_length, turnK_length]) fun i hi => ?_
  rw [turnK_length] at hi
  rw [getD_set _ _ _ (by rw [List.length_set, turnK_length]; exact hi), getD_set _ _ _ (by rw [turnK_length]; exact hi), turnK_getD _ _ hi, turnK_getD _ _ hi]
  by_cases e1 : i = j
  · subst e1
    rw [if_pos rfl, if_pos (by omega), show xs.length - 1 - i = k by omega]
  · rw [if_neg e1]
    by_cases e2 : i = k
    · subst e2
      rw [if_pos rfl, if_pos (by omega), show xs.length - 1 - i = j by omega]
    · rw [if_neg e2]
      by_cases e3 : i < k ∨ xs.length - 1 - i < k
      · rw [if_pos e3, if_pos (by omega)]
      · rw [if_neg e3, if_neg (by omega)]
theorem zcells_set (xs : List Int) (j : Nat) (x : Int) : (zcells xs).set j (.int .i64 x) = zcells (xs.set j x) := by
  simp [zcells]
theorem zcells_at (xs : List Int) {j : Nat} (hj : j < xs.length) : (zcells xs)[j]? = some (.int .i64 (xs.getD j 0)) := by
  simp [zcells, hj, List.getD]

set_option maxHeartbeats 4000000 in
theorem reverse_any (w : World) (base : Nat) (v : Value) (n : Nat) (xs : List Int) (h : w.ownsRow base 3 1 v n (zcells xs)) (hn : n ≤ 100000) :
    Calls Tryd.prog 28 #[v] w fun e w' => e = .returned (.tuple #[]) ∧ w'.ownsRow base 3 1 v n (zcells xs.reverse) ∧ Below base w w' := by
  have hl : xs.length = n := by have := h.1; simpa [zcells] using this
  rcases Nat.eq_zero_or_pos n with hn0 | hn0
  · subst hn0
    obtain ⟨a, c, rfl⟩ := owns_slice h
    have hx : xs = [] := List.length_eq_zero_iff.1 hl
    subst hx
    have HO := hide h
    clear h hl
    go_enter Tryd.func28, Tryd.ntmps28
    go_wp2
    refine wp_loop_rounds 1 ?_
    rw [rounds_succ]
    go_wp2
    go_end0
    exact ⟨rfl, unhide HO, Below.refl _ _⟩
  obtain ⟨g, cap, rfl, hbg, hgs⟩ : ∃ g cap, v = .slice (some ⟨g, 0, none⟩) n cap ∧ base ≤ g ∧ g < w.heap.size := by
    rcases h.2 with ⟨_, h0⟩ | ⟨g, cap, cur, hv, hb, hg, _⟩
    · omega
    · exact ⟨g, cap, hv, hb, (Array.getElem?_eq_some_iff.1 hg).1⟩
  have HO0 := hide (show w.ownsRow base 3 1 (.slice (some ⟨g, 0, none⟩) n cap) n (zcells (turnK xs 0)) by rw [turnK_zero]; exact h)
  have HB0 := hide (Below.refl base w)
  have HL := hide hl
  obtain ⟨j0, hj0⟩ : ∃ j0, n = j0 + 1 := ⟨n - 1, by omega⟩
  have hj1 : (n : Int) - 1 = ((j0 : Nat) : Int) := by omega
  have HJ0 := hide hj0
  clear h hl hj0
  go_enter Tryd.func28, Tryd.ntmps28
  go_wp2
  go_loopw [2, 3] (fun vi vj wr => ∃ k j : Nat, vi = .int .i64 k ∧ vj = .int .i64 j ∧ k + j + 1 = n ∧ Hid (wr.ownsRow base 3 1 (.slice (some ⟨g, 0, none⟩) n cap) n (zcells (turnK xs k))) ∧ Hid (Below base w wr)) (fun vi vj wr => n - (intOf vi).toNat)
  case atStart => exact ⟨0, j0, rfl, by go_num, by have := unhide HJ0; omega, HO0, HB0⟩
  case round =>
    clear HO0 HB0
    obtain ⟨k, j, rfl, rfl, hkj, HO, HB⟩ := hrel
    by_cases hlt : k < j
    · have hlt2 : (k : Int) < (j : Int) := by omega
      have hk2 : (k : Int) < (n : Int) := by omega
      have hj2 : (j : Int) < (n : Int) := by omega
      have hgr : g < wr.heap.size := Nat.lt_of_lt_of_le hgs (unhide HB).size
      have hcell : ∀ u : World, u.ownsRow base 3 1 (.slice (some ⟨g, 0, none⟩) n cap) n (zcells (turnK xs k)) → u.cell? ⟨g, k, none⟩ = some (.int .i64 (xs.getD k 0)) ∧ u.cell? ⟨g, j, none⟩ = some (.int .i64 (xs.getD j 0)) := fun u ho => by
        have hl := unhide HL
        rw [ho.cellAt k (by omega), ho.cellAt j (by omega), zcells_at _ (by rw [turnK_length]; omega), zcells_at _ (by rw [turnK_length]; omega), turnK_getD _ _ (by omega), turnK_getD _ _ (by omega), if_neg (by omega), if_neg (by omega)]
        exact ⟨rfl, rfl⟩
      have HOd := hide (show wr.drew.ownsRow base 3 1 (.slice (some ⟨g, 0, none⟩) n cap) n (zcells (turnK xs k)) from (unhide HO).drew)
      obtain ⟨e1, e2⟩ := hcell wr.drew (unhide HOd)
      have HBd := hide (show Below base w wr.drew from (unhide HB).drew)
      have hgr2 : g < wr.drew.heap.size := hgr
      have HSTEP := hide (turnK_step (xs := xs) (k := k) (j := j) (by rw [unhide HL]; exact hkj) hlt)
      clear hcell
      generalize xs.getD k 0 = xk at e1 HSTEP
      generalize xs.getD j 0 = xj at e2 HSTEP
      go_upto_region 3 with fail
      refine wp_region_held_drew (S := fun u => True) (by kernel_rfl) trivial (fun hS => ?_)
      generalize wr.drew = wd at HOd HBd e1 e2 hgr2 hS ⊢
      clear HO HB hgr
      refine wpAnyH_take (i := 0) (v := ?_) rfl (by kernel_rfl) (by kernel_rfl) (by kernel_rfl) (fun _ _ _ h => h) (Or.inl ⟨by rfl, ?_⟩) hS ?_
      rotate_left
      · intro u hu; (try dsimp only at hu); go_simp; try with_reducible rfl
      simp only [Act.put, List.getElem_toArray, List.getElem_cons_zero, List.setIfInBounds_toArray, List.set_cons_zero, List.set_cons_succ]
      refine wpAnyH_take (i := 1) (v := ?_) rfl (by kernel_rfl) (by kernel_rfl) (by kernel_rfl) (fun _ _ _ h => h) (Or.inl ⟨by rfl, ?_⟩) hS ?_
      rotate_left
      · intro u hu; (try dsimp only at hu); go_simp; try with_reducible rfl
      simp only [Act.put, List.getElem_toArray, List.getElem_cons_zero, List.getElem_cons_succ, List.setIfInBounds_toArray, List.set_cons_zero, List.set_cons_succ]
      refine wpAnyH_take (i := 2) (v := ?_) rfl (by kernel_rfl) (by kernel_rfl) (by kernel_rfl) (fun _ _ _ h => h) (Or.inl ⟨by rfl, ?_⟩) hS ?_
      rotate_left
      · intro u hu; (try dsimp only at hu); go_simp; try with_reducible rfl
      simp only [Act.put, List.getElem_toArray, List.getElem_cons_zero, List.getElem_cons_succ, List.setIfInBounds_toArray, List.set_cons_zero, List.set_cons_succ]
      refine wpAnyH_take (i := 3) (v := ?_) rfl (by kernel_rfl) (by kernel_rfl) (by kernel_rfl) (fun _ _ _ h => h) (Or.inl ⟨by rfl, ?_⟩) hS ?_
      rotate_left
      · intro u hu; (try dsimp only at hu); go_simp; try with_reducible rfl
      simp only [Act.put, List.getElem_toArray, List.getElem_cons_zero, List.getElem_cons_succ, List.setIfInBounds_toArray, List.set_cons_zero, List.set_cons_succ]
      refine wpAnyH_take (i := 4) (v := ?_) rfl (by kernel_rfl) (by kernel_rfl) (by kernel_rfl) (fun _ _ _ h => h) (Or.inl ⟨by rfl, ?_⟩) hS ?_
      rotate_left
      · intro u hu; (try dsimp only at hu); go_simp; try with_reducible rfl
      simp only [Act.put, List.getElem_toArray, List.getElem_cons_zero, List.getElem_cons_succ, List.setIfInBounds_toArray, List.set_cons_zero, List.set_cons_succ]
      refine wpAnyH_take (i := 5) (v := ?_) rfl (by kernel_rfl) (by kernel_rfl) (by kernel_rfl) (fun _ _ _ h => h) (Or.inl ⟨by rfl, ?_⟩) hS ?_
      rotate_left
      · intro u hu; (try dsimp only at hu); go_simp; try with_reducible rfl
      simp only [Act.put, List.getElem_toArray, List.getElem_cons_zero, List.getElem_cons_succ, List.setIfInBounds_toArray, List.set_cons_zero, List.set_cons_succ]
      refine wpAnyH_take (i := 6) (v := ?_) rfl (by kernel_rfl) (by kernel_rfl) (by kernel_rfl) (fun _ _ _ h => h) (Or.inl ⟨by rfl, ?_⟩) hS ?_
      rotate_left
      · intro u hu; (try dsimp only at hu); go_simp; try with_reducible rfl
      simp only [Act.put, List.getElem_toArray, List.getElem_cons_zero, List.getElem_cons_succ, List.setIfInBounds_toArray, List.set_cons_zero, List.set_cons_succ]
      refine wpAnyH_take (i := 8) (v := ?_) rfl (by kernel_rfl) (by kernel_rfl) (by kernel_rfl) (fun _ _ _ h => h) (Or.inl ⟨by rfl, ?_⟩) hS ?_
      rotate_left
      · intro u hu; (try dsimp only at hu); go_simp; try with_reducible rfl
      simp only [Act.put, List.getElem_toArray, List.getElem_cons_zero, List.getElem_cons_succ, List.setIfInBounds_toArray, List.set_cons_zero, List.set_cons_succ]
      refine wpAnyH_take (i := 9) (v := ?_) rfl (by kernel_rfl) (by kernel_rfl) (by kernel_rfl) (fun _ _ _ h => h) (Or.inl ⟨by rfl, ?_⟩) hS ?_
      rotate_left
      · intro u hu; (try dsimp only at hu); go_simp; try with_reducible rfl
      simp only [Act.put, List.getElem_toArray, List.getElem_cons_zero, List.getElem_cons_succ, List.setIfInBounds_toArray, List.set_cons_zero, List.set_cons_succ]
      refine wpAnyH_take (i := 10) (v := ?_) rfl (by kernel_rfl) (by kernel_rfl) (by kernel_rfl) (fun _ _ _ h => h) (Or.inl ⟨by rfl, ?_⟩) hS ?_
      rotate_left
      · intro u hu; (try dsimp only at hu); go_simp; try with_reducible rfl
      simp only [Act.put, List.getElem_toArray, List.getElem_cons_zero, List.getElem_cons_succ, List.setIfInBounds_toArray, List.set_cons_zero, List.set_cons_succ]
      refine wpAnyH_ready (rs := [7, 11]) (by kernel_rfl) (by simp) ?_
      refine AllReadyH.cons rfl (fun K hK => ?_) (AllReadyH.cons rfl (fun K hK => ?_) AllReadyH.nil)
      · go_simp
        refine hK.out _ _ hS (fun hS2 => ?_)
        clear hK K hS2
        refine wpAnyH_ready (rs := [11]) (by kernel_rfl) (by simp) ?_
        refine AllReadyH.cons rfl (fun K hK => ?_) AllReadyH.nil
        go_simp
        refine hK.out _ _ hS (fun hS2 => ?_)
        clear hK K hS2
        refine wpAnyH_take (i := 12) (v := ?_) rfl (by kernel_rfl) (by kernel_rfl) (by kernel_rfl) (fun _ _ _ h => h) (Or.inl ⟨by rfl, ?_⟩) hS ?_
        rotate_left
        · intro u hu; (try dsimp only at hu); go_simp; try with_reducible rfl
        simp only [Act.put, List.getElem_toArray, List.getElem_cons_zero, List.getElem_cons_succ, List.setIfInBounds_toArray, List.set_cons_zero, List.set_cons_succ]
        refine wpAnyH_ready (rs := [13]) (by kernel_rfl) (by simp) ?_
        refine AllReadyH.cons rfl (fun K hK => ?_) AllReadyH.nil
        have q1 := (unhide HOd).frozenAt k
        go_simp
        refine hK.out _ _ hS (fun hS4 => ?_)
        clear hK K q1 hS4
        have HR1 := hide ((unhide HOd).stored k (.int .i64 xj)).1
        refine wpAnyH_take (i := 14) (v := ?_) rfl (by kernel_rfl) (by kernel_rfl) (by kernel_rfl) (fun _ _ _ h => h) (Or.inl ⟨by rfl, ?_⟩) hS ?_
        rotate_left
        · intro u hu; (try dsimp only at hu); go_simp; try with_reducible rfl
        simp only [Act.put, List.getElem_toArray, List.getElem_cons_zero, List.getElem_cons_succ, List.setIfInBounds_toArray, List.set_cons_zero, List.set_cons_succ]
        refine wpAnyH_ready (rs := [15]) (by kernel_rfl) (by simp) ?_
        refine AllReadyH.cons rfl (fun K hK => ?_) AllReadyH.nil
        have q1 := (unhide HR1).frozenAt j
        have q2 : (wd.setCell ⟨g, k, none⟩ (.int .i64 xj)).cell? ⟨g, j, none⟩ = some (.int .i64 xj) := by
          rw [(unhide HR1).cellAt j (by omega), List.getElem?_set_ne (by omega), ← (unhide HOd).cellAt j (by omega)]
          exact e2
        go_simp
        refine hK.out _ _ hS (fun hS5 => ?_)
        clear hK K q1 q2 hS5
        have HR2 := hide ((unhide HR1).stored j (.int .i64 xk)).1
        refine wpAnyH_done (by kernel_rfl) ?_ _
        go_wp2_with fail
        go_roundw
        case rel =>
          obtain ⟨j', rfl⟩ : ∃ j', j = j' + 1 := ⟨j - 1, by omega⟩
          refine ⟨k + 1, j', by go_num, by go_num, by omega, ?_, ?_⟩
          · have := unhide HR2
            rw [zcells_set, zcells_set, unhide HSTEP] at this
            exact this
          · exact ((unhide HBd).setCell (p := ⟨g, k, none⟩) hbg _).setCell (p := ⟨g, j' + 1, none⟩) hbg _
        case measure => simp [intOf]; omega
      · go_simp
        refine hK.out _ _ hS (fun hS2 => ?_)
        clear hK K hS2
        refine wpAnyH_ready (rs := [7]) (by kernel_rfl) (by simp) ?_
        refine AllReadyH.cons rfl (fun K hK => ?_) AllReadyH.nil
        go_simp
        refine hK.out _ _ hS (fun hS2 => ?_)
        clear hK K hS2
        refine wpAnyH_take (i := 12) (v := ?_) rfl (by kernel_rfl) (by kernel_rfl) (by kernel_rfl) (fun _ _ _ h => h) (Or.inl ⟨by rfl, ?_⟩) hS ?_
        rotate_left
        · intro u hu; (try dsimp only at hu); go_simp; try with_reducible rfl
        simp only [Act.put, List.getElem_toArray, List.getElem_cons_zero, List.getElem_cons_succ, List.setIfInBounds_toArray, List.set_cons_zero, List.set_cons_succ]
        refine wpAnyH_ready (rs := [13]) (by kernel_rfl) (by simp) ?_
        refine AllReadyH.cons rfl (fun K hK => ?_) AllReadyH.nil
        have q1 := (unhide HOd).frozenAt k
        go_simp
        refine hK.out _ _ hS (fun hS4 => ?_)
        clear hK K q1 hS4
        have HR1 := hide ((unhide HOd).stored k (.int .i64 xj)).1
        refine wpAnyH_take (i := 14) (v := ?_) rfl (by kernel_rfl) (by kernel_rfl) (by kernel_rfl) (fun _ _ _ h => h) (Or.inl ⟨by rfl, ?_⟩) hS ?_
        rotate_left
        · intro u hu; (try dsimp only at hu); go_simp; try with_reducible rfl
        simp only [Act.put, List.getElem_toArray, List.getElem_cons_zero, List.getElem_cons_succ, List.setIfInBounds_toArray, List.set_cons_zero, List.set_cons_succ]
        refine wpAnyH_ready (rs := [15]) (by kernel_rfl) (by simp) ?_
        refine AllReadyH.cons rfl (fun K hK => ?_) AllReadyH.nil
        have q1 := (unhide HR1).frozenAt j
        have q2 : (wd.setCell ⟨g, k, none⟩ (.int .i64 xj)).cell? ⟨g, j, none⟩ = some (.int .i64 xj) := by
          rw [(unhide HR1).cellAt j (by omega), List.getElem?_set_ne (by omega), ← (unhide HOd).cellAt j (by omega)]
          exact e2
        go_simp
        refine hK.out _ _ hS (fun hS5 => ?_)
        clear hK K q1 q2 hS5
        have HR2 := hide ((unhide HR1).stored j (.int .i64 xk)).1
        refine wpAnyH_done (by kernel_rfl) ?_ _
        go_wp2_with fail
        go_roundw
        case rel =>
          obtain ⟨j', rfl⟩ : ∃ j', j = j' + 1 := ⟨j - 1, by omega⟩
          refine ⟨k + 1, j', by go_num, by go_num, by omega, ?_, ?_⟩
          · have := unhide HR2
            rw [zcells_set, zcells_set, unhide HSTEP] at this
            exact this
          · exact ((unhide HBd).setCell (p := ⟨g, k, none⟩) hbg _).setCell (p := ⟨g, j' + 1, none⟩) hbg _
        case measure => simp [intOf]; omega
    · go_wp2
      go_end0
      refine ⟨rfl, ?_, unhide HB⟩
      have := unhide HO
      rwa [turnK_end (by rw [unhide HL]; omega)] at this

/-- lists of ints that are laid, each in a row of its own -/
structure Oz (u0 wr : World) (bv : Value) (R : Nat → Value) (Ls : List (List Int)) : Prop where
  bel : Below u0.heap.size u0 wr
  own : wr.ownsRow u0.heap.size 36 1 bv Ls.length ((List.range Ls.length).map R)
  rows : ∀ j, j < Ls.length → wr.ownsRow u0.heap.size 3 1 (R j) (Ls.getD j []).length (zcells (Ls.getD j []))
theorem Oz.nil (u0 : World) : Oz u0 u0 (.slice none 0 0) (fun _ => .slice none 0 0) [] := ⟨Below.refl _ _, World.ownsRow_nil _ _ _ _, fun j hj => by simp at hj⟩
theorem Oz.start (u0 : World) : Oz u0 (u0.alloc (.cells #[] 36)) (.slice (some ⟨u0.heap.size, 0, none⟩) 0 0) (fun _ => .slice none 0 0) [] :=
  ⟨b_al _, owns_lit_empty u0 36 1 _ (Nat.le_refl _), fun j hj => by simp at hj⟩
theorem Oz.step {u0 wr wr' : World} {bv : Value} {R : Nat → Value} {Ls : List (List Int)} (h : Oz u0 wr bv R Ls) (hb : Below wr.heap.size wr wr') : Oz u0 wr' bv R Ls :=
  ⟨bto h.bel hb, owns_below h.own hb, fun j hj => owns_below (h.rows j hj) hb⟩
theorem Oz.push {u0 u u' : World} {bv v' l : Value} {R : Nat → Value} {Ls : List (List Int)} {x : List Int} (h : Oz u0 u bv R Ls) (hl : u.ownsRow u0.heap.size 3 1 l x.length (zcells x))
    (ho : u'.ownsRow u0.heap.size 36 1 v' (Ls.length + 1) ((List.range Ls.length).map R ++ [l])) (hg : u.grownBy u' bv.ownBlock) : Oz u0 u' v' (upd R Ls.length l) (Ls ++ [x]) := by
  have hk : ∀ {v : Value} {n : Nat} {xs : List Value}, u.ownsRow u0.heap.size 3 1 v n xs → u'.ownsRow u0.heap.size 3 1 v n xs := fun {v n xs} hv => by
    refine owns_keep hv fun g hgv => hg.block g (hv.lt g hgv).2 fun e => ?_
    obtain ⟨c1, h1⟩ := owns_type hv hgv
    obtain ⟨c2, h2⟩ := owns_type h.own e.symm
    rw [h1] at h2
    simp at h2
  refine ⟨h.bel.grown hg h.bel.size fun k hk' => (h.own.lt k hk').1, ?_, fun j hj => ?_⟩
  · rw [List.length_append, show [x].length = 1 from rfl, List.range_succ, List.map_append]
    have e1 : (List.range Ls.length).map (upd R Ls.length l) = (List.range Ls.length).map R := List.map_congr_left fun t ht => upd_other _ _ (by have := List.mem_range.1 ht; omega)
    rw [e1]
    simpa [upd_same] using ho
  · rw [List.length_append, show [x].length = 1 from rfl] at hj
    by_cases hjl : j = Ls.length
    · subst hjl
      rw [upd_same, show (Ls ++ [x]).getD Ls.length [] = x by simp [List.getD]]
      exact hk hl
    · rw [upd_other _ _ hjl, show (Ls ++ [x]).getD j [] = Ls.getD j [] by simp only [List.getD]; rw [List.getElem?_append_left (by omega)]]
      exact hk (h.rows j (by omega))
theorem Oz.read {u0 wr : World} {bv : Value} {R : Nat → Value} {Ls : List (List Int)} (h : Oz u0 wr bv R Ls) (hL : Ls.length ≤ 1000) (hm : ∀ j, j < Ls.length → (Ls.getD j []).length ≤ 1000) : ∃ ba bc, bv = .slice ba Ls.length bc ∧ Ls.length ≤ bc ∧ Rr wr ba Ls.length Ls := by
  rcases h.own.2 with ⟨hv, hn⟩ | ⟨gb, cap, cur, hv, hb, hg, h1, h2, h3, h4⟩
  · exact ⟨none, 0, by rw [hv, hn], by omega, rfl, by omega, fun t ht => by omega⟩
  · refine ⟨_, cap, hv, h1, rfl, by omega, fun t ht => ?_⟩
    have hb' := hm t ht
    obtain ⟨la, lc, hl, hlc, hn⟩ := ns_of_owns (h.rows t ht) (by omega)
    have : (cur.toList.take (Ls.length * 1))[t]? = ((List.range Ls.length).map R)[t]? := by rw [h4]
    rw [List.getElem?_take] at this
    simp [ht] at this
    exact ⟨gb, 0, la, lc, rfl, (Array.getElem?_eq_some_iff.1 hg).1, by simp [World.cell?, hg, this, hl], hlc, hn⟩

theorem revs_getD (rs : List (List Int)) (t : Nat) : (rs.map List.reverse).getD t [] = (rs.getD t []).reverse := by
  simp only [List.getD, List.getElem?_map]
  cases rs[t]? <;> simp
theorem take_snoc {rs : List (List Int)} {t : Nat} (ht : t < rs.length) : rs.take (t + 1) = rs.take t ++ [rs.getD t []] := by
  rw [List.take_succ_eq_append_getElem ht]
  congr 2
  simp [List.getD, ht]
theorem one_s (a : Option Addr) (n c : Nat) : ∀ u ∈ [Value.slice a n c], u.oneCell' = true := by
  intro u hu
  simp only [List.mem_singleton] at hu
  subst hu
  rfl

set_option maxHeartbeats 4000000 in
theorem mirror_any (w : World) (ra : Option Addr) (m rc : Nat) (rs : List (List Int)) (hr : Rr w ra m rs) (hm : m ≤ 1000) (hl : ∀ k, k < m → (rs.getD k []).length ≤ 1000) :
    Calls Tryd.prog 15 #[.slice ra m rc] w fun e w' => (∃ sa sc, e = .returned (.slice sa m sc) ∧ Rr w' sa m (rs.map List.reverse)) ∧ Below w.heap.size w w' := by
  have hlen : rs.length = m := hr.1
  obtain ⟨ms, hms⟩ : ∃ ms, rs.map List.reverse = ms := ⟨_, rfl⟩
  have hmsl : ms.length = m := by rw [← hms, List.length_map, hlen]
  have hmsg : ∀ t, ms.getD t [] = (rs.getD t []).reverse := fun t => by rw [← hms, revs_getD]
  rw [hms]
  have HR := hide hr
  have HL := hide hl
  have HML := hide hmsl
  have HMG := hide hmsg
  have HO0 := hide (Oz.nil w)
  obtain ⟨j0, hj0, hy0, hy1, hy2⟩ := info_parts info28
  have HJ := hide hj0
  have HY0 := hide hy0
  have HY1 := hide hy1
  have HY2 := hide hy2
  clear hr hl hlen hms hmsl hmsg hj0 hy0 hy1 hy2
  go_enter Tryd.func15, Tryd.ntmps15
  go_wp2_with fail
  go_loopw [3, 9] (fun v3 v9 wr => ∃ (t : Nat) (R : Nat → Value), v9 = .int .i64 t ∧ t ≤ m ∧ Hid (Oz w wr v3 R (ms.take t))) (fun v3 v9 wr => m - (intOf v9).toNat)
  case atStart => exact ⟨0, _, rfl, by omega, HO0⟩
  case round =>
    clear HO0
    obtain ⟨t, R, rfl, ht, HO⟩ := hrel
    by_cases htm : t < m
    · have htm2 : (t : Int) < (m : Int) := by omega
      obtain ⟨gt, ot, lt, lct, hgt, hgts, ct, hlct, hlt⟩ := (unhide HR).2.2 t htm
      subst hgt
      have hgt2 : gt < wr.heap.size := Nat.lt_of_lt_of_le hgts (unhide HO).bel.size
      have hl2 := unhide HL t htm
      have dt := ((unhide HO).bel.cell (p := ⟨gt, ot + t, none⟩) hgts).trans ct
      have HBO := hide (unhide HO).bel.size
      have HC := hide (clone_any wr lt _ lct _ (hlt.below (unhide HO).bel) (by omega))
      have htl : (ms.take t).length = t := by rw [List.length_take, unhide HML]; omega
      have hsn := take_snoc (rs := ms) (t := t) (by rw [unhide HML]; exact htm)
      rw [unhide HMG] at hsn
      have HTL := hide htl
      have HSN := hide hsn
      clear ct hlt hlct hgts htl hsn
      generalize rs.getD t [] = lq at *
      obtain ⟨nt, hnt⟩ : ∃ nt, lq.length = nt := ⟨_, rfl⟩
      have HNT := hide hnt
      rw [hnt] at dt HC hl2
      clear hnt
      go_wp2_with fail
      refine (unhide HC).mono ?_
      rintro e w5 ⟨⟨v5, rfl, ho5⟩, hb5⟩
      obtain ⟨a5, c5, rfl⟩ := owns_slice ho5
      have HC2 := hide (reverse_any w5 wr.heap.size _ nt lq ho5 (by omega))
      have HB5 := hide hb5
      clear ho5 hb5 HC dt
      go_wp2_with fail
      refine (unhide HC2).mono ?_
      rintro e w6 ⟨rfl, ho6, hb6⟩
      have HB6 := hide (show Below wr.heap.size wr w6 from (unhide HB5).trans hb6)
      have HO6 := hide ho6
      have HOL := hide ((unhide HO).step (unhide HB6))
      have hs6 := (unhide HOL).bel.size
      have HOWN := hide (show w6.ownsRow w.heap.size 36 1 u3 t ((List.range t).map R) by have := (unhide HOL).own; rwa [unhide HTL] at this)
      clear ho6 hb6 HC2 HB5 HO
      go_wp2_with (at_builtin; refine wpList_append_own _ rfl (.tmp 17) (.tmp 19) 37 rfl w.heap.size 36 j0 (.slice none 0 0) 1 24 Tryd.underlying37 (unhide HJ) (unhide HY0) (unhide HY1) (unhide HY2) rfl (by decide) u3 t _ rfl ((unhide HOWN).alloc _) ⟨w6.heap.size, 0, none⟩ 1 1 [.slice a5 nt c5] rfl rfl (cell_one_new _ _ _) (one_s _ _ _) ?a3 ?a4 ?a5 ?_)
      case a3 => unfold maxLen; omega
      case a4 => omega
      case a5 => simp; omega
      intro v9 w9 ho9 hg9 _
      have hp9 := ((unhide HOL).step (b_al (.cells #[.slice a5 nt c5] 36))).push (x := lq.reverse) (show (w6.alloc _).ownsRow w.heap.size 3 1 (.slice a5 nt c5) lq.reverse.length (zcells lq.reverse) by rw [List.length_reverse, unhide HNT]; exact owns_mono (owns_below (unhide HO6) (b_al _)) (unhide HBO)) (by rw [unhide HTL]; exact ho9) hg9
      rw [← unhide HSN] at hp9
      have HP9 := hide hp9
      clear hp9 ho9 hg9
      go_wp2_with fail
      go_roundw
      case rel => exact ⟨t + 1, _, by go_num, by omega, HP9⟩
      case measure => simp [intOf]; omega
    · obtain rfl : m = t := by omega
      have hrd := (unhide HO).read (by rw [List.length_take]; omega) (fun j hj => by
        rw [List.length_take, unhide HML] at hj
        rw [show ms.take m = ms from List.take_of_length_le (by rw [unhide HML]; exact Nat.le_refl _), unhide HMG, List.length_reverse]
        exact unhide HL j (by omega))
      rw [show ms.take m = ms from List.take_of_length_le (by rw [unhide HML]; exact Nat.le_refl _), unhide HML] at hrd
      obtain ⟨sa, sc, rfl, _, hrd⟩ := hrd
      have HRD := hide hrd
      clear hrd
      go_wp2_with fail
      go_ret
      exact ⟨⟨_, _, rfl, unhide HRD⟩, (unhide HO).bel⟩
end Go.Proofs.YtmklngabfdnclaaDoor


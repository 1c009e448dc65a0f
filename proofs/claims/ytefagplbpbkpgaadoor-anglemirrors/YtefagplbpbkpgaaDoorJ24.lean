/-
  The contracts of slices.Clone, slices.Reverse and rotation.Mirror. Conditions: the rows lie in memory as told.
-/
import Derived.Test.YtefagplbpbkpgaaDoorJ11
import Derived.Test.YtefagplbpbkpgaaDoorJ12
import Derived.Test.YtefagplbpbkpgaaDoorJ13
import Derived.Test.YtefagplbpbkpgaaDoorJ23
import Derived.Test.YtefagplbpbkpgaaDoorJ15
import Derived.Test.YtefagplbpbkpgaaDoorJ16
namespace Go.Proofs.YtefagplbpbkpgaaDoor
open Go.RowKit
set_option linter.unusedVariables false
set_option maxRecDepth 20000

set_option maxHeartbeats 2000000 in
theorem clone_mr (w : World) (a : Option Addr) (n c : Nat) (xs : List Int) (h : Ns w a n xs) (hn : n ≤ 100000) :
    Calls Tryd.prog 35 #[.slice a n c] w fun e w' => (∃ v, e = .returned v ∧ w'.ownsRow w.heap.size 3 1 v n (zcells xs)) ∧ Below w.heap.size w w' := by
  have q37 : ∀ (w : World) (a : Option Addr) (n c n' c' : Nat), (binOp .eql 37 (.slice a n c) (.slice none n' c')).run Tryd.prog w = .ok (.bool a.isNone) w := fun w a n c n' c' => Lib.run_eql_slice_nil w _ _ a n c n' c' Tryd.underlying37
  cases a with
  | none =>
    have hn0 : n = 0 := by
      rcases Nat.eq_zero_or_pos n with h0 | h0
      · exact h0
      · obtain ⟨g, off, ha, _⟩ := h.2.2 0 h0
        cases ha
    subst hn0
    have hx : xs = [] := List.length_eq_zero_iff.1 h.1
    subst hx
    clear h
    go_enter Tryd.func35, Tryd.ntmps35
    go_wp2
    go_ret
    exact ⟨⟨_, rfl, World.ownsRow_nil _ _ _ _⟩, Below.refl _ _⟩
  | some p =>
    refine (clone_some w p n c xs h (by omega)).mono ?_
    rintro e w' ⟨⟨v, rfl, ho, _⟩, hb⟩
    exact ⟨⟨v, rfl, ho⟩, hb⟩

/-- the first k and the last k of a list have changed places -/
def turnK (xs : List Int) (k : Nat) : List Int := (List.range xs.length).map fun t => if t < k ∨ xs.length - 1 - t < k then xs.getD (xs.length - 1 - t) 0 else xs.getD t 0
theorem turnK_length (xs : List Int) (k : Nat) : (turnK xs k).length = xs.length := by simp [turnK]
theorem turnK_getD (xs : List Int) (k : Nat) {t : Nat} (ht : t < xs.length) : (turnK xs k).getD t 0 = if t < k ∨ xs.length - 1 - t < k then xs.getD (xs.length - 1 - t) 0 else xs.getD t 0 := by
  simp [turnK, List.getD, ht]
theorem turnK_zero (xs : List Int) : turnK xs 0 = xs := by
  refine ext_getD (turnK_length _ _) fun i hi => ?_
  rw [turnK_getD _ _ hi, if_neg (by omega)]
theorem rev_getD (xs : List Int) {t : Nat} (ht : t < xs.length) : xs.reverse.getD t 0 = xs.getD (xs.length - 1 - t) 0 := by
  simp only [List.getD]
  rw [List.getElem?_reverse ht]
theorem turnK_end {xs : List Int} {k : Nat} (h : xs.length ≤ 2 * k + 1) : turnK xs k = xs.reverse := by
  refine ext_getD (by rw [turnK_length, List.length_reverse]) fun i hi => ?_
  rw [List.length_reverse] at hi
  rw [turnK_getD _ _ hi, rev_getD _ hi]
  split
  · rfl
  · rw [show xs.length - 1 - i = i by omega]
theorem getD_set (xs : List Int) (j : Nat) (x : Int) {t : Nat} (ht : t < xs.length) : (xs.set j x).getD t 0 = if t = j then x else xs.getD t 0 := by
  simp only [List.getD, List.getElem?_set]
  by_cases e : j = t
  · subst e; simp [ht]
  · rw [if_neg e, if_neg (fun h => e h.symm)]
theorem turnK_step {xs : List Int} {k j : Nat} (hj : k + j + 1 = xs.length) (h : k < j) : ((turnK xs k).set k (xs.getD j 0)).set j (xs.getD k 0) = turnK xs (k + 1) := by
  refine ext_getD (by rw [List.length_set, List.length_set, turnK_length, turnK_length]) fun i hi => ?_
  rw [turnK_length] at hi
  rw [getD_set _ _ _ (by rw [List.length_set, turnK_length]; exact hi), getD_set _ _ _ (by rw [turnK_length]; exact hi), turnK_getD _ _ hi, turnK_getD _ _ hi]
  by_cases e1 : i = j
  · subst e1
    rw [if_pos rfl, if_pos (by omega), show xs.length - 1 - i = k by omega]
  · rw [if_neg e1]
    by_cases e2 : i = k
    · subst e2
      rw [if_pos rfl, if_pos (by omega), show xs.length - 1 - i = j by omega]
    · rw [if_neg e2]
      by_cases e3 : i < k ∨ xs.length - 1 - i < k
      · rw [if_pos e3, if_pos (by omega)]
      · rw [if_neg e3, if_neg (by omega)]
theorem zcells_set (xs : List Int) (j : Nat) (x : Int) : (zcells xs).set j (.int .i64 x) = zcells (xs.set j x) := by
  simp [zcells]
theorem zcells_at (xs : List Int) {j : Nat} (hj : j < xs.length) : (zcells xs)[j]? = some (.int .i64 (xs.getD j 0)) := by
  simp [zcells, hj, List.getD]

set_option maxHeartbeats 4000000 in
theorem reverse_any (w : World) (base : Nat) (v : Value) (n : Nat) (xs : List Int) (h : w.ownsRow base 3 1 v n (zcells xs)) (hn : n ≤ 100000) :
    Calls Tryd.prog 36 #[v] w fun e w' => e = .returned (.tuple #[]) ∧ w'.ownsRow base 3 1 v n (zcells xs.reverse) ∧ Below base w w' := by
  have hl : xs.length = n := by have := h.1; simpa [zcells] using this
  rcases Nat.eq_zero_or_pos n with hn0 | hn0
  · subst hn0
    obtain ⟨a, c, rfl⟩ := owns_slice h
    have hx : xs = [] := List.length_eq_zero_iff.1 hl
    subst hx
    have HO := hide h
    clear h hl
    go_enter Tryd.func36, Tryd.ntmps36
    go_wp2
    refine wp_loop_rounds 1 ?_
    rw [rounds_succ]
    go_wp2
    go_end0
    exact ⟨rfl, unhide HO, Below.refl _ _⟩
  obtain ⟨g, cap, rfl, hbg, hgs⟩ : ∃ g cap, v = .slice (some ⟨g, 0, none⟩) n cap ∧ base ≤ g ∧ g < w.heap.size := by
    rcases h.2 with ⟨_, h0⟩ | ⟨g, cap, cur, hv, hb, hg, _⟩
    · omega
    · exact ⟨g, cap, hv, hb, (Array.getElem?_eq_some_iff.1 hg).1⟩
  have HO0 := hide (show w.ownsRow base 3 1 (.slice (some ⟨g, 0, none⟩) n cap) n (zcells (turnK xs 0)) by rw [turnK_zero]; exact h)
  have HB0 := hide (Below.refl base w)
  have HL := hide hl
  obtain ⟨j0, hj0⟩ : ∃ j0, n = j0 + 1 := ⟨n - 1, by omega⟩
  have hj1 : (n : Int) - 1 = ((j0 : Nat) : Int) := by omega
  have HJ0 := hide hj0
  clear h hl hj0
  go_enter Tryd.func36, Tryd.ntmps36
  go_wp2
  go_loopw [2, 3] (fun vi vj wr => ∃ k j : Nat, vi = .int .i64 k ∧ vj = .int .i64 j ∧ k + j + 1 = n ∧ Hid (wr.ownsRow base 3 1 (.slice (some ⟨g, 0, none⟩) n cap) n (zcells (turnK xs k))) ∧ Hid (Below base w wr)) (fun vi vj wr => n - (intOf vi).toNat)
  case atStart => exact ⟨0, j0, rfl, by go_num, by have := unhide HJ0; omega, HO0, HB0⟩
  case round =>
    clear HO0 HB0
    obtain ⟨k, j, rfl, rfl, hkj, HO, HB⟩ := hrel
    by_cases hlt : k < j
    · have hlt2 : (k : Int) < (j : Int) := by omega
      have hk2 : (k : Int) < (n : Int) := by omega
      have hj2 : (j : Int) < (n : Int) := by omega
      have hgr : g < wr.heap.size := Nat.lt_of_lt_of_le hgs (unhide HB).size
      have hcell : ∀ u : World, u.ownsRow base 3 1 (.slice (some ⟨g, 0, none⟩) n cap) n (zcells (turnK xs k)) → u.cell? ⟨g, k, none⟩ = some (.int .i64 (xs.getD k 0)) ∧ u.cell? ⟨g, j, none⟩ = some (.int .i64 (xs.getD j 0)) := fun u ho => by
        have hl := unhide HL
        rw [ho.cellAt k (by omega), ho.cellAt j (by omega), zcells_at _ (by rw [turnK_length]; omega), zcells_at _ (by rw [turnK_length]; omega), turnK_getD _ _ (by omega), turnK_getD _ _ (by omega), if_neg (by omega), if_neg (by omega)]
        exact ⟨rfl, rfl⟩
      have HOd := hide (show wr.drew.ownsRow base 3 1 (.slice (some ⟨g, 0, none⟩) n cap) n (zcells (turnK xs k)) from (unhide HO).drew)
      obtain ⟨e1, e2⟩ := hcell wr.drew (unhide HOd)
      have HBd := hide (show Below base w wr.drew from (unhide HB).drew)
      have hgr2 : g < wr.drew.heap.size := hgr
      have HSTEP := hide (turnK_step (xs := xs) (k := k) (j := j) (by rw [unhide HL]; exact hkj) hlt)
      clear hcell
      generalize xs.getD k 0 = xk at e1 HSTEP
      generalize xs.getD j 0 = xj at e2 HSTEP
      go_upto_region 3 with fail
      refine wp_region_held_drew (S := fun u => True) (by kernel_rfl) trivial (fun hS => ?_)
      generalize wr.drew = wd at HOd HBd e1 e2 hgr2 hS ⊢
      clear HO HB hgr
      refine wpAnyH_take (i := 0) (v := ?_) rfl (by kernel_rfl) (by kernel_rfl) (by kernel_rfl) (fun _ _ _ h => h) (Or.inl ⟨by rfl, ?_⟩) hS ?_
      rotate_left
      · intro u hu; (try dsimp only at hu); go_simp; try with_reducible rfl
      simp only [Act.put, List.getElem_toArray, List.getElem_cons_zero, List.setIfInBounds_toArray, List.set_cons_zero, List.set_cons_succ]
      refine wpAnyH_take (i := 1) (v := ?_) rfl (by kernel_rfl) (by kernel_rfl) (by kernel_rfl) (fun _ _ _ h => h) (Or.inl ⟨by rfl, ?_⟩) hS ?_
      rotate_left
      · intro u hu; (try dsimp only at hu); go_simp; try with_reducible rfl
      simp only [Act.put, List.getElem_toArray, List.getElem_cons_zero, List.getElem_cons_succ, List.setIfInBounds_toArray, List.set_cons_zero, List.set_cons_succ]
      refine wpAnyH_take (i := 2) (v := ?_) rfl (by kernel_rfl) (by kernel_rfl) (by kernel_rfl) (fun _ _ _ h => h) (Or.inl ⟨by rfl, ?_⟩) hS ?_
      rotate_left
      · intro u hu; (try dsimp only at hu); go_simp; try with_reducible rfl
      simp only [Act.put, List.getElem_toArray, List.getElem_cons_zero, List.getElem_cons_succ, List.setIfInBounds_toArray, List.set_cons_zero, List.set_cons_succ]
      refine wpAnyH_take (i := 3) (v := ?_) rfl (by kernel_rfl) (by kernel_rfl) (by kernel_rfl) (fun _ _ _ h => h) (Or.inl ⟨by rfl, ?_⟩) hS ?_
      rotate_left
      · intro u hu; (try dsimp only at hu); go_simp; try with_reducible rfl
      simp only [Act.put, List.getElem_toArray, List.getElem_cons_zero, List.getElem_cons_succ, List.setIfInBounds_toArray, List.set_cons_zero, List.set_cons_succ]
      refine wpAnyH_take (i := 4) (v := ?_) rfl (by kernel_rfl) (by kernel_rfl) (by kernel_rfl) (fun _ _ _ h => h) (Or.inl ⟨by rfl, ?_⟩) hS ?_
      rotate_left
      · intro u hu; (try dsimp only at hu); go_simp; try with_reducible rfl
      simp only [Act.put, List.getElem_toArray, List.getElem_cons_zero, List.getElem_cons_succ, List.setIfInBounds_toArray, List.set_cons_zero, List.set_cons_succ]
      refine wpAnyH_take (i := 5) (v := ?_) rfl (by kernel_rfl) (by kernel_rfl) (by kernel_rfl) (fun _ _ _ h => h) (Or.inl ⟨by rfl, ?_⟩) hS ?_
      rotate_left
      · intro u hu; (try dsimp only at hu); go_simp; try with_reducible rfl
      simp only [Act.put, List.getElem_toArray, List.getElem_cons_zero, List.getElem_cons_succ, List.setIfInBounds_toArray, List.set_cons_zero, List.set_cons_succ]
      refine wpAnyH_take (i := 6) (v := ?_) rfl (by kernel_rfl) (by kernel_rfl) (by kernel_rfl) (fun _ _ _ h => h) (Or.inl ⟨by rfl, ?_⟩) hS ?_
      rotate_left
      · intro u hu; (try dsimp only at hu); go_simp; try with_reducible rfl
      simp only [Act.put, List.getElem_toArray, List.getElem_cons_zero, List.getElem_cons_succ, List.setIfInBounds_toArray, List.set_cons_zero, List.set_cons_succ]
      refine wpAnyH_take (i := 8) (v := ?_) rfl (by kernel_rfl) (by kernel_rfl) (by kernel_rfl) (fun _ _ _ h => h) (Or.inl ⟨by rfl, ?_⟩) hS ?_
      rotate_left
      · intro u hu; (try dsimp only at hu); go_simp; try with_reducible rfl
      simp only [Act.put, List.getElem_toArray, List.getElem_cons_zero, List.getElem_cons_succ, List.setIfInBounds_toArray, List.set_cons_zero, List.set_cons_succ]
      refine wpAnyH_take (i := 9) (v := ?_) rfl (by kernel_rfl) (by kernel_rfl) (by kernel_rfl) (fun _ _ _ h => h) (Or.inl ⟨by rfl, ?_⟩) hS ?_
      rotate_left
      · intro u hu; (try dsimp only at hu); go_simp; try with_reducible rfl
      simp only [Act.put, List.getElem_toArray, List.getElem_cons_zero, List.getElem_cons_succ, List.setIfInBounds_toArray, List.set_cons_zero, List.set_cons_succ]
      refine wpAnyH_take (i := 10) (v := ?_) rfl (by kernel_rfl) (by kernel_rfl) (by kernel_rfl) (fun _ _ _ h => h) (Or.inl ⟨by rfl, ?_⟩) hS ?_
      rotate_left
      · intro u hu; (try dsimp only at hu); go_simp; try with_reducible rfl
      simp only [Act.put, List.getElem_toArray, List.getElem_cons_zero, List.getElem_cons_succ, List.setIfInBounds_toArray, List.set_cons_zero, List.set_cons_succ]
      refine wpAnyH_ready (rs := [7, 11]) (by kernel_rfl) (by simp) ?_
      refine AllReadyH.cons rfl (fun K hK => ?_) (AllReadyH.cons rfl (fun K hK => ?_) AllReadyH.nil)
      · go_simp
        refine hK.out _ _ hS (fun hS2 => ?_)
        clear hK K hS2
        refine wpAnyH_ready (rs := [11]) (by kernel_rfl) (by simp) ?_
        refine AllReadyH.cons rfl (fun K hK => ?_) AllReadyH.nil
        go_simp
        refine hK.out _ _ hS (fun hS2 => ?_)
        clear hK K hS2
        refine wpAnyH_take (i := 12) (v := ?_) rfl (by kernel_rfl) (by kernel_rfl) (by kernel_rfl) (fun _ _ _ h => h) (Or.inl ⟨by rfl, ?_⟩) hS ?_
        rotate_left
        · intro u hu; (try dsimp only at hu); go_simp; try with_reducible rfl
        simp only [Act.put, List.getElem_toArray, List.getElem_cons_zero, List.getElem_cons_succ, List.setIfInBounds_toArray, List.set_cons_zero, List.set_cons_succ]
        refine wpAnyH_ready (rs := [13]) (by kernel_rfl) (by simp) ?_
        refine AllReadyH.cons rfl (fun K hK => ?_) AllReadyH.nil
        have q1 := (unhide HOd).frozenAt k
        go_simp
        refine hK.out _ _ hS (fun hS4 => ?_)
        clear hK K q1 hS4
        have HR1 := hide ((unhide HOd).stored k (.int .i64 xj)).1
        refine wpAnyH_take (i := 14) (v := ?_) rfl (by kernel_rfl) (by kernel_rfl) (by kernel_rfl) (fun _ _ _ h => h) (Or.inl ⟨by rfl, ?_⟩) hS ?_
        rotate_left
        · intro u hu; (try dsimp only at hu); go_simp; try with_reducible rfl
        simp only [Act.put, List.getElem_toArray, List.getElem_cons_zero, List.getElem_cons_succ, List.setIfInBounds_toArray, List.set_cons_zero, List.set_cons_succ]
        refine wpAnyH_ready (rs := [15]) (by kernel_rfl) (by simp) ?_
        refine AllReadyH.cons rfl (fun K hK => ?_) AllReadyH.nil
        have q1 := (unhide HR1).frozenAt j
        have q2 : (wd.setCell ⟨g, k, none⟩ (.int .i64 xj)).cell? ⟨g, j, none⟩ = some (.int .i64 xj) := by
          rw [(unhide HR1).cellAt j (by omega), List.getElem?_set_ne (by omega), ← (unhide HOd).cellAt j (by omega)]
          exact e2
        go_simp
        refine hK.out _ _ hS (fun hS5 => ?_)
        clear hK K q1 q2 hS5
        have HR2 := hide ((unhide HR1).stored j (.int .i64 xk)).1
        refine wpAnyH_done (by kernel_rfl) ?_ _
        go_wp2_with fail
        go_roundw
        case rel =>
          obtain ⟨j', rfl⟩ : ∃ j', j = j' + 1 := ⟨j - 1, by omega⟩
          refine ⟨k + 1, j', by go_num, by go_num, by omega, ?_, ?_⟩
          · have := unhide HR2
            rw [zcells_set, zcells_set, unhide HSTEP] at this
            exact this
          · exact ((unhide HBd).setCell (p := ⟨g, k, none⟩) hbg _).setCell (p := ⟨g, j' + 1, none⟩) hbg _
        case measure => simp [intOf]; omega
      · go_simp
        refine hK.out _ _ hS (fun hS2 => ?_)
        clear hK K hS2
        refine wpAnyH_ready (rs := [7]) (by kernel_rfl) (by simp) ?_
        refine AllReadyH.cons rfl (fun K hK => ?_) AllReadyH.nil
        go_simp
        refine hK.out _ _ hS (fun hS2 => ?_)
        clear hK K hS2
        refine wpAnyH_take (i := 12) (v := ?_) rfl (by kernel_rfl) (by kernel_rfl) (by kernel_rfl) (fun _ _ _ h => h) (Or.inl ⟨by rfl, ?_⟩) hS ?_
        rotate_left
        · intro u hu; (try dsimp only at hu); go_simp; try with_reducible rfl
        simp only [Act.put, List.getElem_toArray, List.getElem_cons_zero, List.getElem_cons_succ, List.setIfInBounds_toArray, List.set_cons_zero, List.set_cons_succ]
        refine wpAnyH_ready (rs := [13]) (by kernel_rfl) (by simp) ?_
        refine AllReadyH.cons rfl (fun K hK => ?_) AllReadyH.nil
        have q1 := (unhide HOd).frozenAt k
        go_simp
        refine hK.out _ _ hS (fun hS4 => ?_)
        clear hK K q1 hS4
        have HR1 := hide ((unhide HOd).stored k (.int .i64 xj)).1
        refine wpAnyH_take (i := 14) (v := ?_) rfl (by kernel_rfl) (by kernel_rfl) (by kernel_rfl) (fun _ _ _ h => h) (Or.inl ⟨by rfl, ?_⟩) hS ?_
        rotate_left
        · intro u hu; (try dsimp only at hu); go_simp; try with_reducible rfl
        simp only [Act.put, List.getElem_toArray, List.getElem_cons_zero, List.getElem_cons_succ, List.setIfInBounds_toArray, List.set_cons_zero, List.set_cons_succ]
        refine wpAnyH_ready (rs := [15]) (by kernel_rfl) (by simp) ?_
        refine AllReadyH.cons rfl (fun K hK => ?_) AllReadyH.nil
        have q1 := (unhide HR1).frozenAt j
        have q2 : (wd.setCell ⟨g, k, none⟩ (.int .i64 xj)).cell? ⟨g, j, none⟩ = some (.int .i64 xj) := by
          rw [(unhide HR1).cellAt j (by omega), List.getElem?_set_ne (by omega), ← (unhide HOd).cellAt j (by omega)]
          exact e2
        go_simp
        refine hK.out _ _ hS (fun hS5 => ?_)
        clear hK K q1 q2 hS5
        have HR2 := hide ((unhide HR1).stored j (.int .i64 xk)).1
        refine wpAnyH_done (by kernel_rfl) ?_ _
        go_wp2_with fail
        go_roundw
        case rel =>
          obtain ⟨j', rfl⟩ : ∃ j', j = j' + 1 := ⟨j - 1, by omega⟩
          refine ⟨k + 1, j', by go_num, by go_num, by omega, ?_, ?_⟩
          · have := unhide HR2
            rw [zcells_set, zcells_set, unhide HSTEP] at this
            exact this
          · exact ((unhide HBd).setCell (p := ⟨g, k, none⟩) hbg _).setCell (p := ⟨g, j' + 1, none⟩) hbg _
        case measure => simp [intOf]; omega
    · go_wp2
      go_end0
      refine ⟨rfl, ?_, unhide HB⟩
      have := unhide HO
      rwa [turnK_end (by rw [unhide HL]; omega)] at this

/-- lists of ints that are laid, each in a row of its own -/
structure Oz (u0 wr : World) (bv : Value) (R : Nat → Value) (Ls : List (List Int)) : Prop where
  bel : Below u0.heap.size u0 wr
  own : wr.ownsRow u0.heap.size 37 1 bv Ls.length ((List.range Ls.length).map R)
  rows : ∀ j, j < Ls.length → wr.ownsRow u0.heap.size 3 1 (R j) (Ls.getD j []).length (zcells (Ls.getD j []))
theorem Oz.nil (u0 : World) : Oz u0 u0 (.slice none 0 0) (fun _ => .slice none 0 0) [] := ⟨Below.refl _ _, World.ownsRow_nil _ _ _ _, fun j hj => by simp at hj⟩
theorem Oz.start (u0 : World) : Oz u0 (u0.alloc (.cells #[] 37)) (.slice (some ⟨u0.heap.size, 0, none⟩) 0 0) (fun _ => .slice none 0 0) [] :=
  ⟨b_al _, owns_lit_empty u0 37 1 _ (Nat.le_refl _), fun j hj => by simp at hj⟩
theorem Oz.step {u0 wr wr' : World} {bv : Value} {R : Nat → Value} {Ls : List (List Int)} (h : Oz u0 wr bv R Ls) (hb : Below wr.heap.size wr wr') : Oz u0 wr' bv R Ls :=
  ⟨bto h.bel hb, owns_below h.own hb, fun j hj => owns_below (h.rows j hj) hb⟩
theorem Oz.push {u0 u u' : World} {bv v' l : Value} {R : Nat → Value} {Ls : List (List Int)} {x : List Int} (h : Oz u0 u bv R Ls) (hl : u.ownsRow u0.heap.size 3 1 l x.length (zcells x))
    (ho : u'.ownsRow u0.heap.size 37 1 v' (Ls.length + 1) ((List.range Ls.length).map R ++ [l])) (hg : u.grownBy u' bv.ownBlock) : Oz u0 u' v' (upd R Ls.length l) (Ls ++ [x]) := by
  have hk : ∀ {v : Value} {n : Nat} {xs : List Value}, u.ownsRow u0.heap.size 3 1 v n xs → u'.ownsRow u0.heap.size 3 1 v n xs := fun {v n xs} hv => by
    refine owns_keep hv fun g hgv => hg.block g (hv.lt g hgv).2 fun e => ?_
    obtain ⟨c1, h1⟩ := owns_type hv hgv
    obtain ⟨c2, h2⟩ := owns_type h.own e.symm
    rw [h1] at h2
    simp at h2
  refine ⟨h.bel.grown hg h.bel.size fun k hk' => (h.own.lt k hk').1, ?_, fun j hj => ?_⟩
  · rw [List.length_append, show [x].length = 1 from rfl, List.range_succ, List.map_append]
    have e1 : (List.range Ls.length).map (upd R Ls.length l) = (List.range Ls.length).map R := List.map_congr_left fun t ht => upd_other _ _ (by have := List.mem_range.1 ht; omega)
    rw [e1]
    simpa [upd_same] using ho
  · rw [List.length_append, show [x].length = 1 from rfl] at hj
    by_cases hjl : j = Ls.length
    · subst hjl
      rw [upd_same, show (Ls ++ [x]).getD Ls.length [] = x by simp [List.getD]]
      exact hk hl
    · rw [upd_other _ _ hjl, show (Ls ++ [x]).getD j [] = Ls.getD j [] by simp only [List.getD]; rw [List.getElem?_append_left (by omega)]]
      exact hk (h.rows j (by omega))
theorem Oz.read {u0 wr : World} {bv : Value} {R : Nat → Value} {Ls : List (List Int)} (h : Oz u0 wr bv R Ls) (hL : Ls.length ≤ 1000) (hm : ∀ j, j < Ls.length → (Ls.getD j []).length ≤ 1000) : ∃ ba bc, bv = .slice ba Ls.length bc ∧ Ls.length ≤ bc ∧ Rr wr ba Ls.length Ls := by
  rcases h.own.2 with ⟨hv, hn⟩ | ⟨gb, cap, cur, hv, hb, hg, h1, h2, h3, h4⟩
  · exact ⟨none, 0, by rw [hv, hn], by omega, rfl, by omega, fun t ht => by omega⟩
  · refine ⟨_, cap, hv, h1, rfl, by omega, fun t ht => ?_⟩
    have hb' := hm t ht
    obtain ⟨la, lc, hl, hlc, hn⟩ := ns_of_owns (h.rows t ht) (by omega)
    have : (cur.toList.take (Ls.length * 1))[t]? = ((List.range Ls.length).map R)[t]? := by rw [h4]
    rw [List.getElem?_take] at this
    simp [ht] at this
    exact ⟨gb, 0, la, lc, rfl, (Array.getElem?_eq_some_iff.1 hg).1, by simp [World.cell?, hg, this, hl], hlc, hn⟩

theorem revs_getD (rs : List (List Int)) (t : Nat) : (rs.map List.reverse).getD t [] = (rs.getD t []).reverse := by
  simp only [List.getD, List.getElem?_map]
  cases rs[t]? <;> simp
theorem take_snoc {rs : List (List Int)} {t : Nat} (ht : t < rs.length) : rs.take (t + 1) = rs.take t ++ [rs.getD t []] := by
  rw [List.take_succ_eq_append_getElem ht]
  congr 2
  simp [List.getD, ht]
theorem one_s (a : Option Addr) (n c : Nat) : ∀ u ∈ [Value.slice a n c], u.oneCell' = true := by
  intro u hu
  simp only [List.mem_singleton] at hu
  subst hu
  rfl

set_option maxHeartbeats 4000000 in
theorem mirror_any (w : World) (ra : Option Addr) (m rc : Nat) (rs : List (List Int)) (hr : Rr w ra m rs) (hm : m ≤ 1000) (hl : ∀ k, k < m → (rs.getD k []).length ≤ 1000) :
    Calls Tryd.prog 18 #[.slice ra m rc] w fun e w' => (∃ sa sc, e = .returned (.slice sa m sc) ∧ Rr w' sa m (rs.map List.reverse)) ∧ Below w.heap.size w w' := by
  have hlen : rs.length = m := hr.1
  obtain ⟨ms, hms⟩ : ∃ ms, rs.map List.reverse = ms := ⟨_, rfl⟩
  have hmsl : ms.length = m := by rw [← hms, List.length_map, hlen]
  have hmsg : ∀ t, ms.getD t [] = (rs.getD t []).reverse := fun t => by rw [← hms, revs_getD]
  rw [hms]
  have HR := hide hr
  have HL := hide hl
  have HML := hide hmsl
  have HMG := hide hmsg
  have HO0 := hide (Oz.nil w)
  obtain ⟨j0, hj0, hy0, hy1, hy2⟩ := info_parts info28
  have HJ := hide hj0
  have HY0 := hide hy0
  have HY1 := hide hy1
  have HY2 := hide hy2
  clear hr hl hlen hms hmsl hmsg hj0 hy0 hy1 hy2
  go_enter Tryd.func18, Tryd.ntmps18
  go_wp2_with fail
  go_loopw [3, 9] (fun v3 v9 wr => ∃ (t : Nat) (R : Nat → Value), v9 = .int .i64 t ∧ t ≤ m ∧ Hid (Oz w wr v3 R (ms.take t))) (fun v3 v9 wr => m - (intOf v9).toNat)
  case atStart => exact ⟨0, _, rfl, by omega, HO0⟩
  case round =>
    clear HO0
    obtain ⟨t, R, rfl, ht, HO⟩ := hrel
    by_cases htm : t < m
    · have htm2 : (t : Int) < (m : Int) := by omega
      obtain ⟨gt, ot, lt, lct, hgt, hgts, ct, hlct, hlt⟩ := (unhide HR).2.2 t htm
      subst hgt
      have hgt2 : gt < wr.heap.size := Nat.lt_of_lt_of_le hgts (unhide HO).bel.size
      have hl2 := unhide HL t htm
      have dt := ((unhide HO).bel.cell (p := ⟨gt, ot + t, none⟩) hgts).trans ct
      have HBO := hide (unhide HO).bel.size
      have HC := hide (clone_mr wr lt _ lct _ (hlt.below (unhide HO).bel) (by omega))
      have htl : (ms.take t).length = t := by rw [List.length_take, unhide HML]; omega
      have hsn := take_snoc (rs := ms) (t := t) (by rw [unhide HML]; exact htm)
      rw [unhide HMG] at hsn
      have HTL := hide htl
      have HSN := hide hsn
      clear ct hlt hlct hgts htl hsn
      generalize rs.getD t [] = lq at *
      obtain ⟨nt, hnt⟩ : ∃ nt, lq.length = nt := ⟨_, rfl⟩
      have HNT := hide hnt
      rw [hnt] at dt HC hl2
      clear hnt
      go_wp2_with fail
      refine (unhide HC).mono ?_
      rintro e w5 ⟨⟨v5, rfl, ho5⟩, hb5⟩
      obtain ⟨a5, c5, rfl⟩ := owns_slice ho5
      have HC2 := hide (reverse_any w5 wr.heap.size _ nt lq ho5 (by omega))
      have HB5 := hide hb5
      clear ho5 hb5 HC dt
      go_wp2_with fail
      refine (unhide HC2).mono ?_
      rintro e w6 ⟨rfl, ho6, hb6⟩
      have HB6 := hide (show Below wr.heap.size wr w6 from (unhide HB5).trans hb6)
      have HO6 := hide ho6
      have HOL := hide ((unhide HO).step (unhide HB6))
      have hs6 := (unhide HOL).bel.size
      have HOWN := hide (show w6.ownsRow w.heap.size 37 1 u3 t ((List.range t).map R) by have := (unhide HOL).own; rwa [unhide HTL] at this)
      clear ho6 hb6 HC2 HB5 HO
      go_wp2_with (at_builtin; refine wpList_append_own _ rfl (.tmp 17) (.tmp 19) 44 rfl w.heap.size 37 j0 (.slice none 0 0) 1 24 Tryd.underlying44 (unhide HJ) (unhide HY0) (unhide HY1) (unhide HY2) rfl (by decide) u3 t _ rfl ((unhide HOWN).alloc _) ⟨w6.heap.size, 0, none⟩ 1 1 [.slice a5 nt c5] rfl rfl (cell_one_new _ _ _) (one_s _ _ _) ?a3 ?a4 ?a5 ?_)
      case a3 => unfold maxLen; omega
      case a4 => omega
      case a5 => simp; omega
      intro v9 w9 ho9 hg9 _
      have hp9 := ((unhide HOL).step (b_al (.cells #[.slice a5 nt c5] 37))).push (x := lq.reverse) (show (w6.alloc _).ownsRow w.heap.size 3 1 (.slice a5 nt c5) lq.reverse.length (zcells lq.reverse) by rw [List.length_reverse, unhide HNT]; exact owns_mono (owns_below (unhide HO6) (b_al _)) (unhide HBO)) (by rw [unhide HTL]; exact ho9) hg9
      rw [← unhide HSN] at hp9
      have HP9 := hide hp9
      clear hp9 ho9 hg9
      go_wp2_with fail
      go_roundw
      case rel => exact ⟨t + 1, _, by go_num, by omega, HP9⟩
      case measure => simp [intOf]; omega
    · obtain rfl : m = t := by omega
      have hrd := (unhide HO).read (by rw [List.length_take]; omega) (fun j hj => by
        rw [List.length_take, unhide HML] at hj
        rw [show ms.take m = ms from List.take_of_length_le (by rw [unhide HML]; exact Nat.le_refl _), unhide HMG, List.length_reverse]
        exact unhide HL j (by omega))
      rw [show ms.take m = ms from List.take_of_length_le (by rw [unhide HML]; exact Nat.le_refl _), unhide HML] at hrd
      obtain ⟨sa, sc, rfl, _, hrd⟩ := hrd
      have HRD := hide hrd
      clear hrd
      go_wp2_with fail
      go_ret
      exact ⟨⟨_, _, rfl, unhide HRD⟩, (unhide HO).bel⟩
end Go.Proofs.YtefagplbpbkpgaaDoor
/-
  The walk of the statement AngleMirrors. Conditions: the graph and the lists lie in memory as told; what the others answer is told.
-/
namespace Go.Proofs.YtefagplbpbkpgaaDoor
open Go.RowKit
set_option linter.unusedVariables false
set_option maxRecDepth 20000
theorem box2' {w : World} {g : Nat} {a b : Value} {ty : TypeId} (h : w.heap[g]? = some (.cells #[a, b] ty (0, 0))) : w.cell? ⟨g, 0, none⟩ = some a ∧ w.cell? ⟨g, 1, none⟩ = some b := by
  simp [World.cell?, h]
theorem two_cells (w : World) (x0 x1 : Value) (ty : TypeId) : (w.alloc (.cells #[x0, x1] ty)).cell? ⟨w.heap.size, 0, none⟩ = some x0 ∧ (w.alloc (.cells #[x0, x1] ty)).cell? ⟨w.heap.size, 1, none⟩ = some x1 := box2' (at_new w #[x0, x1] ty)
theorem two_at (w : World) (x0 x1 : Value) (ty : TypeId) : ∀ j u, [x0, x1][j]? = some u → (w.alloc (.cells #[x0, x1] ty)).cell? ((⟨w.heap.size, 0, none⟩ : Addr).add j) = some u := by
  intro j u h
  have hj : j < 2 := by
    have := (List.getElem?_eq_some_iff.1 h).1
    simpa using this
  obtain ⟨a, b⟩ := two_cells w x0 x1 ty
  obtain rfl | rfl : j = 0 ∨ j = 1 := by omega
  all_goals
    simp only [List.getElem?_cons_zero, List.getElem?_cons_succ, Option.some.injEq] at h
    subst h
  · exact a
  · exact b
theorem one2' (x0 x1 : Int) : ∀ u ∈ [Value.int .i64 x0, .int .i64 x1], u.oneCell' = true := by
  intro u hu
  simp at hu
  rcases hu with rfl | rfl <;> rfl
/-- the graph that is made: its box, its edges so far -/
structure Xg (w wr : World) (V : Nat) (a : Option Addr) (n cap gx : Nat) (es : List (Nat × Nat)) (k : Nat) (v : Value) : Prop where
  bg : Bg w wr (.int .i64 (V : Int)) (.slice a n cap)
  box : wr.heap[gx]? = some (.cells #[.int .i64 (V : Int), v] 24 (0, 0))
  own : wr.ownsRow gx 47 2 v k (ecells (toI (turnE (es.take k))))
theorem Xg.cell {w wr : World} {V : Nat} {a : Option Addr} {n cap gx : Nat} {es : List (Nat × Nat)} {k : Nat} {v : Value} (h : Xg w wr V a n cap gx es k v) : wr.cell? ⟨gx, 0, none⟩ = some (.int .i64 (V : Int)) ∧ wr.cell? ⟨gx, 1, none⟩ = some v := by
  simp [World.cell?, h.box]
theorem Xg.fz {w wr : World} {V : Nat} {a : Option Addr} {n cap gx : Nat} {es : List (Nat × Nat)} {k : Nat} {v : Value} (h : Xg w wr V a n cap gx es k v) (o : Nat) : wr.frozen? ⟨gx, o, none⟩ = false := by
  simp [World.frozen?, h.box]
theorem Xg.step {w wr wr' : World} {V : Nat} {a : Option Addr} {n cap gx : Nat} {es : List (Nat × Nat)} {k : Nat} {v : Value} (h : Xg w wr V a n cap gx es k v) (hb : Below wr.heap.size wr wr') : Xg w wr' V a n cap gx es k v :=
  ⟨h.bg.step hb, by rw [hb.block gx (Array.getElem?_eq_some_iff.1 h.box).1]; exact h.box, owns_below h.own hb⟩
theorem Xg.push {w wc w7 : World} {V : Nat} {a : Option Addr} {n cap gx : Nat} {es : List (Nat × Nat)} {k : Nat} {v v2 : Value} (h : Xg w wc V a n cap gx es k v) (hgx : w.heap.size < gx) (hk : k < es.length) (ho : w7.ownsRow gx 47 2 v2 (k + 1) (ecells (toI (turnE (es.take k))) ++ [.int .i64 ((es.getD k (0, 0)).2 : Int), .int .i64 ((es.getD k (0, 0)).1 : Int)])) (hg : wc.grownBy w7 v.ownBlock) :
    w7.heap[gx]? = some (.cells #[.int .i64 (V : Int), v] 24 (0, 0)) ∧ Xg w (w7.setCell ⟨gx, 1, none⟩ v2) V a n cap gx es (k + 1) v2 := by
  have hne : v.ownBlock ≠ some gx := owns_ne h.own h.box (by decide)
  have hlx := (Array.getElem?_eq_some_iff.1 h.box).1
  have hx : w7.heap[gx]? = some (.cells #[.int .i64 (V : Int), v] 24 (0, 0)) := by rw [hg.block gx hlx (fun e => hne e.symm)]; exact h.box
  have hlt : ∀ b, v.ownBlock = some b → gx ≤ b := fun b hb => (h.own.lt b hb).1
  have hb7 : Below (w.heap.size + 1) wc w7 := ⟨hg.os, hg.tape, hg.output, Nat.le_trans (by have := h.bg.lt; omega) hg.size, fun i hi => hg.block i (by have := h.bg.lt; omega) (fun e => by have := hlt i e.symm; omega)⟩
  have h7 : Below w.heap.size w w7 := h.bg.bel.trans (hb7.mono (by omega))
  have hgb : w7.heap[w.heap.size]? = some (.cells #[.int .i64 (V : Int), .slice a n cap] 24 (0, 0)) := by rw [hb7.block _ (by omega)]; exact h.bg.gb
  have hne2 : v2.ownBlock ≠ some gx := owns_ne ho hx (by decide)
  have hts : es.take (k + 1) = es.take k ++ [es.getD k (0, 0)] := by
    rw [List.take_add_one]
    simp [List.getD, hk]
  refine ⟨hx, ⟨⟨h7.setCell (p := ⟨gx, 1, none⟩) (by show w.heap.size ≤ gx; omega) _, by rw [Below.heap_setCell _ _ _ _ (by show w.heap.size ≠ gx; omega)]; exact hgb⟩, ?_, ?_⟩⟩
  · simp [World.setCell, Array.getElem?_modify, hx]
  · have e : ecells (toI (turnE (es.take (k + 1)))) = ecells (toI (turnE (es.take k))) ++ [.int .i64 ((es.getD k (0, 0)).2 : Int), .int .i64 ((es.getD k (0, 0)).1 : Int)] := by
      rw [hts]
      simp [turnE, toI, ecells]
    rw [e]
    exact owns_keep ho fun g hg' => Below.heap_setCell _ _ _ _ fun e' => hne2 (by rw [hg']; exact congrArg some e')
end Go.Proofs.YtefagplbpbkpgaaDoor
/-
  The walk of the statement AngleMirrors where the rotation is one that is told. Conditions: the graph and the lists lie in memory as told; what the others answer is told.
-/
namespace Go.Proofs.YtefagplbpbkpgaaDoor
open Go.RowKit
set_option linter.unusedVariables false
set_option maxRecDepth 20000
set_option maxHeartbeats 16000000 in
theorem am_walk (w : World) (hT : pt.Tab w) (V : Nat) (a : Option Addr) (n cap : Nat) (es : List (Nat × Nat)) (hE : Es 0 w a n (toI es)) (hne : es.length = n) (hn128 : n ≤ 128) (ra : Option Addr) (m rc : Nat) (q : List (List Nat)) (hr : Rr w ra m (rowsI q)) (hq : Rq w ra m (rowsI q)) (hg : ¬ GreatP 40 n m (rowsI q)) (b1 b2 : Bool)
    (hm1 : m ≤ 1000) (hl1 : ∀ k, k < m → (q.getD k []).length ≤ 1000) (hlt : ∀ k, k < m → ∀ h ∈ q.getD k [], h < 256)
    (hod : ∀ u, Below w.heap.size w u → Calls Tryd.prog 9 #[.agg #[.int .i64 V, .slice a n cap], .slice ra m rc] u fun e w' => e = .returned (.bool false) ∧ Below u.heap.size u w')
    (ha : ∀ u, Below w.heap.size w u → Calls Tryd.prog 14 #[.agg #[.int .i64 V, .slice a n cap], .slice ra m rc] u fun e w' => (∃ x y, e = .returned (.tuple #[x, y, .bool b1])) ∧ Below u.heap.size u w')
    (hm : ∀ u sa sc, Below w.heap.size w u → Rr u sa m ((rowsI q).map List.reverse) → Calls Tryd.prog 14 #[.agg #[.int .i64 V, .slice a n cap], .slice sa m sc] u fun e w' => (∃ x y, e = .returned (.tuple #[x, y, .bool b1])) ∧ Below u.heap.size u w')
    (ht : ∀ u xa xc ta tc, Below w.heap.size w u → Es 0 u xa n (toI (turnE es)) → (xa = none → n = 0 ∧ xc = 0) → Rr u ta m (rowsI (turnQ q)) → Calls Tryd.prog 14 #[.agg #[.int .i64 V, .slice xa n xc], .slice ta m tc] u fun e w' => (∃ x y, e = .returned (.tuple #[x, y, .bool b1])) ∧ Below u.heap.size u w')
    (hb : ∀ u, Below w.heap.size w u → Calls Tryd.prog 10 #[.agg #[.int .i64 V, .slice a n cap], .slice ra m rc] u fun e w' => e = .returned (.bool b2) ∧ Below u.heap.size u w')
    (hbt : ∀ u xa xc ta tc, Below w.heap.size w u → Es 0 u xa n (toI (turnE es)) → (xa = none → n = 0 ∧ xc = 0) → Rr u ta m (rowsI (turnQ q)) → Calls Tryd.prog 10 #[.agg #[.int .i64 V, .slice xa n xc], .slice ta m tc] u fun e w' => e = .returned (.bool b2) ∧ Below u.heap.size u w') :
    Calls Tryd.prog 5 #[.agg #[.int .i64 V, .slice a n cap], .slice ra m rc] w fun e w' => e = .returned (.bool true) ∧ Below w.heap.size w w' := by
  have HRQ := hide hq
  have HRR := hide hr
  have HES := hide hE
  have HNE := hide hne
  have HG := hide hg
  have HB0 := hide (Bg.start w (.int .i64 V) (.slice a n cap))
  have HSP := hide (speaks_any _ (hT.below (unhide HB0).bel))
  have HO := hide hod
  have HA := hide ha
  have HM := hide hm
  have HTT := hide ht
  have HBI := hide hb
  have HBT := hide hbt
  have HL1 := hide hl1
  have HLT := hide hlt
  have HMI := hide (fun (u : World) (hu : Below w.heap.size w u) => mirror_any u ra m rc (rowsI q) (hr.below hu) hm1 (fun k hk => by rw [rowsI_getD, toIs_length]; exact hl1 k hk))
  have tb1 : (b1 == b1) = true := by simp
  have tb2 : (b2 == b2) = true := by simp
  obtain ⟨i0, hi0, hz0, hz1, hz2⟩ := info_parts info54
  have HI := hide hi0
  have HZ0 := hide hz0
  have HZ1 := hide hz1
  have HZ2 := hide hz2
  obtain ⟨j0, hj0, hy0, hy1, hy2⟩ := info_parts info28
  have HJ := hide hj0
  have HY0 := hide hy0
  have HY1 := hide hy1
  have HY2 := hide hy2
  obtain ⟨k0, hk0, hx0, hx1, hx2⟩ := info_parts info3
  have HK := hide hk0
  have HX0 := hide hx0
  have HX1 := hide hx1
  have HX2 := hide hx2
  clear hq hr hE hne hg hT hod ha hm ht hb hbt hl1 hlt hi0 hz0 hz1 hz2 hj0 hy0 hy1 hy2 hk0 hx0 hx1 hx2
  go_enter Tryd.func5, Tryd.ntmps5
  go_wp2_with fail
  refine (unhide HSP).mono ?_
  rintro e w1 ⟨rfl, hb1⟩
  have HB1 := hide ((unhide HB0).step hb1)
  obtain ⟨g0, g1⟩ := (unhide HB1).cells
  clear hb1 HB0 HSP
  go_wp2_with fail
  refine (great_any w1 V a n cap ra m rc _ ((unhide HRQ).below (unhide HB1).bel) 40 (by decide)).mono ?_
  rintro e w2 ⟨⟨r, rfl, hr⟩, hb2⟩
  have hrt : r = false := by
    cases r with
    | false => rfl
    | true => exact absurd (hr.1 rfl) (unhide HG)
  subst hrt
  have HB2 := hide ((unhide HB1).step hb2)
  clear hb2 HB1 g0 g1 hr HRQ HG
  obtain ⟨g0, g1⟩ := (unhide HB2).cells
  go_wp2_with fail
  refine (unhide HO w2 (unhide HB2).bel).mono ?_
  rintro e w3 ⟨rfl, hb3⟩
  have HB3 := hide ((unhide HB2).step hb3)
  clear hb3 HB2 g0 g1 HO
  obtain ⟨g0, g1⟩ := (unhide HB3).cells
  go_wp2_with fail
  refine (unhide HA w3 (unhide HB3).bel).mono ?_
  rintro e w4 ⟨⟨x4, y4, rfl⟩, hb4⟩
  have HB4 := hide ((unhide HB3).step hb4)
  clear hb4 HB3 g0 g1 HA
  obtain ⟨g0, g1⟩ := (unhide HB4).cells
  go_upto_region 6 with fail
  have XD := hide ((unhide HB4).step b_dr)
  refine wp_region_held_drew (S := fun u => u.cell? ⟨w.heap.size, 0, none⟩ = some (.int .i64 (V : Int)) ∧ u.cell? ⟨w.heap.size, 1, none⟩ = some (.slice a n cap)) (by kernel_rfl) (unhide XD).cells (fun hS => ?_)
  generalize w4.drew = wd at XD hS ⊢
  clear g0 g1 HB4
  refine wpAnyH_take (i := 0) (v := ?_) rfl (by kernel_rfl) (by kernel_rfl) (by kernel_rfl) (fun _ _ _ h => h) (Or.inl ⟨by rfl, ?_⟩) hS ?_
  rotate_left
  · intro u hu; (try dsimp only at hu); go_simp; try with_reducible rfl
  simp only [Act.put, List.getElem_toArray, List.getElem_cons_zero, List.setIfInBounds_toArray, List.set_cons_zero, List.set_cons_succ]
  refine wpAnyH_take (i := 1) (v := ?_) rfl (by kernel_rfl) (by kernel_rfl) (by kernel_rfl) (fun _ _ _ h => h) (Or.inl ⟨by rfl, ?_⟩) hS ?_
  rotate_left
  · intro u hu; (try dsimp only at hu); go_simp; try with_reducible rfl
  simp only [Act.put, List.getElem_toArray, List.getElem_cons_zero, List.getElem_cons_succ, List.setIfInBounds_toArray, List.set_cons_zero, List.set_cons_succ]
  refine wpAnyH_ready (rs := [2]) (by kernel_rfl) (by simp) ?_
  refine AllReadyH.cons rfl (fun K hK => ?_) AllReadyH.nil
  go_simp
  go_wp2_with (go_at_call 18; refine (unhide HMI _ (unhide XD).bel).mono ?_; rintro e w5 ⟨⟨sa, sc, rfl, hrs⟩, hb5⟩; have X5 := hide ((unhide XD).step hb5); have HC5 := hide (unhide HM w5 sa sc (unhide X5).bel hrs); clear hb5 hrs)
  refine hK.out _ _ (unhide X5).cells (fun hS2 => ?_)
  clear hK K hS XD HMI
  refine wpAnyH_ready (rs := [3]) (by kernel_rfl) (by simp) ?_
  refine AllReadyH.cons rfl (fun K hK => ?_) AllReadyH.nil
  go_simp
  go_wp2_with (go_at_call 14; refine (unhide HC5).mono ?_; rintro e w6 ⟨⟨x6, y6, rfl⟩, hb6⟩; have X6 := hide ((unhide X5).step hb6); clear hb6)
  refine hK.out _ _ (unhide X6).cells (fun hS3 => ?_)
  clear hK K hS2 HC5 X5 HM
  refine wpAnyH_take (i := 4) (v := ?_) rfl (by kernel_rfl) (by kernel_rfl) (by kernel_rfl) (fun _ _ _ h => h) (Or.inl ⟨by rfl, ?_⟩) hS3 ?_
  rotate_left
  · intro u hu; (try dsimp only at hu); go_simp; try with_reducible rfl
  simp only [Act.put, List.getElem_toArray, List.getElem_cons_zero, List.getElem_cons_succ, List.setIfInBounds_toArray, List.set_cons_zero, List.set_cons_succ]
  refine wpAnyH_take (i := 5) (v := ?_) rfl (by kernel_rfl) (by kernel_rfl) (by kernel_rfl) (fun _ _ _ h => h) (Or.inl ⟨by rfl, ?_⟩) hS3 ?_
  rotate_left
  · intro u hu; (try dsimp only at hu); go_simp; try with_reducible rfl
  simp only [Act.put, List.getElem_toArray, List.getElem_cons_zero, List.getElem_cons_succ, List.setIfInBounds_toArray, List.set_cons_zero, List.set_cons_succ]
  refine wpAnyH_take (i := 6) (v := ?_) rfl (by kernel_rfl) (by kernel_rfl) (by kernel_rfl) (fun _ _ _ h => h) (Or.inl ⟨by rfl, ?_⟩) hS3 ?_
  rotate_left
  · intro u hu; (try dsimp only at hu); go_simp; try with_reducible rfl
  simp only [Act.put, List.getElem_toArray, List.getElem_cons_zero, List.getElem_cons_succ, List.setIfInBounds_toArray, List.set_cons_zero, List.set_cons_succ]
  refine wpAnyH_take (i := 7) (v := ?_) rfl (by kernel_rfl) (by kernel_rfl) (by kernel_rfl) (fun _ _ _ h => h) (Or.inl ⟨by rfl, ?_⟩) hS3 ?_
  rotate_left
  · intro u hu; (try dsimp only at hu); go_simp; try with_reducible rfl
  simp only [Act.put, List.getElem_toArray, List.getElem_cons_zero, List.getElem_cons_succ, List.setIfInBounds_toArray, List.set_cons_zero, List.set_cons_succ]
  refine wpAnyH_take (i := 8) (v := ?_) rfl (by kernel_rfl) (by kernel_rfl) (by kernel_rfl) (fun _ _ _ h => h) (Or.inl ⟨by rfl, ?_⟩) hS3 ?_
  rotate_left
  · intro u hu; (try dsimp only at hu); go_simp; try with_reducible rfl
  simp only [Act.put, List.getElem_toArray, List.getElem_cons_zero, List.getElem_cons_succ, List.setIfInBounds_toArray, List.set_cons_zero, List.set_cons_succ]
  refine wpAnyH_take (i := 9) (v := ?_) rfl (by kernel_rfl) (by kernel_rfl) (by kernel_rfl) (fun _ _ _ h => h) (Or.inl ⟨by rfl, ?_⟩) hS3 ?_
  rotate_left
  · intro u hu; (try dsimp only at hu); go_simp; try with_reducible rfl
  simp only [Act.put, List.getElem_toArray, List.getElem_cons_zero, List.getElem_cons_succ, List.setIfInBounds_toArray, List.set_cons_zero, List.set_cons_succ]
  refine wpAnyH_take (i := 10) (v := ?_) rfl (by kernel_rfl) (by kernel_rfl) (by kernel_rfl) (fun _ _ _ h => h) (Or.inl ⟨by rfl, ?_⟩) hS3 ?_
  rotate_left
  · intro u hu; (try dsimp only at hu); go_simp; try with_reducible rfl
  simp only [Act.put, List.getElem_toArray, List.getElem_cons_zero, List.getElem_cons_succ, List.setIfInBounds_toArray, List.set_cons_zero, List.set_cons_succ]
  refine wpAnyH_done (by kernel_rfl) ?_ _
  clear hS3
  obtain ⟨g0, g1⟩ := (unhide X6).cells
  have hgx : w.heap.size < w6.heap.size := (unhide X6).lt
  have HX0' := hide (show Xg w (w6.alloc (.cells #[.int .i64 (V : Int), .slice none 0 0] 24)) V a n cap w6.heap.size es 0 (.slice none 0 0) from ⟨(unhide X6).step (b_al _), at_new _ _ _, World.ownsRow_nil _ _ _ _⟩)
  go_upto_region 8 with fail
  obtain ⟨wX, hwX⟩ : ∃ wX, w6.alloc (.cells #[.int .i64 (V : Int), .slice none 0 0] 24) = wX := ⟨_, rfl⟩
  rw [hwX] at HX0' ⊢
  obtain ⟨gx, hgxe⟩ : ∃ g, w6.heap.size = g := ⟨_, rfl⟩
  rw [hgxe] at HX0' hgx ⊢
  clear hwX hgxe X6 g0 g1
  obtain ⟨g0, g1⟩ := (unhide HX0').bg.cells
  go_wp2_with fail
  clear g0 g1
  go_loopw [54] (fun i wr => ∃ (k : Nat) (v : Value), i = .int .i64 k ∧ k ≤ n ∧ Hid (Xg w wr V a n cap gx es k v)) (fun i wr => n - (intOf i).toNat)
  case atStart => exact ⟨0, _, rfl, by omega, HX0'⟩
  case round =>
    clear HX0'
    obtain ⟨k, v, rfl, hk, HX⟩ := hrel
    by_cases hkn : k < n
    · have hkn2 : (k : Int) < (n : Int) := by omega
      have hkL : k < es.length := by rw [unhide HNE]; exact hkn
      obtain ⟨ga, oa, hae, _, hga, c0, c1⟩ := ((unhide HES).below (unhide HX).bg.bel).2.2 k hkn
      rw [toI_getD] at c0 c1
      subst hae
      dsimp only at c0 c1
      obtain ⟨p1, hp1⟩ : ∃ p1, (es.getD k (0, 0)).1 = p1 := ⟨_, rfl⟩
      obtain ⟨p2, hp2⟩ : ∃ p2, (es.getD k (0, 0)).2 = p2 := ⟨_, rfl⟩
      rw [hp1] at c0
      rw [hp2] at c1
      have HPU := hide (fun (wc w7 : World) (v2 : Value) (h : Xg w wc V (some ⟨ga, oa, none⟩) n cap gx es k v) (ho : w7.ownsRow gx 47 2 v2 (k + 1) (ecells (toI (turnE (es.take k))) ++ [.int .i64 (p2 : Int), .int .i64 (p1 : Int)])) (hg : wc.grownBy w7 v.ownBlock) => h.push hgx hkL (by rw [hp1, hp2]; exact ho) hg)
      obtain ⟨wb, hwb⟩ : ∃ wb, wr.alloc (.cells #[.int .i64 (p1 : Int), .int .i64 (p2 : Int)] 47) = wb := ⟨_, rfl⟩
      obtain ⟨gb, hgb⟩ : ∃ gb, wr.heap.size = gb := ⟨_, rfl⟩
      have HXB := hide (show Xg w wb V (some ⟨ga, oa, none⟩) n cap gx es k v by rw [← hwb]; exact (unhide HX).step (b_al _))
      have hbc := two_cells wr (.int .i64 (p1 : Int)) (.int .i64 (p2 : Int)) 47
      rw [hwb, hgb] at hbc
      have HWB := hide hwb
      have HGB := hide hgb
      obtain ⟨d0, d1⟩ := hbc
      clear hp1 hp2 hwb hgb hkL
      go_upto_region 11 with fail
      rw [unhide HWB, unhide HGB]
      obtain ⟨e0, e1⟩ := (unhide HXB).cell
      have ef := (unhide HXB).fz 1
      clear HX c0 c1 hga HWB HGB
      go_wp2_with (at_builtin; refine wpList_append_own_at _ rfl (.tmp 59) (.tmp 65) 22 rfl gx 47 i0 (.agg #[.int .i64 0, .int .i64 0]) 2 16 Tryd.underlying22 (unhide HI) (unhide HZ0) (unhide HZ1) (unhide HZ2) rfl (by decide) v k (ecells (toI (turnE (es.take k)))) rfl ((unhide HXB).own.alloc _) ⟨wb.heap.size, 0, none⟩ 1 1 [.int .i64 (p2 : Int), .int .i64 (p1 : Int)] rfl rfl (two_at _ _ _ _) (one2' _ _) ?a3 ?a4 ?a5 ?_)
      case a3 => unfold maxLen; omega
      case a4 => omega
      case a5 => have := (Array.getElem?_eq_some_iff.1 (unhide HXB).box).1; first | omega | (simp; omega)
      intro v2 w7 hown7 hg7 _ hob
      obtain ⟨a2, c2, rfl⟩ := owns_slice hown7
      obtain ⟨hbx, hxn⟩ := unhide HPU _ w7 _ ((unhide HXB).step (b_al _)) hown7 hg7
      have HXN := hide hxn
      obtain ⟨f0, f1⟩ := box2' hbx
      have ff : w7.frozen? ⟨gx, 1, none⟩ = false := by simp [World.frozen?, hbx]
      clear hown7 hg7 hob hbx hxn d0 d1 e0 e1 ef HXB HPU
      go_wp2_with fail
      go_roundw
      case rel => exact ⟨k + 1, _, by go_num, by omega, HXN⟩
      case measure => simp [intOf]; omega
    · obtain rfl : k = n := by omega
      obtain ⟨wy, hwy⟩ : ∃ wy, wy = wr := ⟨wr, rfl⟩
      subst hwy
      obtain ⟨xa, xc, rfl, hnone⟩ := owns_slice2 (unhide HX).own
      have hown := (unhide HX).own
      rw [show es.take k = es by rw [List.take_of_length_le]; rw [unhide HNE]; exact Nat.le_refl _] at hown
      obtain ⟨xa', xc', hxe, hesx⟩ := es_of_owns hown (by omega)
      cases hxe
      have HEX := hide (hesx.mono (Nat.zero_le _))
      have HNO := hide hnone
      have HOZ0 := hide (Oz.start wy)
      obtain ⟨ms, hms⟩ : ∃ ms, rowsI (turnQ q) = ms := ⟨_, rfl⟩
      have hqm : q.length = m := by have := (unhide HRR).1; rwa [rowsI_length] at this
      have hml : ms.length = m := by rw [← hms, rowsI_length]; simpa [turnQ] using hqm
      have HMSG := hide (fun t => show ms.getD t [] = toIs ((q.getD t []).map oth) from by rw [← hms, rowsI_getD, turnQ_getD])
      have HML := hide hml
      have HTT' := hide (unhide HTT)
      rw [hms] at HTT' HBT
      have hsy := (unhide HX).bg.bel.size
      clear hown hesx hnone hms hqm hml HTT HES HNE
      go_wp2_with fail
      go_loopw [14, 72] (fun v14 i wr => ∃ (t : Nat) (R : Nat → Value), i = .int .i64 t ∧ t ≤ m ∧ Hid (Oz wy wr v14 R (ms.take t))) (fun v14 i wr => m - (intOf i).toNat)
      case atStart => exact ⟨0, _, rfl, by omega, HOZ0⟩
      case round =>
        clear HOZ0
        obtain ⟨t, R, rfl, ht, HOZ⟩ := hrel
        obtain ⟨wx, hwx⟩ : ∃ wx, wx = wr := ⟨wr, rfl⟩
        subst hwx
        have HBX := hide ((unhide HX).bg.bel.trans ((unhide HOZ).bel.mono hsy))
        by_cases htm : t < m
        · have htm2 : (t : Int) < (m : Int) := by omega
          obtain ⟨gt, ot, lt, lct, hgt, hgts, ct, hlct, hlt⟩ := ((unhide HRR).below (unhide HBX)).2.2 t htm
          subst hgt
          rw [rowsI_getD, toIs_length] at ct hlct hlt
          have hl2 := unhide HL1 t htm
          have hl3 := unhide HLT t htm
          have htl : (ms.take t).length = t := by rw [List.length_take, unhide HML]; omega
          have hsn := take_snoc (rs := ms) (t := t) (by rw [unhide HML]; exact htm)
          rw [unhide HMSG] at hsn
          have HTL := hide htl
          have HSN := hide hsn
          obtain ⟨l, hl⟩ : ∃ l, q.getD t [] = l := ⟨_, rfl⟩
          rw [hl] at ct hlct hlt hl2 hl3 HSN
          obtain ⟨len, hlen⟩ : ∃ len, l.length = len := ⟨_, rfl⟩
          rw [hlen] at ct hlct hlt hl2
          have HLEN := hide hlen
          have HLL := hide hlt
          have HL3 := hide hl3
          obtain ⟨lo, hlo⟩ : ∃ lo, l.map oth = lo := ⟨_, rfl⟩
          rw [hlo] at HSN
          have HLO := hide hlo
          have hlol : lo.length = len := by rw [← hlo, List.length_map, hlen]
          have HLOL := hide hlol
          have HOM := hide (show (wx.alloc (.cells #[] 3)).ownsRow wx.heap.size 3 1 (.slice (some ⟨wx.heap.size, 0, none⟩) 0 0) 0 (zcells (toIs (lo.take 0))) from owns_lit_empty wx 3 1 _ (Nat.le_refl _))
          have HBM := hide (b_al (w := wx) (.cells #[] 3))
          clear htl hsn hl hlen hlt hl3 hgts hlct hlo hlol
          go_wp2_with fail
          go_loopw [17, 79] (fun v17 i wr => ∃ (j : Nat), i = .int .i64 j ∧ j ≤ len ∧ Hid (wr.ownsRow wx.heap.size 3 1 v17 j (zcells (toIs (lo.take j)))) ∧ Hid (Below wx.heap.size wx wr)) (fun v17 i wr => len - (intOf i).toNat)
          case atStart => exact ⟨0, rfl, by omega, HOM, HBM⟩
          case round =>
            clear HOM HBM
            obtain ⟨j, rfl, hj, HOM, HBM⟩ := hrel
            by_cases hjl : j < len
            · have hjl2 : (j : Int) < (len : Int) := by omega
              obtain ⟨gl, ol, hla, hgl, c1⟩ := ((unhide HLL).below (unhide HBM)).2.2 j hjl
              subst hla
              rw [toIs_getD] at c1
              have hjL : j < l.length := by rw [unhide HLEN]; exact hjl
              obtain ⟨h, hh⟩ : ∃ h, l.getD j 0 = h := ⟨_, rfl⟩
              have hh256 : h < 256 := by rw [← hh]; exact unhide HL3 _ (getD_mem hjL)
              have HTK := hide (show lo.take (j + 1) = lo.take j ++ [oth h] by
                rw [List.take_add_one, ← hh, ← unhide HLO]
                simp [List.getD, hjL])
              rw [hh] at c1
              have hX := xor_oth h hh256
              have hsx := (unhide HBM).size
              clear hh hjL hgl
              go_wp2_with (at_builtin; refine wpList_append_own _ rfl (.tmp 83) (.tmp 86) 37 rfl wx.heap.size 3 k0 (.int .i64 0) 1 8 Tryd.underlying37 (unhide HK) (unhide HX0) (unhide HX1) (unhide HX2) rfl (by decide) u17 j _ rfl ((unhide HOM).alloc _) ⟨wr.heap.size, 0, none⟩ 1 1 [.int .i64 ((oth h : Nat) : Int)] rfl rfl (cell_one_new _ _ _) (one_i _) ?a3 ?a4 ?a5 ?_)
              case a3 => unfold maxLen; omega
              case a4 => omega
              case a5 => first | omega | (simp; omega)
              intro v2 w7 hown7 hg7 _
              have HON := hide (show w7.ownsRow wx.heap.size 3 1 v2 (j + 1) (zcells (toIs (lo.take (j + 1)))) by
                rw [unhide HTK]
                have e : zcells (toIs (lo.take j ++ [oth h])) = zcells (toIs (lo.take j)) ++ [.int .i64 ((oth h : Nat) : Int)] := by simp [zcells, toIs]
                rw [e]
                exact hown7)
              have HBN := hide (show Below wx.heap.size wx w7 from ((unhide HBM).trans ((b_al (w := wr) _).mono hsx)).grown hg7 (by simp; omega) fun b hb => ((unhide HOM).lt b hb).1)
              clear hown7 hg7 c1
              go_wp2_with fail
              go_roundw
              case rel => exact ⟨j + 1, by go_num, by omega, HON, HBN⟩
              case measure => simp [intOf]; omega
            · obtain rfl : j = len := by omega
              have hsx := (unhide HBM).size
              have hsz := (unhide HOZ).bel.size
              obtain ⟨a5, c5, rfl⟩ := owns_slice (unhide HOM)
              have HOL := hide ((unhide HOZ).step (unhide HBM))
              have HOWN := hide (show wr.ownsRow wy.heap.size 37 1 u14 t ((List.range t).map R) by have := (unhide HOL).own; rwa [unhide HTL] at this)
              have HOF := hide (show wr.ownsRow wx.heap.size 3 1 (.slice a5 j c5) j (zcells (toIs lo)) by
                have := unhide HOM
                rwa [show lo.take j = lo by rw [List.take_of_length_le]; rw [unhide HLOL]; exact Nat.le_refl _] at this)
              go_wp2_with (at_builtin; refine wpList_append_own _ rfl (.tmp 89) (.tmp 91) 44 rfl wy.heap.size 37 j0 (.slice none 0 0) 1 24 Tryd.underlying44 (unhide HJ) (unhide HY0) (unhide HY1) (unhide HY2) rfl (by decide) u14 t _ rfl ((unhide HOWN).alloc _) ⟨wr.heap.size, 0, none⟩ 1 1 [.slice a5 j c5] rfl rfl (cell_one_new _ _ _) (one_s _ _ _) ?a3 ?a4 ?a5 ?_)
              case a3 => unfold maxLen; omega
              case a4 => omega
              case a5 => first | omega | (simp; omega)
              intro v9 w9 ho9 hg9 _
              have hp9 := ((unhide HOL).step (b_al (.cells #[.slice a5 j c5] 37))).push (x := toIs lo) (show (wr.alloc _).ownsRow wy.heap.size 3 1 (.slice a5 j c5) (toIs lo).length (zcells (toIs lo)) by rw [toIs_length, unhide HLOL]; exact owns_mono (owns_below (unhide HOF) (b_al _)) hsz) (by rw [unhide HTL]; exact ho9) hg9
              rw [← unhide HSN] at hp9
              have HP9 := hide hp9
              clear hp9 ho9 hg9
              go_wp2_with fail
              go_roundw
              case rel => exact ⟨t + 1, _, by go_num, by omega, HP9⟩
              case measure => simp [intOf]; omega
        · obtain rfl : t = m := by omega
          have htk : ms.take t = ms := by rw [List.take_of_length_le]; rw [unhide HML]; exact Nat.le_refl _
          have hrd := (unhide HOZ).read (by rw [htk, unhide HML]; exact hm1) (fun j hj => by
            rw [htk, unhide HML] at hj
            rw [htk, unhide HMSG, toIs_length, List.length_map]
            exact unhide HL1 j hj)
          rw [htk, unhide HML] at hrd
          obtain ⟨ta, tc, rfl, _, hrd⟩ := hrd
          have HRD := hide hrd
          have XX := hide ((unhide HX).step (unhide HOZ).bel)
          have HEX2 := hide ((unhide HEX).below (unhide HOZ).bel)
          have HC := hide (unhide HTT' wx xa xc ta tc (unhide HBX) (unhide HEX2) (unhide HNO) hrd)
          clear hrd htk HTT' HOZ HX HEX
          obtain ⟨e0, e1⟩ := (unhide XX).cell
          go_wp2_with fail
          refine (unhide HC).mono ?_
          rintro e w10 ⟨⟨x10, y10, rfl⟩, hb10⟩
          have X10 := hide ((unhide XX).step hb10)
          have HRD10 := hide ((unhide HRD).below hb10)
          have HEX10 := hide ((unhide HEX2).below hb10)
          clear hb10 XX HRD HEX2 HC e0 e1 HBX
          go_upto_region 26 with fail
          have YD := hide ((unhide X10).step (b_dr (w := w10)))
          have HRD11 := hide ((unhide HRD10).below (b_dr (w := w10)))
          have HEX11 := hide ((unhide HEX10).below (b_dr (w := w10)))
          refine wp_region_held_drew (S := fun u => (u.cell? ⟨w.heap.size, 0, none⟩ = some (.int .i64 (V : Int)) ∧ u.cell? ⟨w.heap.size, 1, none⟩ = some (.slice a k cap)) ∧ u.cell? ⟨gx, 0, none⟩ = some (.int .i64 (V : Int)) ∧ u.cell? ⟨gx, 1, none⟩ = some (.slice xa k xc)) (by kernel_rfl) ⟨(unhide YD).bg.cells, (unhide YD).cell⟩ (fun hS => ?_)
          generalize w10.drew = we at YD HRD11 HEX11 hS ⊢
          clear X10 HRD10 HEX10
          refine wpAnyH_take (i := 0) (v := ?_) rfl (by kernel_rfl) (by kernel_rfl) (by kernel_rfl) (fun _ _ _ h => h) (Or.inl ⟨by rfl, ?_⟩) hS ?_
          rotate_left
          · intro u hu; (try dsimp only at hu); go_simp; try with_reducible rfl
          simp only [Act.put, List.getElem_toArray, List.getElem_cons_zero, List.setIfInBounds_toArray, List.set_cons_zero, List.set_cons_succ]
          refine wpAnyH_take (i := 1) (v := ?_) rfl (by kernel_rfl) (by kernel_rfl) (by kernel_rfl) (fun _ _ _ h => h) (Or.inl ⟨by rfl, ?_⟩) hS ?_
          rotate_left
          · intro u hu; (try dsimp only at hu); go_simp; try with_reducible rfl
          simp only [Act.put, List.getElem_toArray, List.getElem_cons_zero, List.getElem_cons_succ, List.setIfInBounds_toArray, List.set_cons_zero, List.set_cons_succ]
          refine wpAnyH_take (i := 2) (v := ?_) rfl (by kernel_rfl) (by kernel_rfl) (by kernel_rfl) (fun _ _ _ h => h) (Or.inl ⟨by rfl, ?_⟩) hS ?_
          rotate_left
          · intro u hu; (try dsimp only at hu); go_simp; try with_reducible rfl
          simp only [Act.put, List.getElem_toArray, List.getElem_cons_zero, List.getElem_cons_succ, List.setIfInBounds_toArray, List.set_cons_zero, List.set_cons_succ]
          refine wpAnyH_take (i := 3) (v := ?_) rfl (by kernel_rfl) (by kernel_rfl) (by kernel_rfl) (fun _ _ _ h => h) (Or.inl ⟨by rfl, ?_⟩) hS ?_
          rotate_left
          · intro u hu; (try dsimp only at hu); go_simp; try with_reducible rfl
          simp only [Act.put, List.getElem_toArray, List.getElem_cons_zero, List.getElem_cons_succ, List.setIfInBounds_toArray, List.set_cons_zero, List.set_cons_succ]
          refine wpAnyH_take (i := 4) (v := ?_) rfl (by kernel_rfl) (by kernel_rfl) (by kernel_rfl) (fun _ _ _ h => h) (Or.inl ⟨by rfl, ?_⟩) hS ?_
          rotate_left
          · intro u hu; (try dsimp only at hu); go_simp; try with_reducible rfl
          simp only [Act.put, List.getElem_toArray, List.getElem_cons_zero, List.getElem_cons_succ, List.setIfInBounds_toArray, List.set_cons_zero, List.set_cons_succ]
          refine wpAnyH_take (i := 5) (v := ?_) rfl (by kernel_rfl) (by kernel_rfl) (by kernel_rfl) (fun _ _ _ h => h) (Or.inl ⟨by rfl, ?_⟩) hS ?_
          rotate_left
          · intro u hu; (try dsimp only at hu); go_simp; try with_reducible rfl
          simp only [Act.put, List.getElem_toArray, List.getElem_cons_zero, List.getElem_cons_succ, List.setIfInBounds_toArray, List.set_cons_zero, List.set_cons_succ]
          refine wpAnyH_take (i := 6) (v := ?_) rfl (by kernel_rfl) (by kernel_rfl) (by kernel_rfl) (fun _ _ _ h => h) (Or.inl ⟨by rfl, ?_⟩) hS ?_
          rotate_left
          · intro u hu; (try dsimp only at hu); go_simp; try with_reducible rfl
          simp only [Act.put, List.getElem_toArray, List.getElem_cons_zero, List.getElem_cons_succ, List.setIfInBounds_toArray, List.set_cons_zero, List.set_cons_succ]
          refine wpAnyH_take (i := 7) (v := ?_) rfl (by kernel_rfl) (by kernel_rfl) (by kernel_rfl) (fun _ _ _ h => h) (Or.inl ⟨by rfl, ?_⟩) hS ?_
          rotate_left
          · intro u hu; (try dsimp only at hu); go_simp; try with_reducible rfl
          simp only [Act.put, List.getElem_toArray, List.getElem_cons_zero, List.getElem_cons_succ, List.setIfInBounds_toArray, List.set_cons_zero, List.set_cons_succ]
          refine wpAnyH_take (i := 8) (v := ?_) rfl (by kernel_rfl) (by kernel_rfl) (by kernel_rfl) (fun _ _ _ h => h) (Or.inl ⟨by rfl, ?_⟩) hS ?_
          rotate_left
          · intro u hu; (try dsimp only at hu); go_simp; try with_reducible rfl
          simp only [Act.put, List.getElem_toArray, List.getElem_cons_zero, List.getElem_cons_succ, List.setIfInBounds_toArray, List.set_cons_zero, List.set_cons_succ]
          refine wpAnyH_take (i := 9) (v := ?_) rfl (by kernel_rfl) (by kernel_rfl) (by kernel_rfl) (fun _ _ _ h => h) (Or.inl ⟨by rfl, ?_⟩) hS ?_
          rotate_left
          · intro u hu; (try dsimp only at hu); go_simp; try with_reducible rfl
          simp only [Act.put, List.getElem_toArray, List.getElem_cons_zero, List.getElem_cons_succ, List.setIfInBounds_toArray, List.set_cons_zero, List.set_cons_succ]
          refine wpAnyH_take (i := 10) (v := ?_) rfl (by kernel_rfl) (by kernel_rfl) (by kernel_rfl) (fun _ _ _ h => h) (Or.inl ⟨by rfl, ?_⟩) hS ?_
          rotate_left
          · intro u hu; (try dsimp only at hu); go_simp; try with_reducible rfl
          simp only [Act.put, List.getElem_toArray, List.getElem_cons_zero, List.getElem_cons_succ, List.setIfInBounds_toArray, List.set_cons_zero, List.set_cons_succ]
          refine wpAnyH_take (i := 12) (v := ?_) rfl (by kernel_rfl) (by kernel_rfl) (by kernel_rfl) (fun _ _ _ h => h) (Or.inl ⟨by rfl, ?_⟩) hS ?_
          rotate_left
          · intro u hu; (try dsimp only at hu); go_simp; try with_reducible rfl
          simp only [Act.put, List.getElem_toArray, List.getElem_cons_zero, List.getElem_cons_succ, List.setIfInBounds_toArray, List.set_cons_zero, List.set_cons_succ]
          refine wpAnyH_take (i := 13) (v := ?_) rfl (by kernel_rfl) (by kernel_rfl) (by kernel_rfl) (fun _ _ _ h => h) (Or.inl ⟨by rfl, ?_⟩) hS ?_
          rotate_left
          · intro u hu; (try dsimp only at hu); go_simp; try with_reducible rfl
          simp only [Act.put, List.getElem_toArray, List.getElem_cons_zero, List.getElem_cons_succ, List.setIfInBounds_toArray, List.set_cons_zero, List.set_cons_succ]
          refine wpAnyH_ready (rs := [11]) (by kernel_rfl) (by simp) ?_
          refine AllReadyH.cons rfl (fun K hK => ?_) AllReadyH.nil
          go_simp
          go_wp2_with (go_at_call 10; refine (unhide HBI _ (unhide YD).bg.bel).mono ?_; rintro e w11 ⟨rfl, hb11⟩; have Y11 := hide ((unhide YD).step hb11); have HRD12 := hide ((unhide HRD11).below hb11); have HEX12 := hide ((unhide HEX11).below hb11); clear hb11)
          refine hK.out _ _ ⟨(unhide Y11).bg.cells, (unhide Y11).cell⟩ (fun hS2 => ?_)
          clear hK K hS HRD11 HEX11 YD HBI
          refine wpAnyH_ready (rs := [14]) (by kernel_rfl) (by simp) ?_
          refine AllReadyH.cons rfl (fun K hK => ?_) AllReadyH.nil
          go_simp
          go_wp2_with (go_at_call 10; refine (unhide HBT _ xa xc ta tc (unhide Y11).bg.bel (unhide HEX12) (unhide HNO) (unhide HRD12)).mono ?_; rintro e w12 ⟨rfl, hb12⟩; have Y12 := hide ((unhide Y11).step hb12); clear hb12)
          refine hK.out _ _ ⟨(unhide Y12).bg.cells, (unhide Y12).cell⟩ (fun hS3 => ?_)
          clear hK K hS2 HRD12 HEX12 Y11
          refine wpAnyH_take (i := 15) (v := ?_) rfl (by kernel_rfl) (by kernel_rfl) (by kernel_rfl) (fun _ _ _ h => h) (Or.inl ⟨by rfl, ?_⟩) hS3 ?_
          rotate_left
          · intro u hu; (try dsimp only at hu); go_simp; try with_reducible rfl
          simp only [Act.put, List.getElem_toArray, List.getElem_cons_zero, List.getElem_cons_succ, List.setIfInBounds_toArray, List.set_cons_zero, List.set_cons_succ]
          refine wpAnyH_take (i := 16) (v := ?_) rfl (by kernel_rfl) (by kernel_rfl) (by kernel_rfl) (fun _ _ _ h => h) (Or.inl ⟨by rfl, ?_⟩) hS3 ?_
          rotate_left
          · intro u hu; (try dsimp only at hu); go_simp; try with_reducible rfl
          simp only [Act.put, List.getElem_toArray, List.getElem_cons_zero, List.getElem_cons_succ, List.setIfInBounds_toArray, List.set_cons_zero, List.set_cons_succ]
          refine wpAnyH_take (i := 17) (v := ?_) rfl (by kernel_rfl) (by kernel_rfl) (by kernel_rfl) (fun _ _ _ h => h) (Or.inl ⟨by rfl, ?_⟩) hS3 ?_
          rotate_left
          · intro u hu; (try dsimp only at hu); go_simp; try with_reducible rfl
          simp only [Act.put, List.getElem_toArray, List.getElem_cons_zero, List.getElem_cons_succ, List.setIfInBounds_toArray, List.set_cons_zero, List.set_cons_succ]
          refine wpAnyH_done (by kernel_rfl) ?_ _
          have HBZ := hide (unhide Y12).bg.bel
          clear hS3 Y12
          go_wp2_with fail
          go_ret
          exact ⟨by first | rfl | simp, unhide HBZ⟩
end Go.Proofs.YtefagplbpbkpgaaDoor
/-
  The walk of the statement AngleMirrors, whole. Conditions: the graph and the lists lie in memory as told; the table of math/bits lies where it should.
-/
namespace Go.Proofs.YtefagplbpbkpgaaDoor
open Go.RowKit
set_option linter.unusedVariables false
set_option maxRecDepth 20000
theorem assign_told (w : World) (V : Nat) (a : Option Addr) (n cap : Nat) (es : List (Nat × Nat)) (ra : Option Addr) (m rc : Nat) (q : List (List Nat)) (N : Nat → Nat) (c g : Nat) (h : Gd w V a n cap es ra m rc q N c g) (hn : Nice V es c g) (F : Nat → Nat) (hF : IsFc (facesF N (2 * n) (2 * n)) (2 * n) F) :
    Calls Tryd.prog 14 #[.agg #[.int .i64 V, .slice a n cap], .slice ra m rc] w fun e w' => (∃ x y b, e = .returned (.tuple #[x, y, .bool b]) ∧ (b = true ↔ n = 0 ∨ Ok es (angI (pt.stV es) F N) (2 * n) V (facesF N (2 * n) (2 * n)).length)) ∧ Below w.heap.size w w' := by
  rcases Nat.eq_zero_or_pos n with h0 | h0
  · subst h0
    refine (assign_alone w V a cap es ra m rc q N c g h hn F hF).mono ?_
    rintro e w' ⟨⟨gq, rfl, _⟩, hb⟩
    exact ⟨⟨_, _, true, rfl, by simp⟩, hb⟩
  by_cases hB : Bim (angI (pt.stV es) F N) (2 * n) V
  · have hrm : ∀ f, f < (facesF N (2 * n) (2 * n)).length → 0 ≤ rmF (angI (pt.stV es) F N) (2 * n) f := by
      have hne := h.ne
      subst hne
      exact fun f hf => room_pos h.ro h.nx h.pm hF hn.2.2 hf
    refine (assign_yes w V a n cap es ra m rc q N c g h hn F hF hB h0 hrm).mono ?_
    rintro e w' ⟨hans, hb⟩
    rcases hans with ⟨outer, gG, gc, gr, rfl, h1, h2, h3, h4, h5, h6⟩ | ⟨rfl, hno⟩
    · exact ⟨⟨_, _, true, rfl, ⟨fun _ => .inr ⟨hB, outer, h1, gr, h4, h5⟩, fun _ => rfl⟩⟩, hb⟩
    · refine ⟨⟨_, _, false, rfl, ⟨(fun h => absurd h (by decide)), ?_⟩⟩, hb⟩
      rintro (h | ⟨_, o, ho, hf⟩)
      · omega
      · exact absurd hf (hno o ho)
  · refine (assign_notbim w V a n cap es ra m rc q N c g h hn F hF hB).mono ?_
    rintro e w' ⟨rfl, hb⟩
    refine ⟨⟨_, _, false, rfl, ⟨(fun h => absurd h (by decide)), ?_⟩⟩, hb⟩
    rintro (h | ⟨h, _⟩)
    · omega
    · exact absurd h hB
theorem assign_is {G : Prop} (b1 : Bool) (hb1 : b1 = true ↔ G) {e : Ending} (h : ∃ x y b, e = .returned (.tuple #[x, y, .bool b]) ∧ (b = true ↔ G)) : ∃ x y, e = .returned (.tuple #[x, y, .bool b1]) := by
  obtain ⟨x, y, b, rfl, hb⟩ := h
  have : b = b1 := by rw [Bool.eq_iff_iff, hb, hb1]
  rw [this]
  exact ⟨x, y, rfl⟩
theorem told_am {G : Prop} {e : Ending} (b : Bool) (hb : b = true ↔ G) (h : Told G e) : e = .returned (.bool b) := by
  obtain ⟨r, rfl, hr⟩ := h
  have : r = b := by
    rw [Bool.eq_iff_iff, hr, hb]
  rw [this]
theorem rowsI_rev' (q : List (List Nat)) : (rowsI q).map List.reverse = rowsI (q.map List.reverse) := by
  unfold rowsI
  rw [List.map_map, List.map_map]
  refine List.map_congr_left fun l _ => ?_
  simp [toIs]
theorem Gd.mir {w w' : World} {V : Nat} {a : Option Addr} {n cap : Nat} {es : List (Nat × Nat)} {ra : Option Addr} {m rc : Nat} {q : List (List Nat)} {N : Nat → Nat} {c g : Nat} (h : Gd w V a n cap es ra m rc q N c g) (hb : Below w.heap.size w w') {sa : Option Addr} {sc : Nat} (hs : Rr w' sa m ((rowsI q).map List.reverse)) : Gd w' V a n cap es sa m sc (q.map List.reverse) (pt.nxF es (q.map List.reverse)) c g := by
  have hne := h.ne
  subst hne
  rw [rowsI_rev'] at hs
  have ro' := h.ro.rev
  have hM := pt.nx_behind ro'
  refine ⟨h.tab.below hb, h.edges.below hb, h.hno, rfl, h.plain, hs, ro'.rot h.plain, ro', hM, h.cnt, ?_⟩
  have he := h.eul
  have hcy := (h.ro.mir h.nx hM (fun _ => true)).2
  have hemp : emp (q.map List.reverse) V = emp q V := by
    unfold emp
    congr 1
    refine List.filter_congr fun y _ => ?_
    exact decide_eq_decide.2 (pt.rev_emp q y)
  rw [hemp, ← hcy]
  exact he
theorem Gd.turn {w w' : World} {V : Nat} {a : Option Addr} {n cap : Nat} {es : List (Nat × Nat)} {ra : Option Addr} {m rc : Nat} {q : List (List Nat)} {N : Nat → Nat} {c g : Nat} (h : Gd w V a n cap es ra m rc q N c g) (hb : Below w.heap.size w w') {xa ta : Option Addr} {xc tc : Nat} (hx : Es 0 w' xa n (toI (turnE es))) (hxn : xa = none → n = 0 ∧ xc = 0) (ht : Rr w' ta m (rowsI (turnQ q))) : Gd w' V xa n xc (turnE es) ta m tc (turnQ q) (fun j => oth (N (oth j))) c g := by
  have hne := h.ne
  subst hne
  have ro' := turn_ro h.ro
  have hp' := turn_plain h.plain
  have hM := turn_behind h.nx
  have hrot := ro'.rot hp'
  rw [turnE_len] at hrot
  have hpm' := pt.nx_pm ro' hM
  rw [turnE_len] at hpm'
  refine ⟨h.tab.below hb, hx, hxn, turnE_len es, hp', ht, hrot, ro', hM, turn_cnt h.cnt, ?_⟩
  have he := h.eul
  rw [turn_emp, ← conj_cyc (fun j hj => oth_lt hj) h.pm hpm' (fun j _ => rfl)]
  exact he
theorem Nice.turn {V : Nat} {es : List (Nat × Nat)} {c g : Nat} (hp : pt.Plain V es) (h : Nice V es c g) : Nice V (turnE es) c g := ⟨h.1, h.2.1, turn_order hp h.2.2⟩
theorem pc_map {A A' : Nat → Nat → Nat} {H : Nat} {s : Nat → Nat} (pm : Pm s H) (v : ∀ t, t < H → A' (s t) 1 = A t 1) (h0 : ∀ t, t < H → (A' (s t) 3 = 0 ↔ A t 3 = 0)) (x : Nat) : pc A' H x = pc A H x := by
  have e := cn_perm pm (fun t => decide (A' t 3 = 0 ∧ A' t 1 = x))
  have e0 : pc A' H x = cn (fun t => decide (A' t 3 = 0 ∧ A' t 1 = x)) H := rfl
  rw [e0, ← e]
  show _ = cn (fun t => decide (A t 3 = 0 ∧ A t 1 = x)) H
  exact cn_congr fun t ht => decide_eq_decide.2 (by rw [h0 t ht, v t ht])
theorem turn_bim {V : Nat} {es : List (Nat × Nat)} {N F F' : Nat → Nat} : Bim (angI (pt.stV (turnE es)) F' (fun j => oth (N (oth j)))) (2 * es.length) V ↔ Bim (angI (pt.stV es) F N) (2 * es.length) V := by
  have key : ∀ x, pc (angI (pt.stV (turnE es)) F' (fun j => oth (N (oth j)))) (2 * es.length) x = pc (angI (pt.stV es) F N) (2 * es.length) x := pc_map (pm_oth es.length) (fun t _ => turn_st es t) fun t ht => by
    show knd (oth t) (oth (N (oth (oth (oth t))))) = 0 ↔ knd t (N (oth t)) = 0
    rw [oth_oth, knd0, knd0, oth_par, oth_par]
    omega
  unfold Bim
  exact forall_congr' fun x => by rw [key x]
set_option maxHeartbeats 4000000 in
theorem am_good (w : World) (V : Nat) (a : Option Addr) (n cap : Nat) (es : List (Nat × Nat)) (ra : Option Addr) (m rc : Nat) (q : List (List Nat)) (N : Nat → Nat) (c g : Nat) (h : Gd w V a n cap es ra m rc q N c g) (hq : Rq w ra m (rowsI q)) (hg : ¬ GreatP 40 n m (rowsI q)) (hn : Nice V es c g) :
    Calls Tryd.prog 5 #[.agg #[.int .i64 V, .slice a n cap], .slice ra m rc] w fun e w' => e = .returned (.bool true) ∧ Below w.heap.size w w' := by
  have hn40 : n ≤ 40 := Nat.le_of_not_lt fun h => hg (.inl h)
  have hm70 : m ≤ 70 := Nat.le_of_not_lt fun h => hg (.inr (.inl h))
  have hl200 : ∀ k, k < m → ((rowsI q).getD k []).length ≤ 200 := fun k hk => Nat.le_of_not_lt fun h => hg (.inr (.inr ⟨k, hk, h⟩))
  have hne := h.ne
  subst hne
  obtain ⟨F, hF⟩ := fc_ex h.pm
  have hroM := h.ro.rev
  have hM := pt.nx_behind hroM
  have hpmM := pt.nx_pm hroM hM
  obtain ⟨FM, hFM⟩ := fc_ex hpmM
  have hroT := turn_ro h.ro
  have hT := turn_behind h.nx
  have hpmT := pt.nx_pm hroT hT
  rw [turnE_len] at hpmT
  obtain ⟨FT, hFT⟩ := fc_ex hpmT
  have hev : ∀ j, j < 2 * es.length → oth j < 2 * es.length := fun j hj => oth_lt hj
  have hmir : Mir N (pt.nxF es (q.map List.reverse)) (2 * es.length) := mir_rev h.nx hM h.ro.cov
  have okM := (⟨mir_ok h.ro h.nx h.pm hF hpmM hFM hmir, mir_ok hroM hM hpmM hFM h.pm hF (hmir.sym hev h.pm)⟩ : _ ↔ _)
  have okT1 := turn_ok (es' := turnE es) h.ro h.pm hF hpmT hFT (fun j _ => rfl) (fun t _ => turn_st es t) (fun y _ => turn_end y)
  have okT2 := turn_ok (es := turnE es) (es' := es) (N := fun j => oth (N (oth j))) (M := N) (F := FT) (F' := F) (V := V) hroT (by rw [turnE_len]; exact hpmT) (by rw [turnE_len]; exact hFT) (by rw [turnE_len]; exact h.pm) (by rw [turnE_len]; exact hF) (fun j _ => by show N j = oth (oth (N (oth (oth j)))); rw [oth_oth, oth_oth]) (fun t _ => by rw [← turn_st es (oth t), oth_oth]) (fun y _ => (turn_end y).symm)
  rw [turnE_len] at okT2
  have okT := (⟨okT1, okT2⟩ : _ ↔ _)
  obtain ⟨b1, hb1⟩ : ∃ b1 : Bool, (b1 = true ↔ es.length = 0 ∨ Ok es (angI (pt.stV es) F N) (2 * es.length) V (facesF N (2 * es.length) (2 * es.length)).length) := by
    by_cases hB : es.length = 0 ∨ Ok es (angI (pt.stV es) F N) (2 * es.length) V (facesF N (2 * es.length) (2 * es.length)).length
    · exact ⟨true, fun _ => hB, fun _ => rfl⟩
    · exact ⟨false, (fun h => absurd h (by decide)), fun h => absurd h hB⟩
  obtain ⟨b2, hb2⟩ : ∃ b2 : Bool, (b2 = true ↔ Bim (angI (pt.stV es) F N) (2 * es.length) V) := by
    by_cases hB : Bim (angI (pt.stV es) F N) (2 * es.length) V
    · exact ⟨true, fun _ => hB, fun _ => rfl⟩
    · exact ⟨false, (fun h => absurd h (by decide)), fun h => absurd h hB⟩
  have hlq : ∀ k, k < m → (q.getD k []).length ≤ 200 := fun k hk => by have := hl200 k hk; rwa [rowsI_getD, toIs_length] at this
  have hmV := h.mV
  refine am_walk w h.tab V a es.length cap es h.edges rfl (by omega) ra m rc q h.rr hq hg b1 b2 (by omega) (fun k hk => by have := hlq k hk; omega) (fun k hk x hx => by have := h.ro.lt k (by omega) x hx; omega) (fun u hu => (odd_good u V a _ cap es ra m rc q N c g (h.below hu) (fun k hk => by have := hl200 k hk; omega)).mono fun e w' hh => ⟨told_am false (by simp [hn]) hh.1, hh.2⟩) ?_ ?_ ?_ ?_ ?_
  · exact fun u hu => (assign_told u V a _ cap es ra m rc q N c g (h.below hu) hn F hF).mono fun e w' hh => ⟨assign_is b1 hb1 hh.1, hh.2⟩
  · intro u sa sc hu hs
    exact (assign_told u V a _ cap es sa m sc _ _ c g (h.mir hu hs) hn FM hFM).mono fun e w' hh => ⟨assign_is b1 (hb1.trans (or_congr Iff.rfl okM)) hh.1, hh.2⟩
  · intro u xa xc ta tc hu hx hxn ht
    exact (assign_told u V xa _ xc (turnE es) ta m tc _ _ c g (h.turn hu hx hxn ht) (hn.turn h.plain) FT hFT).mono fun e w' hh => ⟨assign_is b1 (hb1.trans (or_congr Iff.rfl okT)) hh.1, hh.2⟩
  · exact fun u hu => (bim_yes u V a _ cap es ra m rc q N c g (h.below hu) hn F hF).mono fun e w' hh => ⟨told_am b2 hb2 hh.1, hh.2⟩
  · intro u xa xc ta tc hu hx hxn ht
    exact (bim_yes u V xa _ xc (turnE es) ta m tc _ _ c g (h.turn hu hx hxn ht) (hn.turn h.plain) FT hFT).mono fun e w' hh => ⟨told_am b2 (hb2.trans turn_bim.symm) hh.1, hh.2⟩
set_option maxHeartbeats 4000000 in
theorem am_great (w : World) (hT : pt.Tab w) (V : Int) (a : Option Addr) (n cap : Nat) (ra : Option Addr) (m rc : Nat) (rs : List (List Int)) (hr : Rq w ra m rs) (hg : GreatP 40 n m rs) :
    Calls Tryd.prog 5 #[.agg #[.int .i64 V, .slice a n cap], .slice ra m rc] w fun e w' => e = .returned (.bool true) ∧ Below w.heap.size w w' := by
  have HR := hide hr
  have HG := hide hg
  have HB0 := hide (Bg.start w (.int .i64 V) (.slice a n cap))
  have HSP := hide (speaks_any _ (hT.below (unhide HB0).bel))
  clear hr hg hT
  go_enter Tryd.func5, Tryd.ntmps5
  go_wp2_with fail
  refine (unhide HSP).mono ?_
  rintro e w1 ⟨rfl, hb1⟩
  have HB1 := hide ((unhide HB0).step hb1)
  obtain ⟨g0, g1⟩ := (unhide HB1).cells
  clear hb1 HB0 HSP
  go_wp2_with fail
  refine (great_any w1 V a n cap ra m rc rs ((unhide HR).below (unhide HB1).bel) 40 (by decide)).mono ?_
  rintro e w2 ⟨⟨r, rfl, hr⟩, hb2⟩
  have hrt : r = true := hr.2 (unhide HG)
  subst hrt
  have HB2 := hide ((unhide HB1).step hb2)
  clear hb2 HB1 g0 g1 hr
  go_wp2_with fail
  go_ret
  exact ⟨rfl, (unhide HB2).bel⟩
set_option maxHeartbeats 4000000 in
theorem am_odd (w : World) (hT : pt.Tab w) (V : Int) (a : Option Addr) (n cap : Nat) (ra : Option Addr) (m rc : Nat) (rs : List (List Int)) (hq : Rq w ra m rs) (hg : ¬ GreatP 40 n m rs)
    (ho : ∀ u, Below w.heap.size w u → Calls Tryd.prog 9 #[.agg #[.int .i64 V, .slice a n cap], .slice ra m rc] u fun e w' => e = .returned (.bool true) ∧ Below u.heap.size u w') :
    Calls Tryd.prog 5 #[.agg #[.int .i64 V, .slice a n cap], .slice ra m rc] w fun e w' => e = .returned (.bool true) ∧ Below w.heap.size w w' := by
  have HR := hide hq
  have HG := hide hg
  have HB0 := hide (Bg.start w (.int .i64 V) (.slice a n cap))
  have HSP := hide (speaks_any _ (hT.below (unhide HB0).bel))
  have HO := hide ho
  clear hq hg hT ho
  go_enter Tryd.func5, Tryd.ntmps5
  go_wp2_with fail
  refine (unhide HSP).mono ?_
  rintro e w1 ⟨rfl, hb1⟩
  have HB1 := hide ((unhide HB0).step hb1)
  obtain ⟨g0, g1⟩ := (unhide HB1).cells
  clear hb1 HB0 HSP
  go_wp2_with fail
  refine (great_any w1 V a n cap ra m rc rs ((unhide HR).below (unhide HB1).bel) 40 (by decide)).mono ?_
  rintro e w2 ⟨⟨r, rfl, hr⟩, hb2⟩
  have hrt : r = false := by
    cases r with
    | false => rfl
    | true => exact absurd (hr.1 rfl) (unhide HG)
  subst hrt
  have HB2 := hide ((unhide HB1).step hb2)
  clear hb2 HB1 g0 g1 hr
  obtain ⟨g0, g1⟩ := (unhide HB2).cells
  go_wp2_with fail
  refine (unhide HO w2 (unhide HB2).bel).mono ?_
  rintro e w3 ⟨rfl, hb3⟩
  have HB3 := hide ((unhide HB2).step hb3)
  clear hb3 HB2 g0 g1 HO
  go_wp2_with fail
  go_ret
  exact ⟨by first | rfl | simp, (unhide HB3).bel⟩
theorem am_any (w : World) (hT : pt.Tab w) (V : Int) (a : Option Addr) (n cap : Nat) (zs : List (Int × Int)) (h : 200 < n ∨ Es 0 w a n zs) (hno : a = none → n = 0 ∧ cap = 0) (ra : Option Addr) (m rc : Nat) (rs : List (List Int)) (hq : Rq w ra m rs) :
    Calls Tryd.prog 5 #[.agg #[.int .i64 V, .slice a n cap], .slice ra m rc] w fun e w' => e = .returned (.bool true) ∧ Below w.heap.size w w' := by
  by_cases hg : GreatP 40 n m rs
  · exact am_great w hT V a n cap ra m rc rs hq hg
  have hn40 : n ≤ 40 := Nat.le_of_not_lt fun h => hg (.inl h)
  have hm70 : m ≤ 70 := Nat.le_of_not_lt fun h => hg (.inr (.inl h))
  have hl200 : ∀ k, k < m → (rs.getD k []).length ≤ 200 := fun k hk => Nat.le_of_not_lt fun h => hg (.inr (.inr ⟨k, hk, h⟩))
  have hE : Es 0 w a n zs := h.resolve_left (by omega)
  have hr : Rr w ra m rs := hq.rr (by omega) fun k hk => by have := hl200 k hk; omega
  by_cases hrot : IsRot V n zs rs
  · obtain ⟨v, es, rfl, rfl, hne, hp⟩ := pt.plain_of_good hE.1 hrot.good
    subst hne
    obtain ⟨q, rfl, ro⟩ := pt.ro_of hp hrot
    obtain ⟨c, hc⟩ := pt.cnt_ex v es
    obtain ⟨g, hgg⟩ := pt.euler ro (pt.nx_behind ro) (pt.nx_pm ro (pt.nx_behind ro)) hc
    have gd : Gd w v a es.length cap es ra m rc q (pt.nxF es q) c g := ⟨hT, hE, hno, rfl, hp, hr, hrot, ro, pt.nx_behind ro, hc, hgg⟩
    by_cases hnice : Nice v es c g
    · exact am_good w v a _ cap es ra m rc q _ c g gd hq hg hnice
    · refine am_odd w hT v a _ cap ra m rc _ hq hg fun u hu => (odd_good u v a _ cap es ra m rc q _ c g (gd.below hu) (fun k hk => by have := hl200 k hk; omega)).mono fun e w' hh => ⟨told_am true (by simp [hnice]) hh.1, hh.2⟩
  · exact am_odd w hT V a n cap ra m rc rs hq hg fun u hu => odd_bad u V a n cap zs (hE.below hu) ra m rc rs (hr.below hu) (fun k hk => by have := hl200 k hk; omega) (by omega) hrot
end Go.Proofs.YtefagplbpbkpgaaDoor

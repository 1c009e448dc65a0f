/-
  The contract of the document's Try: all choices are tried. Conditions: what stands in memory is as told.
-/
import Derived.Test.YtefagplbpbkpgaaDoorJ12
import Derived.Test.YtefagplbpbkpgaaDoorJ13
import Derived.Test.YtefagplbpbkpgaaDoorJ19
import Derived.Test.YtefagplbpbkpgaaDoorJ15
namespace Go.Proofs.YtefagplbpbkpgaaDoor
open Go.RowKit
set_option linter.unusedVariables false
set_option maxRecDepth 20000
/-- can those of a list have angles, so that each face has as many as it must? -/
def TryL (A : Nat → Nat → Nat) (H K : Nat) : List Nat → (Nat → Int) → Prop
  | [], rm => ∀ f, f < K → rm f = 0
  | x :: l, rm => ∃ i, i < H ∧ A i 1 = x ∧ 0 < rm (A i 2) ∧ TryL A H K l (upd rm (A i 2) (rm (A i 2) - 1))
section
variable (w0 : World) (gr : Nat) (la : Option Addr) (H lc : Nat) (ea : Option Addr) (m ec : Nat) (K rc : Nat) (A : Nat → Nat → Nat) (E : List Nat)
structure Tc : Prop where
  ang : As w0 la H A
  ends : Ns w0 ea m (toIs E)
  r0 : w0.heap.size ≤ gr
  a2 : ∀ h, h < H → A h 2 < K
  len : E.length = m
  m64 : m ≤ 128
  k256 : K ≤ 256
/-- what Try answers, and that it puts back what it took -/
def TryC (r : Nat) : Prop := ∀ (w : World) (at' : Nat) (rm : Nat → Int), at' + r = m → Below w0.heap.size w0 w → RowZ w gr K rm → (∀ f, f < K → -1 ≤ rm f ∧ rm f ≤ 1000) →
  Calls Tryd.prog 33 #[.slice la H lc, .slice ea m ec, .int .i64 (at' : Nat), .slice (some ⟨gr, 0, none⟩) K rc] w fun e w' => Told (TryL A H K (E.drop at') rm) e ∧ RowZ w' gr K rm ∧ But gr w w' ∧ Below w0.heap.size w0 w'
end
section
variable {w0 : World} {gr : Nat} {la : Option Addr} {H lc : Nat} {ea : Option Addr} {m ec : Nat} {K rc : Nat} {A : Nat → Nat → Nat} {E : List Nat}
set_option maxHeartbeats 4000000 in
theorem try_zero (tc : Tc w0 gr la H ea m K A E) : TryC w0 gr la H lc ea m ec K rc A E 0 := by
  intro w at' rm hat hb hr hrm
  have HT := hide tc
  have hk256 := tc.k256
  have HB := hide hb
  have HR := hide hr
  have HAT := hide (show E.drop at' = [] by rw [List.drop_eq_nil_iff, tc.len]; omega)
  obtain rfl : at' = m := by omega
  have t0 : ((at' : Int) == (at' : Int)) = true := by simp
  clear tc hb hr hat
  have HZ0 := hide (show ∀ f, f < 0 → rm f = 0 from fun f hf => by omega)
  go_enter Tryd.func33, Tryd.ntmps33
  go_wp2_with fail
  go_loopw [9] (fun i wr => ∃ k : Nat, i = .int .i64 k ∧ k ≤ K ∧ Hid (∀ f, f < k → rm f = 0) ∧ wr = w) (fun i wr => K - (intOf i).toNat)
  case atStart => exact ⟨0, rfl, by omega, HZ0, rfl⟩
  case round =>
    clear HZ0
    obtain ⟨k, rfl, hk, HZ, rfl⟩ := hrel
    by_cases hkK : k < K
    · have hkK2 : (k : Int) < (K : Int) := by omega
      have r0 := (unhide HR).cell hkK
      obtain ⟨z, hz⟩ : ∃ z, rm k = z := ⟨_, rfl⟩
      rw [hz] at r0
      have HZZ := hide hz
      clear hz
      by_cases h0 : z = 0
      · subst h0
        have HZ1 := hide (show ∀ f, f < k + 1 → rm f = 0 from fun f hf => by
          rcases Nat.lt_or_ge f k with h | h
          · exact unhide HZ f h
          · obtain rfl : f = k := by omega
            exact unhide HZZ)
        go_wp2_with fail
        go_roundw
        case rel => exact ⟨k + 1, by go_num, by omega, HZ1, (by first | rfl | trivial)⟩
        case measure => simp [intOf]; omega
      · have h1 : (z != 0) = true := by simp; exact h0
        have HNO := hide (show ¬ TryL A H K (E.drop at') rm from fun h => by
          rw [unhide HAT] at h
          exact h0 ((unhide HZZ).symm.trans (h k hkK)))
        go_wp2_with fail
        go_ret
        exact ⟨Told.no (unhide HNO), unhide HR, But.refl _ _, unhide HB⟩
    · obtain rfl : k = K := by omega
      have HYES := hide (show TryL A H k (E.drop at') rm from by rw [unhide HAT]; exact unhide HZ)
      go_wp2_with fail
      go_ret
      exact ⟨Told.yes (unhide HYES), unhide HR, But.refl _ _, unhide HB⟩
set_option maxHeartbeats 8000000 in
theorem try_step (tc : Tc w0 gr la H ea m K A E) (r : Nat) (ih : TryC w0 gr la H lc ea m ec K rc A E r) : TryC w0 gr la H lc ea m ec K rc A E (r + 1) := by
  intro w at' rm hat hb hr hrm
  have HT := hide tc
  have hk256 := tc.k256
  have h256 := tc.ang.1
  have hm64 := tc.m64
  have HB := hide hb
  have HR := hide hr
  have HRM := hide hrm
  have HIH := hide ih
  have hatm : at' < m := by omega
  have hatm2 : (at' : Int) < (m : Int) := by omega
  have t0 : ((at' : Int) == (m : Int)) = false := by rw [beq_eq_false_iff_ne]; omega
  obtain ⟨ge, oe, hea, hge, c0⟩ := tc.ends.2.2 at' hatm
  subst hea
  rw [toIs_getD] at c0
  obtain ⟨x, hx⟩ : ∃ x, E.getD at' 0 = x := ⟨_, rfl⟩
  rw [hx] at c0
  have HD := hide (show E.drop at' = x :: E.drop (at' + 1) by
    have hl : at' < E.length := by rw [tc.len]; exact hatm
    rw [List.drop_eq_getElem_cons hl, ← hx]
    simp [List.getD, hl])
  have HAT := hide (show at' + 1 + r = m by omega)
  have hgr := tc.r0
  have HNT := hide (show ∀ i, i < 0 → ¬ (A i 1 = x ∧ 0 < rm (A i 2) ∧ TryL A H K (E.drop (at' + 1)) (upd rm (A i 2) (rm (A i 2) - 1))) from fun i hi => by omega)
  have HBU := hide (But.refl gr w)
  have hwa : IntKind.i64.wrap ((at' : Int) + 1) = (at' : Int) + 1 := by rw [IntKind.wrap_i64]; omega
  have HCE := hide (fun (u : World) (hu : Below w0.heap.size w0 u) => show u.cell? ⟨ge, oe + at', none⟩ = some (.int .i64 (x : Nat)) from by rw [hu.cell (p := ⟨ge, oe + at', none⟩) hge]; exact c0)
  clear tc hb hr hat hrm ih hx c0
  go_enter Tryd.func33, Tryd.ntmps33
  go_wp2_with fail
  go_loopw [10] (fun i wr => ∃ k : Nat, i = .int .i64 k ∧ k ≤ H ∧ Hid (RowZ wr gr K rm) ∧ Hid (But gr w wr) ∧ Hid (Below w0.heap.size w0 wr) ∧ Hid (∀ i, i < k → ¬ (A i 1 = x ∧ 0 < rm (A i 2) ∧ TryL A H K (E.drop (at' + 1)) (upd rm (A i 2) (rm (A i 2) - 1))))) (fun i wr => H - (intOf i).toNat)
  case atStart => exact ⟨0, rfl, by omega, HR, HBU, HB, HNT⟩
  case round =>
    clear HR HBU HB HNT
    obtain ⟨k, rfl, hk, HR, HBU, HB, HNT⟩ := hrel
    by_cases hkH : k < H
    · have hkH2 : (k : Int) < (H : Int) := by omega
      have hf := (unhide HT).a2 k hkH
      obtain ⟨ga, oa, ha, hga, q0, q1, q2, q3⟩ := ((unhide HT).ang.below (unhide HB)).2 k hkH
      have hgaw : ga < w0.heap.size := by
        obtain ⟨ga', oa', ha', hga', _⟩ := (unhide HT).ang.2 k hkH
        rw [ha'] at ha
        cases ha
        exact hga'
      subst ha
      have e0 := unhide HCE wr (unhide HB)
      obtain ⟨y, hy⟩ : ∃ y, A k 1 = y := ⟨_, rfl⟩
      obtain ⟨f, hfe⟩ : ∃ f, A k 2 = f := ⟨_, rfl⟩
      rw [hy] at q1
      rw [hfe] at q2 hf
      have HY := hide hy
      have HF := hide hfe
      have r0 := (unhide HR).cell hf
      obtain ⟨z, hz⟩ : ∃ z, rm f = z := ⟨_, rfl⟩
      have hzb := unhide HRM f hf
      rw [hz] at r0 hzb
      have HZ := hide hz
      have hneg : ¬ ga = gr := by omega
      have hnee : ¬ ge = gr := by omega
      clear hy hfe hz q0 q3
      have XR := hide (Row.keep (unhide HR) (w' := wr.drew) rfl)
      have XB := hide ((unhide HBU).trans (But.of (b_dr (w := wr)) (by have := (unhide HR).lt; omega)))
      have XW := hide (show Below w0.heap.size w0 wr.drew from (unhide HB).drew)
      by_cases hxy : y = x
      · subst hxy
        have t1 : ((y : Int) != (y : Int)) = false := by simp
        by_cases hpos : 0 < z
        · have hp2 : ¬ z ≤ 0 := by omega
          have hW1 : IntKind.i64.wrap (z - 1) = z - 1 := by rw [IntKind.wrap_i64]; omega
          have hW2 : IntKind.i64.wrap (z - 1 + 1) = z := by rw [IntKind.wrap_i64]; omega
          go_upto_region 11 with fail
          refine wp_region_held_drew (S := fun u => u.cell? ⟨ga, oa + k * 4 + 1, none⟩ = some (.int .i64 (y : Nat)) ∧ u.cell? ⟨ga, oa + k * 4 + 2, none⟩ = some (.int .i64 (f : Nat)) ∧ u.cell? ⟨ge, oe + at', none⟩ = some (.int .i64 (y : Nat)) ∧ u.cell? ⟨gr, f, none⟩ = some (.int .i64 z)) (by kernel_rfl) ⟨q1, q2, e0, r0⟩ (fun hS => ?_)
          generalize wr.drew = wd at XR XB XW hS ⊢
          clear q1 q2 e0 r0 hga HR HBU HB
          refine wpAnyH_take (i := 0) (v := ?_) rfl (by kernel_rfl) (by kernel_rfl) (by kernel_rfl) (fun _ _ _ h => h) (Or.inl ⟨by rfl, ?_⟩) hS ?_
          rotate_left
          · intro u hu; (try dsimp only at hu); go_simp; try with_reducible rfl
          simp only [Act.put, List.getElem_toArray, List.getElem_cons_zero, List.setIfInBounds_toArray, List.set_cons_zero, List.set_cons_succ]
          refine wpAnyH_take (i := 1) (v := ?_) rfl (by kernel_rfl) (by kernel_rfl) (by kernel_rfl) (fun _ _ _ h => h) (Or.inl ⟨by rfl, ?_⟩) hS ?_
          rotate_left
          · intro u hu; (try dsimp only at hu); go_simp; try with_reducible rfl
          simp only [Act.put, List.getElem_toArray, List.getElem_cons_zero, List.getElem_cons_succ, List.setIfInBounds_toArray, List.set_cons_zero, List.set_cons_succ]
          refine wpAnyH_take (i := 2) (v := ?_) rfl (by kernel_rfl) (by kernel_rfl) (by kernel_rfl) (fun _ _ _ h => h) (Or.inl ⟨by rfl, ?_⟩) hS ?_
          rotate_left
          · intro u hu; (try dsimp only at hu); go_simp; try with_reducible rfl
          simp only [Act.put, List.getElem_toArray, List.getElem_cons_zero, List.getElem_cons_succ, List.setIfInBounds_toArray, List.set_cons_zero, List.set_cons_succ]
          refine wpAnyH_take (i := 3) (v := ?_) rfl (by kernel_rfl) (by kernel_rfl) (by kernel_rfl) (fun _ _ _ h => h) (Or.inl ⟨by rfl, ?_⟩) hS ?_
          rotate_left
          · intro u hu; (try dsimp only at hu); go_simp; try with_reducible rfl
          simp only [Act.put, List.getElem_toArray, List.getElem_cons_zero, List.getElem_cons_succ, List.setIfInBounds_toArray, List.set_cons_zero, List.set_cons_succ]
          refine wpAnyH_take (i := 4) (v := ?_) rfl (by kernel_rfl) (by kernel_rfl) (by kernel_rfl) (fun _ _ _ h => h) (Or.inl ⟨by rfl, ?_⟩) hS ?_
          rotate_left
          · intro u hu; (try dsimp only at hu); go_simp; try with_reducible rfl
          simp only [Act.put, List.getElem_toArray, List.getElem_cons_zero, List.getElem_cons_succ, List.setIfInBounds_toArray, List.set_cons_zero, List.set_cons_succ]
          refine wpAnyH_take (i := 5) (v := ?_) rfl (by kernel_rfl) (by kernel_rfl) (by kernel_rfl) (fun _ _ _ h => h) (Or.inl ⟨by rfl, ?_⟩) hS ?_
          rotate_left
          · intro u hu; (try dsimp only at hu); go_simp; try with_reducible rfl
          simp only [Act.put, List.getElem_toArray, List.getElem_cons_zero, List.getElem_cons_succ, List.setIfInBounds_toArray, List.set_cons_zero, List.set_cons_succ]
          refine wpAnyH_take (i := 6) (v := ?_) rfl (by kernel_rfl) (by kernel_rfl) (by kernel_rfl) (fun _ _ _ h => h) (Or.inl ⟨by rfl, ?_⟩) hS ?_
          rotate_left
          · intro u hu; (try dsimp only at hu); go_simp; try with_reducible rfl
          simp only [Act.put, List.getElem_toArray, List.getElem_cons_zero, List.getElem_cons_succ, List.setIfInBounds_toArray, List.set_cons_zero, List.set_cons_succ]
          refine wpAnyH_take (i := 7) (v := ?_) rfl (by kernel_rfl) (by kernel_rfl) (by kernel_rfl) (fun _ _ _ h => h) (Or.inl ⟨by rfl, ?_⟩) hS ?_
          rotate_left
          · intro u hu; (try dsimp only at hu); go_simp; try with_reducible rfl
          simp only [Act.put, List.getElem_toArray, List.getElem_cons_zero, List.getElem_cons_succ, List.setIfInBounds_toArray, List.set_cons_zero, List.set_cons_succ]
          refine wpAnyH_take (i := 8) (v := ?_) rfl (by kernel_rfl) (by kernel_rfl) (by kernel_rfl) (fun _ _ _ h => h) (Or.inl ⟨by rfl, ?_⟩) hS ?_
          rotate_left
          · intro u hu; (try dsimp only at hu); go_simp; try with_reducible rfl
          simp only [Act.put, List.getElem_toArray, List.getElem_cons_zero, List.getElem_cons_succ, List.setIfInBounds_toArray, List.set_cons_zero, List.set_cons_succ]
          refine wpAnyH_take (i := 9) (v := ?_) rfl (by kernel_rfl) (by kernel_rfl) (by kernel_rfl) (fun _ _ _ h => h) (Or.inl ⟨by rfl, ?_⟩) hS ?_
          rotate_left
          · intro u hu; (try dsimp only at hu); go_simp; try with_reducible rfl
          simp only [Act.put, List.getElem_toArray, List.getElem_cons_zero, List.getElem_cons_succ, List.setIfInBounds_toArray, List.set_cons_zero, List.set_cons_succ]
          refine wpAnyH_take (i := 10) (v := ?_) rfl (by kernel_rfl) (by kernel_rfl) (by kernel_rfl) (fun _ _ _ h => h) (Or.inl ⟨by rfl, ?_⟩) hS ?_
          rotate_left
          · intro u hu; (try dsimp only at hu); go_simp; try with_reducible rfl
          simp only [Act.put, List.getElem_toArray, List.getElem_cons_zero, List.getElem_cons_succ, List.setIfInBounds_toArray, List.set_cons_zero, List.set_cons_succ]
          refine wpAnyH_take (i := 11) (v := ?_) rfl (by kernel_rfl) (by kernel_rfl) (by kernel_rfl) (fun _ _ _ h => h) (Or.inl ⟨by rfl, ?_⟩) hS ?_
          rotate_left
          · intro u hu; (try dsimp only at hu); go_simp; try with_reducible rfl
          simp only [Act.put, List.getElem_toArray, List.getElem_cons_zero, List.getElem_cons_succ, List.setIfInBounds_toArray, List.set_cons_zero, List.set_cons_succ]
          refine wpAnyH_take (i := 12) (v := ?_) rfl (by kernel_rfl) (by kernel_rfl) (by kernel_rfl) (fun _ _ _ h => h) (Or.inl ⟨by rfl, ?_⟩) hS ?_
          rotate_left
          · intro u hu; (try dsimp only at hu); go_simp; try with_reducible rfl
          simp only [Act.put, List.getElem_toArray, List.getElem_cons_zero, List.getElem_cons_succ, List.setIfInBounds_toArray, List.set_cons_zero, List.set_cons_succ]
          refine wpAnyH_take (i := 13) (v := ?_) rfl (by kernel_rfl) (by kernel_rfl) (by kernel_rfl) (fun _ _ _ h => h) (Or.inl ⟨by rfl, ?_⟩) hS ?_
          rotate_left
          · intro u hu; (try dsimp only at hu); go_simp; try with_reducible rfl
          simp only [Act.put, List.getElem_toArray, List.getElem_cons_zero, List.getElem_cons_succ, List.setIfInBounds_toArray, List.set_cons_zero, List.set_cons_succ]
          refine wpAnyH_take (i := 14) (v := ?_) rfl (by kernel_rfl) (by kernel_rfl) (by kernel_rfl) (fun _ _ _ h => h) (Or.inl ⟨by rfl, ?_⟩) hS ?_
          rotate_left
          · intro u hu; (try dsimp only at hu); go_simp; try with_reducible rfl
          simp only [Act.put, List.getElem_toArray, List.getElem_cons_zero, List.getElem_cons_succ, List.setIfInBounds_toArray, List.set_cons_zero, List.set_cons_succ]
          refine wpAnyH_take (i := 15) (v := ?_) rfl (by kernel_rfl) (by kernel_rfl) (by kernel_rfl) (fun _ _ _ h => h) (Or.inl ⟨by rfl, ?_⟩) hS ?_
          rotate_left
          · intro u hu; (try dsimp only at hu); go_simp; try with_reducible rfl
          simp only [Act.put, List.getElem_toArray, List.getElem_cons_zero, List.getElem_cons_succ, List.setIfInBounds_toArray, List.set_cons_zero, List.set_cons_succ]
          refine wpAnyH_take (i := 16) (v := ?_) rfl (by kernel_rfl) (by kernel_rfl) (by kernel_rfl) (fun _ _ _ h => h) (Or.inl ⟨by rfl, ?_⟩) hS ?_
          rotate_left
          · intro u hu; (try dsimp only at hu); go_simp; try with_reducible rfl
          simp only [Act.put, List.getElem_toArray, List.getElem_cons_zero, List.getElem_cons_succ, List.setIfInBounds_toArray, List.set_cons_zero, List.set_cons_succ]
          refine wpAnyH_take (i := 17) (v := ?_) rfl (by kernel_rfl) (by kernel_rfl) (by kernel_rfl) (fun _ _ _ h => h) (Or.inl ⟨by rfl, ?_⟩) hS ?_
          rotate_left
          · intro u hu; (try dsimp only at hu); go_simp; try with_reducible rfl
          simp only [Act.put, List.getElem_toArray, List.getElem_cons_zero, List.getElem_cons_succ, List.setIfInBounds_toArray, List.set_cons_zero, List.set_cons_succ]
          refine wpAnyH_take (i := 18) (v := ?_) rfl (by kernel_rfl) (by kernel_rfl) (by kernel_rfl) (fun _ _ _ h => h) (Or.inl ⟨by rfl, ?_⟩) hS ?_
          rotate_left
          · intro u hu; (try dsimp only at hu); go_simp; try with_reducible rfl
          simp only [Act.put, List.getElem_toArray, List.getElem_cons_zero, List.getElem_cons_succ, List.setIfInBounds_toArray, List.set_cons_zero, List.set_cons_succ]
          refine wpAnyH_take (i := 19) (v := ?_) rfl (by kernel_rfl) (by kernel_rfl) (by kernel_rfl) (fun _ _ _ h => h) (Or.inl ⟨by rfl, ?_⟩) hS ?_
          rotate_left
          · intro u hu; (try dsimp only at hu); go_simp; try with_reducible rfl
          simp only [Act.put, List.getElem_toArray, List.getElem_cons_zero, List.getElem_cons_succ, List.setIfInBounds_toArray, List.set_cons_zero, List.set_cons_succ]
          refine wpAnyH_take (i := 20) (v := ?_) rfl (by kernel_rfl) (by kernel_rfl) (by kernel_rfl) (fun _ _ _ h => h) (Or.inl ⟨by rfl, ?_⟩) hS ?_
          rotate_left
          · intro u hu; (try dsimp only at hu); go_simp; try with_reducible rfl
          simp only [Act.put, List.getElem_toArray, List.getElem_cons_zero, List.getElem_cons_succ, List.setIfInBounds_toArray, List.set_cons_zero, List.set_cons_succ]
          refine wpAnyH_done (by kernel_rfl) ?_ _
          obtain ⟨s1, s2, s3, s4⟩ := hS
          have sf := (unhide XR).fz f
          have YR := hide (show RowZ (wd.setCell ⟨gr, f, none⟩ (.int .i64 (z - 1))) gr K (upd rm f (z - 1)) from RowZ.set (unhide XR) f (z - 1))
          have YB := hide ((unhide XB).trans (But.set f (.int .i64 (z - 1))))
          have YW := hide ((unhide XW).setCell (p := ⟨gr, f, none⟩) hgr (.int .i64 (z - 1)))
          obtain ⟨we, hwe⟩ : ∃ we, wd.setCell ⟨gr, f, none⟩ (.int .i64 (z - 1)) = we := ⟨_, rfl⟩
          rw [hwe] at YR YB YW
          have HWE := hide hwe
          have HCALL := hide (unhide HIH we (at' + 1) (upd rm f (z - 1)) (unhide HAT) (unhide YW) (unhide YR) (fun g hg => by
            unfold upd
            split
            · omega
            · exact unhide HRM g hg))
          clear hwe XR XB XW
          go_wp2_with fail
          rw [unhide HWE]
          refine (unhide HCALL).mono ?_
          rintro e w4 ⟨⟨b, rfl, hb⟩, hr4, hb4, hw4⟩
          have ZR := hide hr4
          have ZB := hide ((unhide YB).trans hb4)
          have ZW := hide hw4
          have HBB := hide hb
          have z1 : w4.cell? ⟨ga, oa + k * 4 + 2, none⟩ = some (.int .i64 (f : Nat)) := by
            obtain ⟨ga2, oa2, ha2, _, _, _, p2, _⟩ := ((unhide HT).ang.below hw4).2 k hkH
            cases ha2
            rw [unhide HF] at p2
            exact p2
          have z2 : w4.cell? ⟨gr, f, none⟩ = some (.int .i64 (z - 1)) := by rw [hr4.cell hf, upd_same]
          have z3 := hr4.fz f
          have ZR2 := hide (show RowZ (w4.setCell ⟨gr, f, none⟩ (.int .i64 z)) gr K rm from (RowZ.set hr4 f z).congr fun t ht => by
            unfold upd
            by_cases e : t = f
            · subst e; rw [if_pos rfl, unhide HZ]
            · rw [if_neg e, if_neg e])
          have ZB2 := hide ((unhide ZB).trans (But.set f (.int .i64 z)))
          have ZW2 := hide (hw4.setCell (p := ⟨gr, f, none⟩) hgr (.int .i64 z))
          clear hr4 hb4 hw4 hb s1 s2 s3 s4 sf YR YB YW HCALL HWE
          cases b with
          | true =>
            have HYES := hide (show TryL A H K (E.drop at') rm from by
              rw [unhide HD]
              refine ⟨k, hkH, unhide HY, by rw [unhide HF, unhide HZ]; exact hpos, ?_⟩
              rw [unhide HF, unhide HZ]
              exact (unhide HBB).1 rfl)
            go_wp2_with fail
            go_ret
            exact ⟨Told.yes (unhide HYES), unhide ZR2, unhide ZB2, unhide ZW2⟩
          | false =>
            have HN1 := hide (show ∀ i, i < k + 1 → ¬ (A i 1 = y ∧ 0 < rm (A i 2) ∧ TryL A H K (E.drop (at' + 1)) (upd rm (A i 2) (rm (A i 2) - 1))) from fun i hi => by
              rcases Nat.lt_or_ge i k with h | h
              · exact unhide HNT i h
              · obtain rfl : i = k := by omega
                rintro ⟨_, _, h3⟩
                rw [unhide HF, unhide HZ] at h3
                have := (unhide HBB).2 h3
                cases this)
            go_wp2_with fail
            go_roundw
            case rel => exact ⟨k + 1, by go_num, by omega, ZR2, ZB2, ZW2, HN1⟩
            case measure => simp [intOf]; omega
        · have hp2 : z ≤ 0 := by omega
          have HN1 := hide (show ∀ i, i < k + 1 → ¬ (A i 1 = y ∧ 0 < rm (A i 2) ∧ TryL A H K (E.drop (at' + 1)) (upd rm (A i 2) (rm (A i 2) - 1))) from fun i hi => by
            rcases Nat.lt_or_ge i k with h | h
            · exact unhide HNT i h
            · obtain rfl : i = k := by omega
              rintro ⟨_, h2, _⟩
              rw [unhide HF, unhide HZ] at h2
              exact hpos h2)
          go_upto_region 11 with fail
          refine wp_region_held_drew (S := fun u => u.cell? ⟨ga, oa + k * 4 + 1, none⟩ = some (.int .i64 (y : Nat)) ∧ u.cell? ⟨ga, oa + k * 4 + 2, none⟩ = some (.int .i64 (f : Nat)) ∧ u.cell? ⟨ge, oe + at', none⟩ = some (.int .i64 (y : Nat)) ∧ u.cell? ⟨gr, f, none⟩ = some (.int .i64 z)) (by kernel_rfl) ⟨q1, q2, e0, r0⟩ (fun hS => ?_)
          generalize wr.drew = wd at XR XB XW hS ⊢
          clear q1 q2 e0 r0 hga HR HBU HB
          refine wpAnyH_take (i := 0) (v := ?_) rfl (by kernel_rfl) (by kernel_rfl) (by kernel_rfl) (fun _ _ _ h => h) (Or.inl ⟨by rfl, ?_⟩) hS ?_
          rotate_left
          · intro u hu; (try dsimp only at hu); go_simp; try with_reducible rfl
          simp only [Act.put, List.getElem_toArray, List.getElem_cons_zero, List.setIfInBounds_toArray, List.set_cons_zero, List.set_cons_succ]
          refine wpAnyH_take (i := 1) (v := ?_) rfl (by kernel_rfl) (by kernel_rfl) (by kernel_rfl) (fun _ _ _ h => h) (Or.inl ⟨by rfl, ?_⟩) hS ?_
          rotate_left
          · intro u hu; (try dsimp only at hu); go_simp; try with_reducible rfl
          simp only [Act.put, List.getElem_toArray, List.getElem_cons_zero, List.getElem_cons_succ, List.setIfInBounds_toArray, List.set_cons_zero, List.set_cons_succ]
          refine wpAnyH_take (i := 2) (v := ?_) rfl (by kernel_rfl) (by kernel_rfl) (by kernel_rfl) (fun _ _ _ h => h) (Or.inl ⟨by rfl, ?_⟩) hS ?_
          rotate_left
          · intro u hu; (try dsimp only at hu); go_simp; try with_reducible rfl
          simp only [Act.put, List.getElem_toArray, List.getElem_cons_zero, List.getElem_cons_succ, List.setIfInBounds_toArray, List.set_cons_zero, List.set_cons_succ]
          refine wpAnyH_take (i := 3) (v := ?_) rfl (by kernel_rfl) (by kernel_rfl) (by kernel_rfl) (fun _ _ _ h => h) (Or.inl ⟨by rfl, ?_⟩) hS ?_
          rotate_left
          · intro u hu; (try dsimp only at hu); go_simp; try with_reducible rfl
          simp only [Act.put, List.getElem_toArray, List.getElem_cons_zero, List.getElem_cons_succ, List.setIfInBounds_toArray, List.set_cons_zero, List.set_cons_succ]
          refine wpAnyH_take (i := 4) (v := ?_) rfl (by kernel_rfl) (by kernel_rfl) (by kernel_rfl) (fun _ _ _ h => h) (Or.inl ⟨by rfl, ?_⟩) hS ?_
          rotate_left
          · intro u hu; (try dsimp only at hu); go_simp; try with_reducible rfl
          simp only [Act.put, List.getElem_toArray, List.getElem_cons_zero, List.getElem_cons_succ, List.setIfInBounds_toArray, List.set_cons_zero, List.set_cons_succ]
          refine wpAnyH_take (i := 5) (v := ?_) rfl (by kernel_rfl) (by kernel_rfl) (by kernel_rfl) (fun _ _ _ h => h) (Or.inl ⟨by rfl, ?_⟩) hS ?_
          rotate_left
          · intro u hu; (try dsimp only at hu); go_simp; try with_reducible rfl
          simp only [Act.put, List.getElem_toArray, List.getElem_cons_zero, List.getElem_cons_succ, List.setIfInBounds_toArray, List.set_cons_zero, List.set_cons_succ]
          refine wpAnyH_take (i := 6) (v := ?_) rfl (by kernel_rfl) (by kernel_rfl) (by kernel_rfl) (fun _ _ _ h => h) (Or.inl ⟨by rfl, ?_⟩) hS ?_
          rotate_left
          · intro u hu; (try dsimp only at hu); go_simp; try with_reducible rfl
          simp only [Act.put, List.getElem_toArray, List.getElem_cons_zero, List.getElem_cons_succ, List.setIfInBounds_toArray, List.set_cons_zero, List.set_cons_succ]
          refine wpAnyH_take (i := 7) (v := ?_) rfl (by kernel_rfl) (by kernel_rfl) (by kernel_rfl) (fun _ _ _ h => h) (Or.inl ⟨by rfl, ?_⟩) hS ?_
          rotate_left
          · intro u hu; (try dsimp only at hu); go_simp; try with_reducible rfl
          simp only [Act.put, List.getElem_toArray, List.getElem_cons_zero, List.getElem_cons_succ, List.setIfInBounds_toArray, List.set_cons_zero, List.set_cons_succ]
          refine wpAnyH_take (i := 8) (v := ?_) rfl (by kernel_rfl) (by kernel_rfl) (by kernel_rfl) (fun _ _ _ h => h) (Or.inl ⟨by rfl, ?_⟩) hS ?_
          rotate_left
          · intro u hu; (try dsimp only at hu); go_simp; try with_reducible rfl
          simp only [Act.put, List.getElem_toArray, List.getElem_cons_zero, List.getElem_cons_succ, List.setIfInBounds_toArray, List.set_cons_zero, List.set_cons_succ]
          refine wpAnyH_take (i := 9) (v := ?_) rfl (by kernel_rfl) (by kernel_rfl) (by kernel_rfl) (fun _ _ _ h => h) (Or.inl ⟨by rfl, ?_⟩) hS ?_
          rotate_left
          · intro u hu; (try dsimp only at hu); go_simp; try with_reducible rfl
          simp only [Act.put, List.getElem_toArray, List.getElem_cons_zero, List.getElem_cons_succ, List.setIfInBounds_toArray, List.set_cons_zero, List.set_cons_succ]
          refine wpAnyH_take (i := 10) (v := ?_) rfl (by kernel_rfl) (by kernel_rfl) (by kernel_rfl) (fun _ _ _ h => h) (Or.inl ⟨by rfl, ?_⟩) hS ?_
          rotate_left
          · intro u hu; (try dsimp only at hu); go_simp; try with_reducible rfl
          simp only [Act.put, List.getElem_toArray, List.getElem_cons_zero, List.getElem_cons_succ, List.setIfInBounds_toArray, List.set_cons_zero, List.set_cons_succ]
          refine wpAnyH_take (i := 11) (v := ?_) rfl (by kernel_rfl) (by kernel_rfl) (by kernel_rfl) (fun _ _ _ h => h) (Or.inl ⟨by rfl, ?_⟩) hS ?_
          rotate_left
          · intro u hu; (try dsimp only at hu); go_simp; try with_reducible rfl
          simp only [Act.put, List.getElem_toArray, List.getElem_cons_zero, List.getElem_cons_succ, List.setIfInBounds_toArray, List.set_cons_zero, List.set_cons_succ]
          refine wpAnyH_take (i := 12) (v := ?_) rfl (by kernel_rfl) (by kernel_rfl) (by kernel_rfl) (fun _ _ _ h => h) (Or.inl ⟨by rfl, ?_⟩) hS ?_
          rotate_left
          · intro u hu; (try dsimp only at hu); go_simp; try with_reducible rfl
          simp only [Act.put, List.getElem_toArray, List.getElem_cons_zero, List.getElem_cons_succ, List.setIfInBounds_toArray, List.set_cons_zero, List.set_cons_succ]
          refine wpAnyH_take (i := 13) (v := ?_) rfl (by kernel_rfl) (by kernel_rfl) (by kernel_rfl) (fun _ _ _ h => h) (Or.inl ⟨by rfl, ?_⟩) hS ?_
          rotate_left
          · intro u hu; (try dsimp only at hu); go_simp; try with_reducible rfl
          simp only [Act.put, List.getElem_toArray, List.getElem_cons_zero, List.getElem_cons_succ, List.setIfInBounds_toArray, List.set_cons_zero, List.set_cons_succ]
          refine wpAnyH_take (i := 14) (v := ?_) rfl (by kernel_rfl) (by kernel_rfl) (by kernel_rfl) (fun _ _ _ h => h) (Or.inl ⟨by rfl, ?_⟩) hS ?_
          rotate_left
          · intro u hu; (try dsimp only at hu); go_simp; try with_reducible rfl
          simp only [Act.put, List.getElem_toArray, List.getElem_cons_zero, List.getElem_cons_succ, List.setIfInBounds_toArray, List.set_cons_zero, List.set_cons_succ]
          refine wpAnyH_take (i := 15) (v := ?_) rfl (by kernel_rfl) (by kernel_rfl) (by kernel_rfl) (fun _ _ _ h => h) (Or.inl ⟨by rfl, ?_⟩) hS ?_
          rotate_left
          · intro u hu; (try dsimp only at hu); go_simp; try with_reducible rfl
          simp only [Act.put, List.getElem_toArray, List.getElem_cons_zero, List.getElem_cons_succ, List.setIfInBounds_toArray, List.set_cons_zero, List.set_cons_succ]
          refine wpAnyH_take (i := 16) (v := ?_) rfl (by kernel_rfl) (by kernel_rfl) (by kernel_rfl) (fun _ _ _ h => h) (Or.inl ⟨by rfl, ?_⟩) hS ?_
          rotate_left
          · intro u hu; (try dsimp only at hu); go_simp; try with_reducible rfl
          simp only [Act.put, List.getElem_toArray, List.getElem_cons_zero, List.getElem_cons_succ, List.setIfInBounds_toArray, List.set_cons_zero, List.set_cons_succ]
          refine wpAnyH_take (i := 17) (v := ?_) rfl (by kernel_rfl) (by kernel_rfl) (by kernel_rfl) (fun _ _ _ h => h) (Or.inl ⟨by rfl, ?_⟩) hS ?_
          rotate_left
          · intro u hu; (try dsimp only at hu); go_simp; try with_reducible rfl
          simp only [Act.put, List.getElem_toArray, List.getElem_cons_zero, List.getElem_cons_succ, List.setIfInBounds_toArray, List.set_cons_zero, List.set_cons_succ]
          refine wpAnyH_take (i := 18) (v := ?_) rfl (by kernel_rfl) (by kernel_rfl) (by kernel_rfl) (fun _ _ _ h => h) (Or.inl ⟨by rfl, ?_⟩) hS ?_
          rotate_left
          · intro u hu; (try dsimp only at hu); go_simp; try with_reducible rfl
          simp only [Act.put, List.getElem_toArray, List.getElem_cons_zero, List.getElem_cons_succ, List.setIfInBounds_toArray, List.set_cons_zero, List.set_cons_succ]
          refine wpAnyH_take (i := 19) (v := ?_) rfl (by kernel_rfl) (by kernel_rfl) (by kernel_rfl) (fun _ _ _ h => h) (Or.inl ⟨by rfl, ?_⟩) hS ?_
          rotate_left
          · intro u hu; (try dsimp only at hu); go_simp; try with_reducible rfl
          simp only [Act.put, List.getElem_toArray, List.getElem_cons_zero, List.getElem_cons_succ, List.setIfInBounds_toArray, List.set_cons_zero, List.set_cons_succ]
          refine wpAnyH_take (i := 20) (v := ?_) rfl (by kernel_rfl) (by kernel_rfl) (by kernel_rfl) (fun _ _ _ h => h) (Or.inl ⟨by rfl, ?_⟩) hS ?_
          rotate_left
          · intro u hu; (try dsimp only at hu); go_simp; try with_reducible rfl
          simp only [Act.put, List.getElem_toArray, List.getElem_cons_zero, List.getElem_cons_succ, List.setIfInBounds_toArray, List.set_cons_zero, List.set_cons_succ]
          refine wpAnyH_done (by kernel_rfl) ?_ _
          clear hS
          go_wp2_with fail
          go_roundw
          case rel => exact ⟨k + 1, by go_num, by omega, XR, XB, XW, HN1⟩
          case measure => simp [intOf]; omega
      · have t1 : ((y : Int) != (x : Int)) = true := by simp; omega
        have HN1 := hide (show ∀ i, i < k + 1 → ¬ (A i 1 = x ∧ 0 < rm (A i 2) ∧ TryL A H K (E.drop (at' + 1)) (upd rm (A i 2) (rm (A i 2) - 1))) from fun i hi => by
          rcases Nat.lt_or_ge i k with h | h
          · exact unhide HNT i h
          · obtain rfl : i = k := by omega
            rintro ⟨h1, _, _⟩
            exact hxy ((unhide HY).symm.trans h1))
        go_upto_region 11 with fail
        refine wp_region_held_drew (S := fun u => u.cell? ⟨ga, oa + k * 4 + 1, none⟩ = some (.int .i64 (y : Nat)) ∧ u.cell? ⟨ge, oe + at', none⟩ = some (.int .i64 (x : Nat))) (by kernel_rfl) ⟨q1, e0⟩ (fun hS => ?_)
        generalize wr.drew = wd at XR XB XW hS ⊢
        clear q1 q2 e0 r0 hga HR HBU HB
        refine wpAnyH_take (i := 0) (v := ?_) rfl (by kernel_rfl) (by kernel_rfl) (by kernel_rfl) (fun _ _ _ h => h) (Or.inl ⟨by rfl, ?_⟩) hS ?_
        rotate_left
        · intro u hu; (try dsimp only at hu); go_simp; try with_reducible rfl
        simp only [Act.put, List.getElem_toArray, List.getElem_cons_zero, List.setIfInBounds_toArray, List.set_cons_zero, List.set_cons_succ]
        refine wpAnyH_take (i := 1) (v := ?_) rfl (by kernel_rfl) (by kernel_rfl) (by kernel_rfl) (fun _ _ _ h => h) (Or.inl ⟨by rfl, ?_⟩) hS ?_
        rotate_left
        · intro u hu; (try dsimp only at hu); go_simp; try with_reducible rfl
        simp only [Act.put, List.getElem_toArray, List.getElem_cons_zero, List.getElem_cons_succ, List.setIfInBounds_toArray, List.set_cons_zero, List.set_cons_succ]
        refine wpAnyH_take (i := 2) (v := ?_) rfl (by kernel_rfl) (by kernel_rfl) (by kernel_rfl) (fun _ _ _ h => h) (Or.inl ⟨by rfl, ?_⟩) hS ?_
        rotate_left
        · intro u hu; (try dsimp only at hu); go_simp; try with_reducible rfl
        simp only [Act.put, List.getElem_toArray, List.getElem_cons_zero, List.getElem_cons_succ, List.setIfInBounds_toArray, List.set_cons_zero, List.set_cons_succ]
        refine wpAnyH_take (i := 3) (v := ?_) rfl (by kernel_rfl) (by kernel_rfl) (by kernel_rfl) (fun _ _ _ h => h) (Or.inl ⟨by rfl, ?_⟩) hS ?_
        rotate_left
        · intro u hu; (try dsimp only at hu); go_simp; try with_reducible rfl
        simp only [Act.put, List.getElem_toArray, List.getElem_cons_zero, List.getElem_cons_succ, List.setIfInBounds_toArray, List.set_cons_zero, List.set_cons_succ]
        refine wpAnyH_take (i := 4) (v := ?_) rfl (by kernel_rfl) (by kernel_rfl) (by kernel_rfl) (fun _ _ _ h => h) (Or.inl ⟨by rfl, ?_⟩) hS ?_
        rotate_left
        · intro u hu; (try dsimp only at hu); go_simp; try with_reducible rfl
        simp only [Act.put, List.getElem_toArray, List.getElem_cons_zero, List.getElem_cons_succ, List.setIfInBounds_toArray, List.set_cons_zero, List.set_cons_succ]
        refine wpAnyH_take (i := 5) (v := ?_) rfl (by kernel_rfl) (by kernel_rfl) (by kernel_rfl) (fun _ _ _ h => h) (Or.inl ⟨by rfl, ?_⟩) hS ?_
        rotate_left
        · intro u hu; (try dsimp only at hu); go_simp; try with_reducible rfl
        simp only [Act.put, List.getElem_toArray, List.getElem_cons_zero, List.getElem_cons_succ, List.setIfInBounds_toArray, List.set_cons_zero, List.set_cons_succ]
        refine wpAnyH_take (i := 6) (v := ?_) rfl (by kernel_rfl) (by kernel_rfl) (by kernel_rfl) (fun _ _ _ h => h) (Or.inl ⟨by rfl, ?_⟩) hS ?_
        rotate_left
        · intro u hu; (try dsimp only at hu); go_simp; try with_reducible rfl
        simp only [Act.put, List.getElem_toArray, List.getElem_cons_zero, List.getElem_cons_succ, List.setIfInBounds_toArray, List.set_cons_zero, List.set_cons_succ]
        refine wpAnyH_take (i := 7) (v := ?_) rfl (by kernel_rfl) (by kernel_rfl) (by kernel_rfl) (fun _ _ _ h => h) (Or.inl ⟨by rfl, ?_⟩) hS ?_
        rotate_left
        · intro u hu; (try dsimp only at hu); go_simp; try with_reducible rfl
        simp only [Act.put, List.getElem_toArray, List.getElem_cons_zero, List.getElem_cons_succ, List.setIfInBounds_toArray, List.set_cons_zero, List.set_cons_succ]
        refine wpAnyH_take (i := 8) (v := ?_) rfl (by kernel_rfl) (by kernel_rfl) (by kernel_rfl) (fun _ _ _ h => h) (Or.inl ⟨by rfl, ?_⟩) hS ?_
        rotate_left
        · intro u hu; (try dsimp only at hu); go_simp; try with_reducible rfl
        simp only [Act.put, List.getElem_toArray, List.getElem_cons_zero, List.getElem_cons_succ, List.setIfInBounds_toArray, List.set_cons_zero, List.set_cons_succ]
        refine wpAnyH_take (i := 9) (v := ?_) rfl (by kernel_rfl) (by kernel_rfl) (by kernel_rfl) (fun _ _ _ h => h) (Or.inl ⟨by rfl, ?_⟩) hS ?_
        rotate_left
        · intro u hu; (try dsimp only at hu); go_simp; try with_reducible rfl
        simp only [Act.put, List.getElem_toArray, List.getElem_cons_zero, List.getElem_cons_succ, List.setIfInBounds_toArray, List.set_cons_zero, List.set_cons_succ]
        refine wpAnyH_take (i := 10) (v := ?_) rfl (by kernel_rfl) (by kernel_rfl) (by kernel_rfl) (fun _ _ _ h => h) (Or.inl ⟨by rfl, ?_⟩) hS ?_
        rotate_left
        · intro u hu; (try dsimp only at hu); go_simp; try with_reducible rfl
        simp only [Act.put, List.getElem_toArray, List.getElem_cons_zero, List.getElem_cons_succ, List.setIfInBounds_toArray, List.set_cons_zero, List.set_cons_succ]
        refine wpAnyH_take (i := 11) (v := undef) rfl (by kernel_rfl) (by kernel_rfl) (by kernel_rfl) (fun _ _ _ h => h) (Or.inr ⟨by rfl, rfl⟩) hS ?_
        simp only [Act.put, List.getElem_toArray, List.getElem_cons_zero, List.getElem_cons_succ, List.setIfInBounds_toArray, List.set_cons_zero, List.set_cons_succ]
        refine wpAnyH_take (i := 12) (v := undef) rfl (by kernel_rfl) (by kernel_rfl) (by kernel_rfl) (fun _ _ _ h => h) (Or.inr ⟨by rfl, rfl⟩) hS ?_
        simp only [Act.put, List.getElem_toArray, List.getElem_cons_zero, List.getElem_cons_succ, List.setIfInBounds_toArray, List.set_cons_zero, List.set_cons_succ]
        refine wpAnyH_take (i := 13) (v := undef) rfl (by kernel_rfl) (by kernel_rfl) (by kernel_rfl) (fun _ _ _ h => h) (Or.inr ⟨by rfl, rfl⟩) hS ?_
        simp only [Act.put, List.getElem_toArray, List.getElem_cons_zero, List.getElem_cons_succ, List.setIfInBounds_toArray, List.set_cons_zero, List.set_cons_succ]
        refine wpAnyH_take (i := 14) (v := undef) rfl (by kernel_rfl) (by kernel_rfl) (by kernel_rfl) (fun _ _ _ h => h) (Or.inr ⟨by rfl, rfl⟩) hS ?_
        simp only [Act.put, List.getElem_toArray, List.getElem_cons_zero, List.getElem_cons_succ, List.setIfInBounds_toArray, List.set_cons_zero, List.set_cons_succ]
        refine wpAnyH_take (i := 15) (v := undef) rfl (by kernel_rfl) (by kernel_rfl) (by kernel_rfl) (fun _ _ _ h => h) (Or.inr ⟨by rfl, rfl⟩) hS ?_
        simp only [Act.put, List.getElem_toArray, List.getElem_cons_zero, List.getElem_cons_succ, List.setIfInBounds_toArray, List.set_cons_zero, List.set_cons_succ]
        refine wpAnyH_take (i := 16) (v := undef) rfl (by kernel_rfl) (by kernel_rfl) (by kernel_rfl) (fun _ _ _ h => h) (Or.inr ⟨by rfl, rfl⟩) hS ?_
        simp only [Act.put, List.getElem_toArray, List.getElem_cons_zero, List.getElem_cons_succ, List.setIfInBounds_toArray, List.set_cons_zero, List.set_cons_succ]
        refine wpAnyH_take (i := 17) (v := undef) rfl (by kernel_rfl) (by kernel_rfl) (by kernel_rfl) (fun _ _ _ h => h) (Or.inr ⟨by rfl, rfl⟩) hS ?_
        simp only [Act.put, List.getElem_toArray, List.getElem_cons_zero, List.getElem_cons_succ, List.setIfInBounds_toArray, List.set_cons_zero, List.set_cons_succ]
        refine wpAnyH_take (i := 18) (v := undef) rfl (by kernel_rfl) (by kernel_rfl) (by kernel_rfl) (fun _ _ _ h => h) (Or.inr ⟨by rfl, rfl⟩) hS ?_
        simp only [Act.put, List.getElem_toArray, List.getElem_cons_zero, List.getElem_cons_succ, List.setIfInBounds_toArray, List.set_cons_zero, List.set_cons_succ]
        refine wpAnyH_take (i := 19) (v := undef) rfl (by kernel_rfl) (by kernel_rfl) (by kernel_rfl) (fun _ _ _ h => h) (Or.inr ⟨by rfl, rfl⟩) hS ?_
        simp only [Act.put, List.getElem_toArray, List.getElem_cons_zero, List.getElem_cons_succ, List.setIfInBounds_toArray, List.set_cons_zero, List.set_cons_succ]
        refine wpAnyH_take (i := 20) (v := ?_) rfl (by kernel_rfl) (by kernel_rfl) (by kernel_rfl) (fun _ _ _ h => h) (Or.inl ⟨by rfl, ?_⟩) hS ?_
        rotate_left
        · intro u hu; (try dsimp only at hu); go_simp; try with_reducible rfl
        simp only [Act.put, List.getElem_toArray, List.getElem_cons_zero, List.getElem_cons_succ, List.setIfInBounds_toArray, List.set_cons_zero, List.set_cons_succ]
        refine wpAnyH_done (by kernel_rfl) ?_ _
        clear hS
        go_wp2_with fail
        go_roundw
        case rel => exact ⟨k + 1, by go_num, by omega, XR, XB, XW, HN1⟩
        case measure => simp [intOf]; omega
    · obtain rfl : k = H := by omega
      have HNO := hide (show ¬ TryL A k K (E.drop at') rm from fun h => by
        rw [unhide HD] at h
        obtain ⟨i, hi, h1, h2, h3⟩ := h
        exact unhide HNT i hi ⟨h1, h2, h3⟩)
      go_wp2_with fail
      go_ret
      exact ⟨Told.no (unhide HNO), unhide HR, unhide HBU, unhide HB⟩
theorem try_any (tc : Tc w0 gr la H ea m K A E) : ∀ r, TryC w0 gr la H lc ea m ec K rc A E r
  | 0 => try_zero tc
  | r + 1 => try_step tc r (try_any tc r)
end
end Go.Proofs.YtefagplbpbkpgaaDoor
/-
  The contract of the document's Rooms. Conditions: the graph and the lists lie in memory as told, and the lists are a rotation.
-/
namespace Go.Proofs.YtefagplbpbkpgaaDoor
open Go.RowKit
set_option linter.unusedVariables false
set_option maxRecDepth 20000
/-- so many great angles, of the first k -/
def rkF (A : Nat → Nat → Nat) (outer k f : Nat) : Int := (if f = outer then 1 else -1) + (hc A k f : Int)
theorem rkF_succ (A : Nat → Nat → Nat) (outer k f : Nat) : rkF A outer (k + 1) f = rkF A outer k f + if A k 3 = 2 ∧ A k 2 = f then 1 else 0 := by
  unfold rkF
  rw [hc_succ]
  split <;> split <;> omega
theorem rkF_cap (A : Nat → Nat → Nat) (outer H f : Nat) : rkF A outer H f = (rmF A H f) + if f = outer then 2 else 0 := by
  unfold rkF rmF
  split <;> omega
set_option maxHeartbeats 8000000 in
theorem refrooms_any (w : World) (V : Nat) (a : Option Addr) (n cap : Nat) (es : List (Nat × Nat)) (ra : Option Addr) (m rc : Nat) (q : List (List Nat)) (N : Nat → Nat) (c g : Nat) (h : Gd w V a n cap es ra m rc q N c g) (F : Nat → Nat) (hF : IsFc (facesF N (2 * n) (2 * n)) (2 * n) F) (outer : Nat) (ho : outer < (facesF N (2 * n) (2 * n)).length) :
    Calls Tryd.prog 16 #[.agg #[.int .i64 V, .slice a n cap], .slice ra m rc, .int .i64 (outer : Nat)] w fun e w' => (∃ gr, e = .returned (.slice (some ⟨gr, 0, none⟩) (facesF N (2 * n) (2 * n)).length (facesF N (2 * n) (2 * n)).length) ∧ w.heap.size ≤ gr ∧ RowZ w' gr (facesF N (2 * n) (2 * n)).length (rkF (angI (pt.stV es) F N) outer (2 * n))) ∧ Below w.heap.size w w' := by
  have hn128 := h.n128
  have hFl := facesF_len N (2 * n) (2 * n)
  have HB0 := hide (Bg.start w (.int .i64 V) (.slice a n cap))
  have HF := hide (fun (u : World) (hu : Below w.heap.size w u) => reffaces_any u V a n cap es ((h.below hu).edges) h.ne hn128 ra m rc q ((h.below hu).rr) h.ro N h.nx)
  have HANG := hide (fun (u : World) (hu : Below w.heap.size w u) => refangles_any u V a n cap es ra m rc q N c g (h.below hu) F hF)
  have H2 := hide (fun (t : Nat) (ht : t < 2 * n) => show angI (pt.stV es) F N t 2 < (facesF N (2 * n) (2 * n)).length from (hF.cov (oth t) (oth_lt ht)).1)
  have H3 := hide (fun (t : Nat) (ht : t < 2 * n) => show angI (pt.stV es) F N t 3 < 3 from knd_lt _ _)
  clear h hF
  obtain ⟨A, hA⟩ : ∃ A, angI (pt.stV es) F N = A := ⟨_, rfl⟩
  rw [hA] at HANG H2 H3 ⊢
  obtain ⟨K, hK⟩ : ∃ K, (facesF N (2 * n) (2 * n)).length = K := ⟨_, rfl⟩
  simp only [hK] at HF
  rw [hK] at H2 hFl ho ⊢
  obtain ⟨H, hH⟩ : ∃ H, 2 * n = H := ⟨_, rfl⟩
  simp only [hH] at HF
  rw [hH] at HANG H2 H3 hFl ⊢
  have hH256 : H ≤ 256 := by omega
  have hoK : (outer : Int) < (K : Int) := by omega
  obtain ⟨i0, hi0, hz0, hz1, hz2⟩ := info_parts info3
  have HI := hide hi0
  have HZ0 := hide hz0
  have HZ1 := hide hz1
  have hzb : i0.bytes * K ≤ 281474976710656 := by rw [hz2]; omega
  clear hA hK hH hi0 hz0 hz1 hz2
  obtain ⟨g0, g1⟩ := (unhide HB0).cells
  go_enter Tryd.func16, Tryd.ntmps16
  go_wp2_with fail
  refine (unhide HF _ (unhide HB0).bel).mono ?_
  rintro e w1 ⟨⟨va, vc, rfl, _, _⟩, hb1⟩
  have HB1 := hide ((unhide HB0).step hb1)
  clear hb1 HB0 g0 g1 HF
  go_wp2_with (refine wpList_make_full _ rfl (.tmp 14) (.tmp 14) 37 rfl w1.heap.size 3 i0 (.int .i64 0) 1 Tryd.underlying37 (unhide HI) (unhide HZ0) (unhide HZ1) .i64 .i64 _ _ K rfl rfl rfl rfl hzb ?m1 (Nat.le_refl _) ?_)
  case m1 => unfold maxLen; omega
  intro w2 hown2 hg2
  rw [toList_madeCells_one] at hown2
  have hb2 : Below w1.heap.size w1 w2 := ⟨hg2.os, hg2.tape, hg2.output, hg2.size, fun k hk => hg2.block k hk (by simp)⟩
  obtain ⟨gr, hgr⟩ : ∃ g, w1.heap.size = g := ⟨_, rfl⟩
  have HR2 := hide (show RowZ w2 gr K (fun t => if t < 0 then -1 else 0) by rw [← hgr]; exact (Row.of_owns hown2).congr fun t ht => by simp)
  have HB2 := hide ((unhide HB1).step hb2)
  have hgw : w.heap.size < gr := by have := (unhide HB1).lt; omega
  rw [hgr]
  have HBu := hide (But.refl gr w2)
  have HBG := hide (fun (u : World) (hu : But gr w2 u) => show Bg w u (.int .i64 (V : Int)) (.slice a n cap) from ⟨(unhide HB2).bel.trans (hu.bel.mono (by omega)), by rw [hu.far _ (unhide HB2).lt (by omega)]; exact (unhide HB2).gb⟩)
  clear hown2 hg2 hb2 hgr HB1
  go_wp2_with fail
  go_loopw [8] (fun i wr => ∃ (k : Nat), i = .int .i64 k ∧ k ≤ K ∧ Hid (RowZ wr gr K (fun t => if t < k then -1 else 0)) ∧ Hid (But gr w2 wr)) (fun i wr => K - (intOf i).toNat)
  case atStart => exact ⟨0, rfl, by omega, HR2, HBu⟩
  case round =>
    clear HR2 HBu
    obtain ⟨k, rfl, hk, HRow, HB⟩ := hrel
    by_cases hkK : k < K
    · have hkK2 : (k : Int) < (K : Int) := by omega
      have r0 : wr.cell? ⟨gr, k, none⟩ = some (.int .i64 0) := by rw [(unhide HRow).cell hkK]; simp
      have r1 := (unhide HRow).fz k
      have HR2 := hide (show RowZ (wr.setCell ⟨gr, k, none⟩ (.int .i64 (-1))) gr K (fun t => if t < k + 1 then -1 else 0) from (RowZ.set (unhide HRow) k (-1)).congr fun t ht => by
        unfold upd
        dsimp only
        by_cases e : t = k
        · subst e; rw [if_pos rfl, if_pos (by omega)]
        · rw [if_neg e]
          by_cases e2 : t < k
          · rw [if_pos e2, if_pos (by omega)]
          · rw [if_neg e2, if_neg (by omega)])
      have HB2' := hide ((unhide HB).trans (But.set k (.int .i64 (-1))))
      go_wp2_with fail
      go_roundw
      case rel => exact ⟨k + 1, by go_num, by omega, HR2, HB2'⟩
      case measure => simp [intOf]; omega
    · obtain rfl : k = K := by omega
      have r0 : wr.cell? ⟨gr, outer, none⟩ = some (.int .i64 (-1)) := by rw [(unhide HRow).cell ho]; dsimp only; rw [if_pos ho]
      have r1 := (unhide HRow).fz outer
      have HR3 := hide (show RowZ (wr.setCell ⟨gr, outer, none⟩ (.int .i64 1)) gr k (rkF A outer 0) from (RowZ.set (unhide HRow) outer 1).congr fun t ht => by
        unfold upd rkF
        dsimp only
        by_cases e : t = outer
        · rw [if_pos e, if_pos e]; rfl
        · rw [if_neg e, if_neg e, if_pos ht]; rfl)
      have HB3 := hide ((unhide HB).trans (But.set outer (.int .i64 1)))
      have HBX := hide (unhide HBG _ (unhide HB3))
      obtain ⟨w3, hw3⟩ : ∃ w3, wr.setCell ⟨gr, outer, none⟩ (.int .i64 1) = w3 := ⟨_, rfl⟩
      rw [hw3] at HR3 HB3 HBX
      have g0 := (unhide HBX).cells.1
      have g1 := (unhide HBX).cells.2
      have HW3 := hide hw3
      have z0 : wr.cell? ⟨w.heap.size, 0, none⟩ = some (.int .i64 (V : Int)) := (unhide HBG _ (unhide HB)).cells.1
      have z1 : wr.cell? ⟨w.heap.size, 1, none⟩ = some (.slice a n cap) := (unhide HBG _ (unhide HB)).cells.2
      have hngw : ¬ w.heap.size = gr := by omega
      clear hw3 HRow HB g0 g1
      go_wp2_with fail
      rw [unhide HW3]
      refine (unhide HANG _ (unhide HBX).bel).mono ?_
      rintro e w4 ⟨⟨v, rfl, ho4⟩, hb4⟩
      obtain ⟨va2, vc2, rfl, hvc, has⟩ := as_of_owns ho4 hH256
      have HR4 := hide ((unhide HR3).below hb4)
      have HOW := hide ho4
      have HAS := hide has
      have hg3 := (unhide HR3).lt
      have HBu := hide (But.refl gr w4)
      have HBX4 := hide ((unhide HBX).step hb4).bel
      have HFAR := hide (fun (u : World) (hu : But gr w4 u) (t : Nat) (ht : t < H) => show ∃ g' off, va2 = some ⟨g', off, none⟩ ∧ ¬ g' = gr ∧ u.cell? ⟨g', off + t * 4 + 2, none⟩ = some (.int .i64 (A t 2 : Nat)) ∧ u.cell? ⟨g', off + t * 4 + 3, none⟩ = some (.int .i64 (A t 3 : Nat)) from by
        obtain ⟨g', off, ha, hg', c0, c1, c2, c3⟩ := (unhide HAS).2 t ht
        have hbl := ((unhide HOW).lt g' (by rw [ha]; rfl)).1
        have hne : g' ≠ gr := by omega
        have e := hu.far g' hg' hne
        exact ⟨g', off, ha, hne, by rw [World.cell?_of_block (w := w4) e]; exact c2, by rw [World.cell?_of_block (w := w4) e]; exact c3⟩)
      clear ho4 has hb4 HBX HR3 HB3 hvc HANG HAS HOW hg3 HW3 r0 r1 z0 z1
      go_wp2_with fail
      go_loopw [10] (fun i wr => ∃ (j : Nat), i = .int .i64 j ∧ j ≤ H ∧ Hid (RowZ wr gr k (rkF A outer j)) ∧ Hid (But gr w4 wr)) (fun i wr => H - (intOf i).toNat)
      case atStart => exact ⟨0, rfl, by omega, HR4, HBu⟩
      case round =>
        clear HR4 HBu
        obtain ⟨j, rfl, hj, HRow, HB⟩ := hrel
        by_cases hjH : j < H
        · have hjH2 : (j : Int) < (H : Int) := by omega
          obtain ⟨ga, oa, ha, hga, c2, c3⟩ := unhide HFAR wr (unhide HB) j hjH
          subst ha
          have hx := unhide H2 j hjH
          have hx3 := unhide H3 j hjH
          have HPS := hide (rkF_succ A outer j)
          have hbd : -1 ≤ rkF A outer j (A j 2) ∧ rkF A outer j (A j 2) ≤ 300 := by have := hc_le A j (A j 2); unfold rkF; split <;> omega
          obtain ⟨a2, ha2⟩ : ∃ z, A j 2 = z := ⟨_, rfl⟩
          obtain ⟨a3, ha3⟩ : ∃ z, A j 3 = z := ⟨_, rfl⟩
          rw [ha2] at c2 hx hbd
          rw [ha3] at c3 hx3
          have HA2' := hide ha2
          have HA3' := hide ha3
          clear ha2 ha3
          have r0 := (unhide HRow).cell hx
          have r1 := (unhide HRow).fz a2
          obtain ⟨z, hz⟩ : ∃ z, rkF A outer j a2 = z := ⟨_, rfl⟩
          rw [hz] at r0 hbd
          have HZ := hide hz
          have hW : IntKind.i64.wrap (z + 1) = z + 1 := by rw [IntKind.wrap_i64]; omega
          clear hz hbd
          by_cases h2 : a3 = 2
          · subst h2
            have HRN := hide (show RowZ (wr.setCell ⟨gr, a2, none⟩ (.int .i64 (z + 1))) gr k (rkF A outer (j + 1)) from Row.congr (RowZ.set (unhide HRow) a2 (z + 1)) fun t ht => by
              have := unhide HPS t
              rw [unhide HA2', unhide HA3'] at this
              unfold upd
              by_cases he : t = a2
              · subst he
                rw [if_pos ⟨rfl, rfl⟩, unhide HZ] at this
                rw [if_pos rfl, this]
              · rw [if_neg (by rintro ⟨_, h⟩; exact he h.symm), Int.add_zero] at this
                rw [if_neg he, this])
            have HBN := hide ((unhide HB).trans (But.set a2 (.int .i64 (z + 1))))
            go_wp2_with fail
            go_roundw
            case rel => exact ⟨j + 1, by go_num, by omega, HRN, HBN⟩
            case measure => simp [intOf]; omega
          · have h2' : ((a3 : Nat) : Int) ≠ 2 := by omega
            have HRN := hide (show RowZ wr gr k (rkF A outer (j + 1)) from Row.congr (unhide HRow) fun t ht => by
              have := unhide HPS t
              rw [unhide HA3', if_neg (by rintro ⟨h, _⟩; exact h2 h), Int.add_zero] at this
              rw [this])
            go_wp2_with fail
            go_roundw
            case rel => exact ⟨j + 1, by go_num, by omega, HRN, HB⟩
            case measure => simp [intOf]; omega
        · obtain rfl : j = H := by omega
          have HF := hide ((unhide HBX4).trans ((unhide HB).bel.mono (by omega)))
          go_wp2_with fail
          go_ret
          exact ⟨⟨gr, rfl, by omega, unhide HRow⟩, unhide HF⟩
end Go.Proofs.YtefagplbpbkpgaaDoor
/-
  All choices tried are those that fit; there is as much room as sources and sinks: plain mathematics. No conditions beyond each theorem's own.
-/
namespace Go.Proofs.YtefagplbpbkpgaaDoor
set_option linter.unusedVariables false
set_option maxRecDepth 20000
def occL (fa : Nat → Nat) (gr : Nat → Int) (f : Nat) : List Nat → Int
  | [] => 0
  | x :: l => ind fa (gr x) f + occL fa gr f l
theorem occL_append (fa : Nat → Nat) (gr : Nat → Int) (f : Nat) (a b : List Nat) : occL fa gr f (a ++ b) = occL fa gr f a + occL fa gr f b := by
  induction a with
  | nil => simp [occL]
  | cons x l ih => simp only [List.cons_append, occL, ih]; omega
theorem occL_congr {fa : Nat → Nat} {gr gr' : Nat → Int} {f : Nat} {l : List Nat} (h : ∀ x ∈ l, gr x = gr' x) : occL fa gr f l = occL fa gr' f l := by
  induction l with
  | nil => rfl
  | cons x l ih => simp only [occL]; rw [h x (by simp), ih fun y hy => h y (by simp [hy])]
theorem tryL_iff {A : Nat → Nat → Nat} {H K : Nat} (hK : ∀ i, i < H → A i 2 < K) : ∀ (l : List Nat) (rm : Nat → Int), l.Nodup → (TryL A H K l rm ↔ ∃ gr : Nat → Int, (∀ x ∈ l, ∃ i, i < H ∧ A i 1 = x ∧ gr x = (i : Int)) ∧ ∀ f, f < K → rm f = occL (fun h => A h 2) gr f l) := by
  intro l
  induction l with
  | nil =>
    intro rm _
    constructor
    · intro h
      exact ⟨fun _ => 0, fun x hx => by simp at hx, fun f hf => by rw [h f hf]; rfl⟩
    · rintro ⟨gr, _, h⟩ f hf
      rw [h f hf]; rfl
  | cons x l ih =>
    intro rm hn
    rw [List.nodup_cons] at hn
    constructor
    · rintro ⟨i, hi, h1, h2, h3⟩
      obtain ⟨gr, g1, g2⟩ := (ih _ hn.2).1 h3
      have hne : ∀ y ∈ l, y ≠ x := fun y hy e => hn.1 (e ▸ hy)
      have hag : ∀ y ∈ l, upd gr x (i : Int) y = gr y := fun y hy => upd_other _ _ (hne y hy)
      refine ⟨upd gr x i, fun y hy => ?_, fun f hf => ?_⟩
      · rcases List.mem_cons.1 hy with rfl | hy
        · exact ⟨i, hi, h1, upd_same _ _ _⟩
        · obtain ⟨j, j1, j2, j3⟩ := g1 y hy
          exact ⟨j, j1, j2, (hag y hy).trans j3⟩
      · simp only [occL]
        rw [upd_same, ind_some, occL_congr hag, ← g2 f hf]
        unfold upd
        by_cases e : f = A i 2
        · rw [if_pos e.symm, if_pos e, e]; omega
        · rw [if_neg (fun e' => e e'.symm), if_neg e]; omega
    · rintro ⟨gr, g1, g2⟩
      obtain ⟨i, hi, h1, h2⟩ := g1 x (by simp)
      have hb := g2 (A i 2) (hK i hi)
      have hnn : ∀ l', 0 ≤ occL (fun h => A h 2) gr (A i 2) l' := fun l' => by
        induction l' with
        | nil => exact Int.le_refl _
        | cons z t iht => simp only [occL]; unfold ind; split <;> omega
      simp only [occL] at hb
      rw [h2, ind_some, if_pos rfl] at hb
      have := hnn l
      refine ⟨i, hi, h1, by omega, (ih _ hn.2).2 ⟨gr, fun y hy => g1 y (by simp [hy]), fun f hf => ?_⟩⟩
      have hf2 := g2 f hf
      simp only [occL] at hf2
      rw [h2, ind_some] at hf2
      unfold upd
      by_cases e : f = A i 2
      · rw [if_pos e]; rw [if_pos e.symm, e] at hf2; rw [e]; omega
      · rw [if_neg e]; rw [if_neg (fun e' => e e'.symm)] at hf2; omega
theorem smF_single {a : Nat} {g : Nat → Int} : ∀ K, a < K → (∀ k, k < K → k ≠ a → g k = 0) → smF g K = g a := by
  intro K
  induction K with
  | zero => intro h; omega
  | succ K ih =>
    intro h1 h2
    unfold smF
    by_cases e : a = K
    · subst e
      rw [smF_zero a (fun k hk => h2 k (by omega) (by omega))]
      omega
    · rw [ih (by omega) (fun k hk hne => h2 k (by omega) hne), h2 K (by omega) (fun e' => e e'.symm)]
      omega
theorem smF_eq {a b : Nat → Int} {K : Nat} (h : ∀ k, k < K → a k ≤ b k) (he : smF a K = smF b K) : ∀ k, k < K → a k = b k := fun k hk => by
  refine Classical.byContradiction fun hne => ?_
  have := smF_lt K hk h (by have := h k hk; omega)
  omega
theorem smF_cn (Q : Nat → Bool) : ∀ V, smF (fun y => if Q y = true then 1 else 0) V = (cn Q V : Int) := by
  intro V
  induction V with
  | zero => rfl
  | succ V ih =>
    unfold smF
    rw [ih, cn_succ]
    split <;> simp_all
theorem smF_hc (A : Nat → Nat → Nat) (K : Nat) : ∀ H, (∀ t, t < H → A t 2 < K) → smF (fun f => (hc A H f : Int)) K = (cn (fun t => decide (A t 3 = 2)) H : Int) := by
  intro H
  induction H with
  | zero => intro _; exact smF_zero K fun f _ => rfl
  | succ H ih =>
    intro h
    have e : (fun f => (hc A (H + 1) f : Int)) = fun f => (hc A H f : Int) + (if A H 3 = 2 ∧ A H 2 = f then 1 else 0) := by
      funext f
      rw [hc_succ]
      split <;> simp
    rw [e, smF_add, ih (fun t ht => h t (by omega)), cn_succ, smF_single (a := A H 2) K (h H (by omega)) (fun k _ hne => if_neg (fun hh => hne hh.2.symm))]
    by_cases h3 : A H 3 = 2
    · rw [if_pos ⟨h3, rfl⟩, if_pos (decide_eq_true h3)]; simp
    · rw [if_neg (fun hh => h3 hh.1), if_neg (by rw [decide_eq_true_iff]; exact h3)]; simp
theorem smF_const (z : Int) : ∀ K, smF (fun _ => z) K = K * z := by
  intro K
  induction K with
  | zero => simp [smF]
  | succ K ih => unfold smF; rw [ih, Int.natCast_succ, Int.add_mul]; omega
theorem smF_cap (A : Nat → Nat → Nat) (H K o : Nat) (ho : o < K) (h : ∀ t, t < H → A t 2 < K) : smF (capF (rmF A H) o) K = (cn (fun t => decide (A t 3 = 2)) H : Int) - K + 2 := by
  have e : capF (rmF A H) o = fun f => ((hc A H f : Int) + (-1)) + (if f = o then 2 else 0) := by
    funext f
    unfold capF rmF
    omega
  rw [e, smF_add (fun f => (hc A H f : Int) + (-1)), smF_add (fun f => (hc A H f : Int)), smF_hc A K H h, smF_const, smF_single (a := o) K ho (fun k _ hne => if_neg hne), if_pos rfl]
  omega
section
variable {V : Nat} {es : List (Nat × Nat)} {q : List (List Nat)} {N F : Nat → Nat}
def endsL (es : List (Nat × Nat)) (V : Nat) : List Nat := bare (Pl.ins es) V ++ bare (Pl.outs es) V
theorem mem_ends {x : Nat} : x ∈ endsL es V ↔ x < V ∧ isEnd es x = true := by
  unfold endsL isEnd
  rw [List.mem_append, mem_bare, mem_bare, Bool.or_eq_true]
  constructor
  · rintro (⟨a, b⟩ | ⟨a, b⟩)
    · exact ⟨a, .inl b⟩
    · exact ⟨a, .inr b⟩
  · rintro ⟨a, b | b⟩
    · exact .inl ⟨a, b⟩
    · exact .inr ⟨a, b⟩
theorem bare_nodup (L : Nat → List Nat) (V : Nat) : (bare L V).Nodup := List.nodup_range.sublist List.filter_sublist
theorem ends_nodup (hal : ∀ x, x < V → ¬ ((Pl.ins es x).isEmpty = true ∧ (Pl.outs es x).isEmpty = true)) : (endsL es V).Nodup := by
  unfold endsL
  rw [List.nodup_append]
  refine ⟨bare_nodup _ _, bare_nodup _ _, fun a ha b hb e => ?_⟩
  subst e
  exact hal a (mem_bare.1 ha).1 ⟨(mem_bare.1 ha).2, (mem_bare.1 hb).2⟩
theorem occ_ends {fa : Nat → Nat} {gr : Nat → Int} {f : Nat} : ∀ k, (∀ x, x < k → ¬ ((Pl.ins es x).isEmpty = true ∧ (Pl.outs es x).isEmpty = true)) → (∀ x, x < k → isEnd es x = false → gr x = -1) → occ fa gr f k = occL fa gr f (bare (Pl.ins es) k) + occL fa gr f (bare (Pl.outs es) k) := by
  intro k
  induction k with
  | zero => intro _ _; rfl
  | succ k ih =>
    intro hal hno
    rw [bare_succ, bare_succ, occL_append, occL_append]
    unfold occ
    rw [ih (fun x hx => hal x (by omega)) (fun x hx => hno x (by omega))]
    have h1 := hal k (by omega)
    have h2 := hno k (by omega)
    unfold isEnd at h2
    cases hi : (Pl.ins es k).isEmpty <;> cases ho : (Pl.outs es k).isEmpty
    · rw [hi, ho] at h2
      rw [h2 rfl]
      simp [occL, ind]
    · simp [occL]; omega
    · simp [occL]; omega
    · exact absurd ⟨hi, ho⟩ h1
/-- what fits, by choices tried or not -/
theorem fits_try {H K : Nat} {A : Nat → Nat → Nat} {cap : Nat → Int} (hal : ∀ x, x < V → ¬ ((Pl.ins es x).isEmpty = true ∧ (Pl.outs es x).isEmpty = true)) (hK : ∀ i, i < H → A i 2 < K) (hch : ∀ x, x < V → isEnd es x = true → selA A x H ≠ [])
    (htot : smF cap K = (cn (isEnd es) V : Int)) :
    (∀ gr, Seated (chF es A H) V gr → (∀ f, f < K → occ (fun h => A h 2) gr f V ≤ cap f) → ∀ f, f < K → occ (fun h => A h 2) gr f V = cap f) ∧ (Fits (fun h => A h 2) (chF es A H) V K cap ↔ TryL A H K (endsL es V) cap) := by
  have hem : ∀ y, y < V → (chF es A H y = [] ↔ isEnd es y = false) := fun y hy => by
    unfold chF
    by_cases h : isEnd es y = true
    · rw [if_pos h, h]
      exact ⟨fun e => absurd e (hch y hy h), fun e => by cases e⟩
    · rw [if_neg h]
      exact ⟨fun _ => by simpa using h, fun _ => rfl⟩
  have hex : ∀ gr, Seated (chF es A H) V gr → (∀ f, f < K → occ (fun h => A h 2) gr f V ≤ cap f) → ∀ f, f < K → occ (fun h => A h 2) gr f V = cap f := fun gr hs hle => by
    refine smF_eq hle ?_
    rw [htot, ← smF_cn]
    have h1 := occ_dd (fun h => A h 2) (fun _ => true) K gr V
    simp only [if_true] at h1
    rw [h1]
    refine smF_congr V fun y hy => ?_
    unfold dd
    by_cases he : isEnd es y = true
    · rw [if_pos he]
      have hne : gr y ≠ -1 := fun e => by
        have := (hem y hy).1 ((hs y hy).1.1 e)
        rw [he] at this
        cases this
      obtain ⟨a, ha, e⟩ := (hs y hy).2.resolve_left hne
      unfold chF at ha
      rw [if_pos he] at ha
      rw [if_pos ⟨hne, by rw [e]; exact hK a (mem_selA.1 ha).1, rfl⟩]
    · rw [if_neg he]
      have : gr y = -1 := (hs y hy).1.2 ((hem y hy).2 (by simpa using he))
      rw [if_neg (fun h => h.1 this)]
  refine ⟨hex, ?_⟩
  rw [tryL_iff hK _ _ (ends_nodup hal)]
  constructor
  · rintro ⟨gr, hs, hle⟩
    refine ⟨gr, fun x hx => ?_, fun f hf => ?_⟩
    · obtain ⟨hxV, he⟩ := mem_ends.1 hx
      have hne : gr x ≠ -1 := fun e => by
        have := (hem x hxV).1 ((hs x hxV).1.1 e)
        rw [he] at this
        cases this
      obtain ⟨a, ha, e⟩ := (hs x hxV).2.resolve_left hne
      unfold chF at ha
      rw [if_pos he] at ha
      exact ⟨a, (mem_selA.1 ha).1, (mem_selA.1 ha).2, e⟩
    · rw [← hex gr hs hle f hf, occ_ends V hal (fun x hx he => (hs x hx).1.2 ((hem x hx).2 he))]
      unfold endsL
      rw [occL_append]
  · rintro ⟨gr0, h1, h2⟩
    have hag : ∀ x ∈ endsL es V, (if isEnd es x = true then gr0 x else -1) = gr0 x := fun x hx => if_pos (mem_ends.1 hx).2
    refine ⟨fun y => if isEnd es y = true then gr0 y else -1, fun y hy => ?_, fun f hf => ?_⟩
    · by_cases he : isEnd es y = true
      · obtain ⟨i, i1, i2, i3⟩ := h1 y (mem_ends.2 ⟨hy, he⟩)
        dsimp only
        rw [if_pos he, i3]
        refine ⟨⟨fun e => by omega, fun e => ?_⟩, .inr ⟨i, ?_, rfl⟩⟩
        · have := (hem y hy).1 e
          rw [he] at this
          cases this
        · unfold chF
          rw [if_pos he]
          exact mem_selA.2 ⟨i1, i2⟩
      · dsimp only
        rw [if_neg he]
        exact ⟨⟨fun _ => (hem y hy).2 (by simpa using he), fun _ => rfl⟩, .inl rfl⟩
    · rw [occ_ends V hal (fun x hx he => by rw [he]; rfl), ← occL_append]
      have e1 : occL (fun h => A h 2) (fun y => if isEnd es y = true then gr0 y else -1) f (endsL es V) = occL (fun h => A h 2) gr0 f (endsL es V) := occL_congr hag
      have e2 := h2 f hf
      unfold endsL at e1 e2
      rw [e1, ← e2]
      exact Int.le_refl _
/-- as much room in all as there are sources and sinks -/
theorem room_total (r : pt.Ro V es q) (hN : Behind q N) (p : Pm N (2 * es.length)) (hF : IsFc (facesF N (2 * es.length) (2 * es.length)) (2 * es.length) F) (hb : Bim (angI (pt.stV es) F N) (2 * es.length) V) {c : Nat} (hc : pt.IsCnt V es c) (h1 : c ≤ 1) (h0 : 0 < es.length) (hv : 1 ≤ V)
    (heul : 2 * c + es.length = V + cyc N (2 * es.length) + emp q V) {o : Nat} (ho : o < (facesF N (2 * es.length) (2 * es.length)).length) :
    smF (capF (rmF (angI (pt.stV es) F N) (2 * es.length)) o) (facesF N (2 * es.length) (2 * es.length)).length = (cn (isEnd es) V : Int) := by
  rw [smF_cap _ _ _ _ ho (fun t ht => (hF.cov (oth t) (oth_lt ht)).1), cyc_faces]
  have hh := high_count (F := F) r hN p hb
  have hi : cn (isEnd es) V + inn es V = V := by
    have a1 := cn_split (fun _ => true) (isEnd es) V
    have a0 : cn (fun _ => true) V = V := by unfold cn; rw [List.filter_eq_self.2 (fun _ _ => rfl), List.length_range]
    have e1 : cn (fun x => true && isEnd es x) V = cn (isEnd es) V := rfl
    have e2 : cn (fun x => true && !isEnd es x) V = inn es V := rfl
    omega
  have he : emp q V = 0 := by
    unfold emp
    rw [List.length_eq_zero_iff, List.filter_eq_nil_iff]
    intro x hx
    have hxV := List.mem_range.1 hx
    simp only [decide_eq_true_eq]
    intro hnil
    refine no_alone r hc h1 h0 hxV ⟨?_, ?_⟩
    · cases hi : (Pl.ins es x).isEmpty with
      | true => rfl
      | false =>
        obtain ⟨t, t1, t2, t3⟩ := ins_odd.1 hi
        have := (r.at t1).2
        rw [t3, hnil] at this
        simp at this
    · cases hi : (Pl.outs es x).isEmpty with
      | true => rfl
      | false =>
        obtain ⟨t, t1, t2, t3⟩ := outs_even.1 hi
        have := (r.at t1).2
        rw [t3, hnil] at this
        simp at this
  have hc1 : 1 ≤ c := by
    obtain ⟨rr, hr, rfl⟩ := hc
    have : (0 : Nat) ∈ (List.range V).filter rr := by rw [List.mem_filter, List.mem_range]; exact ⟨by omega, (hr 0 (by omega)).2 ⟨rfl, fun y hy => by omega⟩⟩
    exact List.length_pos_of_mem this
  omega
theorem ch_ne (r : pt.Ro V es q) (hal : ∀ x, x < V → ¬ ((Pl.ins es x).isEmpty = true ∧ (Pl.outs es x).isEmpty = true)) {x : Nat} (hx : x < V) : selA (angI (pt.stV es) F N) x (2 * es.length) ≠ [] := by
  intro h
  refine hal x hx ⟨?_, ?_⟩
  · cases hi : (Pl.ins es x).isEmpty with
    | true => rfl
    | false =>
      obtain ⟨t, t1, t2, t3⟩ := ins_odd.1 hi
      have : t ∈ selA (angI (pt.stV es) F N) x (2 * es.length) := mem_selA.2 ⟨t1, t3⟩
      rw [h] at this
      simp at this
  · cases hi : (Pl.outs es x).isEmpty with
    | true => rfl
    | false =>
      obtain ⟨t, t1, t2, t3⟩ := outs_even.1 hi
      have : t ∈ selA (angI (pt.stV es) F N) x (2 * es.length) := mem_selA.2 ⟨t1, t3⟩
      rw [h] at this
      simp at this
end
end Go.Proofs.YtefagplbpbkpgaaDoor
/-
  The contract of the document's Outer. Conditions: the graph and the lists lie in memory as told, and the lists are a rotation.
-/
namespace Go.Proofs.YtefagplbpbkpgaaDoor
open Go.RowKit
set_option linter.unusedVariables false
set_option maxRecDepth 20000
theorem rkF_capF (A : Nat → Nat → Nat) (o H : Nat) : rkF A o H = capF (rmF A H) o := by
  funext f
  rw [rkF_cap]
  rfl
/-- the least outer face with which some choice fits; -1: none -/
def OutAns (A : Nat → Nat → Nat) (H K : Nat) (E : List Nat) (z : Int) : Prop :=
  (∃ o, o < K ∧ z = (o : Int) ∧ TryL A H K E (capF (rmF A H) o) ∧ ∀ o', o' < o → ¬ TryL A H K E (capF (rmF A H) o')) ∨ (z = -1 ∧ ∀ o, o < K → ¬ TryL A H K E (capF (rmF A H) o))
set_option maxHeartbeats 4000000 in
theorem outer_no (w : World) (V : Nat) (a : Option Addr) (n cap : Nat) (es : List (Nat × Nat)) (ra : Option Addr) (m rc : Nat) (q : List (List Nat)) (N : Nat → Nat) (c g : Nat) (h : Gd w V a n cap es ra m rc q N c g) (F : Nat → Nat) (hF : IsFc (facesF N (2 * n) (2 * n)) (2 * n) F) (hb : ¬ Bim (angI (pt.stV es) F N) (2 * n) V) :
    Calls Tryd.prog 15 #[.agg #[.int .i64 V, .slice a n cap], .slice ra m rc] w fun e w' => e = .returned (.int .i64 (-1)) ∧ Below w.heap.size w w' := by
  have HB0 := hide (Bg.start w (.int .i64 V) (.slice a n cap))
  have HRB := hide (fun (u : World) (hu : Below w.heap.size w u) => refbim_any u V a n cap es ra m rc q N c g (h.below hu) F hF)
  have HNB := hide hb
  clear h hF hb
  obtain ⟨g0, g1⟩ := (unhide HB0).cells
  go_enter Tryd.func15, Tryd.ntmps15
  go_wp2_with fail
  refine (unhide HRB _ (unhide HB0).bel).mono ?_
  rintro e w1 ⟨⟨r, rfl, hr⟩, hb1⟩
  have hrt : r = false := by
    cases r with
    | false => rfl
    | true => exact absurd (hr.1 rfl) (unhide HNB)
  subst hrt
  have HB1 := hide ((unhide HB0).step hb1)
  clear hb1 HB0 g0 g1 hr
  go_wp2_with fail
  go_ret
  exact ⟨rfl, (unhide HB1).bel⟩
set_option maxHeartbeats 16000000 in
theorem outer_any (w : World) (V : Nat) (a : Option Addr) (n cap : Nat) (es : List (Nat × Nat)) (ra : Option Addr) (m rc : Nat) (q : List (List Nat)) (N : Nat → Nat) (c g : Nat) (h : Gd w V a n cap es ra m rc q N c g) (F : Nat → Nat) (hF : IsFc (facesF N (2 * n) (2 * n)) (2 * n) F) (hb : Bim (angI (pt.stV es) F N) (2 * n) V) :
    Calls Tryd.prog 15 #[.agg #[.int .i64 V, .slice a n cap], .slice ra m rc] w fun e w' => (∃ z, e = .returned (.int .i64 z) ∧ OutAns (angI (pt.stV es) F N) (2 * n) (facesF N (2 * n) (2 * n)).length (endsL es V) z) ∧ Below w.heap.size w w' := by
  have hn128 := h.n128
  have hv64 := h.plain.v64
  have hFl := facesF_len N (2 * n) (2 * n)
  have HB0 := hide (Bg.start w (.int .i64 V) (.slice a n cap))
  have HRB := hide (fun (u : World) (hu : Below w.heap.size w u) => refbim_any u V a n cap es ra m rc q N c g (h.below hu) F hF)
  have HANG := hide (fun (u : World) (hu : Below w.heap.size w u) => refangles_any u V a n cap es ra m rc q N c g (h.below hu) F hF)
  have HEN := hide (fun (u : World) (hu : Below w.heap.size w u) => show Calls Tryd.prog 17 #[.agg #[.int .i64 V, .slice a n cap]] u fun e w' => (∃ v, e = .returned v ∧ w'.ownsRow u.heap.size 3 1 v (endsL es V).length (zcells (toIs (endsL es V)))) ∧ Below u.heap.size u w' from by
    have := refends_any u V a n cap es ((h.below hu).edges) h.ne h.pl
    rwa [show toIs (bare (Pl.ins es) V) ++ toIs (bare (Pl.outs es) V) = toIs (endsL es V) by simp [toIs, endsL], show (bare (Pl.ins es) V).length + (bare (Pl.outs es) V).length = (endsL es V).length by simp [endsL]] at this)
  have HFA := hide (fun (u : World) (hu : Below w.heap.size w u) => reffaces_any u V a n cap es ((h.below hu).edges) h.ne hn128 ra m rc q ((h.below hu).rr) h.ro N h.nx)
  have HRM := hide (fun (u : World) (hu : Below w.heap.size w u) (o : Nat) (ho : o < (facesF N (2 * n) (2 * n)).length) => refrooms_any u V a n cap es ra m rc q N c g (h.below hu) F hF o ho)
  have H2 := hide (fun (t : Nat) (ht : t < 2 * n) => show angI (pt.stV es) F N t 2 < (facesF N (2 * n) (2 * n)).length from (hF.cov (oth t) (oth_lt ht)).1)
  have HBM := hide hb
  have hel : (endsL es V).length ≤ 128 := by have := bare_len (Pl.ins es) V; have := bare_len (Pl.outs es) V; simp [endsL]; omega
  clear h hF hb
  obtain ⟨A, hA⟩ : ∃ A, angI (pt.stV es) F N = A := ⟨_, rfl⟩
  rw [hA] at HRB HANG HRM H2 HBM ⊢
  obtain ⟨K, hK⟩ : ∃ K, (facesF N (2 * n) (2 * n)).length = K := ⟨_, rfl⟩
  simp only [hK] at HFA HRM
  rw [hK] at H2 hFl ⊢
  obtain ⟨H, hH⟩ : ∃ H, 2 * n = H := ⟨_, rfl⟩
  simp only [hH] at HFA HRM
  rw [hH] at HRB HANG H2 HBM hFl ⊢
  have hH256 : H ≤ 256 := by omega
  obtain ⟨E, hE⟩ : ∃ E, endsL es V = E := ⟨_, rfl⟩
  rw [hE] at HEN hel ⊢
  obtain ⟨mE, hmE⟩ : ∃ mE, E.length = mE := ⟨_, rfl⟩
  rw [hmE] at HEN hel
  have HME := hide hmE
  clear hA hK hH hE hmE
  obtain ⟨g0, g1⟩ := (unhide HB0).cells
  go_enter Tryd.func15, Tryd.ntmps15
  go_wp2_with fail
  refine (unhide HRB _ (unhide HB0).bel).mono ?_
  rintro e w1 ⟨⟨r, rfl, hr⟩, hb1⟩
  have hrt : r = true := hr.2 (unhide HBM)
  subst hrt
  have HB1 := hide ((unhide HB0).step hb1)
  clear hb1 HB0 g0 g1 hr HRB
  obtain ⟨g0, g1⟩ := (unhide HB1).cells
  go_wp2_with fail
  refine (unhide HANG _ (unhide HB1).bel).mono ?_
  rintro e w2 ⟨⟨v, rfl, ho⟩, hb2⟩
  obtain ⟨la, lc, rfl, _, has⟩ := as_of_owns ho hH256
  have HB2 := hide ((unhide HB1).step hb2)
  have HAS2 := hide has
  clear hb2 HB1 g0 g1 HANG ho has
  obtain ⟨g0, g1⟩ := (unhide HB2).cells
  go_wp2_with fail
  refine (unhide HEN _ (unhide HB2).bel).mono ?_
  rintro e w3 ⟨⟨v, rfl, ho⟩, hb3⟩
  obtain ⟨ea, ec, rfl, _, hns⟩ := ns_of_owns ho (by omega)
  have HB3 := hide ((unhide HB2).step hb3)
  have HAS3 := hide ((unhide HAS2).below hb3)
  have HNS3 := hide hns
  clear hb3 HB2 g0 g1 HEN ho hns HAS2
  have HN0 := hide (show ∀ o, o < 0 → ¬ TryL A H K E (capF (rmF A H) o) from fun o ho => by omega)
  have HBu := hide (Below.refl w3.heap.size w3)
  have hs3 := (unhide HB3).lt
  go_wp2_with fail
  go_loopw [7] (fun i wr => ∃ o : Nat, i = .int .i64 o ∧ o ≤ K ∧ Hid (∀ o', o' < o → ¬ TryL A H K E (capF (rmF A H) o')) ∧ Hid (Below w3.heap.size w3 wr)) (fun i wr => K - (intOf i).toNat)
  case atStart => exact ⟨0, rfl, by omega, HN0, HBu⟩
  case round =>
    clear HN0 HBu
    obtain ⟨o, rfl, ho, HN0, HBu⟩ := hrel
    have HBX := hide ((unhide HB3).step (unhide HBu))
    obtain ⟨g0, g1⟩ := (unhide HBX).cells
    by_cases hoK : o < K
    · have hoK2 : (o : Int) < (K : Int) := by omega
      go_wp2_with fail
      refine (unhide HFA _ (unhide HBX).bel).mono ?_
      rintro e w4 ⟨⟨fa, fc, rfl, _, _⟩, hb4⟩
      have HB4 := hide ((unhide HBX).step hb4)
      have HU4 := hide ((unhide HBu).trans (hb4.mono (unhide HBu).size))
      clear hb4 HBX HBu g0 g1
      obtain ⟨g0, g1⟩ := (unhide HB4).cells
      go_wp2_with fail
      refine (unhide HRM _ (unhide HB4).bel o hoK).mono ?_
      rintro e w5 ⟨⟨gr, rfl, hgr, hrow⟩, hb5⟩
      have HB5 := hide ((unhide HB4).step hb5)
      have HU5 := hide ((unhide HU4).trans (hb5.mono (unhide HU4).size))
      have HROW := hide hrow
      have hs34 := (unhide HU4).size
      have HTC := hide (show Tc w4 gr la H ea mE K A E from ⟨(unhide HAS3).below (unhide HU4), (unhide HNS3).below (unhide HU4), hgr, unhide H2, unhide HME, hel, by omega⟩)
      have HTRY := hide (try_any (lc := lc) (ec := ec) (rc := K) (unhide HTC) mE w5 0 (rkF A o H) (by omega) hb5 hrow (fun f hf => by have := hc_le A H f; unfold rkF; split <;> omega))
      have hgw : w.heap.size < gr := by have := (unhide HB4).lt; omega
      have hgl := hrow.lt
      clear hb5 HB4 HU4 g0 g1 hrow
      go_wp2_with fail
      refine (unhide HTRY).mono ?_
      rintro e w6 ⟨⟨b, rfl, hbt⟩, hr6, hb6, hw6⟩
      rw [List.drop_zero, rkF_capF] at hbt
      have HBT := hide hbt
      have HU6 := hide (show Below w3.heap.size w3 w6 from (unhide HU5).trans (hb6.bel.mono (by
        have := (unhide HTC).r0
        omega)))
      have HB6 := hide (show Bg w w6 (.int .i64 (V : Int)) (.slice a n cap) from ⟨(unhide HB5).bel.trans (hb6.bel.mono (by omega)), by rw [hb6.far _ (unhide HB5).lt (by omega)]; exact (unhide HB5).gb⟩)
      clear hbt hr6 hb6 hw6 HTRY
      cases b with
      | true =>
        have HANS := hide (show OutAns A H K E (o : Int) from .inl ⟨o, hoK, rfl, (unhide HBT).1 rfl, unhide HN0⟩)
        go_wp2_with fail
        go_ret
        exact ⟨⟨_, rfl, unhide HANS⟩, (unhide HB6).bel⟩
      | false =>
        have HN1 := hide (show ∀ o', o' < o + 1 → ¬ TryL A H K E (capF (rmF A H) o') from fun o' ho' => by
          rcases Nat.lt_or_ge o' o with h | h
          · exact unhide HN0 o' h
          · obtain rfl : o' = o := by omega
            intro ht
            have := (unhide HBT).2 ht
            cases this)
        go_wp2_with fail
        go_roundw
        case rel => exact ⟨o + 1, by go_num, by omega, HN1, HU6⟩
        case measure => simp [intOf]; omega
    · obtain rfl : o = K := by omega
      go_wp2_with fail
      refine (unhide HFA _ (unhide HBX).bel).mono ?_
      rintro e w4 ⟨⟨fa, fc, rfl, _, _⟩, hb4⟩
      have HB4 := hide ((unhide HBX).step hb4)
      have HANS := hide (show OutAns A H o E (-1) from .inr ⟨rfl, unhide HN0⟩)
      clear hb4 HBX HBu g0 g1
      go_wp2_with fail
      go_ret
      exact ⟨⟨_, rfl, unhide HANS⟩, (unhide HB4).bel⟩
end Go.Proofs.YtefagplbpbkpgaaDoor

/-
  The contract of the program's sameRound: whether two lists are one, begun elsewhere perhaps. Conditions: the lists lie in memory as told.
-/
import Derived.Test.YtmklngabfdnclaaDoorRs
namespace Go.Proofs.YtmklngabfdnclaaDoor
open Go.RowKit
set_option linter.unusedVariables false
set_option maxRecDepth 20000

theorem Ns.take {w : World} {a : Option Addr} {n k : Nat} {xs : List Int} (h : Ns w a n xs) (hk : k ≤ n) : Ns w a k (xs.take k) := by
  obtain ⟨hl, hn, hc⟩ := h
  refine ⟨by simp; omega, by omega, fun j hj => ?_⟩
  obtain ⟨g, off, ha, hg, c⟩ := hc j (by omega)
  exact ⟨g, off, ha, hg, by rw [getD_take hj]; exact c⟩
theorem Ns.drop {w : World} {g off n k : Nat} {xs : List Int} (h : Ns w (some ⟨g, off, none⟩) n xs) (hk : k ≤ n) : Ns w (some ⟨g, off + k, none⟩) (n - k) (xs.drop k) := by
  obtain ⟨hl, hn, hc⟩ := h
  refine ⟨by simp; omega, by omega, fun j hj => ?_⟩
  obtain ⟨g2, off2, ha, hg, c⟩ := hc (k + j) (by omega)
  simp only [Option.some.injEq, Addr.mk.injEq] at ha
  obtain ⟨rfl, rfl, _⟩ := ha
  exact ⟨g, off + k, rfl, hg, by rw [getD_drop, Nat.add_assoc]; exact c⟩

set_option maxHeartbeats 4000000 in
/-- the program's sameRound: it only reads -/
theorem round_any (w : World) (a1 a2 : Option Addr) (n1 n2 c1 c2 : Nat) (hc1 : n1 ≤ c1) (hc2 : n2 ≤ c2) (xs ys : List Int) (h1 : Ns w a1 n1 xs) (h2 : Ns w a2 n2 ys) :
    Calls Tryd.prog 30 #[.slice a1 n1 c1, .slice a2 n2 c2] w fun e w' => e = .returned (.bool (rotB xs ys)) ∧ ∃ m, w' = w.drewN m := by
  have H1 := hide h1
  have H2 := hide h2
  have hl1 := h1.1
  have hl2 := h2.1
  have hn1 := h1.2.1
  clear h1 h2
  by_cases hn : n1 = n2
  case neg =>
    have t1 : ((n1 : Int) != (n2 : Int)) = true := by simp; omega
    have HR := hide (rotB_no (a := xs) (b := ys) (fun h => hn (by rw [← hl1, ← hl2, h.1])))
    clear hl1 hl2
    go_enter Tryd.func30, Tryd.ntmps30
    go_wp2_with fail
    go_ret
    exact ⟨ret_b (unhide HR).symm, 0, rfl⟩
  subst hn
  have hlx : xs.length = ys.length := by omega
  have t1 : ((n1 : Int) != (n1 : Int)) = false := by simp
  have HCUT := hide (rotL_cut hlx)
  rw [hl2] at HCUT
  have HL2 := hide hl2
  clear hl1 hl2 hlx
  go_enter Tryd.func30, Tryd.ntmps30
  go_wp2_with fail
  have HW0 := hide (show ∃ m, w = w.drewN m from ⟨0, rfl⟩)
  go_loopw [13] (fun i wr => ∃ k : Nat, i = .int .i64 k ∧ k ≤ n1 ∧ Hid (∃ m, wr = w.drewN m) ∧ Hid (∀ j, j < k → ¬ CutAt xs ys j)) (fun i wr => n1 - (intOf i).toNat)
  case atStart => exact ⟨0, rfl, by omega, HW0, fun j h => by omega⟩
  case round =>
    clear HW0
    obtain ⟨k, rfl, hk, HW, HA⟩ := hrel
    by_cases hlt : k < n1
    · obtain ⟨g, off, ha, hg, _⟩ := (unhide H1).2.2 k hlt
      obtain ⟨g2, off2, ha2, hg2, _⟩ := (unhide H2).2.2 k hlt
      subst ha
      subst ha2
      have hlt2 : (k : Int) < (n1 : Int) := by omega
      obtain ⟨d, hd⟩ : ∃ d, d = n1 - k := ⟨_, rfl⟩
      have hs : IntKind.i64.wrap ((n1 : Int) - (k : Int)) = (d : Int) := by rw [IntKind.wrap_i64]; omega
      have q1 : (d : Int) ≤ (c1 : Int) := by omega
      have q2 : (d : Int) ≤ (n1 : Int) := by omega
      have q3 : (k : Int) ≤ (n1 : Int) := by omega
      have q4 : (k : Int) ≤ (c2 : Int) := by omega
      have q5 : ¬ c2 = k := by omega
      have q7 : n1 - k = d := hd.symm
      have M : ∀ {a : Option Addr} {j : Nat} {zs : List Int}, Ns w a j zs → Ns wr a j zs := by
        obtain ⟨m, rfl⟩ := unhide HW
        intro a j zs h
        exact h.below (below_refl_draws _ _)
      have HA1 := hide (M ((unhide H1).take (show d ≤ n1 by omega)))
      have HA2 := hide (show Ns wr (some ⟨g2, off2 + k, none⟩) d (ys.drop k) by rw [hd]; exact M ((unhide H2).drop (show k ≤ n1 by omega)))
      have HA3 := hide (show Ns wr (if c1 = d then some ⟨g, off, none⟩ else some ⟨g, off + d, none⟩) k (xs.drop d) by
        split
        · have h0 : k = 0 := by omega
          subst h0
          have : xs.drop d = [] := by simp; have := (unhide H1).1; omega
          rw [this]
          exact Ns.nil _ _
        · have := M ((unhide H1).drop (show d ≤ n1 by omega))
          rw [show n1 - d = k by omega] at this
          exact this)
      have HA4 := hide (M ((unhide H2).take (show k ≤ n1 by omega)))
      have q6 : n1 - d = k := by omega
      have HLK := hide (show ys.length - k = d by rw [unhide HL2]; exact q7)
      clear M hd
      have E1 := fun (x c c' : Nat) => equal_any (wr.drewN x) _ _ _ _ c c' _ _ (unhide HA1) (unhide HA2)
      have E2 := fun (x c c' : Nat) => equal_any (wr.drewN x) _ _ _ _ c c' _ _ (unhide HA3) (unhide HA4)
      by_cases e1 : xs.take d = ys.drop k
      · have b1 : decide (xs.take d = ys.drop k) = true := decide_eq_true e1
        by_cases e2 : xs.drop d = ys.take k
        · have b2 : decide (xs.drop d = ys.take k) = true := decide_eq_true e2
          have HR := hide (rotB_yes (a := xs) (b := ys) ((unhide HCUT).2 (.inr ⟨k, hlt, by unfold CutAt; rw [unhide HLK]; exact ⟨e1, e2⟩⟩)))
          clear e1 e2 E1 E2
          go_wp2_with fail
          go_quiet ((go_at_call 38; first | exact Calls.quiet_of (equal_any _ _ _ _ _ _ _ _ _ (unhide HA1) (unhide HA2)) | exact Calls.quiet_of (equal_any _ _ _ _ _ _ _ _ _ (unhide HA3) (unhide HA4))))
          generalize (if c1 = d then some (⟨g, off, none⟩ : Addr) else some ⟨g, off + d, none⟩) = A3
          go_wp2_with fail
          go_ret
          obtain ⟨m, rfl⟩ := unhide HW
          exact ⟨ret_b (unhide HR).symm, _, (by first | rfl | exact World.drewN_drewN _ _ _)⟩
        · have b2 : decide (xs.drop d = ys.take k) = false := decide_eq_false e2
          have HA5 := hide (show ∀ j, j < k + 1 → ¬ CutAt xs ys j from fun j hj hc => by
            by_cases hjk : j = k
            · subst hjk
              unfold CutAt at hc
              rw [unhide HLK] at hc
              exact e2 hc.2
            · exact unhide HA j (by omega) hc)
          clear e1 e2 E1 E2
          go_wp2_with fail
          go_quiet ((go_at_call 38; first | exact Calls.quiet_of (equal_any _ _ _ _ _ _ _ _ _ (unhide HA1) (unhide HA2)) | exact Calls.quiet_of (equal_any _ _ _ _ _ _ _ _ _ (unhide HA3) (unhide HA4))))
          generalize (if c1 = d then some (⟨g, off, none⟩ : Addr) else some ⟨g, off + d, none⟩) = A3
          go_wp2_with fail
          go_roundw
          case rel =>
            refine ⟨k + 1, by go_num, by omega, ?_, HA5⟩
            obtain ⟨m, rfl⟩ := unhide HW
            exact ⟨_, (by first | rfl | exact World.drewN_drewN _ _ _)⟩
          case measure => simp [intOf]; omega
      · have b1 : decide (xs.take d = ys.drop k) = false := decide_eq_false e1
        have HA5 := hide (show ∀ j, j < k + 1 → ¬ CutAt xs ys j from fun j hj hc => by
          by_cases hjk : j = k
          · subst hjk
            unfold CutAt at hc
            rw [unhide HLK] at hc
            exact e1 hc.1
          · exact unhide HA j (by omega) hc)
        rw [b1] at E1
        have HE1 := hide E1
        have HE2 := hide E2
        clear e1 b1 E1 E2 HA1 HA2 HA3 HA4
        go_wp2_with fail
        go_quiet ((go_at_call 38; first | exact Calls.quiet_of (unhide HE1 _ _ _) | exact Calls.quiet_of (unhide HE2 _ _ _)))
        go_wp2_with fail
        go_roundw
        case rel =>
          refine ⟨k + 1, by go_num, by omega, ?_, HA5⟩
          obtain ⟨m, rfl⟩ := unhide HW
          exact ⟨_, (by first | rfl | exact World.drewN_drewN _ _ _)⟩
        case measure => simp [intOf]; omega
    · obtain rfl : k = n1 := by omega
      by_cases h0 : k = 0
      · have t2 : ((k : Int) == 0) = true := by simp [h0]
        have HR := hide (rotB_yes (a := xs) (b := ys) ((unhide HCUT).2 (.inl h0)))
        clear h0
        go_wp2_with fail
        go_ret
        exact ⟨ret_b (by rw [unhide HR]), unhide HW⟩
      · have t2 : ((k : Int) == 0) = false := by rw [beq_eq_false_iff_ne]; omega
        have HR := hide (rotB_no (a := xs) (b := ys) (fun h => by
          rcases (unhide HCUT).1 h with h | ⟨j, hj, h⟩
          · exact h0 h
          · exact unhide HA j hj h))
        clear h0
        go_wp2_with fail
        go_ret
        exact ⟨ret_b (by rw [unhide HR]), unhide HW⟩

end Go.Proofs.YtmklngabfdnclaaDoor


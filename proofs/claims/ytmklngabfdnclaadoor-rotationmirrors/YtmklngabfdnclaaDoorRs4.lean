/-
  Rows of rows of numbers in memory; the contracts of slices.EqualFunc with sameRound, and of rotation.Same. Conditions: the rows lie in memory as told.
-/
import Derived.Test.YtmklngabfdnclaaDoorRs2
namespace Go.Proofs.YtmklngabfdnclaaDoor
open Go.RowKit
set_option linter.unusedVariables false
set_option maxRecDepth 20000

/-- a slice of slices of ints that is read: its address, its length, its lists -/
def Rr (w : World) (a : Option Addr) (n : Nat) (rs : List (List Int)) : Prop :=
  rs.length = n ∧ n ≤ 140737488355328 ∧ ∀ k, k < n → ∃ g off la lc, a = some ⟨g, off, none⟩ ∧ g < w.heap.size ∧ w.cell? ⟨g, off + k, none⟩ = some (.slice la (rs.getD k []).length lc) ∧ (rs.getD k []).length ≤ lc ∧ Ns w la (rs.getD k []).length (rs.getD k [])
theorem Rr.below {w w' : World} {a : Option Addr} {n : Nat} {rs : List (List Int)} (h : Rr w a n rs) (hb : Below w.heap.size w w') : Rr w' a n rs := by
  obtain ⟨h1, h2, h3⟩ := h
  refine ⟨h1, h2, fun k hk => ?_⟩
  obtain ⟨g, off, la, lc, ha, hg, c0, hc, hn⟩ := h3 k hk
  exact ⟨g, off, la, lc, ha, Nat.lt_of_lt_of_le hg hb.size, by rw [hb.cell (p := ⟨g, off + k, none⟩) hg]; exact c0, hc, hn.below hb⟩

/-- rotations that are one -/
def SameR (a b : List (List Int)) : Prop := a.length = b.length ∧ ∀ k, k < b.length → RotL (a.getD k []) (b.getD k [])
def sameB (a b : List (List Int)) : Bool := decide (a.length = b.length) && (List.range b.length).all fun k => rotB (a.getD k []) (b.getD k [])
theorem sameB_true {a b : List (List Int)} : sameB a b = true ↔ SameR a b := by
  unfold sameB SameR
  simp only [Bool.and_eq_true, decide_eq_true_eq, List.all_eq_true, List.mem_range, rotB_true]
theorem sameB_yes {a b : List (List Int)} (h : SameR a b) : sameB a b = true := sameB_true.2 h
theorem sameB_no {a b : List (List Int)} (h : ¬ SameR a b) : sameB a b = false := by
  cases hb : sameB a b with
  | false => rfl
  | true => exact absurd (sameB_true.1 hb) h

set_option maxHeartbeats 4000000 in
theorem eqf_any (w : World) (a1 a2 : Option Addr) (n1 n2 c1 c2 : Nat) (xs ys : List (List Int)) (h1 : n1 = n2 → Rr w a1 n1 xs) (h2 : n1 = n2 → Rr w a2 n2 ys) (hl1 : xs.length = n1) (hl2 : ys.length = n2) :
    Calls Tryd.prog 29 #[.slice a1 n1 c1, .slice a2 n2 c2, .func (.func 30) #[] #[]] w fun e w' => e = .returned (.bool (sameB xs ys)) ∧ ∃ m, w' = w.drewN m := by
  by_cases hn : n1 = n2
  case neg =>
    have t1 : ((n1 : Int) != (n2 : Int)) = true := by simp; omega
    have HR := hide (sameB_no (a := xs) (b := ys) (fun h => hn (by rw [← hl1, ← hl2, h.1])))
    clear hl1 hl2 h1 h2
    go_enter Tryd.func29, Tryd.ntmps29
    go_wp2_with fail
    go_ret
    exact ⟨ret_b (unhide HR).symm, 0, rfl⟩
  subst hn
  have t1 : ((n1 : Int) != (n1 : Int)) = false := by simp
  have H1 := hide (h1 rfl)
  have H2 := hide (h2 rfl)
  have HL1 := hide hl1
  have HL2 := hide hl2
  have hnb := (unhide H1).2.1
  clear h1 h2 hl1 hl2
  go_enter Tryd.func29, Tryd.ntmps29
  go_wp2_with fail
  have HW0 := hide (show ∃ m, w = w.drewN m from ⟨0, rfl⟩)
  go_loopw [17] (fun i wr => ∃ k : Nat, i = .int .i64 k ∧ k ≤ n1 ∧ Hid (∃ m, wr = w.drewN m) ∧ Hid (∀ j, j < k → RotL (xs.getD j []) (ys.getD j []))) (fun i wr => n1 - (intOf i).toNat)
  case atStart => exact ⟨0, rfl, by omega, HW0, fun j h => by omega⟩
  case round =>
    clear HW0
    obtain ⟨k, rfl, hk, HW, HA⟩ := hrel
    by_cases hlt : k < n1
    · have hlt2 : (k : Int) < (n1 : Int) := by omega
      have H1r := hide (show Rr wr a1 n1 xs by obtain ⟨m, rfl⟩ := unhide HW; exact (unhide H1).below (below_refl_draws _ _))
      have H2r := hide (show Rr wr a2 n1 ys by obtain ⟨m, rfl⟩ := unhide HW; exact (unhide H2).below (below_refl_draws _ _))
      obtain ⟨g, off, la, lc, ha, hg, d0, hlc, hn1⟩ := (unhide H1r).2.2 k hlt
      obtain ⟨g2, off2, la2, lc2, ha2, hg2, d2, hlc2, hn2⟩ := (unhide H2r).2.2 k hlt
      subst ha
      subst ha2
      have HC := hide (round_any wr la la2 _ _ lc lc2 hlc hlc2 _ _ hn1 hn2)
      have HX := hide (rotB_true (a := xs.getD k []) (b := ys.getD k []))
      clear hn1 hn2 hlc hlc2
      generalize (xs.getD k []).length = p1 at *
      generalize (ys.getD k []).length = p2 at *
      generalize rotB (xs.getD k []) (ys.getD k []) = r at *
      cases r with
      | true =>
        go_wp2_with (go_at_call 30; refine (unhide HC).mono ?_; rintro e w2 ⟨rfl, hm⟩; have HM := hide hm; clear hm)
        go_roundw
        case rel =>
          refine ⟨k + 1, by go_num, by omega, ?_, fun j hj => ?_⟩
          · obtain ⟨m, rfl⟩ := unhide HW
            obtain ⟨m2, rfl⟩ := unhide HM
            exact ⟨_, World.drewN_drewN _ _ _⟩
          · by_cases hjk : j = k
            · rw [hjk]; exact (unhide HX).1 (by trivial)
            · exact unhide HA j (by omega)
        case measure => simp [intOf]; omega
      | false =>
        go_wp2_with (go_at_call 30; refine (unhide HC).mono ?_; rintro e w2 ⟨rfl, hm⟩; have HM := hide hm; clear hm)
        go_ret
        refine ⟨ret_b (sameB_no fun h => ?_).symm, ?_⟩
        · have := (unhide HX).2 (h.2 k (by rw [unhide HL2]; exact hlt))
          simp at this
        · obtain ⟨m, rfl⟩ := unhide HW
          obtain ⟨m2, rfl⟩ := unhide HM
          exact ⟨_, World.drewN_drewN _ _ _⟩
    · obtain rfl : k = n1 := by omega
      go_wp2_with fail
      go_ret
      exact ⟨ret_b (sameB_yes ⟨by rw [unhide HL1, unhide HL2], by rw [unhide HL2]; exact unhide HA⟩).symm, unhide HW⟩

set_option maxHeartbeats 1000000 in
/-- rotation.Same: it only reads -/
theorem same_any (w : World) (a1 a2 : Option Addr) (n1 n2 c1 c2 : Nat) (xs ys : List (List Int)) (h1 : n1 = n2 → Rr w a1 n1 xs) (h2 : n1 = n2 → Rr w a2 n2 ys) (hl1 : xs.length = n1) (hl2 : ys.length = n2) :
    Calls Tryd.prog 16 #[.slice a1 n1 c1, .slice a2 n2 c2] w fun e w' => e = .returned (.bool (sameB xs ys)) ∧ ∃ m, w' = w.drewN m := by
  have HC := hide (eqf_any w a1 a2 n1 n2 c1 c2 xs ys h1 h2 hl1 hl2)
  clear h1 h2 hl1 hl2
  go_enter Tryd.func16, Tryd.ntmps16
  go_wp2_with (go_at_call 29; refine (unhide HC).mono ?_; rintro e w2 ⟨rfl, hm⟩)
  go_ret
  exact ⟨rfl, hm⟩
end Go.Proofs.YtmklngabfdnclaaDoor


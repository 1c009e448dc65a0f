/-
  The walk of the statement RotationSame. Conditions: the lists lie in memory as told.
-/
import Derived.Test.YtfggihoabengjaaSp
import Derived.Test.YtfggihoabengjaaRs3
namespace Go.Proofs.Ytfggihoabengjaa
open Go.RowKit
set_option linter.unusedVariables false
set_option maxRecDepth 20000

/-- rows of rows that came in: where they are few, their slices; where a slice is short, its numbers -/
def Rq (w : World) (a : Option Addr) (n : Nat) (rs : List (List Int)) : Prop :=
  rs.length = n ∧ (n ≤ 1000 → ∀ k, k < n → ∃ g off la lc, a = some ⟨g, off, none⟩ ∧ g < w.heap.size ∧ w.cell? ⟨g, off + k, none⟩ = some (.slice la (rs.getD k []).length lc) ∧ (rs.getD k []).length ≤ lc ∧ ((rs.getD k []).length ≤ 1000 → Ns w la (rs.getD k []).length (rs.getD k [])))
theorem Rq.below {w w' : World} {a : Option Addr} {n : Nat} {rs : List (List Int)} (h : Rq w a n rs) (hb : Below w.heap.size w w') : Rq w' a n rs := by
  refine ⟨h.1, fun hn k hk => ?_⟩
  obtain ⟨g, off, la, lc, ha, hg, c0, hc, hs⟩ := h.2 hn k hk
  exact ⟨g, off, la, lc, ha, Nat.lt_of_lt_of_le hg hb.size, by rw [hb.cell (p := ⟨g, off + k, none⟩) hg]; exact c0, hc, fun hl => (hs hl).below hb⟩
theorem Rq.rr {w : World} {a : Option Addr} {n : Nat} {rs : List (List Int)} (h : Rq w a n rs) (hn : n ≤ 1000) (hl : ∀ k, k < n → (rs.getD k []).length ≤ 1000) : Rr w a n rs := by
  refine ⟨h.1, by omega, fun k hk => ?_⟩
  obtain ⟨g, off, la, lc, ha, hg, c0, hc, hs⟩ := h.2 hn k hk
  exact ⟨g, off, la, lc, ha, hg, c0, hc, hs (hl k hk)⟩

set_option maxHeartbeats 8000000 in
theorem same_walk (w : World) (a1 a2 : Option Addr) (n1 n2 c1 c2 : Nat) (xs ys : List (List Int)) (h1 : Rq w a1 n1 xs) (h2 : Rq w a2 n2 ys) :
    Calls Try.prog 3 #[.slice a1 n1 c1, .slice a2 n2 c2] w fun e w' => e = .returned (.bool true) ∧ Below w.heap.size w w' := by
  have hl1 := h1.1
  have hl2 := h2.1
  have H1 := hide h1
  have H2 := hide h2
  have HL1 := hide hl1
  have HL2 := hide hl2
  have C6 := hide (fun (u : World) (hu : Below w.heap.size w u) (r1 : n1 = n2 → Rr u a1 n1 xs) (r2 : n1 = n2 → Rr u a2 n2 ys) => same_any u a1 a2 n1 n2 c1 c2 xs ys r1 r2 hl1 hl2)
  clear h1 h2 hl1 hl2
  by_cases hb1 : n1 ≤ 60
  case neg =>
    have t1 : (60 : Int) < (n1 : Int) := by omega
    go_enter Try.func3, Try.ntmps3
    go_wp2_with fail
    refine (speaks_any _).mono ?_
    rintro e w1 ⟨rfl, hb⟩
    have HB := hide hb
    clear hb
    go_wp2_with fail
    go_ret
    exact ⟨rfl, unhide HB⟩
  have t1 : decide ((60 : Int) < (n1 : Int)) = false := decide_eq_false (by omega)
  have t1' : ¬ (60 : Int) < (n1 : Int) := by omega
  by_cases hb2 : n2 ≤ 60
  case neg =>
    have t2 : (60 : Int) < (n2 : Int) := by omega
    go_enter Try.func3, Try.ntmps3
    go_wp2_with fail
    refine (speaks_any _).mono ?_
    rintro e w1 ⟨rfl, hb⟩
    have HB := hide hb
    clear hb
    go_wp2_with fail
    go_ret
    exact ⟨rfl, unhide HB⟩
  have t2 : decide ((60 : Int) < (n2 : Int)) = false := decide_eq_false (by omega)
  have t2' : ¬ (60 : Int) < (n2 : Int) := by omega
  go_enter Try.func3, Try.ntmps3
  go_wp2_with fail
  refine (speaks_any _).mono ?_
  rintro e w1 ⟨rfl, hb⟩
  have HB := hide hb
  clear hb
  obtain ⟨q0, hq0⟩ : ∃ q : Bool, ((n1 : Int) == (n2 : Int)) = q := ⟨_, rfl⟩
  have HQ0 := hide (show q0 = true ↔ (n1 = n2 ∧ ∀ j, j < 0 → RotL (xs.getD j []) (ys.getD j [])) by
    rw [← hq0]
    simp
    omega)
  go_wp2_with fail
  have HW0 := hide (show ∃ j, w1 = w1.drewN j from ⟨0, rfl⟩)
  go_loopw [5, 24] (fun v5 i wr => ∃ (k : Nat) (q : Bool), i = .int .i64 k ∧ v5 = .bool q ∧ k ≤ n1 ∧ Hid (q = true ↔ (n1 = n2 ∧ ∀ j, j < k → RotL (xs.getD j []) (ys.getD j []))) ∧ Hid (∀ j, j < k → (xs.getD j []).length ≤ 60 ∧ (j < n2 → (ys.getD j []).length ≤ 60)) ∧ Hid (∃ j, wr = w1.drewN j)) (fun v5 i wr => n1 - (intOf i).toNat)
  case atStart => exact ⟨0, q0, rfl, rfl, by omega, HQ0, (fun j hj => by omega), HW0⟩
  case round =>
    clear HW0 HQ0 hq0
    obtain ⟨k, q, rfl, rfl, hk, HQ, HS, HW⟩ := hrel
    have HBr := hide (show Below w.heap.size w wr by obtain ⟨j, rfl⟩ := unhide HW; exact (unhide HB).trans (below_refl_draws _ j))
    by_cases hkn : k < n1
    · have hkn2 : (k : Int) < (n1 : Int) := by omega
      obtain ⟨g, off, la, lc, ha, hg, d0, hlc, hns⟩ := ((unhide H1).below (unhide HBr)).2 (by omega) k hkn
      subst ha
      obtain ⟨l1, hl1⟩ : ∃ l, (xs.getD k []).length = l := ⟨_, rfl⟩
      rw [hl1] at d0 hns
      have HN1 := hide hns
      have HLA := hide hl1
      clear hns hlc hl1
      by_cases hA : l1 ≤ 60
      case neg =>
        have e1 : (60 : Int) < (l1 : Int) := by omega
        go_wp2_with fail
        go_ret
        exact ⟨rfl, unhide HBr⟩
      have e1 : decide ((60 : Int) < (l1 : Int)) = false := decide_eq_false (by omega)
      have e1' : ¬ (60 : Int) < (l1 : Int) := by omega
      by_cases hkm : k < n2
      · have hkm2 : (k : Int) < (n2 : Int) := by omega
        obtain ⟨g2, off2, la2, lc2, ha2, hg2, d2, hlc2, hns2⟩ := ((unhide H2).below (unhide HBr)).2 (by omega) k hkm
        subst ha2
        obtain ⟨l2, hl2⟩ : ∃ l, (ys.getD k []).length = l := ⟨_, rfl⟩
        rw [hl2] at d2 hns2
        have HN2 := hide hns2
        have HLB := hide hl2
        clear hns2 hlc2 hl2
        by_cases hBb : l2 ≤ 60
        case neg =>
          have e2 : (60 : Int) < (l2 : Int) := by omega
          go_wp2_with fail
          go_ret
          exact ⟨rfl, unhide HBr⟩
        have e2 : decide ((60 : Int) < (l2 : Int)) = false := decide_eq_false (by omega)
        have e2' : ¬ (60 : Int) < (l2 : Int) := by omega
        have HS2 := hide (show ∀ j, j < k + 1 → (xs.getD j []).length ≤ 60 ∧ (j < n2 → (ys.getD j []).length ≤ 60) from fun j hj => by
          by_cases hjk : j = k
          · subst hjk
            rw [unhide HLA, unhide HLB]
            exact ⟨hA, fun _ => hBb⟩
          · exact unhide HS j (by omega))
        have hsu : ∀ r : Bool, (r = true ↔ RotL (xs.getD k []) (ys.getD k [])) → ((q && r) = true ↔ (n1 = n2 ∧ ∀ j, j < k + 1 → RotL (xs.getD j []) (ys.getD j []))) := fun r hr => by
          rw [Bool.and_eq_true, unhide HQ, hr]
          constructor
          · rintro ⟨⟨h1, h2⟩, h3⟩
            refine ⟨h1, fun j hj => ?_⟩
            by_cases hjk : j = k
            · subst hjk; exact h3
            · exact h2 j (by omega)
          · rintro ⟨h1, h2⟩
            exact ⟨⟨h1, fun j hj => h2 j (by omega)⟩, h2 k (by omega)⟩
        have HSU := hide hsu
        have C5 := hide (fun x => refsame_any (wr.drewN x) la la2 l1 l2 lc lc2 (by omega) (xs.getD k []) (ys.getD k []) (unhide HN1 (by omega)) (unhide HN2 (by omega)))
        have HRT := hide (rotB_true (a := xs.getD k []) (b := ys.getD k []))
        generalize rotB (xs.getD k []) (ys.getD k []) = r at *
        clear hsu
        cases q with
        | true =>
          go_wp2_with fail
          go_quiet ((go_at_call 5; exact Calls.quiet_of (unhide C5 _)))
          go_wp2_with fail
          go_roundw
          case rel =>
            refine ⟨k + 1, r, by go_num, rfl, by omega, ?_, HS2, ?_⟩
            · have := unhide HSU r (unhide HRT)
              exact hide (by simpa using this)
            · obtain ⟨j, rfl⟩ := unhide HW
              exact ⟨_, (by first | rfl | exact World.drewN_drewN _ _ _)⟩
          case measure => simp [intOf]; omega
        | false =>
          go_wp2_with fail
          go_quiet (fail)
          go_wp2_with fail
          go_roundw
          case rel =>
            refine ⟨k + 1, false, by go_num, rfl, by omega, ?_, HS2, ?_⟩
            · have := unhide HSU r (unhide HRT)
              exact hide (by simpa using this)
            · obtain ⟨j, rfl⟩ := unhide HW
              exact ⟨_, (by first | rfl | exact World.drewN_drewN _ _ _)⟩
          case measure => simp [intOf]; omega
      · have hkm2 : decide ((k : Int) < (n2 : Int)) = false := decide_eq_false (by omega)
        have hkm3 : ¬ (k : Int) < (n2 : Int) := by omega
        have hqf : q = false := by
          cases q with
          | false => rfl
          | true => have := ((unhide HQ).1 rfl).1; omega
        subst hqf
        have HQ2 := hide (show false = true ↔ (n1 = n2 ∧ ∀ j, j < k + 1 → RotL (xs.getD j []) (ys.getD j [])) by
          constructor
          · intro h; cases h
          · rintro ⟨h, _⟩; omega)
        have HS2 := hide (show ∀ j, j < k + 1 → (xs.getD j []).length ≤ 60 ∧ (j < n2 → (ys.getD j []).length ≤ 60) from fun j hj => by
          by_cases hjk : j = k
          · subst hjk
            rw [unhide HLA]
            exact ⟨hA, fun h => absurd h hkm⟩
          · exact unhide HS j (by omega))
        go_wp2_with fail
        go_quiet (fail)
        go_wp2_with fail
        go_roundw
        case rel =>
          refine ⟨k + 1, false, by go_num, rfl, by omega, HQ2, HS2, ?_⟩
          obtain ⟨j, rfl⟩ := unhide HW
          exact ⟨_, (by first | rfl | exact World.drewN_drewN _ _ _)⟩
        case measure => simp [intOf]; omega
    · obtain rfl : k = n1 := by omega
      have hsq : sameB xs ys = q := by
        cases hq : q with
        | true =>
          have := (unhide HQ).1 hq
          exact sameB_yes ⟨by rw [unhide HL1, unhide HL2]; exact this.1, fun j hj => this.2 j (by rw [unhide HL2] at hj; omega)⟩
        | false =>
          refine sameB_no fun hs => ?_
          have : q = true := (unhide HQ).2 ⟨by rw [← unhide HL1, ← unhide HL2]; exact hs.1, fun j hj => hs.2 j (by have := hs.1; rw [unhide HL1] at this; omega)⟩
          rw [hq] at this
          cases this
      have C6r := hide (unhide C6 wr (unhide HBr) (fun _ => ((unhide H1).below (unhide HBr)).rr (by omega) fun j hj => by have := (unhide HS j hj).1; omega) (fun he => ((unhide H2).below (unhide HBr)).rr (by omega) fun j hj => by have := (unhide HS j (by omega)).2 hj; omega))
      rw [hsq] at C6r
      have hqq : (q == q) = true := by simp
      clear hsq
      go_wp2_with (go_at_call 6; refine (unhide C6r).mono ?_; rintro e w2 ⟨rfl, hm⟩; have HM := hide hm; clear hm)
      go_ret
      refine ⟨ret_b (by first | exact hqq | simp), ?_⟩
      obtain ⟨m, rfl⟩ := unhide HM
      exact (unhide HBr).trans (below_refl_draws _ m)
end Go.Proofs.Ytfggihoabengjaa


/-
  The contract of firstTwice. Conditions: the edges lie in memory as told.
-/
import Derived.Test.YtdkchihomllokaaEd
namespace Go.Proofs.Ytdkchihomllokaa
open Go.RowKit
set_option linter.unusedVariables false
set_option maxRecDepth 20000

/-- edge i was there ahead of i -/
def twB (es : List (Int × Int)) (i : Nat) : Bool := decide (0 ≤ ixp i fun j => es.getD j (0, 0) == es.getD i (0, 0))

theorem Es.take {B : Nat} {w : World} {a : Option Addr} {n : Nat} {es : List (Int × Int)} (h : Es B w a n es) (k : Nat) (hk : k ≤ n) : Es B w a k (es.take k) := by
  obtain ⟨h1, h2, h3⟩ := h
  refine ⟨by simp; omega, by omega, fun j hj => ?_⟩
  obtain ⟨g, off, ha, hB, hg, c0, c1⟩ := h3 j (by omega)
  have : (es.take k).getD j (0, 0) = es.getD j (0, 0) := by simp [List.getD, hj]
  rw [this]
  exact ⟨g, off, ha, hB, hg, c0, c1⟩

theorem ixp_congr {n : Nat} {p q : Nat → Bool} (h : ∀ j, j < n → p j = q j) : ixp n p = ixp n q := by
  rcases ixp_cases n q with ⟨e, hq⟩ | ⟨m, e, hm, h1, h2⟩
  · rw [e]; exact ixp_miss fun j hj => by rw [h j hj]; exact hq j hj
  · rw [e]; exact ixp_hit m hm (by rw [h m hm]; exact h1) fun j hj => by rw [h j (by omega)]; exact h2 j hj

set_option maxHeartbeats 2000000 in
theorem twice_any (w : World) (a : Option Addr) (n c : Nat) (es : List (Int × Int)) {B : Nat} (hnc : n ≤ c) (h : Es B w a n es) :
    Calls Try.prog 47 #[.slice a n c] w fun e w' => e = .returned (.int .i64 (ixp n (twB es))) ∧ Below w.heap.size w w' := by
  have HE := hide h
  obtain ⟨hl, hn, hc⟩ := h
  have HC := hide hc
  have HL := hide hl
  clear hc hl
  go_enter Try.func47, Try.ntmps47
  go_wp2
  go_loopw [7] (fun i wr => ∃ k : Nat, i = .int .i64 k ∧ k ≤ n ∧ Below w.heap.size w wr ∧ Hid (∀ j, j < k → twB es j = false)) (fun i wr => n - (intOf i).toNat)
  case atStart => exact ⟨0, rfl, by omega, Below.refl _ _, fun j hj => by omega⟩
  case round =>
    obtain ⟨k, rfl, hk, hb, HA⟩ := hrel
    by_cases hlt : k < n
    · obtain ⟨g, off, ha, _, hg, d0, d1⟩ := unhide HC k hlt
      subst ha
      obtain ⟨ed, hed⟩ : ∃ x, es.getD k (0, 0) = x := ⟨_, rfl⟩
      rw [hed] at d0 d1
      have HED := hide hed
      clear hed
      obtain ⟨p, q⟩ := ed
      simp only at d0 d1
      have e0 : wr.cell? ⟨g, off + k * 2, none⟩ = some (.int .i64 p) := by rw [hb.cell (p := ⟨g, off + k * 2, none⟩) hg]; exact d0
      have e1 : wr.cell? ⟨g, off + k * 2 + 1, none⟩ = some (.int .i64 q) := by rw [hb.cell (p := ⟨g, off + k * 2 + 1, none⟩) hg]; exact d1
      have HB := hide hb
      have hz : g < wr.heap.size := by have := hb.size; omega
      have hE1 : Es B wr (some ⟨g, off, none⟩) k (es.take k) := ((unhide HE).below hb).take k (by omega)
      have htw : decide (0 ≤ ixp k fun j => (es.take k).getD j (0, 0) == (p, q)) = twB es k := by
        unfold twB
        rw [unhide HED, ixp_congr (q := fun j => es.getD j (0, 0) == (p, q))]
        intro j hj
        simp [List.getD, hj]
      have HTW := hide htw
      have HE1 := hide hE1
      clear d0 d1 hb htw hE1
      have hlt2 : (k : Int) < (n : Int) := by omega
      have hkc : (k : Int) ≤ (c : Int) := by omega
      cases htk : twB es k with
      | true =>
        have HT := hide htk
        clear htk
        go_wp2_with fail
        go_region_with (go_at_call 63; refine (containsE_any _ (some ⟨g, off, none⟩) k _ (es.take k) p q (B := B) ?_).mono ?_; exact (unhide HE1).below ((Below.refl _ _).alloc (Nat.le_refl _) _).drew; rintro e w' ⟨rfl, hb1⟩; rw [unhide HTW, unhide HT]; have HB1 := hide hb1; clear hb1)
        all_goals go_wp2_with fail
        all_goals go_ret
        all_goals exact ⟨ret_i (ixp_hit k hlt (unhide HT) (unhide HA)).symm, ((unhide HB).alloc (unhide HB).size _).drew.trans ((unhide HB1).mono (by have := (unhide HB).size; simp; omega))⟩
      | false =>
        have HT := hide htk
        clear htk
        go_wp2_with fail
        go_region_with (go_at_call 63; refine (containsE_any _ (some ⟨g, off, none⟩) k _ (es.take k) p q (B := B) ?_).mono ?_; exact (unhide HE1).below ((Below.refl _ _).alloc (Nat.le_refl _) _).drew; rintro e w' ⟨rfl, hb1⟩; rw [unhide HTW, unhide HT]; have HB1 := hide hb1; clear hb1)
        all_goals go_wp2_with fail
        all_goals go_roundw
        all_goals first
          | (simp [intOf]; omega)
          | (refine ⟨k + 1, by go_num, by omega, ((unhide HB).alloc (unhide HB).size _).drew.trans ((unhide HB1).mono (by have := (unhide HB).size; simp; omega)), fun j hj => ?_⟩
             by_cases hjk : j < k
             · exact unhide HA j hjk
             · obtain rfl : j = k := by omega
               exact unhide HT)
    · go_wp2
      go_ret
      exact ⟨ret_i (ixp_miss (fun j hj => unhide HA j (by omega))).symm, hb⟩
end Go.Proofs.Ytdkchihomllokaa

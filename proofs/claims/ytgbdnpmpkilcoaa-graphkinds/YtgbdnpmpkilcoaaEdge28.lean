/-
  The contract of the closure in the statement GraphKinds, and the length's answer of Each. Conditions: the graph lies in memory as told.
-/
import Derived.Test.YtgbdnpmpkilcoaaKindsP
import Derived.Test.YtgbdnpmpkilcoaaBx
namespace Go.Proofs.Ytgbdnpmpkilcoaa
open Go.RowKit
set_option linter.unusedVariables false

def Edge (es : List (Nat × Nat)) (a b : Int) : Prop := ∃ e ∈ es, (e.1 : Int) = a ∧ (e.2 : Int) = b

set_option maxHeartbeats 2000000 in
theorem edge_any (w : World) (xb V : Nat) (xa : Option Addr) (cap : Nat) (es : List (Nat × Nat)) {B : Nat} (h : Es B w xa es.length (toI es)) (hx : w.heap[xb]? = some (.cells #[.int .i64 V, .slice xa es.length cap] 24 (0, 0))) (a b : Int) :
    Calls Try.prog 28 #[.int .i64 a, .int .i64 b, .pointer (some ⟨xb, 0, none⟩)] w fun e w' => Told (Edge es a b) e ∧ Below w.heap.size w w' := by
  have HE := hide h
  have hxl := (Array.getElem?_eq_some_iff.1 hx).1
  have hn := h.2.1
  have x1 : w.cell? ⟨xb, 1, none⟩ = some (.slice xa es.length cap) := by simp [World.cell?, hx]
  obtain ⟨n, hnn⟩ : ∃ n, es.length = n := ⟨_, rfl⟩
  have HN := hide hnn
  rw [hnn] at x1 hn
  clear h hx hnn
  go_enter Try.func28, Try.ntmps28
  go_wp2
  go_loopw [11] (fun i w' => ∃ k : Nat, i = .int .i64 k ∧ k ≤ n ∧ Hid (∀ j, j < k → ¬ (((Pl.at' es j).1 : Int) = a ∧ ((Pl.at' es j).2 : Int) = b)) ∧ Hid (Below w.heap.size w w')) (fun i w' => n - (intOf i).toNat)
  case atStart => exact ⟨0, rfl, by omega, fun j h => by omega, Below.refl _ _⟩
  case round =>
    obtain ⟨k, rfl, hk, HA, HB⟩ := hrel
    have hsz := (unhide HB).size
    clear x1
    by_cases hlt : k < n
    · have hlt2 : (k : Int) < (n : Int) := by omega
      obtain ⟨g, off, ha, hg, e0, e1⟩ := es_at ((unhide HE).below (unhide HB)) (i := k) (by rw [unhide HN]; exact hlt)
      obtain ⟨p, q, hpq⟩ : ∃ p q, Pl.at' es k = (p, q) := ⟨_, _, rfl⟩
      have HPQ := hide hpq
      rw [hpq] at e0 e1
      simp only at e0 e1
      subst ha
      clear hpq
      by_cases hp : (p : Int) = a
      · have hb1 : ((p : Int) == a) = true := by rw [beq_iff_eq]; exact hp
        have HP := hide hp
        clear hp
        by_cases hq : (q : Int) = b
        · have hb2 : ((q : Int) == b) = true := by rw [beq_iff_eq]; exact hq
          have HQ := hide hq
          clear hq
          go_wp2
          go_ret
          refine ⟨.yes ⟨Pl.at' es k, Pl.at_mem (by rw [unhide HN]; exact hlt), ?_⟩, (unhide HB).alloc hsz _⟩
          rw [unhide HPQ]
          exact ⟨unhide HP, unhide HQ⟩
        · have hb2 : ((q : Int) == b) = false := by rw [beq_eq_false_iff_ne]; exact hq
          have HQ := hide hq
          clear hq
          go_wp2
          go_roundw
          case rel =>
            refine ⟨k + 1, by go_num, by omega, fun j hj => ?_, (unhide HB).alloc hsz _⟩
            by_cases hjk : j < k
            · exact unhide HA j hjk
            · obtain rfl : j = k := by omega
              rw [unhide HPQ]
              exact fun h => unhide HQ h.2
          case measure => simp [intOf]; omega
      · have hb1 : ((p : Int) == a) = false := by rw [beq_eq_false_iff_ne]; exact hp
        have HP := hide hp
        clear hp
        go_wp2
        go_roundw
        case rel =>
          refine ⟨k + 1, by go_num, by omega, fun j hj => ?_, (unhide HB).alloc hsz _⟩
          by_cases hjk : j < k
          · exact unhide HA j hjk
          · obtain rfl : j = k := by omega
            rw [unhide HPQ]
            exact fun h => unhide HP h.1
        case measure => simp [intOf]; omega
    · obtain rfl : k = n := by omega
      go_wp2
      go_ret
      refine ⟨.no ?_, unhide HB⟩
      rintro ⟨e, he, h2⟩
      obtain ⟨i, hi, rfl⟩ := Pl.mem_at he
      exact unhide HA i (by rw [← unhide HN]; exact hi) h2

theorem each_len (w : World) (a : Option Addr) (m c n : Nat) (h : m ≠ n) :
    Calls Try.prog 26 #[.slice a m c, .int .i64 n] w fun e w' => e = .returned (.bool false) ∧ w' = w := by
  have hb : ((m : Int) != (n : Int)) = true := by rw [bne_iff_ne]; omega
  go_enter Try.func26, Try.ntmps26
  go_wp2
  go_ret
  exact ⟨rfl, rfl⟩
end Go.Proofs.Ytgbdnpmpkilcoaa

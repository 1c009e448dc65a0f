/-
  The statement LinesCut answers true, whatever the graph, the cut and the bytes. Conditions: strconv's table is as its text lays it.
-/
import Derived.Test.YtdcfhdpbpfgohaaDoorWalkCut
import Derived.Test.YtdcfhdpbpfgohaaDoorLinesTexts
namespace Go.Proofs.YtdcfhdpbpfgohaaDoor
open Go.RowKit
set_option linter.unusedVariables false

set_option maxHeartbeats 1000000 in
theorem fits_big (w : World) (V : Int) (a : Option Addr) (n cap : Nat) (hn : 128 < n) :
    Calls Tryd.prog 9 #[.agg #[.int .i64 V, .slice a n cap]] w fun e w' => e = .returned (.bool false) ∧ Below w.heap.size w w' := by
  go_enter Tryd.func9, Tryd.ntmps9
  go_wp2_with fail
  have hb0 : Below w.heap.size w (w.alloc (.cells #[.int .i64 V, .slice a n cap] 24)) := (Below.refl _ _).alloc (Nat.le_refl _) _
  refine (linesTexts.may_big _ V a n cap hn).mono ?_
  rintro e w1 ⟨rfl, hb1⟩
  have HB := hide (hb0.trans (hb1.mono (by simp)))
  clear hb0 hb1
  go_wp2
  go_ret
  exact ⟨rfl, unhide HB⟩

set_option maxHeartbeats 1000000 in
theorem cut_no (w : World) (V : Int) (a : Option Addr) (n cap : Nat) (cut : Int) (x : Option Addr) (m c : Nat)
    (hF : ∀ w1, Below w.heap.size w w1 → Calls Tryd.prog 9 #[.agg #[.int .i64 V, .slice a n cap]] w1 fun e w' => e = .returned (.bool false) ∧ Below w1.heap.size w1 w') :
    Calls Tryd.prog 4 #[.agg #[.int .i64 V, .slice a n cap], .int .i64 cut, .slice x m c] w fun e w' => e = .returned (.bool true) ∧ Below w.heap.size w w' := by
  have HF := hide hF
  clear hF
  go_enter Tryd.func4, Tryd.ntmps4
  go_wp2_with fail
  have hb0 : Below w.heap.size w (w.alloc (.cells #[.int .i64 V, .slice a n cap] 24)) := (Below.refl _ _).alloc (Nat.le_refl _) _
  refine (speaks_any _).mono ?_
  rintro e w1 ⟨rfl, hb1⟩
  have d0 : w1.cell? ⟨w.heap.size, 0, none⟩ = some (.int .i64 V) := by rw [hb1.cell (p := ⟨w.heap.size, 0, none⟩) (by simp)]; simp
  have d1 : w1.cell? ⟨w.heap.size, 1, none⟩ = some (.slice a n cap) := by rw [hb1.cell (p := ⟨w.heap.size, 1, none⟩) (by simp)]; simp
  have HB1 := hide (hb0.trans (hb1.mono (by simp)))
  clear hb0 hb1
  go_wp2_with fail
  refine (unhide HF _ (unhide HB1)).mono ?_
  rintro e w2 ⟨rfl, hb2⟩
  have HB2 := hide ((unhide HB1).trans (hb2.mono (unhide HB1).size))
  clear hb2
  go_wp2_with fail
  go_ret
  exact ⟨rfl, unhide HB2⟩

set_option maxHeartbeats 1000000 in
theorem cut_long (w : World) (V : Int) (a : Option Addr) (n cap : Nat) (es : List (Int × Int)) {B : Nat} (cut : Int) (x : Option Addr) (m c : Nat) (h : Es B w a n es) (hG : Good V n es ∧ V ≤ 24 ∧ n ≤ 40) (hm : 100 < m) :
    Calls Tryd.prog 4 #[.agg #[.int .i64 V, .slice a n cap], .int .i64 cut, .slice x m c] w fun e w' => e = .returned (.bool true) ∧ Below w.heap.size w w' := by
  have HE := hide h
  have HG := hide hG
  have hm2 : (100 : Int) < (m : Int) := by omega
  clear h hG
  go_enter Tryd.func4, Tryd.ntmps4
  go_wp2_with fail
  have hb0 : Below w.heap.size w (w.alloc (.cells #[.int .i64 V, .slice a n cap] 24)) := (Below.refl _ _).alloc (Nat.le_refl _) _
  refine (speaks_any _).mono ?_
  rintro e w1 ⟨rfl, hb1⟩
  have d0 : w1.cell? ⟨w.heap.size, 0, none⟩ = some (.int .i64 V) := by rw [hb1.cell (p := ⟨w.heap.size, 0, none⟩) (by simp)]; simp
  have d1 : w1.cell? ⟨w.heap.size, 1, none⟩ = some (.slice a n cap) := by rw [hb1.cell (p := ⟨w.heap.size, 1, none⟩) (by simp)]; simp
  have HB1 := hide (hb0.trans (hb1.mono (by simp)))
  clear hb0 hb1
  go_wp2_with fail
  refine (refFits_any _ V a n cap _ ((unhide HE).below (unhide HB1))).mono ?_
  rintro e w2 ⟨⟨rr, rfl, hrr⟩, hb2⟩
  obtain rfl : rr = true := hrr.2 (unhide HG)
  have HB2 := hide ((unhide HB1).trans (hb2.mono (unhide HB1).size))
  clear hb2 hrr
  go_wp2_with fail
  go_ret
  exact ⟨rfl, unhide HB2⟩

theorem cut_all (w : World) (V : Int) (a : Option Addr) (n cap : Nat) (es : List (Int × Int)) {B : Nat} (cut : Int) (x : Option Addr) (m c : Nat) (r : List UInt8) (h : 128 < n ∨ Es B w a n es) (ht : Tab w) (hr : 100 < m ∨ Bs w x m r) (hx : x = none → c = 0) :
    Calls Tryd.prog 4 #[.agg #[.int .i64 V, .slice a n cap], .int .i64 cut, .slice x m c] w fun e w' => e = .returned (.bool true) ∧ Below w.heap.size w w' := by
  rcases h with hbig | h
  · exact cut_no w V a n cap cut x m c fun w1 _ => fits_big w1 V a n cap hbig
  · by_cases hG : Good V n es ∧ V ≤ 24 ∧ n ≤ 40
    · by_cases hm : 100 < m
      · exact cut_long w V a n cap es cut x m c h hG hm
      · obtain ⟨v, ns, rfl, rfl, _, _, _, hs⟩ := good_nat h.1 hG.1
        exact cut_main w v a n cap ns cut x m c r h hG.1 (by have := hG.2.1; omega) hG.2.2 hs ht (hr.resolve_left hm) hx (by omega)
    · refine cut_no w V a n cap cut x m c fun w1 hb => (refFits_any w1 V a n cap es (h.below hb)).mono ?_
      rintro e w2 ⟨⟨rr, rfl, hrr⟩, hb2⟩
      obtain rfl : rr = false := by
        cases rr with
        | false => rfl
        | true => exact absurd (hrr.1 rfl) hG
      exact ⟨rfl, hb2⟩
end Go.Proofs.YtdcfhdpbpfgohaaDoor

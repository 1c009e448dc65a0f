/-
  The statements' first calls: speaks answers true; Great tells whether there are more than 200 edges. No conditions.
-/
import Derived.Test.YtgbdnpmpkilcoaaChk
namespace Go.Proofs.Ytgbdnpmpkilcoaa
open Go.RowKit
set_option linter.unusedVariables false

def exE : List (Nat × Nat) := [(0, 1), (1, 2), (2, 1)]
theorem ex_plain : Plain 3 exE := ⟨by omega, by omega, by decide, by decide⟩
theorem ex_lp : lpI exE = -1 := by decide
theorem ex_tw : twI exE = -1 := by decide
theorem ex_start : Pl.start 3 exE = some 1 := by decide
theorem ex_ring : Pl.ring 3 exE 1 = [1, 2] := by decide
theorem ex_fault {c p : Int} {l : List Nat} (h : IsFault 3 exE c p l) : c = 15 ∧ l = [1, 2] := by
  have hI : IsFault 3 exE 15 0 [1, 2] := by
    refine .inr (.inr (.inl ⟨by rw [ex_lp]; omega, by rw [ex_tw]; omega, rfl, rfl, 1, 0, ex_start, ?_, ?_⟩))
    · rw [ex_ring]
      refine ⟨by decide, fun j hj => ?_⟩
      match j, hj with
      | 0, _ => decide
      | 1, _ => decide
    · rw [ex_ring]
      decide
  obtain ⟨rfl, _, rfl⟩ := IsFault.only ex_plain h hI
  exact ⟨rfl, rfl⟩
theorem ex_es (w : World) : Es 0 (w.alloc (.cells #[.int .i64 0, .int .i64 1, .int .i64 1, .int .i64 2, .int .i64 2, .int .i64 1] 54)) (some ⟨w.heap.size, 0, none⟩) exE.length (toI exE) := by
  refine ⟨rfl, by decide, fun k hk => ⟨w.heap.size, 0, rfl, Nat.zero_le _, by simp, ?_⟩⟩
  have := (MapKept.heap_alloc w (.cells #[.int .i64 0, .int .i64 1, .int .i64 1, .int .i64 2, .int .i64 2, .int .i64 1] 54)).1
  simp only [World.cell?, this]
  match k, hk with
  | 0, _ => exact ⟨rfl, rfl⟩
  | 1, _ => exact ⟨rfl, rfl⟩
  | 2, _ => exact ⟨rfl, rfl⟩
theorem ex_ns (w : World) : Ns (w.alloc (.cells #[.int .i64 1, .int .i64 2] 3)) (some ⟨w.heap.size, 0, none⟩) 2 (toIs [1, 2]) := by
  refine ⟨rfl, by decide, fun k hk => ⟨w.heap.size, 0, rfl, by simp, ?_⟩⟩
  have := (MapKept.heap_alloc w (.cells #[.int .i64 1, .int .i64 2] 3)).1
  simp only [World.cell?, this]
  match k, hk with
  | 0, _ => rfl
  | 1, _ => rfl

set_option maxHeartbeats 1000000 in
theorem speaks_any (w : World) : Calls Try.prog 8 #[] w fun e w' => e = .returned (.bool true) ∧ Below w.heap.size w w' := by
  go_enter Try.func8, Try.ntmps8
  go_wp2_with fail
  refine (check_good _ 3 (some ⟨w.heap.size, 0, none⟩) 3 exE (ex_es w) (fun h => by cases h) (by decide) ex_plain).mono ?_
  rintro e w1 ⟨⟨c, p, l, a, cap, hF, rfl, hN⟩, hb⟩
  obtain ⟨rfl, rfl⟩ := ex_fault hF
  have hz : w.heap.size < w1.heap.size := by have := hb.size; simp at this; omega
  have HB := hide (((Below.refl _ _).alloc (Nat.le_refl _) _).trans (hb.mono (by simp)))
  have HN := hide hN
  clear hF hb hN
  go_wp2_with fail
  refine (same_yes _ a _ 2 _ _ (toIs [1, 2]) (((unhide HN).below ((Below.refl _ _).alloc (Nat.le_refl _) _)).below ((Below.refl _ _).alloc (Nat.le_refl _) _)) (by have := ex_ns (w1.alloc (.cells #[.int .i64 15, .int .i64 p, .slice a 2 cap] 30)); simpa using this)).mono ?_
  rintro e w2 ⟨rfl, m, rfl⟩
  go_wp2_with fail
  go_ret
  refine ⟨rfl, below_draws ?_ m⟩
  exact ((unhide HB).alloc (by omega) _).alloc (by simp; omega) _

set_option maxHeartbeats 1000000 in
theorem great_any (w : World) (V : Int) (a : Option Addr) (n cap : Nat) : Calls Try.prog 9 #[.agg #[.int .i64 V, .slice a n cap]] w fun e w' => e = .returned (.bool (decide ((200 : Int) < (n : Int)))) ∧ Below w.heap.size w w' := by
  go_enter Try.func9, Try.ntmps9
  go_wp2
  go_ret
  exact ⟨rfl, (Below.refl _ _).alloc (Nat.le_refl _) _⟩
end Go.Proofs.Ytgbdnpmpkilcoaa

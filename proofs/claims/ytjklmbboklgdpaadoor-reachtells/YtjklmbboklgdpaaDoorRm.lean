/-
  The contract of the document's May, at graphs that may be, that may not be, and that are too large. Conditions: as told.
-/
import Derived.Test.YtjklmbboklgdpaaDoorPn
namespace Go.Proofs.YtjklmbboklgdpaaDoor
open Go.RowKit
set_option linter.unusedVariables false

theorem refmay_yes (w : World) (V : Nat) (a : Option Addr) (n cap : Nat) (es : List (Nat × Nat)) {B : Nat} (h : Es B w a n (toI es)) (hn : es.length = n) (hp : Plain V es) :
    Calls Tryd.prog 13 #[.agg #[.int .i64 V, .slice a n cap]] w fun e w' => e = .returned (.bool true) ∧ Below w.heap.size w w' := by
  subst hn
  refine (refMay_any w V a es.length cap (toI es) h).mono ?_
  rintro e w' ⟨⟨r, rfl, hr⟩, hb⟩
  exact ⟨by rw [hr.2 (good_of_plain hp)], hb⟩
theorem refmay_no (w : World) (V : Int) (a : Option Addr) (n cap : Nat) (zs : List (Int × Int)) {B : Nat} (h : Es B w a n zs) (hno : ¬ Good V n zs) :
    Calls Tryd.prog 13 #[.agg #[.int .i64 V, .slice a n cap]] w fun e w' => e = .returned (.bool false) ∧ Below w.heap.size w w' := by
  refine (refMay_any w V a n cap zs h).mono ?_
  rintro e w' ⟨⟨r, rfl, hr⟩, hb⟩
  refine ⟨?_, hb⟩
  cases r with
  | false => rfl
  | true => exact absurd (hr.1 rfl) hno
set_option maxHeartbeats 1000000 in
theorem refmay_big (w : World) (V : Int) (a : Option Addr) (n cap : Nat) (hn : 128 < n) :
    Calls Tryd.prog 13 #[.agg #[.int .i64 V, .slice a n cap]] w fun e w' => e = .returned (.bool false) ∧ Below w.heap.size w w' := by
  have hn2 : (128 : Int) < (n : Int) := by omega
  by_cases h1 : 1 ≤ V
  case neg =>
    go_enter Tryd.func13, Tryd.ntmps13
    go_wp2
    go_ret
    exact ⟨rfl, (Below.refl _ _).alloc (Nat.le_refl _) _⟩
  by_cases h2 : V ≤ 64
  case neg =>
    go_enter Tryd.func13, Tryd.ntmps13
    go_wp2
    go_ret
    exact ⟨rfl, (Below.refl _ _).alloc (Nat.le_refl _) _⟩
  go_enter Tryd.func13, Tryd.ntmps13
  go_wp2
  go_ret
  exact ⟨rfl, (Below.refl _ _).alloc (Nat.le_refl _) _⟩
end Go.Proofs.YtjklmbboklgdpaaDoor


/-
  The walk of the statement GraphKinds where it asks for nothing. Conditions: its arguments lie in memory as their reading says.
-/
import Derived.Test.YtgbdnpmpkilcoaaEdge28
import Derived.Test.YtgbdnpmpkilcoaaLawOpen
import Derived.Test.YtgbdnpmpkilcoaaSpeaks
import Derived.Test.YtgbdnpmpkilcoaaWalkLeast
import Derived.Test.YtgbdnpmpkilcoaaRen
namespace Go.Proofs.Ytgbdnpmpkilcoaa
open Go.RowKit
set_option linter.unusedVariables false

set_option maxHeartbeats 4000000 in
theorem kinds_no (w : World) (V : Int) (a na oa : Option Addr) (n cap m nc k oc : Nat) (zs : List (Int × Int)) (hE : 200 < n ∨ Es 0 w a n zs) (hG : ¬ (n ≤ 200 ∧ Good V n zs)) :
    Calls Try.prog 6 #[.agg #[.int .i64 V, .slice a n cap], .slice na m nc, .slice oa k oc] w fun e w' => e = .returned (.bool true) ∧ Below w.heap.size w w' := by
  have HB0 := hide (Bg.start w (.int .i64 V) (.slice a n cap))
  have HE := hide hE
  have HG := hide hG
  clear hE hG
  go_enter Try.func6, Try.ntmps6
  go_wp2_with fail
  refine (speaks_any _).mono ?_
  rintro e w1 ⟨rfl, hb1⟩
  have HB1 := hide ((unhide HB0).step hb1)
  obtain ⟨g0, g1⟩ := (unhide HB1).cells
  clear hb1
  go_wp2_with fail
  refine (refMay_no w1 V a n cap zs ((unhide HE).imp id fun h => h.below (unhide HB1).bel) (unhide HG)).mono ?_
  rintro e w2 ⟨rfl, hb2⟩
  have HB2 := hide ((unhide HB1).step hb2)
  clear hb2 g0 g1
  go_wp2_with fail
  go_ret
  exact ⟨rfl, (unhide HB2).bel⟩

set_option maxHeartbeats 4000000 in
/-- names or an order that are none -/
theorem kinds_skip (w : World) (V : Nat) (a na oa : Option Addr) (n cap m nc k oc : Nat) (zs : List (Int × Int)) (hE : Es 0 w a n zs) (hG : Good V n zs) (b1 b2 : Bool) (hb12 : (b1 && b2) = false)
    (h1 : ∀ u, Below w.heap.size w u → Calls Try.prog 26 #[.slice na m nc, .int .i64 V] u fun e w' => e = .returned (.bool b1) ∧ w' = u)
    (h2 : b1 = true → ∀ u, Below w.heap.size w u → Calls Try.prog 26 #[.slice oa k oc, .int .i64 n] u fun e w' => e = .returned (.bool b2) ∧ w' = u) :
    Calls Try.prog 6 #[.agg #[.int .i64 V, .slice a n cap], .slice na m nc, .slice oa k oc] w fun e w' => e = .returned (.bool true) ∧ Below w.heap.size w w' := by
  have HB0 := hide (Bg.start w (.int .i64 V) (.slice a n cap))
  have HE := hide hE
  have HG := hide hG
  have H1 := hide h1
  have H2 := hide h2
  clear hE hG h1 h2
  go_enter Try.func6, Try.ntmps6
  go_wp2_with fail
  refine (speaks_any _).mono ?_
  rintro e w1 ⟨rfl, hb1⟩
  have HB1 := hide ((unhide HB0).step hb1)
  obtain ⟨g0, g1⟩ := (unhide HB1).cells
  clear hb1
  go_wp2_with fail
  refine (refMay_any w1 V a n cap zs ((unhide HE).below (unhide HB1).bel)).mono ?_
  rintro e w2 ⟨⟨r, rfl, hr⟩, hb2⟩
  obtain rfl : r = true := hr.2 (unhide HG)
  have HB2 := hide ((unhide HB1).step hb2)
  clear hb2 g0 g1 hr
  obtain ⟨g0, g1⟩ := (unhide HB2).cells
  go_wp2_with fail
  refine (unhide H1 w2 (unhide HB2).bel).mono ?_
  rintro e w3 ⟨rfl, hw3⟩
  obtain rfl := hw3.symm
  cases b1 with
  | false =>
    go_wp2_with fail
    go_ret
    exact ⟨rfl, (unhide HB2).bel⟩
  | true =>
    obtain rfl : b2 = false := by simpa using hb12
    have H3 := hide (unhide H2 rfl)
    clear H2
    go_wp2_with fail
    refine (unhide H3 w2 (unhide HB2).bel).mono ?_
    rintro e w4 ⟨rfl, hw4⟩
    obtain rfl := hw4.symm
    go_wp2_with fail
    go_ret
    exact ⟨rfl, (unhide HB2).bel⟩
end Go.Proofs.Ytgbdnpmpkilcoaa

/-
  The walk of the statement GraphViews where the graph is too large, or may not be. Conditions: its argument lies in memory as its reading says.
-/
import Derived.Test.YtgbdnpmpkilcoaaViewsP
namespace Go.Proofs.Ytgbdnpmpkilcoaa
open Go.RowKit
set_option linter.unusedVariables false

set_option maxHeartbeats 4000000 in
theorem views_big (w : World) (V : Int) (a : Option Addr) (n cap : Nat) (hbig : 200 < n) :
    Calls Try.prog 4 #[.agg #[.int .i64 V, .slice a n cap]] w fun e w' => e = .returned (.bool true) ∧ Below w.heap.size w w' := by
  have HB0 := hide (Bg.start w (.int .i64 V) (.slice a n cap))
  have h1' : decide ((200 : Int) < (n : Int)) = true := by simp; omega
  have HG1 := hide h1'
  clear h1'
  go_enter Try.func4, Try.ntmps4
  go_wp2_with fail
  refine (speaks_any _).mono ?_
  rintro e w1 ⟨rfl, hb1⟩
  have HB1 := hide ((unhide HB0).step hb1)
  obtain ⟨g0, g1⟩ := (unhide HB1).cells
  clear hb1
  go_wp2_with fail
  refine (great_any _ V a n cap).mono ?_
  rintro e w2 ⟨rfl, hb2⟩
  rw [unhide HG1]
  have HB2 := hide ((unhide HB1).step hb2)
  clear hb2 g0 g1
  go_wp2_with fail
  go_ret
  exact ⟨rfl, (unhide HB2).bel⟩

theorem fits_none : Fits 0 [] := ⟨by omega, by simp, by simp⟩
theorem es_none (w : World) : Es 0 w none 0 (toI []) := ⟨rfl, by omega, fun k hk => by omega⟩

/-- a view of no graph is the view of the graph without vertices -/
theorem vw_none {w : World} {b : Nat} (h : w.heap[b]? = some (.cells #[.int .i64 0, .slice none 0 0, .slice none 0 0, .slice none 0 0, .slice none 0 0] 42)) : Vw w b 0 [] none 0 none 0 none 0 none 0 (Pl.order 0 []) := by
  refine ⟨?_, ?_, ?_, ?_, ?_, ⟨Nat.le_refl _, fun _ => rfl⟩, es_none w, fun k hk => by omega, fun k hk => by omega, Ns.nil _ _⟩ <;> simp [World.cell?, h] <;> rfl

set_option maxHeartbeats 8000000 in
theorem views_bad (w : World) (V : Int) (a : Option Addr) (n cap : Nat) (zs : List (Int × Int)) (h : Es 0 w a n zs) (hn : n ≤ 200) (hbad : ¬ Good V n zs) :
    Calls Try.prog 4 #[.agg #[.int .i64 V, .slice a n cap]] w fun e w' => e = .returned (.bool true) ∧ Below w.heap.size w w' := by
  have HB0 := hide (Bg.start w (.int .i64 V) (.slice a n cap))
  have HE := hide h
  have HBAD := hide hbad
  have h1' : decide ((200 : Int) < (n : Int)) = false := by simp; omega
  have HG1 := hide h1'
  clear h hbad h1'
  go_enter Try.func4, Try.ntmps4
  go_wp2_with fail
  refine (speaks_any _).mono ?_
  rintro e w1 ⟨rfl, hb1⟩
  have HB1 := hide ((unhide HB0).step hb1)
  obtain ⟨g0, g1⟩ := (unhide HB1).cells
  clear hb1
  go_wp2_with fail
  refine (great_any _ V a n cap).mono ?_
  rintro e w2 ⟨rfl, hb2⟩
  rw [unhide HG1]
  have HB2 := hide ((unhide HB1).step hb2)
  clear hb2 g0 g1
  obtain ⟨g0, g1⟩ := (unhide HB2).cells
  go_wp2_with fail
  refine (of_bad w2 V a n cap zs ((unhide HE).below (unhide HB2).bel) (unhide HBAD)).mono ?_
  rintro e w3 ⟨⟨b, rfl, hbl, hbk⟩, hb3⟩
  have hX3 : Vx w w3 b V 0 [] a n cap none 0 := ⟨((unhide HB2).step hb3).bel, ((unhide HB2).step hb3).gb, _, _, _, _, _, _, vw_none hbk⟩
  have X3 := hide hX3
  clear hb3 hbk g0 g1
  obtain ⟨g0, g1, g2, g3⟩ := hX3.cells
  clear hX3
  go_wp2_with fail
  refine (refMay_any w3 V a n cap zs ((unhide HE).below (unhide X3).bel)).mono ?_
  rintro e w4 ⟨⟨r, rfl, hr⟩, hb4⟩
  have hrf : r = false := by
    cases r with
    | false => rfl
    | true => exact absurd (hr.1 rfl) (unhide HBAD)
  subst hrf
  have X4 := hide ((unhide X3).step hb4)
  clear g0 g1 g2 g3 hr hb4
  go_wp2_with fail
  refine (vx_order (unhide X4) fits_none).mono ?_
  rintro e w5 ⟨⟨la, lc, rfl, hN⟩, hb5⟩
  have X5 := hide ((unhide X4).step hb5)
  obtain ⟨g0, g1, g2, g3⟩ := (unhide X5).cells
  simp only [show (ordL 0 (Pl.order 0 [])).length = 0 from rfl, show decide (0 ≤ (Pl.order 0 []).length) = true from rfl]
  clear hb5 hN
  go_wp2_with fail
  refine (vx_same (unhide X5) (a2 := none) (c2 := 0) (es_none w5)).mono ?_
  rintro e w6 ⟨rfl, hb6⟩
  have X6 := hide ((unhide X5).step hb6)
  clear hb6 g0 g1 g2 g3
  go_wp2_with fail
  refine (vx_outs (unhide X6) fits_none 0).mono ?_
  rintro e w7 ⟨⟨a7, c7, rfl, hN⟩, hb7⟩
  have X7 := hide ((unhide X6).step hb7)
  simp only [show (ends [] true 0 ([] : List (Nat × Nat)).length).length = 0 from rfl]
  clear hb7 hN
  go_wp2_with fail
  refine (vx_ins (unhide X7) fits_none 0).mono ?_
  rintro e w8 ⟨⟨a8, c8, rfl, hN⟩, hb8⟩
  have X8 := hide ((unhide X7).step hb8)
  simp only [show (ends [] false 0 ([] : List (Nat × Nat)).length).length = 0 from rfl]
  clear hb8 hN
  go_wp2_with fail
  refine (vx_sources (unhide X8) fits_none).mono ?_
  rintro e w9 ⟨⟨a9, c9, rfl, hN⟩, hb9⟩
  have X9 := hide ((unhide X8).step hb9)
  simp only [show (bare (Pl.ins []) 0).length = 0 from rfl]
  clear hb9 hN
  go_wp2_with fail
  refine (vx_sinks (unhide X9) fits_none).mono ?_
  rintro e w10 ⟨⟨a10, c10, rfl, hN⟩, hb10⟩
  have X10 := hide ((unhide X9).step hb10)
  simp only [show (bare (Pl.outs []) 0).length = 0 from rfl]
  clear hb10 hN
  go_wp2_with fail
  go_ret
  exact ⟨rfl, (unhide X10).bel⟩
end Go.Proofs.Ytgbdnpmpkilcoaa

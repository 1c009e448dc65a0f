/-
  The walk of the statement GraphChecks. Conditions: its argument lies in memory as its reading says.
-/
import Derived.Test.YtgbdnpmpkilcoaaLawOpen
import Derived.Test.YtgbdnpmpkilcoaaSpeaks
import Derived.Test.YtgbdnpmpkilcoaaRefChk
namespace Go.Proofs.Ytgbdnpmpkilcoaa
open Go.RowKit
set_option linter.unusedVariables false

theorem told_is {G : Prop} {r b : Bool} (h : r = true ↔ G) (hb : b = true ↔ G) : r = b := by
  cases r <;> cases b <;> simp_all

/-- all that the statement's last line asks for, in whatever world it stands -/
structure Fx (w u : World) (fb : Nat) (V : Int) (a : Option Addr) (n cap : Nat) (c p : Int) (fa ra : Option Addr) (q fc : Nat) (xs : List Int) : Prop where
  bel : Below w.heap.size w u
  lo : w.heap.size < fb
  gb : u.heap[w.heap.size]? = some (.cells #[.int .i64 V, .slice a n cap] 24 (0, 0))
  fbk : u.heap[fb]? = some (.cells #[.int .i64 c, .int .i64 p, .slice fa q fc] 30 (0, 0))
  nsf : Ns u fa q xs
  nsr : Ns u ra q xs
theorem Fx.step {w u u' : World} {fb : Nat} {V : Int} {a : Option Addr} {n cap : Nat} {c p : Int} {fa ra : Option Addr} {q fc : Nat} {xs : List Int} (h : Fx w u fb V a n cap c p fa ra q fc xs) (hb : Below u.heap.size u u') : Fx w u' fb V a n cap c p fa ra q fc xs := by
  have hl := (Array.getElem?_eq_some_iff.1 h.fbk).1
  have := h.lo
  exact ⟨h.bel.trans (hb.mono h.bel.size), h.lo, by rw [hb.block _ (by omega)]; exact h.gb, by rw [hb.block _ hl]; exact h.fbk, h.nsf.below hb, h.nsr.below hb⟩
theorem Fx.cells {w u : World} {fb : Nat} {V : Int} {a : Option Addr} {n cap : Nat} {c p : Int} {fa ra : Option Addr} {q fc : Nat} {xs : List Int} (h : Fx w u fb V a n cap c p fa ra q fc xs) :
    u.cell? ⟨w.heap.size, 0, none⟩ = some (.int .i64 V) ∧ u.cell? ⟨w.heap.size, 1, none⟩ = some (.slice a n cap) ∧ u.cell? ⟨fb, 0, none⟩ = some (.int .i64 c) ∧ u.cell? ⟨fb, 1, none⟩ = some (.int .i64 p) ∧ u.cell? ⟨fb, 2, none⟩ = some (.slice fa q fc) := by
  have h1 := h.gb
  have h2 := h.fbk
  simp [World.cell?, h1, h2]

set_option maxHeartbeats 4000000 in
theorem checks_big (w : World) (V : Int) (a : Option Addr) (n cap : Nat) (hbig : 200 < n) :
    Calls Try.prog 3 #[.agg #[.int .i64 V, .slice a n cap]] w fun e w' => e = .returned (.bool true) ∧ Below w.heap.size w w' := by
  have HB0 := hide (Bg.start w (.int .i64 V) (.slice a n cap))
  have h1' : decide ((200 : Int) < (n : Int)) = true := by simp; omega
  have HG1 := hide h1'
  clear h1'
  go_enter Try.func3, Try.ntmps3
  go_wp2_with fail
  refine (speaks_any _).mono ?_
  rintro e w1 ⟨rfl, hb1⟩
  have HB1 := hide ((unhide HB0).step hb1)
  obtain ⟨g0, g1⟩ := (unhide HB1).cells
  clear hb1
  go_wp2_with fail
  refine (great_any _ V a n cap).mono ?_
  rintro e w2 ⟨rfl, hb2⟩
  rw [unhide HG1]
  have HB2 := hide ((unhide HB1).step hb2)
  clear hb2 g0 g1
  go_wp2_with fail
  go_ret
  exact ⟨rfl, (unhide HB2).bel⟩

set_option maxHeartbeats 8000000 in
/-- from the two answers on: they are one -/
theorem checks_all (w : World) (V : Int) (a : Option Addr) (n cap : Nat) (zs : List (Int × Int)) (h : Es 0 w a n zs) (hn : n ≤ 200) (bv : Bool) (hbv : bv = true ↔ Good V n zs) (c p : Int) (q : Nat) (xs : List Int)
    (hchk : ∀ u, Es 0 u a n zs → Calls Try.prog 10 #[.agg #[.int .i64 V, .slice a n cap]] u fun e u' => (∃ fa fc, e = .returned (.agg #[.int .i64 c, .int .i64 p, .slice fa q fc]) ∧ Ns u' fa q xs) ∧ Below u.heap.size u u')
    (href : ∀ u, Es 0 u a n zs → Calls Try.prog 11 #[.agg #[.int .i64 V, .slice a n cap]] u fun e u' => (∃ fa fc, e = .returned (.tuple #[.int .i64 c, .int .i64 p, .slice fa q fc]) ∧ Ns u' fa q xs) ∧ Below u.heap.size u u') :
    Calls Try.prog 3 #[.agg #[.int .i64 V, .slice a n cap]] w fun e w' => e = .returned (.bool true) ∧ Below w.heap.size w w' := by
  have HB0 := hide (Bg.start w (.int .i64 V) (.slice a n cap))
  have HE := hide h
  have HBV := hide hbv
  have HCHK := hide hchk
  have HREF := hide href
  have h1' : decide ((200 : Int) < (n : Int)) = false := by simp; omega
  have HG1 := hide h1'
  clear h hbv hchk href h1'
  go_enter Try.func3, Try.ntmps3
  go_wp2_with fail
  refine (speaks_any _).mono ?_
  rintro e w1 ⟨rfl, hb1⟩
  have HB1 := hide ((unhide HB0).step hb1)
  obtain ⟨g0, g1⟩ := (unhide HB1).cells
  clear hb1
  go_wp2_with fail
  refine (great_any _ V a n cap).mono ?_
  rintro e w2 ⟨rfl, hb2⟩
  rw [unhide HG1]
  have HB2 := hide ((unhide HB1).step hb2)
  clear hb2 g0 g1
  obtain ⟨g0, g1⟩ := (unhide HB2).cells
  go_wp2_with fail
  refine (unhide HCHK w2 ((unhide HE).below (unhide HB2).bel)).mono ?_
  rintro e w3 ⟨⟨fa, fc, rfl, hNf⟩, hb3⟩
  have HB3 := hide ((unhide HB2).step hb3)
  have hl3 := (unhide HB3).lt
  have hb4 : Below w3.heap.size w3 (w3.alloc (.cells #[.int .i64 c, .int .i64 p, .slice fa q fc] 30)) := (Below.refl _ _).alloc (Nat.le_refl _) _
  have HB4 := hide ((unhide HB3).step hb4)
  have HNF := hide (hNf.below hb4)
  clear hb3 g0 g1 hNf hb4
  obtain ⟨g0, g1⟩ := (unhide HB3).cells
  go_wp2_with fail
  refine (unhide HREF _ ((unhide HE).below (unhide HB4).bel)).mono ?_
  rintro e w5 ⟨⟨ra, rc, rfl, hNr⟩, hb5⟩
  have hF5 : Fx w w5.drew w3.heap.size V a n cap c p fa ra q fc xs := by
    have hx : Fx w w5 w3.heap.size V a n cap c p fa ra q fc xs := by
      refine ⟨((unhide HB4).step hb5).bel, hl3, ((unhide HB4).step hb5).gb, ?_, (unhide HNF).below hb5, hNr⟩
      rw [hb5.block _ (by simp)]
      exact (MapKept.heap_alloc w3 _).1
    exact hx.step ((Below.refl _ _).drew)
  have F5 := hide hF5
  obtain ⟨x0, x1, x2, x3, x4⟩ := hF5.cells
  have y0 : w5.cell? ⟨w.heap.size, 0, none⟩ = some (.int .i64 V) := x0
  have y1 : w5.cell? ⟨w.heap.size, 1, none⟩ = some (.slice a n cap) := x1
  clear hb5 g0 g1 hNr hF5 x0 x1 x2 x3 x4
  go_wp2_with fail
  go_region_with (first
    | (go_at_call 12
       refine (may_any _ V a n cap zs (B := 0) ?_).mono ?_
       first | exact (unhide HE).below (unhide F5).bel | exact (unhide HE).below (unhide FB).bel
       rintro e wa ⟨⟨r, rfl, hr⟩, hb⟩
       obtain rfl : bv = r := (told_is hr (unhide HBV)).symm
       have FA : Hid (Fx w wa w3.heap.size V a n cap c p fa ra q fc xs) := by first | exact (unhide F5).step hb | exact (unhide FB).step hb
       obtain ⟨a0, a1, a2, a3, a4⟩ := (unhide FA).cells
       clear hr hb)
    | (go_at_call 13
       refine (refMay_any _ V a n cap zs (B := 0) ?_).mono ?_
       first | exact (unhide HE).below (unhide F5).bel | exact (unhide HE).below (unhide FA).bel
       rintro e wb ⟨⟨r, rfl, hr⟩, hb⟩
       obtain rfl : bv = r := (told_is hr (unhide HBV)).symm
       have FB : Hid (Fx w wb w3.heap.size V a n cap c p fa ra q fc xs) := by first | exact (unhide F5).step hb | exact (unhide FA).step hb
       obtain ⟨b0, b1, b2, b3, b4⟩ := (unhide FB).cells
       clear hr hb)
    | (go_at_call 14
       refine (same_yes _ fa ra q fc rc xs ?_ ?_).mono ?_
       first | exact (unhide FA).nsf | exact (unhide FB).nsf
       first | exact (unhide FA).nsr | exact (unhide FB).nsr
       rintro e wc ⟨rfl, mq, rfl⟩))
  all_goals go_wp2
  all_goals go_ret
  all_goals first | exact ⟨rfl, below_draws (unhide FA).bel _⟩ | exact ⟨rfl, below_draws (unhide FB).bel _⟩
end Go.Proofs.Ytgbdnpmpkilcoaa

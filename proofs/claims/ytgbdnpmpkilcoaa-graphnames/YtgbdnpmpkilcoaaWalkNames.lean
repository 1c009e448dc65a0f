/-
  The walk of the statement GraphNames. Conditions: its arguments lie in memory as their reading says.
-/
import Derived.Test.YtgbdnpmpkilcoaaLawOpen
import Derived.Test.YtgbdnpmpkilcoaaSpeaks
import Derived.Test.YtgbdnpmpkilcoaaRen
import Derived.Test.YtgbdnpmpkilcoaaRenB
import Derived.Test.YtgbdnpmpkilcoaaRefRen
import Derived.Test.YtgbdnpmpkilcoaaRefMay
namespace Go.Proofs.Ytgbdnpmpkilcoaa
open Go.RowKit
set_option linter.unusedVariables false

/-- the first box stands -/
structure B1 (w wk : World) (x y : Value) : Prop where
  bel : Below w.heap.size w wk
  gb : wk.heap[w.heap.size]? = some (.cells #[x, y] 24 (0, 0))
theorem B1.start (w : World) (x y : Value) : B1 w (w.alloc (.cells #[x, y] 24)) x y := ⟨(Below.refl _ _).alloc (Nat.le_refl _) _, (MapKept.heap_alloc w _).1⟩
theorem B1.lt {w wk : World} {x y : Value} (h : B1 w wk x y) : w.heap.size < wk.heap.size := (Array.getElem?_eq_some_iff.1 h.gb).1
theorem B1.step {w wk wk' : World} {x y : Value} (h : B1 w wk x y) (hb : Below wk.heap.size wk wk') : B1 w wk' x y :=
  ⟨h.bel.trans (hb.mono h.bel.size), by rw [hb.block _ h.lt]; exact h.gb⟩
theorem B1.cells {w wk : World} {x y : Value} (h : B1 w wk x y) : wk.cell? ⟨w.heap.size, 0, none⟩ = some x ∧ wk.cell? ⟨w.heap.size, 1, none⟩ = some y := by
  have := h.gb
  simp [World.cell?, this]

set_option maxHeartbeats 4000000 in
theorem names_big (w : World) (V : Int) (a na oa : Option Addr) (n cap m nc k oc : Nat) (hbig : 200 < n ∨ 100 < m ∨ 200 < k) :
    Calls Try.prog 5 #[.agg #[.int .i64 V, .slice a n cap], .slice na m nc, .slice oa k oc] w fun e w' => e = .returned (.bool true) ∧ Below w.heap.size w w' := by
  have HB0 := hide (B1.start w (.int .i64 V) (.slice a n cap))
  go_enter Try.func5, Try.ntmps5
  go_wp2_with fail
  refine (speaks_any _).mono ?_
  rintro e w1 ⟨rfl, hb1⟩
  have HB1 := hide ((unhide HB0).step hb1)
  obtain ⟨g0, g1⟩ := (unhide HB1).cells
  clear hb1
  go_wp2_with fail
  refine (great_any _ V a n cap).mono ?_
  rintro e w2 ⟨rfl, hb2⟩
  have HB2 := hide ((unhide HB1).step hb2)
  clear hb2 g0 g1
  by_cases h1 : 200 < n
  · have h1' : decide ((200 : Int) < (n : Int)) = true := by simp; omega
    rw [h1']
    go_wp2_with fail
    go_ret
    exact ⟨rfl, (unhide HB2).bel⟩
  · have h1' : decide ((200 : Int) < (n : Int)) = false := by simp; omega
    rw [h1']
    by_cases h2 : 100 < m
    · have h2' : (100 : Int) < (m : Int) := by omega
      go_wp2_with fail
      go_ret
      exact ⟨rfl, (unhide HB2).bel⟩
    · have h2' : decide ((100 : Int) < (m : Int)) = false := by simp; omega
      have h3' : (200 : Int) < (k : Int) := by omega
      go_wp2_with fail
      go_ret
      exact ⟨rfl, (unhide HB2).bel⟩

theorem told_val {G : Prop} {r : Bool} (h : r = true ↔ G) (b : Bool) (hb : b = true ↔ G) : r = b := by
  cases r <;> cases b <;> simp_all

set_option maxHeartbeats 8000000 in
theorem names_bad (w : World) (V : Int) (a na oa : Option Addr) (n cap m nc k oc : Nat) (zs : List (Int × Int)) (xs ys : List Int) (h : Es 0 w a n zs) (hns : Ns w na m xs) (hos : Ns w oa k ys) (hnc : m ≤ nc) (hoc : k ≤ oc)
    (h1 : n ≤ 200) (h2 : m ≤ 100) (h3 : k ≤ 200) (hbad : ¬ (Good V n zs ∧ IsPerm V.toNat xs ∧ IsPerm n ys)) :
    Calls Try.prog 5 #[.agg #[.int .i64 V, .slice a n cap], .slice na m nc, .slice oa k oc] w fun e w' => e = .returned (.bool true) ∧ Below w.heap.size w w' := by
  have HB0 := hide (B1.start w (.int .i64 V) (.slice a n cap))
  have HE := hide h
  have HNS := hide hns
  have HOS := hide hos
  have HBAD := hide hbad
  clear h hns hos hbad
  have h1' : decide ((200 : Int) < (n : Int)) = false := by simp; omega
  have h2' : decide ((100 : Int) < (m : Int)) = false := by simp; omega
  have h3' : decide ((200 : Int) < (k : Int)) = false := by simp; omega
  have HG1 := hide h1'
  clear h1'
  go_enter Try.func5, Try.ntmps5
  go_wp2_with fail
  refine (speaks_any _).mono ?_
  rintro e w1 ⟨rfl, hb1⟩
  have HB1 := hide ((unhide HB0).step hb1)
  obtain ⟨g0, g1⟩ := (unhide HB1).cells
  clear hb1
  go_wp2_with fail
  refine (great_any _ V a n cap).mono ?_
  rintro e w2 ⟨rfl, hb2⟩
  rw [unhide HG1]
  have HB2 := hide ((unhide HB1).step hb2)
  clear hb2 g0 g1
  obtain ⟨g0, g1⟩ := (unhide HB2).cells
  go_wp2_with fail
  refine (rename_bad w2 V a n cap zs na oa m nc k oc xs ys ((unhide HE).below (unhide HB2).bel) ((unhide HNS).below (unhide HB2).bel) ((unhide HOS).below (unhide HB2).bel) hnc hoc (unhide HBAD)).mono ?_
  rintro e w3 ⟨rfl, hb3⟩
  have HB3 := hide ((unhide HB2).step hb3)
  have hl3 := (unhide HB3).lt
  clear hb3 g0 g1
  have hb4 : Below w3.heap.size w3 (w3.alloc (.cells #[.int .i64 0, .slice none 0 0] 24)) := (Below.refl _ _).alloc (Nat.le_refl _) _
  have HB4 := hide ((unhide HB3).step hb4)
  obtain ⟨g0, g1⟩ := (unhide HB3).cells
  clear hb4
  go_wp2_with fail
  refine (refMay_any _ V a n cap zs ((unhide HE).below (unhide HB4).bel)).mono ?_
  rintro e w5 ⟨⟨r, rfl, hr⟩, hb5⟩
  have HB5 := hide ((unhide HB4).step hb5)
  have y0 : w5.cell? ⟨w3.heap.size, 0, none⟩ = some (.int .i64 0) := by rw [hb5.cell (p := ⟨w3.heap.size, 0, none⟩) (by simp)]; simp
  have y1 : w5.cell? ⟨w3.heap.size, 1, none⟩ = some (.slice none 0 0) := by rw [hb5.cell (p := ⟨w3.heap.size, 1, none⟩) (by simp)]; simp
  have hl5 : w3.heap.size < w5.heap.size := by have := hb5.size; simp at this; omega
  have HRR := hide hr
  clear hr hb5 g0 g1
  obtain ⟨g0, g1⟩ := (unhide HB5).cells
  have hsame := graph_same w5 0 none none 0 0 0 [] (B1 := 0) (B2 := 0) ⟨rfl, by omega, fun k hk => by omega⟩ ⟨rfl, by omega, fun k hk => by omega⟩
  have HSAME := hide hsame
  clear hsame
  cases r with
  | false =>
    go_wp2_with fail
    refine (unhide HSAME).mono ?_
    rintro e w6 ⟨rfl, hb6⟩
    have HB6 := hide ((unhide HB5).step hb6)
    clear hb6
    go_wp2_with fail
    go_ret
    exact ⟨rfl, (unhide HB6).bel⟩
  | true =>
    have hG := (unhide HRR).1 rfl
    obtain ⟨v, hv⟩ : ∃ v : Nat, V = v := ⟨V.toNat, by have := hG.1; omega⟩
    subst hv
    have hv64 : v ≤ 64 := by have := hG.2.1; omega
    have hn128 : n ≤ 128 := hG.2.2.1
    have hbad : ¬ (IsPerm v xs ∧ IsPerm n ys) := fun hp => unhide HBAD ⟨hG, hp.1, hp.2⟩
    have HBAD2 := hide hbad
    have hcall1 := each_any w5 na m nc v xs ((unhide HNS).below (unhide HB5).bel) (by omega)
    have hcall2 := each_any w5 oa k oc n ys ((unhide HOS).below (unhide HB5).bel) (by omega)
    have HC1 := hide hcall1
    have HC2 := hide hcall2
    clear hcall1 hcall2 hbad hG
    go_wp2_with fail
    refine (unhide HC1).mono ?_
    rintro e w' ⟨⟨r, rfl, hr⟩, hw'⟩
    obtain rfl := hw'.symm
    have HR1 := hide hr
    clear hr hw'
    cases r with
    | false =>
      go_wp2_with fail
      refine (unhide HSAME).mono ?_
      rintro e w6 ⟨rfl, hb6⟩
      have HB6 := hide ((unhide HB5).step hb6)
      clear hb6
      go_wp2_with fail
      go_ret
      exact ⟨rfl, (unhide HB6).bel⟩
    | true =>
      go_wp2_with fail
      refine (unhide HC2).mono ?_
      rintro e w' ⟨⟨r, rfl, hr⟩, hw'⟩
      obtain rfl := hw'.symm
      have HR2 := hide hr
      clear hr hw'
      cases r with
      | false =>
        go_wp2_with fail
        refine (unhide HSAME).mono ?_
        rintro e w6 ⟨rfl, hb6⟩
        have HB6 := hide ((unhide HB5).step hb6)
        clear hb6
        go_wp2_with fail
        go_ret
        exact ⟨rfl, (unhide HB6).bel⟩
      | true => exact absurd ⟨(unhide HR1).1 (by trivial), (unhide HR2).1 (by trivial)⟩ (unhide HBAD2)

set_option maxHeartbeats 8000000 in
theorem names_good (w : World) (V : Nat) (a na oa : Option Addr) (cap nc oc : Nat) (es : List (Nat × Nat)) (ns os : List Nat) (h : Es 0 w a es.length (toI es)) (hp : Plain V es) (hns : Ns w na V (toIs ns)) (hos : Ns w oa es.length (toIs os)) (hnc : V ≤ nc) (hoc : es.length ≤ oc)
    (hpn : IsPerm V (toIs ns)) (hpo : IsPerm es.length (toIs os)) :
    Calls Try.prog 5 #[.agg #[.int .i64 V, .slice a es.length cap], .slice na V nc, .slice oa es.length oc] w fun e w' => e = .returned (.bool true) ∧ Below w.heap.size w w' := by
  have hv64 := hp.v64
  have hn128 := hp.n128
  have HP := hide hp
  have HPN := hide hpn
  have HPO := hide hpo
  have HG := hide (good_of_plain hp)
  obtain ⟨n, hn⟩ : ∃ n, es.length = n := ⟨_, rfl⟩
  have HN := hide hn
  rw [hn] at h hos hoc hpo hn128 ⊢
  have HB0 := hide (B1.start w (.int .i64 V) (.slice a n cap))
  have HE := hide h
  have HNS := hide hns
  have HOS := hide hos
  have HPON := hide hpo
  have h1' : decide ((200 : Int) < (n : Int)) = false := by simp; omega
  have h2' : decide ((100 : Int) < (V : Int)) = false := by simp; omega
  have h3' : decide ((200 : Int) < (n : Int)) = false := by simp; omega
  have HG1 := hide h1'
  clear h hns hos hp hpn hpo hn h1'
  go_enter Try.func5, Try.ntmps5
  go_wp2_with fail
  refine (speaks_any _).mono ?_
  rintro e w1 ⟨rfl, hb1⟩
  have HB1 := hide ((unhide HB0).step hb1)
  obtain ⟨g0, g1⟩ := (unhide HB1).cells
  clear hb1
  go_wp2_with fail
  refine (great_any _ V a n cap).mono ?_
  rintro e w2 ⟨rfl, hb2⟩
  rw [unhide HG1]
  have HB2 := hide ((unhide HB1).step hb2)
  clear hb2 g0 g1
  obtain ⟨g0, g1⟩ := (unhide HB2).cells
  have hren := rename_good w2 V a cap es na oa nc oc ns os (B := 0) (by rw [unhide HN]; exact (unhide HE).below (unhide HB2).bel) (unhide HP) ((unhide HNS).below (unhide HB2).bel) (by rw [unhide HN]; exact (unhide HOS).below (unhide HB2).bel) hnc (by rw [unhide HN]; exact hoc) (unhide HPN) (unhide HPO)
  rw [unhide HN] at hren
  have HREN := hide hren
  clear hren
  go_wp2_with fail
  refine (unhide HREN).mono ?_
  rintro e w3 ⟨⟨xa, xc, rfl, hxE⟩, hb3⟩
  have HB3 := hide ((unhide HB2).step hb3)
  have hl3 := (unhide HB3).lt
  have HXE := hide hxE
  clear hb3 g0 g1 HREN hxE
  have hb4 : Below w3.heap.size w3 (w3.alloc (.cells #[.int .i64 V, .slice xa n xc] 24)) := (Below.refl _ _).alloc (Nat.le_refl _) _
  have HB4 := hide ((unhide HB3).step hb4)
  obtain ⟨g0, g1⟩ := (unhide HB3).cells
  have HX4 := hide ((unhide HXE).below hb4)
  clear hb4
  go_wp2_with fail
  refine (refMay_any _ V a n cap (toI es) ((unhide HE).below (unhide HB4).bel)).mono ?_
  rintro e w5 ⟨⟨r, rfl, hr⟩, hb5⟩
  have hrt : r = true := hr.2 (by rw [← unhide HN]; exact unhide HG)
  subst hrt
  have HB5 := hide ((unhide HB4).step hb5)
  have y0 : w5.cell? ⟨w3.heap.size, 0, none⟩ = some (.int .i64 V) := by rw [hb5.cell (p := ⟨w3.heap.size, 0, none⟩) (by simp)]; simp
  have y1 : w5.cell? ⟨w3.heap.size, 1, none⟩ = some (.slice xa n xc) := by rw [hb5.cell (p := ⟨w3.heap.size, 1, none⟩) (by simp)]; simp
  have hl5 : w3.heap.size < w5.heap.size := by have := hb5.size; simp at this; omega
  have HX5 := hide ((unhide HX4).below hb5)
  clear hr hb5 g0 g1
  obtain ⟨g0, g1⟩ := (unhide HB5).cells
  have hl6 := (unhide HB5).lt
  have hcall1 := each_any w5 na V nc V (toIs ns) ((unhide HNS).below (unhide HB5).bel) (by omega)
  have hcall2 := each_any w5 oa n oc n (toIs os) ((unhide HOS).below (unhide HB5).bel) (by omega)
  have HC1 := hide hcall1
  have HC2 := hide hcall2
  clear hcall1 hcall2
  go_wp2_with fail
  refine (unhide HC1).mono ?_
  rintro e w' ⟨⟨r, rfl, hr⟩, hw'⟩
  obtain rfl := hw'.symm
  have hrt : r = true := hr.2 (unhide HPN)
  subst hrt
  clear hr hw'
  go_wp2_with fail
  refine (unhide HC2).mono ?_
  rintro e w' ⟨⟨r, rfl, hr⟩, hw'⟩
  obtain rfl := hw'.symm
  have hrt : r = true := hr.2 (unhide HPON)
  subst hrt
  clear hr hw'
  have hbd : Below w5.heap.size w5 w5.drew := (Below.refl _ _).drew
  have href := refRename_good w5.drew V a cap es na oa nc oc ns os (B := 0) (by rw [unhide HN]; exact ((unhide HE).below (unhide HB5).bel).below hbd) (unhide HP) (((unhide HNS).below (unhide HB5).bel).below hbd) (by rw [unhide HN]; exact ((unhide HOS).below (unhide HB5).bel).below hbd) (unhide HPN) (unhide HPO)
  rw [unhide HN] at href
  have HREF := hide href
  clear href hbd
  go_wp2_with fail
  go_region_with (first | (go_at_call 27; refine (unhide HREF).mono ?_; rintro e w6 ⟨⟨za, zc, rfl, hzE⟩, hb6⟩; have c0 : w6.cell? ⟨w3.heap.size, 0, none⟩ = some (.int .i64 V) := (hb6.cell (p := ⟨w3.heap.size, 0, none⟩) hl5).trans y0; have c1 : w6.cell? ⟨w3.heap.size, 1, none⟩ = some (.slice xa n xc) := (hb6.cell (p := ⟨w3.heap.size, 1, none⟩) hl5).trans y1; have HB6 := hide hb6; have HZE := hide hzE; clear hb6 hzE) | (go_at_call 17; refine (graph_same w6 V xa za n xc zc _ (((unhide HX5).below ((Below.refl _ _).drew)).below (unhide HB6)) (unhide HZE)).mono ?_; rintro e w7 ⟨rfl, hb7⟩; have HB7 := hide hb7; clear hb7))
  all_goals go_wp2
  all_goals go_ret
  all_goals exact ⟨rfl, (((unhide HB5).step ((Below.refl _ _).drew)).step (unhide HB6)).step (unhide HB7) |>.bel⟩
end Go.Proofs.Ytgbdnpmpkilcoaa

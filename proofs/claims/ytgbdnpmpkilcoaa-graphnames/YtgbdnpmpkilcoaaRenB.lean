/-
  The contract of graph.Rename where it refuses. Conditions: the graph, the names and the order lie in memory as told.
-/
import Derived.Test.YtgbdnpmpkilcoaaRenL
namespace Go.Proofs.Ytgbdnpmpkilcoaa
open Go.RowKit
set_option linter.unusedVariables false

set_option maxHeartbeats 4000000 in
theorem rename_bad (w : World) (V : Int) (a : Option Addr) (n cap : Nat) (zs : List (Int × Int)) (na oa : Option Addr) (m nc k oc : Nat) (xs ys : List Int) {B : Nat} (h : Es B w a n zs)
    (hns : Ns w na m xs) (hos : Ns w oa k ys) (hnc : m ≤ nc) (hoc : k ≤ oc) (hbad : ¬ (Good V n zs ∧ IsPerm V.toNat xs ∧ IsPerm n ys)) :
    Calls Try.prog 25 #[.agg #[.int .i64 V, .slice a n cap], .slice na m nc, .slice oa k oc] w fun e w' =>
      e = .returned (.tuple #[.agg #[.int .i64 0, .slice none 0 0], .int .i64 1]) ∧ Below w.heap.size w w' := by
  have HE := hide h
  have HNS := hide hns
  have HOS := hide hos
  have HBAD := hide hbad
  clear h hns hos hbad
  have hb0 : Below w.heap.size w ((w.alloc (.cells #[.int .i64 V, .slice a n cap] 24)).alloc (.cells #[.int .i64 0, .slice none 0 0] 24)) := ((Below.refl _ _).alloc (Nat.le_refl _) _).alloc (by simp) _
  go_enter Try.func25, Try.ntmps25
  go_wp2_with fail
  refine (may_any _ V a n cap zs ((unhide HE).below hb0)).mono ?_
  rintro e w1 ⟨⟨r, rfl, hr⟩, hb1⟩
  have hbw1 := hb0.trans (hb1.mono (by simp; omega))
  have HB1 := hide hbw1
  have gb : w1.heap[w.heap.size]? = some (.cells #[.int .i64 V, .slice a n cap] 24 (0, 0)) := by
    rw [hb1.block _ (by simp; omega), Below.heap_alloc _ _ _ (by simp)]
    exact (MapKept.heap_alloc w _).1
  have rbb : w1.heap[w.heap.size + 1]? = some (.cells #[.int .i64 0, .slice none 0 0] 24 (0, 0)) := by
    rw [hb1.block _ (by simp)]
    have := (MapKept.heap_alloc (w.alloc (.cells #[.int .i64 V, .slice a n cap] 24)) (.cells #[.int .i64 0, .slice none 0 0] 24)).1
    simpa using this
  have g0 : w1.cell? ⟨w.heap.size, 0, none⟩ = some (.int .i64 V) := by simp [World.cell?, gb]
  have g1 : w1.cell? ⟨w.heap.size, 1, none⟩ = some (.slice a n cap) := by simp [World.cell?, gb]
  have q0 : w1.cell? ⟨w.heap.size + 1, 0, none⟩ = some (.int .i64 0) := by simp [World.cell?, rbb]
  have q1 : w1.cell? ⟨w.heap.size + 1, 1, none⟩ = some (.slice none 0 0) := by simp [World.cell?, rbb]
  have f0 : w1.frozen? ⟨w.heap.size + 1, 0, none⟩ = false := by simp [World.frozen?, rbb]
  have f1 : w1.frozen? ⟨w.heap.size + 1, 1, none⟩ = false := by simp [World.frozen?, rbb]
  have HN1 := hide ((unhide HNS).below hbw1)
  have HO1 := hide ((unhide HOS).below hbw1)
  have HRR := hide hr
  have hfin : Below w.heap.size w ((w1.setCell ⟨w.heap.size + 1, 0, none⟩ (.int .i64 0)).setCell ⟨w.heap.size + 1, 1, none⟩ (.slice none 0 0)) := ((unhide HB1).setCell (p := ⟨w.heap.size + 1, 0, none⟩) (Nat.le_succ _) _).setCell (p := ⟨w.heap.size + 1, 1, none⟩) (Nat.le_succ _) _
  have HFIN := hide hfin
  clear hr hb0 hb1 hbw1 gb rbb hfin
  cases r with
  | false =>
    go_wp2_with fail
    exact bodyPost_ret (v := .tuple #[.agg #[.int .i64 0, .slice none 0 0], .int .i64 1]) (by simp [results, Try.results25, go_sem, q0, q1]) rfl ⟨rfl, unhide HFIN⟩
  | true =>
    have hG := (unhide HRR).1 rfl
    obtain ⟨v, hv⟩ : ∃ v : Nat, V = v := ⟨V.toNat, by have := hG.1; omega⟩
    subst hv
    have hv64 : v ≤ 64 := by have := hG.2.1; omega
    have hn128 : n ≤ 128 := hG.2.2.1
    have hbad : ¬ (IsPerm v xs ∧ IsPerm n ys) := fun hp => unhide HBAD ⟨hG, hp.1, hp.2⟩
    have HBAD2 := hide hbad
    have hcall1 := eachOnce_any w1 na m nc v xs (unhide HN1) hnc (by omega)
    have hcall2 := eachOnce_any w1 oa k oc n ys (unhide HO1) hoc (by omega)
    have HC1 := hide hcall1
    have HC2 := hide hcall2
    clear hcall1 hcall2 hbad hG
    go_wp2_with fail
    refine (unhide HC1).mono ?_
    rintro e w' ⟨⟨r, rfl, hr⟩, hw'⟩
    obtain rfl := hw'.symm
    have HR1 := hide hr
    clear hr hw'
    cases r with
    | false =>
      go_wp2_with fail
      exact bodyPost_ret (v := .tuple #[.agg #[.int .i64 0, .slice none 0 0], .int .i64 1]) (by simp [results, Try.results25, go_sem, q0, q1]) rfl ⟨rfl, unhide HFIN⟩
    | true =>
      go_wp2_with fail
      refine (unhide HC2).mono ?_
      rintro e w' ⟨⟨r, rfl, hr⟩, hw'⟩
      obtain rfl := hw'.symm
      have HR2 := hide hr
      clear hr hw'
      cases r with
      | false =>
        go_wp2_with fail
        exact bodyPost_ret (v := .tuple #[.agg #[.int .i64 0, .slice none 0 0], .int .i64 1]) (by simp [results, Try.results25, go_sem, q0, q1]) rfl ⟨rfl, unhide HFIN⟩
      | true => exact absurd ⟨(unhide HR1).1 (by trivial), (unhide HR2).1 (by trivial)⟩ (unhide HBAD2)
end Go.Proofs.Ytgbdnpmpkilcoaa

/-
  The contract of graph.Check. Conditions: the graph's edges lie in memory as told.
-/
import Derived.Test.YtdkchihomllokaaChkP
namespace Go.Proofs.Ytdkchihomllokaa
open Go.RowKit
set_option linter.unusedVariables false
set_option maxRecDepth 20000

set_option maxHeartbeats 2000000 in
theorem check_bad (w : World) (V : Int) (a : Option Addr) (n cap : Nat) (zs : List (Int × Int)) {B : Nat} (h : Es B w a n zs) (hbad : ¬ Good V n zs) :
    Calls Try.prog 26 #[.agg #[.int .i64 V, .slice a n cap]] w fun e w' => e = .returned (.agg #[.int .i64 1, .int .i64 0, .slice none 0 0]) ∧ Below w.heap.size w w' := by
  have HE := hide h
  have HBAD := hide hbad
  clear h hbad
  have hb0 : Below w.heap.size w ((w.alloc (.cells #[.int .i64 V, .slice a n cap] 24)).alloc (.cells #[.int .i64 0, .int .i64 0, .slice none 0 0] 64)) := ((Below.refl _ _).alloc (Nat.le_refl _) _).alloc (by simp) _
  go_enter Try.func26, Try.ntmps26
  go_wp2_with fail
  refine (may_any _ V a n cap zs ((unhide HE).below hb0)).mono ?_
  rintro e w1 ⟨⟨r, rfl, hr⟩, hb1⟩
  have hrf : r = false := by
    cases r with
    | false => rfl
    | true => exact absurd (hr.1 rfl) (unhide HBAD)
  subst hrf
  have hv : w1.heap[w.heap.size + 1]? = some (.cells #[.int .i64 0, .int .i64 0, .slice none 0 0] 64 (0, 0)) := by
    rw [hb1.block _ (by simp)]
    have := (MapKept.heap_alloc (w.alloc (.cells #[.int .i64 V, .slice a n cap] 24)) (.cells #[.int .i64 0, .int .i64 0, .slice none 0 0] 64)).1
    simpa using this
  have e0 : w1.cell? ⟨w.heap.size + 1, 0, none⟩ = some (.int .i64 0) := by simp [World.cell?, hv]
  have e1 : w1.cell? ⟨w.heap.size + 1, 1, none⟩ = some (.int .i64 0) := by simp [World.cell?, hv]
  have e2 : w1.cell? ⟨w.heap.size + 1, 2, none⟩ = some (.slice none 0 0) := by simp [World.cell?, hv]
  have f0 : w1.frozen? ⟨w.heap.size + 1, 0, none⟩ = false := by simp [World.frozen?, hv]
  have f1 : w1.frozen? ⟨w.heap.size + 1, 1, none⟩ = false := by simp [World.frozen?, hv]
  have f2 : w1.frozen? ⟨w.heap.size + 1, 2, none⟩ = false := by simp [World.frozen?, hv]
  have HB := hide (hb0.trans (hb1.mono (by simp; omega)))
  clear hr hb0 hb1 hv
  go_wp2_with fail
  refine bodyPost_ret (v := .agg #[.int .i64 1, .int .i64 0, .slice none 0 0]) (by simp [results, Try.results26, go_sem, e0, e1, e2]) rfl ⟨rfl, ?_⟩
  exact (((unhide HB).setCell (p := ⟨w.heap.size + 1, 0, none⟩) (Nat.le_succ _) _).setCell (p := ⟨w.heap.size + 1, 1, none⟩) (Nat.le_succ _) _).setCell (p := ⟨w.heap.size + 1, 2, none⟩) (Nat.le_succ _) _

/-- Check's two boxes, through its calls -/
structure CB (w wk : World) (V : Nat) (a : Option Addr) (n cap : Nat) : Prop where
  bel : Below w.heap.size w wk
  gb : wk.heap[w.heap.size]? = some (.cells #[.int .i64 V, .slice a n cap] 24 (0, 0))
  rb : wk.heap[w.heap.size + 1]? = some (.cells #[.int .i64 0, .int .i64 0, .slice none 0 0] 64 (0, 0))
theorem CB.start (w : World) (V : Nat) (a : Option Addr) (n cap : Nat) : CB w ((w.alloc (.cells #[.int .i64 V, .slice a n cap] 24)).alloc (.cells #[.int .i64 0, .int .i64 0, .slice none 0 0] 64)) V a n cap := by
  refine ⟨((Below.refl _ _).alloc (Nat.le_refl _) _).alloc (by simp) _, ?_, ?_⟩
  · rw [Below.heap_alloc _ _ _ (by simp)]
    exact (MapKept.heap_alloc w _).1
  · have := (MapKept.heap_alloc (w.alloc (.cells #[.int .i64 V, .slice a n cap] 24)) (.cells #[.int .i64 0, .int .i64 0, .slice none 0 0] 64)).1
    simpa using this
theorem CB.lt {w wk : World} {V : Nat} {a : Option Addr} {n cap : Nat} (h : CB w wk V a n cap) : w.heap.size + 1 < wk.heap.size := (Array.getElem?_eq_some_iff.1 h.rb).1
theorem CB.step {w wk wk' : World} {V : Nat} {a : Option Addr} {n cap : Nat} (h : CB w wk V a n cap) (hb : Below wk.heap.size wk wk') : CB w wk' V a n cap := by
  have := h.lt
  exact ⟨h.bel.trans (hb.mono (by omega)), by rw [hb.block _ (by omega)]; exact h.gb, by rw [hb.block _ (by omega)]; exact h.rb⟩
theorem CB.cells {w wk : World} {V : Nat} {a : Option Addr} {n cap : Nat} (h : CB w wk V a n cap) :
    wk.cell? ⟨w.heap.size, 0, none⟩ = some (.int .i64 V) ∧ wk.cell? ⟨w.heap.size, 1, none⟩ = some (.slice a n cap) ∧ wk.cell? ⟨w.heap.size + 1, 0, none⟩ = some (.int .i64 0) ∧ wk.cell? ⟨w.heap.size + 1, 1, none⟩ = some (.int .i64 0) ∧ wk.cell? ⟨w.heap.size + 1, 2, none⟩ = some (.slice none 0 0) ∧
    wk.frozen? ⟨w.heap.size + 1, 0, none⟩ = false ∧ wk.frozen? ⟨w.heap.size + 1, 1, none⟩ = false ∧ wk.frozen? ⟨w.heap.size + 1, 2, none⟩ = false := by
  have h1 := h.gb
  have h2 := h.rb
  simp [World.cell?, World.frozen?, h1, h2]
theorem CB.ends {w wk : World} {V : Nat} {a : Option Addr} {n cap : Nat} (h : CB w wk V a n cap) (x y z : Value) : Below w.heap.size w (((wk.setCell ⟨w.heap.size + 1, 0, none⟩ x).setCell ⟨w.heap.size + 1, 1, none⟩ y).setCell ⟨w.heap.size + 1, 2, none⟩ z) :=
  ((h.bel.setCell (p := ⟨w.heap.size + 1, 0, none⟩) (Nat.le_succ _) _).setCell (p := ⟨w.heap.size + 1, 1, none⟩) (Nat.le_succ _) _).setCell (p := ⟨w.heap.size + 1, 2, none⟩) (Nat.le_succ _) _
/-- a row that was made behind the boxes is there behind the stores -/
theorem CB.row {w wk : World} {V : Nat} {a : Option Addr} {n cap : Nat} (h : CB w wk V a n cap) (x y z : Value) {base m c : Nat} {va : Option Addr} {xs : List Int} (ho : wk.ownsRow base 3 1 (.slice va m c) m (zcells xs)) (hb : w.heap.size + 1 < base) (hm : m ≤ 1000) :
    Ns (((wk.setCell ⟨w.heap.size + 1, 0, none⟩ x).setCell ⟨w.heap.size + 1, 1, none⟩ y).setCell ⟨w.heap.size + 1, 2, none⟩ z) va m xs := by
  have h1 := ownsRow_setCell_below (ownsRow_setCell_below (ownsRow_setCell_below (a := ⟨w.heap.size + 1, 0, none⟩) ho hb x) (a := ⟨w.heap.size + 1, 1, none⟩) hb y) (a := ⟨w.heap.size + 1, 2, none⟩) hb z
  obtain ⟨_, _, hv, _, hN⟩ := ns_of_owns h1 (by omega)
  obtain ⟨rfl, rfl⟩ : va = _ ∧ c = _ := by simpa using hv
  exact hN

set_option maxHeartbeats 4000000 in
theorem check_good (w : World) (V : Nat) (a : Option Addr) (cap : Nat) (es : List (Nat × Nat)) {B : Nat} (h : Es B w a es.length (toI es)) (hno : a = none → es.length = 0 ∧ cap = 0) (hcap : es.length ≤ cap) (hp : Plain V es) :
    Calls Try.prog 26 #[.agg #[.int .i64 V, .slice a es.length cap]] w fun e w' => CheckTold w' V es e ∧ Below w.heap.size w w' := by
  have hv64 := hp.v64
  have HE := hide h
  have HP := hide hp
  have HNO := hide hno
  obtain ⟨n, hn⟩ : ∃ n, es.length = n := ⟨_, rfl⟩
  have HN := hide hn
  have hC0 := CB.start w V a n cap
  have hE0 := (unhide HE).below hC0.bel
  rw [hn] at hE0
  have HE0 := hide hE0
  have HC0 := hide hC0
  have hlp : ixp n (fun j => ((toI es).getD j (0, 0)).1 == ((toI es).getD j (0, 0)).2) = lpI es := by rw [← hn]; rfl
  have htw : ixp n (twB (toI es)) = twI es := by rw [← hn]; rfl
  have HLP := hide hlp
  have HTW := hide htw
  rw [hn] at hcap ⊢
  clear h hp hno hC0 hn hlp htw hE0
  go_enter Try.func26, Try.ntmps26
  go_wp2_with fail
  refine (may_any _ V a n cap (toI es) (unhide HE0)).mono ?_
  rintro e w1 ⟨⟨r, rfl, hr⟩, hb1⟩
  have hrf : r = true := hr.2 (by rw [← unhide HN]; exact good_of_plain (unhide HP))
  subst hrf
  have hC1 := (unhide HC0).step hb1
  have HC1 := hide hC1
  obtain ⟨g0, g1, e0, e1, e2, f0, f1, f2⟩ := hC1.cells
  have hE1 := (unhide HE).below hC1.bel
  have HE1 := hide hE1
  clear hr hb1 hC1 hE1 HC0 HE0
  go_wp2_with fail
  refine (indexLoop_any w1 a n cap (toI es) #[] rfl (by rw [← unhide HN]; exact unhide HE1)).mono ?_
  rintro e w2 ⟨rfl, hb2⟩
  rw [unhide HLP]
  have hC2 := (unhide HC1).step hb2
  have HC2 := hide hC2
  have HE2 := hide ((unhide HE1).below hb2)
  clear g0 g1 e0 e1 e2 f0 f1 f2 hb2 hC2
  obtain ⟨g0, g1, e0, e1, e2, f0, f1, f2⟩ := (unhide HC2).cells
  by_cases hl : 0 ≤ lpI es
  · obtain ⟨z, hz⟩ : ∃ z, lpI es = z := ⟨_, rfl⟩
    rw [hz] at hl ⊢
    have HZ := hide hz
    clear hz
    go_wp2_with fail
    refine bodyPost_ret (v := .agg #[.int .i64 13, .int .i64 z, .slice none 0 0]) (by simp [results, Try.results26, go_sem, e0, e1, e2]) rfl ⟨⟨13, z, [], none, 0, .inl ⟨by rw [unhide HZ]; exact hl, rfl, (unhide HZ).symm, rfl⟩, rfl, Ns.nil _ _⟩, (unhide HC2).ends _ _ _⟩
  obtain ⟨z, hz⟩ : ∃ z, lpI es = z := ⟨_, rfl⟩
  rw [hz] at hl ⊢
  have HZ := hide hz
  have hl2 : z < 0 := by omega
  clear hz
  go_wp2_with fail
  refine (twice_any w2 a n cap (toI es) hcap (by rw [← unhide HN]; exact unhide HE2)).mono ?_
  rintro e w3 ⟨rfl, hb3⟩
  rw [unhide HTW]
  have hC3 := (unhide HC2).step hb3
  have HC3 := hide hC3
  have HE3 := hide ((unhide HE2).below hb3)
  clear g0 g1 e0 e1 e2 f0 f1 f2 hb3 hC3
  obtain ⟨g0, g1, e0, e1, e2, f0, f1, f2⟩ := (unhide HC3).cells
  by_cases ht : 0 ≤ twI es
  · obtain ⟨t, htz⟩ : ∃ t, twI es = t := ⟨_, rfl⟩
    rw [htz] at ht ⊢
    have HT := hide htz
    clear htz
    go_wp2_with fail
    refine bodyPost_ret (v := .agg #[.int .i64 14, .int .i64 t, .slice none 0 0]) (by simp [results, Try.results26, go_sem, e0, e1, e2]) rfl ⟨⟨14, t, [], none, 0, .inr (.inl ⟨by rw [unhide HZ]; exact hl2, by rw [unhide HT]; exact ht, rfl, (unhide HT).symm, rfl⟩), rfl, Ns.nil _ _⟩, (unhide HC3).ends _ _ _⟩
  obtain ⟨t, htz⟩ : ∃ t, twI es = t := ⟨_, rfl⟩
  rw [htz] at ht ⊢
  have HT := hide htz
  have ht2 : t < 0 := by omega
  clear htz
  have hof := of_good w3 V a cap es (unhide HE3) (unhide HNO) (unhide HP)
  rw [unhide HN] at hof
  have HOF := hide hof
  clear hof
  go_wp2_with fail
  refine (unhide HOF).mono ?_
  rintro e w4 ⟨⟨b, ea, ec, oa, oc, ia, ic, ra, rc, rfl, hbb, hvw⟩, hb4⟩
  have hC4 := (unhide HC3).step hb4
  have HC4 := hide hC4
  have HVW := hide hvw
  clear g0 g1 e0 e1 e2 f0 f1 f2 hb4 hC4 hvw HOF
  have hl4 := (unhide HC4).lt
  go_wp2_with fail
  refine (cycle_any w4 b V es _ _ _ _ _ _ _ _ (unhide HVW) (unhide HP)).mono ?_
  rintro e w5 ⟨hcy, hb5⟩
  have hC5 := (unhide HC4).step hb5
  have HC5 := hide hC5
  have HV5 := hide ((unhide HVW).below hb5)
  have hl5 := hC5.lt
  obtain ⟨g0, g1, e0, e1, e2, f0, f1, f2⟩ := hC5.cells
  clear hb5 hC5
  have q28 : ∀ (w : World) (a : Option Addr) (n c : Nat), (binOp .neq 34 (.slice a n c) (.slice none 0 0)).run Try.prog w = .ok (.bool (!a.isNone)) w := fun w a n c => run_neq_slice_nil w 34 3 a n c Try.underlying34
  rcases hcy with ⟨hst, rfl⟩ | ⟨a0, m, g, cp, hst, hlm, rfl, hown⟩
  · have HST := hide hst
    clear hst
    go_wp2_with fail
    refine (sources_any w5 b V es _ _ _ _ _ _ _ _ _ (unhide HV5) hv64).mono ?_
    rintro e w6 ⟨⟨v, rfl, hov⟩, hb6⟩
    have hC6 := (unhide HC5).step hb6
    have HC6 := hide hC6
    have hbl := bare_len (Pl.ins es) V
    obtain ⟨va, vc, hv, hvc, hNv⟩ := ns_of_owns hov (by omega)
    subst hv
    have hl6 := hC6.lt
    obtain ⟨k, hk⟩ : ∃ k, (bare (Pl.ins es) V).length = k := ⟨_, rfl⟩
    have hno6 : va = none → k = 0 ∧ vc = 0 := fun e => by subst e; have := none_cap hov; omega
    have HNO6 := hide hno6
    rw [hk] at hNv hvc hbl ⊢
    have HK := hide hk
    have HNV := hide hNv
    clear g0 g1 e0 e1 e2 f0 f1 f2
    obtain ⟨g0, g1, e0, e1, e2, f0, f1, f2⟩ := hC6.cells
    clear hb6 hC6 hov hk hNv hno6
    by_cases hk1 : 1 < k
    · have hk2 : (1 : Int) < (k : Int) := by omega
      have hc2 : (2 : Int) ≤ (vc : Int) := by omega
      go_wp2_with fail
      refine (clone_any w6 va 2 vc _ (ns_take (unhide HNV) (by omega)) (fun e => by have := unhide HNO6 e; omega) (by omega)).mono ?_
      rintro e w7 ⟨⟨v7, rfl, hov7⟩, hb7⟩
      obtain ⟨va7, vc7, hv7, _, _⟩ := ns_of_owns hov7 (by omega)
      subst hv7
      have hC7 := (unhide HC6).step hb7
      have HC7 := hide hC7
      have HO7 := hide hov7
      clear g0 g1 e0 e1 e2 f0 f1 f2
      obtain ⟨g0, g1, e0, e1, e2, f0, f1, f2⟩ := hC7.cells
      clear hb7 hC7 hov7
      go_wp2_with fail
      have htk : toIs ((bare (Pl.ins es) V).take 2) = (toIs (bare (Pl.ins es) V)).take 2 := by unfold toIs; rw [List.map_take]
      have hl2' : ((bare (Pl.ins es) V).take 2).length = 2 := by rw [List.length_take, unhide HK]; omega
      refine bodyPost_ret (v := .agg #[.int .i64 16, .int .i64 0, .slice va7 2 vc7]) (by simp [results, Try.results26, go_sem, e0, e1, e2]) rfl ⟨⟨16, 0, (bare (Pl.ins es) V).take 2, va7, vc7, .inr (.inr (.inr (.inl ⟨by rw [unhide HZ]; exact hl2, by rw [unhide HT]; exact ht2, unhide HST, rfl, rfl, by rw [unhide HK]; exact hk1, rfl⟩))), by rw [hl2'], ?_⟩, (unhide HC7).ends _ _ _⟩
      rw [hl2', htk]
      exact (unhide HC7).row _ _ _ (unhide HO7) (by omega) (by omega)
    · have hk2 : ¬ (1 : Int) < (k : Int) := by omega
      go_wp2_with fail
      refine bodyPost_ret (v := .agg #[.int .i64 0, .int .i64 0, .slice none 0 0]) (by simp [results, Try.results26, go_sem, e0, e1, e2]) rfl ⟨⟨0, 0, [], none, 0, .inr (.inr (.inr (.inr ⟨by rw [unhide HZ]; exact hl2, by rw [unhide HT]; exact ht2, unhide HST, rfl, rfl, by rw [unhide HK]; omega, rfl⟩))), rfl, Ns.nil _ _⟩, (unhide HC6).ends _ _ _⟩
  · have HST := hide hst
    have HLM := hide hlm
    have HO := hide hown
    have hrl := turn_len64 (unhide HP) hst
    obtain ⟨k, hk⟩ : ∃ k, (Pl.ring V es a0).length = k := ⟨_, rfl⟩
    rw [hk] at hrl ⊢
    have HK := hide hk
    clear hst hlm hown hk
    go_wp2_with fail
    refine bodyPost_ret (v := .agg #[.int .i64 15, .int .i64 0, .slice (some ⟨g, 0, none⟩) k cp]) (by simp [results, Try.results26, go_sem, e0, e1, e2]) rfl ⟨⟨15, 0, Pl.turn (Pl.ring V es a0) m, some ⟨g, 0, none⟩, cp, .inr (.inr (.inl ⟨by rw [unhide HZ]; exact hl2, by rw [unhide HT]; exact ht2, rfl, rfl, a0, m, unhide HST, unhide HLM, rfl⟩)), by rw [Pl.turn_length, unhide HK], ?_⟩, (unhide HC5).ends _ _ _⟩
    rw [Pl.turn_length]
    have ho := unhide HO
    rw [unhide HK] at ho ⊢
    exact (unhide HC5).row _ _ _ ho (by omega) (by omega)
end Go.Proofs.Ytdkchihomllokaa

/-
  The contract of the document's Check. Conditions: the graph's edges lie in memory as told.
-/
import Derived.Test.YtdkchihomllokaaRefCyc
import Derived.Test.YtdkchihomllokaaRefEnds
import Derived.Test.YtdkchihomllokaaRefMay
import Derived.Test.YtdkchihomllokaaChkP
import Derived.OwnWalk
namespace Go.Proofs.Ytdkchihomllokaa
open Go.RowKit
set_option linter.unusedVariables false
set_option maxRecDepth 20000

set_option maxHeartbeats 2000000 in
theorem refCheck_bad (w : World) (V : Int) (a : Option Addr) (n cap : Nat) (zs : List (Int × Int)) {B : Nat} (h : Es B w a n zs) (hbad : ¬ Good V n zs) :
    Calls Try.prog 29 #[.agg #[.int .i64 V, .slice a n cap]] w fun e w' => e = .returned (.tuple #[.int .i64 1, .int .i64 0, .slice none 0 0]) ∧ Below w.heap.size w w' := by
  have HE := hide h
  have HBAD := hide hbad
  have HB0 := hide (Bg.start w (.int .i64 V) (.slice a n cap))
  clear h hbad
  go_enter Try.func29, Try.ntmps29
  go_wp2_with fail
  refine (refMay_any _ V a n cap zs ((unhide HE).below (unhide HB0).bel)).mono ?_
  rintro e w1 ⟨⟨r, rfl, hr⟩, hb1⟩
  have hrf : r = false := by
    cases r with
    | false => rfl
    | true => exact absurd (hr.1 rfl) (unhide HBAD)
  subst hrf
  have HB1 := hide ((unhide HB0).step hb1)
  clear hr hb1
  go_wp2_with fail
  go_ret3
  exact ⟨rfl, (unhide HB1).bel⟩

/-- what the document's Check tells -/
def RefTold (w' : World) (V : Nat) (es : List (Nat × Nat)) (e : Ending) : Prop :=
  ∃ (c p : Int) (l : List Nat) (a : Option Addr) (cap : Nat), IsFault V es c p l ∧ e = .returned (.tuple #[.int .i64 c, .int .i64 p, .slice a l.length cap]) ∧ Ns w' a l.length (toIs l)

theorem lp_at (es : List (Nat × Nat)) (j : Nat) : (((toI es).getD j (0, 0)).1 == ((toI es).getD j (0, 0)).2) = ((Pl.at' es j).1 == (Pl.at' es j).2) := by
  rw [toI_getD, Bool.eq_iff_iff]
  unfold Pl.at'
  simp
  omega
theorem tw_at (es : List (Nat × Nat)) (i j : Nat) : ((toI es).getD j (0, 0) == (toI es).getD i (0, 0)) = (Pl.at' es j == Pl.at' es i) := by
  rw [toI_getD, toI_getD, Bool.eq_iff_iff]
  unfold Pl.at'
  simp [Prod.ext_iff]
  omega

set_option maxHeartbeats 8000000 in
theorem refCheck_good (w : World) (V : Nat) (a : Option Addr) (cap : Nat) (es : List (Nat × Nat)) {B : Nat} (h : Es B w a es.length (toI es)) (hp : Plain V es) :
    Calls Try.prog 29 #[.agg #[.int .i64 V, .slice a es.length cap]] w fun e w' => RefTold w' V es e ∧ Below w.heap.size w w' := by
  have hv64 := hp.v64
  have hn128 := hp.n128
  have HE := hide h
  have HP := hide hp
  have HG := hide (good_of_plain hp)
  have HB0 := hide (Bg.start w (.int .i64 V) (.slice a es.length cap))
  obtain ⟨n, hn⟩ : ∃ n, es.length = n := ⟨_, rfl⟩
  have HN := hide hn
  rw [hn] at hn128 HB0 ⊢
  clear h hp hn
  go_enter Try.func29, Try.ntmps29
  go_wp2_with fail
  refine (refMay_any _ V a n cap (toI es) (by rw [← unhide HN]; exact (unhide HE).below (by rw [unhide HN]; exact (unhide HB0).bel))).mono ?_
  rintro e w1 ⟨⟨r, rfl, hr⟩, hb1⟩
  have hrf : r = true := hr.2 (by rw [← unhide HN]; exact unhide HG)
  subst hrf
  have HB1 := hide ((unhide HB0).step hb1)
  clear hr hb1
  go_wp2_with fail
  go_loopw [5] (fun i wr => ∃ k : Nat, i = .int .i64 k ∧ k ≤ n ∧ Hid (Bg w wr (.int .i64 V) (.slice a n cap)) ∧ Hid (∀ j, j < k → ((Pl.at' es j).1 == (Pl.at' es j).2) = false)) (fun i wr => n - (intOf i).toNat)
  case atStart => exact ⟨0, rfl, by omega, HB1, fun j hj => by omega⟩
  case round =>
    obtain ⟨k, rfl, hk, HBX, HA⟩ := hrel
    obtain ⟨g0, g1⟩ := (unhide HBX).cells
    by_cases hlt : k < n
    · obtain ⟨g, off, ha, hg, e0, e1⟩ := es_at ((unhide HE).below (unhide HBX).bel) (i := k) (by rw [unhide HN]; exact hlt)
      obtain ⟨x, y, hxy⟩ : ∃ x y, Pl.at' es k = (x, y) := ⟨_, _, rfl⟩
      rw [hxy] at e0 e1
      simp only at e0 e1
      have HXY := hide hxy
      subst ha
      have hlt2 : (k : Int) < (n : Int) := by omega
      clear hxy
      by_cases hx : x = y
      · have hb : ((x : Int) == (y : Int)) = true := by simp; omega
        have HX := hide hx
        clear hx
        go_wp2_with fail
        go_quiet (fail)
        go_wp2_with fail
        go_ret3
        have hlp : lpI es = (k : Int) := by
          unfold lpI
          rw [unhide HN]
          exact ixp_hit k hlt (by rw [lp_at, unhide HXY]; simp [unhide HX]) (fun j hj => by rw [lp_at]; exact unhide HA j hj)
        exact ⟨⟨13, k, [], none, 0, .inl ⟨by rw [hlp]; omega, rfl, hlp.symm, rfl⟩, rfl, Ns.nil _ _⟩, below_draws (unhide HBX).bel _⟩
      · have hb : ((x : Int) == (y : Int)) = false := by rw [beq_eq_false_iff_ne]; omega
        have HX := hide hx
        clear hx
        go_wp2_with fail
        go_quiet (fail)
        go_wp2_with fail
        go_roundw
        case rel =>
          refine ⟨k + 1, by go_num, by omega, (unhide HBX).step (below_refl_draws _ _), fun j hj => ?_⟩
          by_cases hjk : j < k
          · exact unhide HA j hjk
          · obtain rfl : j = k := by omega
            rw [unhide HXY]
            simp [unhide HX]
        case measure => simp [intOf]; omega
    · obtain rfl : k = n := by omega
      have hlp : lpI es = -1 := by
        unfold lpI
        rw [unhide HN]
        exact ixp_miss (fun j hj => by rw [lp_at]; exact unhide HA j hj)
      have HLP := hide hlp
      clear hlp
      go_wp2_with fail
      go_loopw [6] (fun i wr => ∃ i' : Nat, i = .int .i64 i' ∧ i' ≤ k ∧ Hid (Bg w wr (.int .i64 V) (.slice a k cap)) ∧ Hid (∀ j, j < i' → twB (toI es) j = false)) (fun i wr => k - (intOf i).toNat)
      case atStart => exact ⟨0, rfl, by omega, HBX, fun j hj => by omega⟩
      case round =>
        obtain ⟨i, rfl, hi, HBX2, HA2⟩ := hrel
        obtain ⟨g0, g1⟩ := (unhide HBX2).cells
        by_cases hik : i < k
        · have hik2 : (i : Int) < (k : Int) := by omega
          go_wp2_with fail
          go_loopw [7] (fun b wr => ∃ j : Nat, b = .int .i64 j ∧ j ≤ i ∧ Hid (Bg w wr (.int .i64 V) (.slice a k cap)) ∧ Hid (∀ t, t < j → (Pl.at' es t == Pl.at' es i) = false)) (fun b wr => i - (intOf b).toNat)
          case atStart => exact ⟨0, rfl, by omega, HBX2, fun j hj => by omega⟩
          case round =>
            obtain ⟨j, rfl, hj, HBX3, HA3⟩ := hrel
            clear g0 g1
            obtain ⟨g0, g1⟩ := (unhide HBX3).cells
            by_cases hji : j < i
            · have hE3 := (unhide HE).below (unhide HBX3).bel
              obtain ⟨g, off, ha, hg, e0, e1⟩ := es_at hE3 (i := j) (by rw [unhide HN]; omega)
              obtain ⟨g', off', ha', hg', e2, e3⟩ := es_at hE3 (i := i) (by rw [unhide HN]; omega)
              subst ha
              obtain ⟨rfl, rfl⟩ : g = g' ∧ off = off' := by simpa using ha'
              obtain ⟨x, y, hxy⟩ : ∃ x y, Pl.at' es j = (x, y) := ⟨_, _, rfl⟩
              obtain ⟨x', y', hxy'⟩ : ∃ x y, Pl.at' es i = (x, y) := ⟨_, _, rfl⟩
              rw [hxy] at e0 e1
              rw [hxy'] at e2 e3
              simp only at e0 e1 e2 e3
              have HXY := hide hxy
              have HXY' := hide hxy'
              have hji2 : (j : Int) < (i : Int) := by omega
              have hjk2 : (j : Int) < (k : Int) := by omega
              clear hE3 ha' hxy hxy'
              by_cases hxx : x = x'
              · subst hxx
                by_cases hyy : y = y'
                · subst hyy
                  go_wp2_with fail
                  go_quiet (fail)
                  go_wp2_with fail
                  go_ret3
                  have heq : (Pl.at' es j == Pl.at' es i) = true := by rw [unhide HXY, unhide HXY']; simp
                  have htb : twB (toI es) i = true := by
                    unfold twB
                    rw [decide_eq_true_eq]
                    rcases ixp_cases i (fun j => (toI es).getD j (0, 0) == (toI es).getD i (0, 0)) with ⟨_, hn⟩ | ⟨m, hm, _⟩
                    · have := hn j hji
                      rw [tw_at, heq] at this
                      cases this
                    · rw [hm]
                      omega
                  have htw : twI es = (i : Int) := by
                    unfold twI
                    rw [unhide HN]
                    exact ixp_hit i hik htb (unhide HA2)
                  exact ⟨⟨14, i, [], none, 0, .inr (.inl ⟨by rw [unhide HLP]; omega, by rw [htw]; omega, rfl, htw.symm, rfl⟩), rfl, Ns.nil _ _⟩, below_draws (unhide HBX3).bel _⟩
                · have hb : ((y : Int) == (y' : Int)) = false := by rw [beq_eq_false_iff_ne]; omega
                  have HY := hide hyy
                  clear hyy
                  go_wp2_with fail
                  go_quiet (fail)
                  go_wp2_with fail
                  go_roundw
                  case rel =>
                    refine ⟨j + 1, by go_num, by omega, (unhide HBX3).step (below_refl_draws _ _), fun t ht => ?_⟩
                    by_cases htj : t < j
                    · exact unhide HA3 t htj
                    · obtain rfl : t = j := by omega
                      rw [unhide HXY, unhide HXY', beq_eq_false_iff_ne]
                      intro he
                      simp at he
                      exact unhide HY he
                  case measure => simp [intOf]; omega
              · have hb : ((x : Int) == (x' : Int)) = false := by rw [beq_eq_false_iff_ne]; omega
                have HY := hide hxx
                clear hxx
                go_wp2_with fail
                go_quiet (fail)
                go_wp2_with fail
                go_roundw
                case rel =>
                  refine ⟨j + 1, by go_num, by omega, (unhide HBX3).step (below_refl_draws _ _), fun t ht => ?_⟩
                  by_cases htj : t < j
                  · exact unhide HA3 t htj
                  · obtain rfl : t = j := by omega
                    rw [unhide HXY, unhide HXY', beq_eq_false_iff_ne]
                    intro he
                    simp at he
                    exact unhide HY he.1
                case measure => simp [intOf]; omega
            · obtain rfl : j = i := by omega
              go_wp2_with fail
              go_roundw
              case rel =>
                refine ⟨j + 1, by go_num, by omega, HBX3, fun t ht => ?_⟩
                by_cases htj : t < j
                · exact unhide HA2 t htj
                · obtain rfl : t = j := by omega
                  unfold twB
                  rw [decide_eq_false_iff_not, ixp_miss (fun s hs => by rw [tw_at]; exact unhide HA3 s hs)]
                  omega
              case measure => simp [intOf]; omega
        · obtain rfl : i = k := by omega
          have htw : twI es = -1 := by
            unfold twI
            rw [unhide HN]
            exact ixp_miss (unhide HA2)
          have HTW := hide htw
          have hcyc := refCycle_any wr V a cap es (B := B) ((unhide HE).below (unhide HBX2).bel) (unhide HP)
          rw [unhide HN] at hcyc
          have HCYC := hide hcyc
          clear htw hcyc
          go_wp2_with fail
          refine (unhide HCYC).mono ?_
          rintro e w5 ⟨hcy, hb5⟩
          have HBX5 := hide ((unhide HBX2).step hb5)
          clear hb5 g0 g1 HCYC
          obtain ⟨g0, g1⟩ := (unhide HBX5).cells
          rcases hcy with ⟨hst, rfl⟩ | ⟨a0, m, g, cp, hst, hlm, rfl, hown⟩
          · have HST := hide hst
            have hbar := refBare_any w5 V a cap es (B := B) ((unhide HE).below (unhide HBX5).bel) (unhide HP) true
            rw [unhide HN] at hbar
            have HBAR := hide hbar
            clear hst hbar
            go_wp2_with fail
            refine (unhide HBAR).mono ?_
            rintro e w6 ⟨⟨v, rfl, hov⟩, hb6⟩
            have HBX6 := hide ((unhide HBX5).step hb6)
            have hbl := bare_len (atV es true) V
            obtain ⟨va, vc, hv, hvc, hNv⟩ := ns_of_owns hov (by omega)
            subst hv
            have hin : atV es true = Pl.ins es := rfl
            rw [hin] at hNv hbl hvc ⊢
            obtain ⟨q, hq⟩ : ∃ q, (bare (Pl.ins es) V).length = q := ⟨_, rfl⟩
            rw [hq] at hNv hvc hbl ⊢
            have HQ := hide hq
            have HNV := hide hNv
            clear hov hb6 hq hNv hin g0 g1 HBAR
            by_cases hq1 : 1 < q
            · have hq2 : (1 : Int) < (q : Int) := by omega
              have hc2 : (2 : Int) ≤ (vc : Int) := by omega
              have htk : toIs ((bare (Pl.ins es) V).take 2) = (toIs (bare (Pl.ins es) V)).take 2 := by unfold toIs; rw [List.map_take]
              have hl2' : ((bare (Pl.ins es) V).take 2).length = 2 := by rw [List.length_take, unhide HQ]; omega
              have HTK := hide htk
              have HL2 := hide hl2'
              clear htk hl2'
              go_wp2_with fail
              go_region
              all_goals go_wp2_with fail
              all_goals go_ret3
              all_goals
                refine ⟨⟨16, 0, (bare (Pl.ins es) V).take 2, va, vc, .inr (.inr (.inr (.inl ⟨by rw [unhide HLP]; omega, by rw [unhide HTW]; omega, unhide HST, rfl, rfl, by rw [unhide HQ]; exact hq1, rfl⟩))), ?_, ?_⟩, (unhide HBX6).bel.drew⟩
                · rw [unhide HL2]
                  rfl
                · rw [unhide HL2, unhide HTK]
                  exact (ns_take (unhide HNV) (by omega)).below ((Below.refl _ _).drew)
            · have hq2 : ¬ (1 : Int) < (q : Int) := by omega
              go_wp2_with fail
              go_ret3
              exact ⟨⟨0, 0, [], none, 0, .inr (.inr (.inr (.inr ⟨by rw [unhide HLP]; omega, by rw [unhide HTW]; omega, unhide HST, rfl, rfl, by rw [unhide HQ]; omega, rfl⟩))), rfl, Ns.nil _ _⟩, (unhide HBX6).bel⟩
          · have HST := hide hst
            have HLM := hide hlm
            have hrl := turn_len64 (unhide HP) hst
            obtain ⟨_, _, hv, hvc, hNv⟩ := ns_of_owns hown (by omega)
            obtain ⟨rfl, rfl⟩ := (show some (⟨g, 0, none⟩ : Addr) = _ ∧ cp = _ by simpa using hv)
            have hr1 : 1 ≤ (Pl.ring V es a0).length := by have := hlm.1; omega
            obtain ⟨q, hq⟩ : ∃ q, (Pl.ring V es a0).length = q := ⟨_, rfl⟩
            rw [hq] at hr1 hNv ⊢
            have HQ := hide hq
            have HNV := hide hNv
            have hr2 : (0 : Int) < (q : Int) := by omega
            clear hst hlm hown hq hNv hv
            go_wp2_with fail
            go_ret3
            refine ⟨⟨15, 0, Pl.turn (Pl.ring V es a0) m, some ⟨g, 0, none⟩, cp, .inr (.inr (.inl ⟨by rw [unhide HLP]; omega, by rw [unhide HTW]; omega, rfl, rfl, a0, m, unhide HST, unhide HLM, rfl⟩)), ?_, ?_⟩, (unhide HBX5).bel⟩
            · rw [Pl.turn_length, unhide HQ]
              rfl
            · rw [Pl.turn_length, unhide HQ]
              exact unhide HNV
end Go.Proofs.Ytdkchihomllokaa

/-
  The contract of the document's Order. Conditions: the graph lies in memory as told, its edges' ends are vertices.
-/
import Derived.Test.YtgbdnpmpkilcoaaRefEnds
import Derived.Test.YtgbdnpmpkilcoaaPeel
import Derived.Test.YtgbdnpmpkilcoaaLft
namespace Go.Proofs.Ytgbdnpmpkilcoaa
open Go.RowKit
set_option linter.unusedVariables false

/-- of the first k edges: each that goes to x has its tail there -/
def allK (es : List (Nat × Nat)) (l : List Nat) (x k : Nat) : Bool := (List.range k).all fun i => (Pl.at' es i).2 != x || decide ((Pl.at' es i).1 ∈ l)
theorem allK_succ (es : List (Nat × Nat)) (l : List Nat) (x k : Nat) : allK es l x (k + 1) = (allK es l x k && ((Pl.at' es k).2 != x || decide ((Pl.at' es k).1 ∈ l))) := by
  unfold allK
  rw [List.range_succ, List.all_append]
  simp
theorem allK_ready (es : List (Nat × Nat)) (l : List Nat) (x : Nat) : Pl.ready es l x = (decide (x ∉ l) && allK es l x es.length) := by
  rw [Bool.eq_iff_iff, Pl.ready_iff, Bool.and_eq_true, decide_eq_true_eq]
  refine and_congr Iff.rfl ?_
  unfold allK
  rw [List.all_eq_true]
  constructor
  · intro h i hi
    by_cases hx : (Pl.at' es i).2 = x
    · simp [h _ (Pl.at_mem (List.mem_range.1 hi)) hx]
    · simp [hx]
  · intro h e he hx
    obtain ⟨i, hi, rfl⟩ := Pl.mem_at he
    have := h i (List.mem_range.2 hi)
    simpa [hx] using this

set_option maxHeartbeats 8000000 in
theorem refOrder_any (w : World) (V : Nat) (a : Option Addr) (cap : Nat) (es : List (Nat × Nat)) {B : Nat} (h : Es B w a es.length (toI es)) (hp : Plain V es) :
    Calls Try.prog 23 #[.agg #[.int .i64 V, .slice a es.length cap]] w fun e w' => OrderTold w w' V (Pl.order V es) e ∧ Below w.heap.size w w' := by
  have hv64 := hp.v64
  have hn128 := hp.n128
  have HE := hide h
  obtain ⟨n, hn⟩ : ∃ n, es.length = n := ⟨_, rfl⟩
  have HN := hide hn
  rw [hn] at hn128 ⊢
  obtain ⟨i0, hi0, hz0, hz1, hz2⟩ := info_parts info3
  have HI := hide hi0
  have HZ0 := hide hz0
  have HZ1 := hide hz1
  have HZ2 := hide hz2
  have HS := hide (ERel.start w (.int .i64 V) (.slice a n cap))
  clear h hp hn hi0 hz0 hz1 hz2
  go_enter Try.func23, Try.ntmps23
  go_wp2_with fail
  go_loopw [4] (fun v wr => ∃ l : List Nat, Hid (Pl.Run V es l) ∧ Hid (Pl.peelF V es (V - l.length) l = Pl.order V es) ∧ Hid (ERel w wr (.int .i64 V) (.slice a n cap) v l)) (fun v wr => V + 1 - lenV v)
  case atStart => exact ⟨[], Pl.Run.nil _ _, rfl, HS⟩
  case round =>
    obtain ⟨l, HRUN, HEND, HR⟩ := hrel
    have hlv := lenV_owns (unhide HR).own
    have HLV := hide hlv
    have hle := (unhide HRUN).le
    obtain ⟨va, vc, hvv, hvc, hNv⟩ := ns_of_owns (unhide HR).own (by omega)
    subst hvv
    obtain ⟨g0, g1⟩ := (unhide HR).bx.cells
    obtain ⟨m, hm⟩ := (⟨_, rfl⟩ : ∃ m, l.length = m)
    have HM := hide hm
    rw [hm] at hle ⊢
    clear hlv hNv hvc
    by_cases hlt : m < V
    · have hlt2 : (m : Int) < (V : Int) := by omega
      have hR0 := unhide HR
      rw [hm] at hR0
      have HR0 := hide hR0
      clear hR0 hm
      go_wp2_with fail
      go_loopw [4, 5, 6] (fun v f x wr => ∃ k : Nat, x = .int .i64 k ∧ k ≤ V ∧ ((f = .bool false ∧ v = .slice va m vc ∧ Hid (∀ y, y < k → Pl.ready es l y = false) ∧ Hid (ERel w wr (.int .i64 V) (.slice a n cap) (.slice va m vc) l)) ∨ (f = .bool true ∧ ∃ x0, Hid (Pl.next V es l = some x0) ∧ Hid (ERel w wr (.int .i64 V) (.slice a n cap) v (l ++ [x0]))))) (fun v f x wr => V + 1 - (intOf x).toNat)
      case atStart => exact ⟨0, rfl, by omega, .inl ⟨rfl, rfl, fun y hy => by omega, HR0⟩⟩
      case round =>
        obtain ⟨k, rfl, hk, hcase⟩ := hrel
        rcases hcase with ⟨rfl, rfl, HA, HRK⟩ | ⟨rfl, x0, HX0, HRK⟩
        · clear g0 g1
          obtain ⟨g0, g1⟩ := (unhide HRK).bx.cells
          have hsz := (unhide HRK).bx.lt
          have hNl : Ns wr va m (toIs l) := by
            obtain ⟨_, _, hv2, _, hN2⟩ := ns_of_owns (unhide HRK).own (by rw [unhide HM]; omega)
            obtain ⟨rfl, _, rfl⟩ : va = _ ∧ m = _ ∧ vc = _ := by simpa using hv2
            rw [unhide HM] at hN2
            exact hN2
          have HNL := hide hNl
          clear hNl
          by_cases hkV : k < V
          · have hkV2 : (k : Int) < (V : Int) := by omega
            by_cases hin : k ∈ l
            · have hix := (ix_nonneg (toIs l) k).2 (mem_toIs.2 hin)
              have HIN := hide hin
              obtain ⟨r, hr⟩ : ∃ r, ix (toIs l) k = r := ⟨_, rfl⟩
              rw [hr] at hix
              have HRX := hide hr
              clear hr hin
              go_wp2_with fail
              refine (has_any wr va m vc (toIs l) k (unhide HNL)).mono ?_
              rintro e w' ⟨rfl, hw'⟩
              obtain rfl := hw'.symm
              rw [unhide HRX]
              go_wp2_with fail
              go_roundw
              case rel =>
                refine ⟨k + 1, by go_num, by omega, .inl ⟨rfl, rfl, fun y hy => ?_, HRK⟩⟩
                by_cases hyk : y < k
                · exact unhide HA y hyk
                · obtain rfl : y = k := by omega
                  rw [allK_ready]
                  simp [unhide HIN]
              case measure => simp [intOf]; omega
            · have hix : ix (toIs l) k < 0 := by
                rcases Int.lt_or_le (ix (toIs l) k) 0 with h | h
                · exact h
                · exact absurd (mem_toIs.1 ((ix_nonneg (toIs l) k).1 h)) hin
              have hix2 : ¬ 0 ≤ ix (toIs l) k := by omega
              have HIN := hide hin
              obtain ⟨r, hr⟩ : ∃ r, ix (toIs l) k = r := ⟨_, rfl⟩
              rw [hr] at hix hix2
              have HRX := hide hr
              clear hr hin
              go_wp2_with fail
              refine (has_any wr va m vc (toIs l) k (unhide HNL)).mono ?_
              rintro e w' ⟨rfl, hw'⟩
              obtain rfl := hw'.symm
              rw [unhide HRX]
              go_wp2_with fail
              go_loop [7, 8] (fun b i => ∃ j : Nat, i = .int .i64 j ∧ j ≤ n ∧ b = .bool (allK es l k j)) (fun b i => n - (intOf i).toNat)
              case atStart => exact ⟨0, rfl, by omega, rfl⟩
              case round =>
                obtain ⟨j, rfl, hj, rfl⟩ := hrel
                by_cases hjn : j < n
                · obtain ⟨ge, off, ha, hge, e0, e1⟩ := es_at ((unhide HE).below (unhide HRK).bx.bel) (i := j) (by rw [unhide HN]; exact hjn)
                  have hst := allK_succ es l k j
                  obtain ⟨p, q, hpq⟩ : ∃ p q, Pl.at' es j = (p, q) := ⟨_, _, rfl⟩
                  rw [hpq] at e0 e1 hst
                  simp only at e0 e1 hst
                  subst ha
                  have hjn2 : (j : Int) < (n : Int) := by omega
                  obtain ⟨bb, hbb⟩ : ∃ bb, allK es l k j = bb := ⟨_, rfl⟩
                  rw [hbb] at hst ⊢
                  have HST := hide hst
                  clear hpq hbb hst
                  cases bb with
                  | false =>
                    go_wp2_with fail
                    go_round
                    case rel => exact ⟨j + 1, by go_num, by omega, by rw [unhide HST]; simp⟩
                    case measure => simp [intOf]; omega
                  | true =>
                    by_cases hqk : q = k
                    · have hq1 : ((q : Int) != (k : Int)) = false := by simp; omega
                      have HQK := hide hqk
                      clear hqk
                      obtain ⟨r2, hr2⟩ : ∃ r, ix (toIs l) p = r := ⟨_, rfl⟩
                      have hdec : decide (0 ≤ r2) = decide (p ∈ l) := by rw [← hr2]; simp [ix_nonneg, mem_toIs]
                      have HDEC := hide hdec
                      have HR2 := hide hr2
                      clear hr2 hdec
                      go_wp2_with (go_at_call 41; refine (has_any wr va m vc (toIs l) p (unhide HNL)).mono ?_; rintro e w' ⟨rfl, hw'⟩; obtain rfl := hw'.symm; rw [unhide HR2])
                      go_round
                      case rel =>
                        refine ⟨j + 1, by go_num, by omega, ?_⟩
                        rw [unhide HST, unhide HQK, ← unhide HDEC]
                        simp
                      case measure => simp [intOf]; omega
                    · have hq1 : ((q : Int) != (k : Int)) = true := by rw [bne_iff_ne]; omega
                      have HQK := hide hqk
                      clear hqk
                      go_wp2_with fail
                      go_round
                      case rel =>
                        refine ⟨j + 1, by go_num, by omega, ?_⟩
                        rw [unhide HST]
                        simp [unhide HQK]
                      case measure => simp [intOf]; omega
                · obtain rfl : j = n := by omega
                  have hrd : Pl.ready es l k = allK es l k j := by
                    rw [allK_ready, unhide HN]
                    simp [unhide HIN]
                  obtain ⟨bb, hbb⟩ : ∃ bb, allK es l k j = bb := ⟨_, rfl⟩
                  rw [hbb] at hrd ⊢
                  have HRD := hide hrd
                  clear hrd hbb
                  cases bb with
                  | false =>
                    go_wp2_with fail
                    go_roundw
                    case rel =>
                      refine ⟨k + 1, by go_num, by omega, .inl ⟨rfl, rfl, fun y hy => ?_, HRK⟩⟩
                      by_cases hyk : y < k
                      · exact unhide HA y hyk
                      · obtain rfl : y = k := by omega
                        exact unhide HRD
                    case measure => simp [intOf]; omega
                  | true =>
                    have HNX := hide (Pl.next_is (unhide HRD) hkV (unhide HA))
                    have hownm := (unhide HRK).own
                    rw [unhide HM] at hownm
                    have HOM := hide hownm
                    clear hownm
                    go_wp2_with (at_builtin; refine wpList_append_own _ rfl (.tmp 59) (.tmp 61) 28 rfl (w.heap.size + 1) 3 i0 (.int .i64 0) 1 8 Try.underlying28 (unhide HI) (unhide HZ0) (unhide HZ1) (unhide HZ2) rfl (by decide) (.slice va m vc) m (zcells (toIs l)) rfl ((unhide HOM).alloc _) ⟨wr.heap.size, 0, none⟩ 1 1 [.int .i64 k] rfl rfl (cell_one_new _ _ _) (one_int k) ?a3 ?a4 ?a5 ?_)
                    case a3 => unfold maxLen; omega
                    case a4 => omega
                    case a5 => omega
                    intro v2 w4 hown4 hg4 _
                    have HR4 := hide ((unhide HRK).step hg4 (by rw [unhide HM]; exact hown4))
                    clear hown4 hg4
                    go_wp2_with fail
                    go_roundw
                    case rel => exact ⟨k + 1, by go_num, by omega, .inr ⟨rfl, k, HNX, HR4⟩⟩
                    case measure => simp [intOf]; omega
          · obtain rfl : k = V := by omega
            have hnx := Pl.next_isNone (V := k) (unhide HA)
            have hord : Pl.order k es = l := by rw [← unhide HEND]; exact Pl.peelF_stop _ hnx
            have HORD := hide hord
            clear hnx hord
            go_wp2_with fail
            go_ret2
            refine ⟨.inl ⟨?_, rfl⟩, (unhide HRK).bx.bel⟩
            rw [unhide HORD, unhide HM]
            exact hlt
        · have hlk := lenV_owns (unhide HRK).own
          have HLK := hide hlk
          clear g0 g1 hlk
          obtain ⟨g0, g1⟩ := (unhide HRK).bx.cells
          have HRUN2 := hide ((unhide HRUN).snoc (unhide HX0))
          have HEND2 := hide ((Pl.peelF_step (unhide HRUN) (unhide HX0)).symm.trans (unhide HEND))
          by_cases hkV : k < V
          · have hkV2 : (k : Int) < (V : Int) := by omega
            go_wp2_with fail
            go_roundw
            case rel => exact ⟨l ++ [x0], HRUN2, HEND2, HRK⟩
            case measure =>
              rw [unhide HLK]
              show V + 1 - (l ++ [x0]).length < V + 1 - m
              have := unhide HM
              simp
              omega
          · have hkV2 : ¬ (k : Int) < (V : Int) := by omega
            have hkd : decide ((k : Int) < (V : Int)) = false := decide_eq_false hkV2
            go_wp2_with fail
            go_roundw
            case rel => exact ⟨l ++ [x0], HRUN2, HEND2, HRK⟩
            case measure =>
              rw [unhide HLK]
              show V + 1 - (l ++ [x0]).length < V + 1 - m
              have := unhide HM
              simp
              omega
    · obtain rfl : m = V := by omega
      have hord : Pl.order m es = l := by
        rw [← unhide HEND, hm, Nat.sub_self]
        rfl
      have HORD := hide hord
      clear hord hm
      go_wp2_with fail
      go_ret2
      refine ⟨.inr ⟨by rw [unhide HORD, unhide HM]; exact Nat.le_refl _, va, vc, ?_, ?_⟩, (unhide HR).bx.bel⟩
      · rw [unhide HORD, unhide HM]
        rfl
      · have ho := owns_mono (unhide HR).own (base' := w.heap.size) (by omega)
        rw [unhide HORD]
        exact ho
end Go.Proofs.Ytgbdnpmpkilcoaa

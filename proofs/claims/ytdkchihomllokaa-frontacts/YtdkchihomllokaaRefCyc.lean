/-
  The contract of the document's cycle. Conditions: the graph lies in memory as told, its edges' ends are vertices.
-/
import Derived.Test.YtdkchihomllokaaRefLeft
import Derived.Test.YtdkchihomllokaaCycL
import Derived.Test.YtdkchihomllokaaPeel
import Derived.Test.YtdkchihomllokaaOf
namespace Go.Proofs.Ytdkchihomllokaa
open Go.RowKit
set_option linter.unusedVariables false
set_option maxRecDepth 20000

/-- what stands through the way back -/
structure CRel (w wr : World) (x0 y0 : Value) (gl V : Nat) (es : List (Nat × Nat)) (a0 : Nat) (l : List Nat) (x : Nat) (v : Value) : Prop where
  bx : Bg w wr x0 y0
  left : RowB wr gl V (Pl.lft es V)
  rel : WRel w wr V es a0 l x v
theorem CRel.step {w wr w4 : World} {x0 y0 : Value} {gl V : Nat} {es : List (Nat × Nat)} {a0 : Nat} {l : List Nat} {x : Nat} {v v2 : Value} (h : CRel w wr x0 y0 gl V es a0 l x v) (he : ∀ e ∈ es, e.1 < V ∧ e.2 < V) (hx : x ∉ l)
    (hg : (wr.alloc (.cells #[.int .i64 x] 3)).grownBy w4 v.ownBlock) (ho : w4.ownsRow w.heap.size 3 1 v2 (l.length + 1) (zcells (toIs l) ++ [.int .i64 x])) : CRel w w4 x0 y0 gl V es a0 (l ++ [x]) (Pl.bk V es x) v2 := by
  have hR := h.rel.step he hx hg ho
  have hblk : ∀ i, i < wr.heap.size → v.ownBlock ≠ some i → w4.heap[i]? = wr.heap[i]? := fun i hi hne => by
    rw [hg.block i (by simp; omega) (fun e => hne e.symm), Below.heap_alloc _ _ _ hi]
  refine ⟨⟨hR.bel, ?_⟩, h.left.keep (hblk gl h.left.lt ?_), hR⟩
  · rw [hblk _ h.bx.lt (owns_ne h.rel.own h.bx.gb (by decide))]
    exact h.bx.gb
  · obtain ⟨cur, hc, _⟩ := h.left
    exact owns_ne h.rel.own hc (by decide)

theorem least_step {wy : List Nat} {k p : Nat} (hk : k < wy.length) (hp : p < wy.length) (h : ∀ j, j < k → wy.getD p 0 ≤ wy.getD j 0) :
    (wy.getD k 0 < wy.getD p 0 → ∀ j, j < k + 1 → wy.getD k 0 ≤ wy.getD j 0) ∧ (¬ wy.getD k 0 < wy.getD p 0 → ∀ j, j < k + 1 → wy.getD p 0 ≤ wy.getD j 0) := by
  constructor
  · intro hlt j hj
    by_cases hjk : j < k
    · have := h j hjk; omega
    · obtain rfl : j = k := by omega
      exact Nat.le_refl _
  · intro hlt j hj
    by_cases hjk : j < k
    · exact h j hjk
    · obtain rfl : j = k := by omega
      omega
theorem turn_take (wy : List Nat) (m k : Nat) (hk : k < wy.length) : toIs ((Pl.turn wy m).take (k + 1)) = toIs ((Pl.turn wy m).take k) ++ [((wy.getD ((m + wy.length - k) % wy.length) 0 : Nat) : Int)] := by
  have hl : k < (Pl.turn wy m).length := by rw [Pl.turn_length]; exact hk
  have e := Pl.turn_getD wy m k hk
  rw [List.take_succ_eq_append_getElem hl, ← e]
  unfold toIs
  rw [List.map_append]
  simp [List.getD, hl]

set_option maxHeartbeats 8000000 in
theorem refCycle_any (w : World) (V : Nat) (a : Option Addr) (cap : Nat) (es : List (Nat × Nat)) {B : Nat} (h : Es B w a es.length (toI es)) (hp : Plain V es) :
    Calls Try.prog 54 #[.agg #[.int .i64 V, .slice a es.length cap]] w fun e w' => CycTold w w' V es e ∧ Below w.heap.size w w' := by
  have hv64 := hp.v64
  have hn128 := hp.n128
  have HE := hide h
  have HP := hide hp
  have HB0 := hide (Bg.start w (.int .i64 V) (.slice a es.length cap))
  have hleft := refLeft_any (w.alloc (.cells #[.int .i64 V, .slice a es.length cap] 24)) V a cap es (B := B) (h.below (unhide HB0).bel) hp
  obtain ⟨n, hn⟩ : ∃ n, es.length = n := ⟨_, rfl⟩
  have HN := hide hn
  rw [hn] at hn128 hleft ⊢
  rw [hn] at HB0
  have HLEFT := hide hleft
  obtain ⟨i0, hi0, hz0, hz1, hz2⟩ := info_parts info3
  have HI := hide hi0
  have HZ0 := hide hz0
  have HZ1 := hide hz1
  have HZ2 := hide hz2
  clear h hp hn hi0 hz0 hz1 hz2 hleft
  go_enter Try.func54, Try.ntmps54
  go_wp2_with fail
  refine (unhide HLEFT).mono ?_
  rintro e w1 ⟨⟨gl, rfl, hgl, hRB⟩, hb1⟩
  have HBX := hide ((unhide HB0).step hb1)
  have HRB := hide hRB
  obtain ⟨g0, g1⟩ := (unhide HBX).cells
  clear hb1 HLEFT hRB
  go_wp2_with fail
  go_loop [4] (fun b => ∃ k : Nat, b = .int .i64 k ∧ k ≤ V ∧ Hid (∀ j, j < k → Pl.lf V es j = false)) (fun b => V - (intOf b).toNat)
  case atStart => exact ⟨0, rfl, by omega, fun j hj => by omega⟩
  case round =>
    obtain ⟨k, rfl, hk, HK⟩ := hrel
    by_cases hkV : k < V
    · have hkV2 : (k : Int) < (V : Int) := by omega
      have l0 := (unhide HRB).cell (t := k) hkV
      rw [Pl.lft_lf (unhide HP).ends hkV] at l0
      cases hl : Pl.lf V es k with
      | false =>
        rw [hl] at l0
        have HL := hide hl
        clear hl
        go_wp2_with fail
        go_round
        case rel =>
          refine ⟨k + 1, by go_num, by omega, fun j hj => ?_⟩
          by_cases hjk : j < k
          · exact unhide HK j hjk
          · obtain rfl : j = k := by omega
            exact unhide HL
        case measure => simp [intOf]; omega
      | true =>
        rw [hl] at l0
        have hst : Pl.start V es = some k := List.find?_range_eq_some.2 ⟨hl, by simpa using hkV, fun j hj => by simp [unhide HK j hj]⟩
        have hLf : Pl.Lf V es k := ⟨hkV, Pl.lf_iff.1 hl⟩
        have HST := hide hst
        have hne : ((k : Int) == (V : Int)) = false := by rw [beq_eq_false_iff_ne]; omega
        have hbe : Below w1.heap.size w1 (w1.alloc (.cells #[] 3)) := (Below.refl _ _).alloc (Nat.le_refl _) _
        have hC0 : CRel w (w1.alloc (.cells #[] 3)) (.int .i64 V) (.slice a n cap) gl V es k [] k (.slice (some ⟨w1.heap.size, 0, none⟩) 0 0) := by
          refine ⟨(unhide HBX).step hbe, (unhide HRB).keep (hbe.block _ (unhide HRB).lt), Pl.Way.nil hLf, rfl, ?_, ((unhide HBX).step hbe).bel⟩
          have := owns_lit_empty w1 3 1 w.heap.size (unhide HBX).bel.size
          simpa [zcells, toIs] using this
        have HC0 := hide hC0
        clear hl hst hLf hbe hC0
        go_wp2_with fail
        go_loopw [4, 5] (fun b v wr => ∃ (x : Nat) (l : List Nat), b = .int .i64 x ∧ Hid (CRel w wr (.int .i64 V) (.slice a n cap) gl V es k l x v)) (fun b v wr => V + 1 - lenV v)
        case atStart => exact ⟨k, [], rfl, HC0⟩
        case round =>
          obtain ⟨x, l, rfl, HR⟩ := hrel
          have hlenV := lenV_owns (unhide HR).rel.own
          have HLV := hide hlenV
          have hsz := (unhide HR).rel.bel.size
          have hll : l.length ≤ 64 := by
            have := Pl.nodup_le V l (unhide HR).rel.way.nodup (fun y hy => ((unhide HR).rel.way.left y hy).1)
            omega
          obtain ⟨va, vc, hvv, hvc, hNv⟩ := ns_of_owns (unhide HR).rel.own (by omega)
          subst hvv
          have HNV := hide hNv
          obtain ⟨n1, hn1⟩ : ∃ n1, l.length = n1 := ⟨_, rfl⟩
          have HN1 := hide hn1
          clear hlenV hNv g0 g1
          by_cases hx : x ∈ l
          · obtain ⟨m, hm, hml, hring⟩ := (unhide HR).rel.stop hx
            have HM := hide hm
            have HRG := hide hring
            obtain ⟨g, vcap, hsl, hgb, hgl2⟩ := (unhide HR).rel.own.form (by omega)
            simp only [Value.slice.injEq] at hsl
            obtain ⟨rfl, _, rfl⟩ := hsl
            have hNd : Ns wr (some ⟨g, 0 + m, none⟩) (l.length - m) ((toIs l).drop m) := ns_drop (unhide HNV) (by omega)
            rw [Nat.zero_add, show (toIs l).drop m = toIs (l.drop m) by unfold toIs; rw [List.map_drop], hn1] at hNd
            have hkl : (l.drop m).length = n1 - m := by rw [List.length_drop, hn1]
            obtain ⟨k1, hk1⟩ : ∃ k1, n1 - m = k1 := ⟨_, rfl⟩
            obtain ⟨c1, hc1⟩ : ∃ c1, vc - m = c1 := ⟨_, rfl⟩
            rw [hk1] at hNd hkl
            rw [hn1] at hml hvc hll ⊢
            have hk1p : 1 ≤ k1 := by omega
            have hk1b : k1 ≤ 64 := by omega
            have HK1 := hide hk1
            have HC1 := hide hc1
            have HND := hide hNd
            have HKL := hide hkl
            have HBR := hide (unhide HR).rel.bel
            have hmn : (m : Int) ≤ (n1 : Int) := by omega
            have hmc : (m : Int) ≤ (vc : Int) := by omega
            have hmc2 : ¬ vc = m := by omega
            have hmr : ¬ (m : Int) < 0 := by omega
            clear hm hring hn1 hx hNd hkl hk1 hc1
            obtain ⟨wq, rfl⟩ : ∃ wq, wq = wr := ⟨wr, rfl⟩
            go_wp2_with fail
            refine (has_any _ _ n1 _ (toIs l) x (by rw [← unhide HN1]; exact unhide HNV)).mono ?_
            rintro e w' ⟨rfl, hw'⟩
            obtain rfl := hw'.symm
            rw [unhide HM]
            go_wp2_with fail
            refine (has_any _ _ n1 _ (toIs l) x (by rw [← unhide HN1]; exact unhide HNV)).mono ?_
            rintro e w' ⟨rfl, hw'⟩
            obtain rfl := hw'.symm
            rw [unhide HM]
            go_wp2_with fail
            rw [unhide HK1, unhide HC1]
            go_loopw [8, 9] (fun b i wr => ∃ (p j q : Nat), i = .int .i64 j ∧ j ≤ k1 ∧ b = .int .i64 p ∧ p < k1 ∧ Hid (∀ t, t < j → (l.drop m).getD p 0 ≤ (l.drop m).getD t 0) ∧ wr = wq.drewN q) (fun b i wr => k1 - (intOf i).toNat)
            case atStart => exact ⟨0, 0, 0, rfl, by omega, rfl, by omega, fun t ht => by omega, rfl⟩
            case round =>
              obtain ⟨p, j, q, rfl, hj, rfl, hp1, HLE, rfl⟩ := hrel
              have hNk := unhide HND
              rw [← unhide HKL] at hNk
              obtain ⟨gp, op, hap, hgp, cp⟩ := ns_at hNk (i := p) (by rw [unhide HKL]; exact hp1)
              obtain ⟨rfl, rfl⟩ : g = gp ∧ m = op := by simpa using hap
              by_cases hjk : j < k1
              · obtain ⟨gj, oj, haj, hgj, cj⟩ := ns_at hNk (i := j) (by rw [unhide HKL]; exact hjk)
                obtain ⟨rfl, rfl⟩ : g = gj ∧ m = oj := by simpa using haj
                have hls := least_step (wy := l.drop m) (by rw [unhide HKL]; exact hjk) (by rw [unhide HKL]; exact hp1) (unhide HLE)
                obtain ⟨zp, hzp⟩ : ∃ z, (l.drop m).getD p 0 = z := ⟨_, rfl⟩
                obtain ⟨zj, hzj⟩ : ∃ z, (l.drop m).getD j 0 = z := ⟨_, rfl⟩
                rw [hzp] at cp
                rw [hzj] at cj
                have HLS := hide hls
                have HZP := hide hzp
                have HZJ := hide hzj
                have hjk2 : (j : Int) < (k1 : Int) := by omega
                have hpk2 : (p : Int) < (k1 : Int) := by omega
                clear hls hzp hzj hap haj hNk
                by_cases hlt3 : zj < zp
                · have hlt4 : (zj : Int) < (zp : Int) := by omega
                  go_wp2_with fail
                  go_quiet (fail)
                  go_wp2_with fail
                  go_roundw
                  case rel => exact ⟨j, j + 1, _, by go_num, by omega, rfl, hjk, (unhide HLS).1 (by rw [unhide HZP, unhide HZJ]; exact hlt3), rfl⟩
                  case measure => simp [intOf]; omega
                · have hlt4 : ¬ (zj : Int) < (zp : Int) := by omega
                  go_wp2_with fail
                  go_quiet (fail)
                  go_wp2_with fail
                  go_roundw
                  case rel => exact ⟨p, j + 1, _, by go_num, by omega, rfl, hp1, (unhide HLS).2 (by rw [unhide HZP, unhide HZJ]; exact hlt3), rfl⟩
                  case measure => simp [intOf]; omega
              · obtain rfl : j = k1 := by omega
                have hLA : Pl.LeastAt (l.drop m) p := ⟨by rw [unhide HKL]; exact hp1, fun t ht => unhide HLE t (by rw [unhide HKL] at ht; exact ht)⟩
                have HLA := hide hLA
                have hbq : Below wq.heap.size wq (wq.drewN q) := below_refl_draws _ _
                have hN5 := hNk.below hbq
                have HN5 := hide hN5
                have hown5 : ((wq.drewN q).alloc (.cells #[] 3)).ownsRow wq.heap.size 3 1 (.slice (some ⟨wq.heap.size, 0, none⟩) 0 0) 0 (zcells (toIs ((Pl.turn (l.drop m) p).take 0))) := by
                  have := owns_lit_empty (wq.drewN q) 3 1 wq.heap.size (Nat.le_refl _)
                  simpa [zcells, toIs] using this
                have HO5 := hide hown5
                have HB5 := hide (show Below wq.heap.size wq ((wq.drewN q).alloc (.cells #[] 3)) from hbq.alloc (Nat.le_refl _) _)
                have hsq := (unhide HBR).size
                clear hLA hbq hN5 hown5 hap cp hNk
                go_wp2_with fail
                go_loopw [10, 11] (fun v i wr => ∃ t : Nat, i = .int .i64 t ∧ t ≤ j ∧ Hid (wr.ownsRow wq.heap.size 3 1 v t (zcells (toIs ((Pl.turn (l.drop m) p).take t)))) ∧ Hid (Below wq.heap.size wq wr)) (fun v i wr => j - (intOf i).toNat)
                case atStart => exact ⟨0, rfl, by omega, HO5, HB5⟩
                case round =>
                  obtain ⟨t, rfl, ht, HO6, HB6⟩ := hrel
                  have hsr := (unhide HB6).size
                  by_cases htj : t < j
                  · obtain ⟨r, hr⟩ : ∃ r, (p + j - t) % j = r := ⟨_, rfl⟩
                    have hrj : r < j := by rw [← hr]; exact Nat.mod_lt _ (by omega)
                    have hri : ((p : Int) + (j : Int) - (t : Int)) % (j : Int) = (r : Int) := by
                      rw [← hr, show (p : Int) + (j : Int) - (t : Int) = ((p + j - t : Nat) : Int) by omega]
                      exact (Int.natCast_emod _ _).symm
                    have hNk := unhide HND
                    rw [← unhide HKL] at hNk
                    obtain ⟨gr, or, har, hgr, cr⟩ := ns_at hNk (i := r) (by rw [unhide HKL]; exact hrj)
                    obtain ⟨rfl, rfl⟩ : g = gr ∧ m = or := by simpa using har
                    have htt := turn_take (l.drop m) p t (by rw [unhide HKL]; exact htj)
                    rw [unhide HKL, hr] at htt
                    obtain ⟨z, hz⟩ : ∃ z, (l.drop m).getD r 0 = z := ⟨_, rfl⟩
                    rw [hz] at htt cr
                    have HTT := hide htt
                    have dr : wr.cell? ⟨g, m + r, none⟩ = some (.int .i64 (z : Nat)) := by rw [(unhide HB6).cell (p := ⟨g, m + r, none⟩) hgr]; exact cr
                    have htj2 : (t : Int) < (j : Int) := by omega
                    have hrj2 : (r : Int) < (j : Int) := by omega
                    have hj0 : ¬ (j : Int) = 0 := by omega
                    have hgr2 : g < wr.heap.size := by omega
                    clear hr hNk har cr htt hz
                    go_wp2_with (at_builtin; refine wpList_append_own _ rfl (.tmp 105) (.tmp 118) 34 rfl wq.heap.size 3 i0 (.int .i64 0) 1 8 Try.underlying34 (unhide HI) (unhide HZ0) (unhide HZ1) (unhide HZ2) rfl (by decide) u10 t (zcells (toIs ((Pl.turn (l.drop m) p).take t))) rfl ((unhide HO6).alloc _) ⟨wr.heap.size, 0, none⟩ 1 1 [.int .i64 z] rfl rfl (cell_one_new _ _ _) (one_int z) ?d3 ?d4 ?d5 ?_)
                    case d3 => unfold maxLen; omega
                    case d4 => omega
                    case d5 => simp; omega
                    intro v2 w7 hown7 hg7 _
                    rw [zcells_snoc] at hown7
                    have HO7 := hide hown7
                    have HB7 := hide (((unhide HB6).alloc hsr _).grown hg7 (by simp; omega) fun k hk => ((unhide HO6).lt k hk).1)
                    clear hown7 hg7
                    go_wp2_with fail
                    go_roundw
                    case rel =>
                      refine ⟨t + 1, by go_num, by omega, ?_, HB7⟩
                      rw [unhide HTT]
                      exact HO7
                    case measure => simp [intOf]; omega
                  · obtain rfl : t = j := by omega
                    have ho7 := owns_mono (unhide HO6) (base' := w.heap.size) hsq
                    obtain ⟨g6, cap6, hv6, _, _⟩ := ho7.form (by omega)
                    subst hv6
                    have HO7 := hide ho7
                    clear ho7
                    go_wp2_with fail
                    go_ret
                    have hrg := unhide HRG
                    have hrl : (Pl.ring V es k).length = t := by rw [hrg, unhide HKL]
                    refine ⟨.inr ⟨k, p, g6, cap6, unhide HST, ?_, ?_, ?_⟩, (unhide HBR).trans ((unhide HB6).mono hsq)⟩
                    · rw [hrg]
                      exact unhide HLA
                    · rw [hrl]
                      rfl
                    · rw [hrl, hrg]
                      have h8 := unhide HO7
                      rw [show (Pl.turn (l.drop m) p).take t = Pl.turn (l.drop m) p by rw [← unhide HKL, ← Pl.turn_length (l.drop m) p, List.take_length]] at h8
                      exact h8
          · have hix : ix (toIs l) x < 0 := by
              rcases Int.lt_or_le (ix (toIs l) x) 0 with h | h
              · exact h
              · exact absurd (mem_toIs.1 ((ix_nonneg (toIs l) x).1 h)) hx
            obtain ⟨r, hr⟩ : ∃ r, ix (toIs l) x = r := ⟨_, rfl⟩
            rw [hr] at hix
            have HRX := hide hr
            have HX := hide hx
            have HOWN := hide (unhide HR).rel.own
            have hxV := (unhide HR).rel.way.here.1
            rw [hn1] at hll ⊢
            clear hr hn1 hx
            go_wp2_with fail
            refine (has_any _ _ n1 _ (toIs l) x (by rw [← unhide HN1]; exact unhide HNV)).mono ?_
            rintro e w' ⟨rfl, rfl⟩
            rw [unhide HRX]
            go_wp2_with (at_builtin; refine wpList_append_own _ rfl (.tmp 36) (.tmp 38) 34 rfl w.heap.size 3 i0 (.int .i64 0) 1 8 Try.underlying34 (unhide HI) (unhide HZ0) (unhide HZ1) (unhide HZ2) rfl (by decide) (.slice va n1 vc) n1 (zcells (toIs l)) rfl ?a0 ⟨w'.heap.size, 0, none⟩ 1 1 [.int .i64 x] rfl rfl (cell_one_new _ _ _) (one_int x) ?a3 ?a4 ?a5 ?_)
            case a0 => have := (unhide HOWN).alloc (.cells #[.int .i64 x] 3); rw [unhide HN1] at this; exact this
            case a3 => unfold maxLen; omega
            case a4 => omega
            case a5 => simp; omega
            intro v2 w4 hown4 hg4 _
            have hR4 : CRel w w4 (.int .i64 V) (.slice a n cap) gl V es k (l ++ [x]) (Pl.bk V es x) v2 := (unhide HR).step (unhide HP).ends (unhide HX) (by rw [unhide HN1]; exact hg4) (by rw [unhide HN1]; exact hown4)
            have HR4 := hide hR4
            have hl4 := lenV_owns hR4.rel.own
            have HL4 := hide hl4
            obtain ⟨g0, g1⟩ := hR4.bx.cells
            have hE4 := (unhide HE).below hR4.rel.bel
            have HE4 := hide hE4
            have HLF4 := hide hR4.left
            clear hown4 hg4 hR4 hl4 hE4
            go_wp2_with fail
            go_loop [6, 7] (fun b i => ∃ j : Nat, i = .int .i64 j ∧ j ≤ n ∧ b = .int .i64 (Pl.back V es x j : Nat)) (fun b i => n - (intOf i).toNat)
            case atStart => exact ⟨0, rfl, by omega, by rw [Pl.back_zero]⟩
            case round =>
              obtain ⟨j, rfl, hj, rfl⟩ := hrel
              by_cases hjn : j < n
              · obtain ⟨ge, off, ha, hge, e0, e1⟩ := es_at (unhide HE4) (i := j) (by rw [unhide HN]; exact hjn)
                have hpV := (unhide HP).at (i := j) (by rw [unhide HN]; exact hjn)
                have hst := Pl.back_succ V es x j
                obtain ⟨p, q, hpq⟩ : ∃ p q, Pl.at' es j = (p, q) := ⟨_, _, rfl⟩
                rw [hpq] at e0 e1 hpV hst
                simp only at e0 e1 hpV hst
                subst ha
                have l1 := (unhide HLF4).cell (t := p) hpV.1
                rw [Pl.lft_lf (unhide HP).ends hpV.1] at l1
                have hble := (Pl.back_le V es x j).1
                obtain ⟨z, hz⟩ : ∃ z, Pl.back V es x j = z := ⟨_, rfl⟩
                rw [hz] at hst hble ⊢
                have HST2 := hide hst
                have hjn2 : (j : Int) < (n : Int) := by omega
                have hpV2 : (p : Int) < (V : Int) := by omega
                clear hpq hst hz
                by_cases hqx : q = x
                · subst hqx
                  cases hl : Pl.lf V es p with
                  | true =>
                    rw [hl] at l1
                    have HL := hide hl
                    clear hl
                    go_wp2_with fail
                    go_round
                    case rel =>
                      refine ⟨j + 1, by go_num, by omega, ?_⟩
                      have hbk : Pl.back V es q (j + 1) = min z p := by
                        rw [unhide HST2]
                        simp [unhide HL]
                      rw [hbk]
                      first | rfl | go_num
                    case measure => simp [intOf]; omega
                  | false =>
                    rw [hl] at l1
                    have HL := hide hl
                    clear hl
                    go_wp2_with fail
                    go_round
                    case rel =>
                      refine ⟨j + 1, by go_num, by omega, ?_⟩
                      rw [unhide HST2, if_neg (by rw [unhide HL]; simp)]
                    case measure => simp [intOf]; omega
                · have hqx2 : ((q : Int) == (x : Int)) = false := by rw [beq_eq_false_iff_ne]; omega
                  have HQX := hide hqx
                  clear hqx
                  go_wp2_with fail
                  go_round
                  case rel =>
                    refine ⟨j + 1, by go_num, by omega, ?_⟩
                    rw [unhide HST2, if_neg (fun h => unhide HQX h.1)]
                  case measure => simp [intOf]; omega
              · obtain rfl : j = n := by omega
                go_wp2_with fail
                go_roundw
                case rel =>
                  refine ⟨Pl.bk V es x, l ++ [x], ?_, HR4⟩
                  unfold Pl.bk
                  rw [unhide HN]
                case measure =>
                  rw [unhide HL4]
                  show V + 1 - (l ++ [x]).length < V + 1 - n1
                  have hN1 := unhide HN1
                  have hN2 := (unhide HR).rel.way.room (unhide HX)
                  simp
                  omega
    · obtain rfl : k = V := by omega
      have hst : Pl.start k es = none := List.find?_eq_none.2 fun j hj => by simp [unhide HK j (List.mem_range.1 hj)]
      have HST := hide hst
      clear hst
      go_wp2_with fail
      go_ret
      exact ⟨.inl ⟨unhide HST, rfl⟩, (unhide HBX).bel⟩
end Go.Proofs.Ytdkchihomllokaa

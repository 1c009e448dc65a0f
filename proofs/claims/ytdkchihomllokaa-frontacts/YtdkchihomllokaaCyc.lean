/-
  The contract of cycle. Conditions: the view lies in memory as told, its edges' ends are vertices.
-/
import Derived.Test.YtdkchihomllokaaCycL
import Derived.Test.YtdkchihomllokaaPeel
namespace Go.Proofs.Ytdkchihomllokaa
open Go.RowKit
set_option linter.unusedVariables false
set_option maxRecDepth 20000

set_option maxHeartbeats 4000000 in
theorem cycle_any (w : World) (b V : Nat) (es : List (Nat × Nat)) (ea : Option Addr) (ec : Nat) (oa : Option Addr) (oc : Nat) (ia : Option Addr) (ic : Nat) (ra : Option Addr) (rc : Nat)
    (h : Vw w b V es ea ec oa oc ia ic ra rc (Pl.order V es)) (hp : Plain V es) :
    Calls Try.prog 48 #[.pointer (some ⟨b, 0, none⟩)] w fun e w' => CycTold w w' V es e ∧ Below w.heap.size w w' := by
  have hv64 := hp.v64
  have HV := hide h
  have HP := hide hp
  have c0 := h.c0
  have hbl := h.lt
  obtain ⟨i0, hi0, hz0, hz1, hz2⟩ := info_parts info3
  have HI := hide hi0
  have HZ0 := hide hz0
  have HZ1 := hide hz1
  have HZ2 := hide hz2
  clear h hp hi0 hz0 hz1 hz2
  go_enter Try.func48, Try.ntmps48
  go_wp2_with fail
  go_loop [3] (fun a => ∃ k : Nat, a = .int .i64 k ∧ k ≤ V ∧ Hid (∀ j, j < k → Pl.lf V es j = false)) (fun a => V - (intOf a).toNat)
  case atStart => exact ⟨0, rfl, by omega, fun j hj => by omega⟩
  case round =>
    obtain ⟨k, rfl, hk, HK⟩ := hrel
    by_cases hkV : k < V
    · have hkV2 : (k : Int) < (V : Int) := by omega
      cases hl : Pl.lf V es k with
      | false =>
        have HL := hide hl
        clear hl
        go_wp2_with (go_at_call 64; refine (isLeft_any w b V es _ _ _ _ _ _ _ _ k (unhide HV)).mono ?_; rintro e w' ⟨rfl, hw'⟩; obtain rfl := hw'.symm; rw [unhide HL])
        go_round
        case rel =>
          refine ⟨k + 1, by go_num, by omega, fun j hj => ?_⟩
          by_cases hjk : j < k
          · exact unhide HK j hjk
          · obtain rfl : j = k := by omega
            exact unhide HL
        case measure => simp [intOf]; omega
      | true =>
        have hst : Pl.start V es = some k := List.find?_range_eq_some.2 ⟨hl, by simpa using hkV, fun j hj => by simp [unhide HK j hj]⟩
        have hLf : Pl.Lf V es k := ⟨hkV, Pl.lf_iff.1 hl⟩
        have HST := hide hst
        have HL := hide hl
        have hne : ((k : Int) == (V : Int)) = false := by rw [beq_eq_false_iff_ne]; omega
        have HW0 := hide (show WRel w w V es k [] k (.slice none 0 0) from ⟨Pl.Way.nil hLf, rfl, World.ownsRow_nil _ _ _ _, Below.refl _ _⟩)
        clear hl hst hLf
        go_wp2_with (go_at_call 64; refine (isLeft_any w b V es _ _ _ _ _ _ _ _ k (unhide HV)).mono ?_; rintro e w' ⟨rfl, hw'⟩; obtain rfl := hw'.symm; rw [unhide HL])
        go_loopw [3, 4] (fun a v wr => ∃ (x : Nat) (l : List Nat), a = .int .i64 x ∧ Hid (WRel w wr V es k l x v)) (fun a v wr => V + 1 - lenV v)
        case atStart => exact ⟨k, [], rfl, HW0⟩
        case round =>
          obtain ⟨x, l, rfl, HR⟩ := hrel
          have hlenV := lenV_owns (unhide HR).own
          have HLV := hide hlenV
          have hsz := (unhide HR).bel.size
          have hll : l.length ≤ 64 := by
            have := Pl.nodup_le V l (unhide HR).way.nodup (fun y hy => ((unhide HR).way.left y hy).1)
            omega
          obtain ⟨va, vc, hvv, hvc, hNv⟩ := ns_of_owns (unhide HR).own (by omega)
          subst hvv
          have HNV := hide hNv
          clear hlenV hNv
          obtain ⟨n, hn⟩ : ∃ n, l.length = n := ⟨_, rfl⟩
          have HN := hide hn
          by_cases hx : x ∈ l
          · have hcon : decide ((x : Int) ∈ toIs l) = true := by simp [mem_toIs, hx]
            have HCON := hide hcon
            obtain ⟨m, hm, hml, hring⟩ := (unhide HR).stop hx
            have HM := hide hm
            have HRING := hide hring
            obtain ⟨g, cap, hsl, hgb, hgl⟩ := (unhide HR).own.form (by omega)
            simp only [Value.slice.injEq] at hsl
            obtain ⟨rfl, _, rfl⟩ := hsl
            have hrow := row_of_owns (unhide HR).own m
            have HROW := hide hrow
            rw [hn] at hml hvc hll ⊢
            have hkl : (l.drop m).length = n - m := by rw [List.length_drop, hn]
            have hnd : (l.drop m).Nodup := (unhide HR).way.nodup.sublist (List.drop_sublist m l)
            have HKL := hide hkl
            have hrow2 : RowAt wr g m (n - m) (fun t => ((l.drop m).getD t 0 : Nat)) := by rw [← hn]; exact hrow
            have HROW2 := hide hrow2
            have hgw : w.heap.size ≤ g := hgb
            clear hcon hm hring hrow hn hx hkl hrow2 HROW hnd
            have hmn : (m : Int) ≤ (n : Int) := by omega
            have hmc : (m : Int) ≤ (vc : Int) := by omega
            have hmc2 : ¬ vc = m := by omega
            go_wp2_with fail
            refine (contains_any _ _ n _ (toIs l) x (by rw [← unhide HN]; exact unhide HNV)).mono ?_
            rintro e w' ⟨rfl, rfl⟩
            rw [unhide HCON]
            go_wp2_with fail
            refine (index_any _ _ n _ (toIs l) x (by rw [← unhide HN]; exact unhide HNV)).mono ?_
            rintro e w2 ⟨rfl, rfl⟩
            rw [unhide HM]
            go_wp2_with fail
            have hrow3 := unhide HROW2
            have hkl := unhide HKL
            obtain ⟨k1, hk1⟩ : ∃ k1, n - m = k1 := ⟨_, rfl⟩
            obtain ⟨c1, hc1⟩ : ∃ c1, vc - m = c1 := ⟨_, rfl⟩
            rw [hk1, hc1]
            rw [hk1] at hrow3 hkl
            have hk1p : 1 ≤ k1 := by omega
            have hk1b : k1 ≤ 64 := by omega
            have hkc : k1 ≤ c1 := by omega
            have HRW := hide (unhide HR).bel
            have HRG := hide (unhide HRING)
            clear hk1 hc1 HROW2 HKL
            refine (reverse_any w2 g m k1 c1 _ hrow3 hk1p (by omega)).mono ?_
            rintro e w3 ⟨rfl, hrow4, hadv⟩
            have hNr : Ns w3 (some ⟨g, m, none⟩) k1 (toIs (l.drop m).reverse) := by
              refine ns_of_row (by rw [List.length_reverse, hkl]) (by omega) hrow4 (fun t ht => ?_)
              have : (l.drop m).reverse.getD t 0 = (l.drop m).getD (k1 - 1 - t) 0 := by
                simp only [List.getD]
                rw [List.getElem?_reverse (by omega), hkl]
              rw [this]
            have hb3 : Below w.heap.size w w3 := (unhide HRW).trans (hadv.below hgw)
            have HNR := hide hNr
            have HB3 := hide hb3
            have hg3 : g < w3.heap.size := hrow4.lt
            have hsz3 := hb3.size
            have HKL := hide hkl
            clear hrow3 hrow4 hadv hNr hb3 hkl
            go_wp2_with fail
            refine (min_any w3 _ k1 _ _ (unhide HNR) hk1p).mono ?_
            rintro e w4 ⟨⟨mn, rfl, hmin⟩, hw4⟩
            obtain rfl := hw4.symm
            rw [← unhide HKL] at hmin
            obtain ⟨p, hpx, hpl, hleast⟩ := least_rev (by rw [unhide HKL]; exact hk1p) hmin
            have hcc := turn_cells hpl
            rw [unhide HKL] at hpl hleast hcc
            have HPX := hide hpx
            have HLE := hide hleast
            have HCC := hide hcc
            clear hmin hpx hleast hcc
            go_wp2_with fail
            refine (index_any _ _ k1 _ _ mn (unhide HNR)).mono ?_
            rintro e w5 ⟨rfl, hw5⟩
            obtain rfl := hw5.symm
            rw [unhide HPX]
            have hpk : (p : Int) ≤ (k1 : Int) := by omega
            have hpc : (p : Int) ≤ (c1 : Int) := by omega
            have hpc2 : ¬ c1 = p := by omega
            have hbq : Below w3.heap.size w3 (w3.alloc (.cells #[.slice (some ⟨g, m + p, none⟩) (k1 - p) (c1 - p), .slice (some ⟨g, m, none⟩) p c1] 34)).drew := ((Below.refl _ _).alloc (Nat.le_refl _) _).drew
            have hcall := concat_two (w3.alloc (.cells #[.slice (some ⟨g, m + p, none⟩) (k1 - p) (c1 - p), .slice (some ⟨g, m, none⟩) p c1] 34)).drew w3.heap.size 2 ⟨g, m + p, none⟩ ⟨g, m, none⟩ (k1 - p) (c1 - p) p c1 _ _ (by simp) (by simp) (by simp) (ns_drop ((unhide HNR).below hbq) (by omega)) (ns_take ((unhide HNR).below hbq) (by omega)) (by omega) (by omega) (by omega)
            have HCALL := hide hcall
            have HBQ := hide hbq
            clear hcall hbq
            go_wp2_with fail
            go_region_with (go_at_call 68; refine (unhide HCALL).mono ?_; rintro e w6 ⟨⟨v6, rfl, ho6⟩, hb6⟩; have HO6 := hide ho6; have HB6 := hide hb6; clear ho6 hb6)
            all_goals go_wp2
            all_goals go_ret
            all_goals
              have ho6 := unhide HO6
              rw [unhide HCC, show k1 - p + p = k1 by omega] at ho6
              have ho7 := owns_mono ho6 (base' := w.heap.size) (by have := (unhide HBQ).size; omega)
              obtain ⟨g6, cap6, hv6, _, _⟩ := ho7.form (by omega)
              subst hv6
              have hrl : (Pl.ring V es k).length = k1 := by rw [unhide HRG, unhide HKL]
              have hrg := unhide HRG
              refine ⟨.inr ⟨k, k1 - 1 - p, g6, cap6, unhide HST, ?_, ?_, ?_⟩, ?_⟩
              · rw [hrg]
                exact unhide HLE
              · rw [hrl]
                rfl
              · rw [hrl, hrg]
                exact ho7
              · exact ((unhide HB3).trans ((unhide HBQ).mono hsz3)).trans ((unhide HB6).mono (by have := (unhide HBQ).size; omega))
          · have hcon : decide ((x : Int) ∈ toIs l) = false := by simp [mem_toIs, hx]
            have HCON := hide hcon
            have HX := hide hx
            have HOWN := hide (unhide HR).own
            have hxV := (unhide HR).way.here.1
            rw [hn] at hll ⊢
            clear hcon hn hx
            go_wp2_with fail
            refine (contains_any _ _ n _ (toIs l) x (by rw [← unhide HN]; exact unhide HNV)).mono ?_
            rintro e w' ⟨rfl, rfl⟩
            rw [unhide HCON]
            go_wp2_with (at_builtin; refine wpList_append_own _ rfl (.tmp 32) (.tmp 34) 34 rfl w.heap.size 3 i0 (.int .i64 0) 1 8 Try.underlying34 (unhide HI) (unhide HZ0) (unhide HZ1) (unhide HZ2) rfl (by decide) (.slice va n vc) n (zcells (toIs l)) rfl ?a0 ⟨w'.heap.size, 0, none⟩ 1 1 [.int .i64 x] rfl rfl (cell_one_new _ _ _) ?a2 ?a3 ?a4 ?a5 ?_)
            case a0 => have := (unhide HOWN).alloc (.cells #[.int .i64 x] 3); rw [unhide HN] at this; exact this
            case a2 => intro u hu; simp at hu; subst hu; rfl
            case a3 => unfold maxLen; omega
            case a4 => omega
            case a5 => simp; omega
            intro v2 w4 hown4 hg4 _
            have hR4 : WRel w w4 V es k (l ++ [x]) (Pl.bk V es x) v2 := (unhide HR).step (unhide HP).ends (unhide HX) (by rw [unhide HN]; exact hg4) (by rw [unhide HN]; exact hown4)
            have HR4 := hide hR4
            have HV4 := hide ((unhide HV).below hR4.bel)
            have hl4 := lenV_owns hR4.own
            have HL4 := hide hl4
            clear hown4 hg4 hR4 hl4
            go_wp2_with fail
            refine (leastTail_any w4 b V es _ _ _ _ _ _ _ _ x (unhide HV4) hxV (unhide HP)).mono ?_
            rintro e w5 ⟨rfl, rfl⟩
            go_wp2_with fail
            go_roundw
            case rel => exact ⟨_, _, rfl, HR4⟩
            case measure =>
              rw [unhide HL4]
              show V + 1 - (l ++ [x]).length < V + 1 - n
              have hN1 := unhide HN
              have hN2 := (unhide HR).way.room (unhide HX)
              simp
              omega
    · obtain rfl : k = V := by omega
      have hst : Pl.start k es = none := List.find?_eq_none.2 fun j hj => by simp [unhide HK j (List.mem_range.1 hj)]
      have HST := hide hst
      clear hst
      go_wp2_with fail
      go_ret
      exact ⟨.inl ⟨unhide HST, rfl⟩, Below.refl _ _⟩
end Go.Proofs.Ytdkchihomllokaa

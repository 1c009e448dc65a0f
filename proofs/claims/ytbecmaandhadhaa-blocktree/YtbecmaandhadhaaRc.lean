/-
  The contract of the document's Cuts: the vertices of more than one block. Conditions: the graph lies in memory as told, may be, and has no loops.
-/
import Derived.Test.YtbecmaandhadhaaRbs
import Derived.Test.YtbecmaandhadhaaRt
import Derived.Test.YtbecmaandhadhaaCt
namespace Go.Proofs.Ytbecmaandhadhaa.pt
open Go.RowKit
set_option linter.unusedVariables false
set_option maxRecDepth 20000

theorem atB_iff {es : List (Nat × Nat)} {bl : List Nat} {x : Nat} : AtB es bl (x : Int) ↔ hasAt es bl x = true := by
  unfold AtB hasAt
  simp only [List.any_eq_true, Bool.or_eq_true, beq_iff_eq]
  constructor
  · rintro ⟨j, hj, h | h⟩
    · exact ⟨j, hj, .inl (by have : (Pl.at' es j).1 = (es.getD j (0, 0)).1 := rfl; omega)⟩
    · exact ⟨j, hj, .inr (by have : (Pl.at' es j).2 = (es.getD j (0, 0)).2 := rfl; omega)⟩
  · rintro ⟨j, hj, h | h⟩
    · exact ⟨j, hj, .inl (by have : (Pl.at' es j).1 = (es.getD j (0, 0)).1 := rfl; omega)⟩
    · exact ⟨j, hj, .inr (by have : (Pl.at' es j).2 = (es.getD j (0, 0)).2 := rfl; omega)⟩
theorem Ol.open {u0 wr : World} {bv : Value} {R : Nat → Value} {Ls : List (List Nat)} (h : Ol u0 wr bv R Ls) : ∃ ba bc, bv = .slice ba Ls.length bc ∧ ∀ t, t < Ls.length → ∃ g, ba = some ⟨g, 0, none⟩ ∧ g < wr.heap.size ∧ wr.cell? ⟨g, t, none⟩ = some (R t) := by
  rcases h.own.2 with ⟨hv, hn⟩ | ⟨g, cap, cur, hv, hb, hg, h1, h2, h3, h4⟩
  · exact ⟨none, 0, by rw [hv, hn], fun t ht => by omega⟩
  · refine ⟨_, cap, hv, fun t ht => ⟨g, rfl, (Array.getElem?_eq_some_iff.1 hg).1, ?_⟩⟩
    have : (cur.toList.take (Ls.length * 1))[t]? = ((List.range Ls.length).map R)[t]? := by rw [h4]
    rw [List.getElem?_take] at this
    simp [ht] at this
    simp [World.cell?, hg, this]

set_option maxHeartbeats 8000000 in
theorem refcuts_any (w : World) (V : Nat) (a : Option Addr) (n cap : Nat) (es : List (Nat × Nat)) {B : Nat} (h : Es B w a n (toI es)) (hne : es.length = n) (hp : Plain V es) (hnl : Df.NoLoop es) (L : List (List Nat)) (hL : IsBl es L) :
    Calls Try.prog 15 #[.agg #[.int .i64 V, .slice a n cap]] w fun e w' => (∃ v, e = .returned v ∧ w'.ownsRow w.heap.size 3 1 v (cutsOf V es L V).length (zcells (toIs (cutsOf V es L V)))) ∧ Below w.heap.size w w' := by
  have hn128 := hp.n128
  have hv64 := hp.v64
  rw [hne] at hn128
  have hLl := hL.len
  rw [hne] at hLl
  have HB0 := hide (Bg.start w (.int .i64 V) (.slice a n cap))
  have HRB := hide (fun (u : World) (hu : Es B u a n (toI es)) => refblocks_any u V a n cap es hu hne hp hnl)
  have HAT := hide (fun (u : World) (hu : Es B u a n (toI es)) (ba : Option Addr) (m bc : Nat) (bl : List Nat) (hb : Ns u ba m (toIs bl)) (hbe : ∀ j ∈ bl, j < es.length) (x : Int) => refat_any u V a n cap es hu hne (by omega) ba m bc bl hb hbe x)
  have HE := hide h
  have HLB := hide hL
  have HN := hide hne
  obtain ⟨i0, hi0, hz0, hz1, hz2⟩ := info_parts info3
  have HI := hide hi0
  have HZ0 := hide hz0
  have HZ1 := hide hz1
  have HZ2 := hide hz2
  clear hi0 hz0 hz1 hz2 h hne hp hnl hL
  obtain ⟨g0, g1⟩ := (unhide HB0).cells
  go_enter Try.func15, Try.ntmps15
  go_wp2_with fail
  refine (unhide HRB _ ((unhide HE).below (unhide HB0).bel)).mono ?_
  rintro e w1 ⟨⟨s, v, R, hls, rfl, u0, hu0, hol⟩, hb1⟩
  have hLe : blF n s = L := by
    have := IsLs.bl hls
    rw [unhide HN] at this
    exact this.one (unhide HLB)
  rw [hLe] at hol
  obtain ⟨ba, bc, rfl, hcl⟩ := hol.open
  have HOL := hide hol
  have HCL := hide hcl
  have HB1 := hide ((unhide HB0).step hb1)
  clear hb1 hol hcl hls hLe hu0 g0 g1 HB0 HRB
  go_wp2_with fail
  have HO0 := hide (show (w1.alloc (.cells #[] 3)).ownsRow w1.heap.size 3 1 (.slice (some ⟨w1.heap.size, 0, none⟩) 0 0) (cutsOf V es L 0).length (zcells (toIs (cutsOf V es L 0))) from owns_lit_empty w1 3 1 _ (Nat.le_refl _))
  have HX0 := hide (b_al (w := w1) (.cells #[] 3))
  go_loopw [4, 5] (fun v i wr => ∃ x : Nat, i = .int .i64 x ∧ x ≤ V ∧ Hid (wr.ownsRow w1.heap.size 3 1 v (cutsOf V es L x).length (zcells (toIs (cutsOf V es L x)))) ∧ Hid (Below w1.heap.size w1 wr)) (fun v i wr => V - (intOf i).toNat)
  case atStart => exact ⟨0, rfl, by omega, HO0, HX0⟩
  case round =>
    clear HO0 HX0
    obtain ⟨x, rfl, hx, HO, HX⟩ := hrel
    have HBX := hide ((unhide HB1).step (unhide HX))
    obtain ⟨g0, g1⟩ := (unhide HBX).cells
    by_cases hxV : x < V
    · have hxV2 : (x : Int) < (V : Int) := by omega
      go_wp2_with fail
      clear g0 g1
      obtain ⟨wo, rfl⟩ : ∃ wo, wo = wr := ⟨_, rfl⟩
      have HX1 := hide (Below.refl wo.heap.size wo)
      go_loopw [6, 7] (fun c i wr => ∃ k : Nat, c = .int .i64 ((plK es L k x).length : Nat) ∧ i = .int .i64 k ∧ k ≤ L.length ∧ Hid (Below wo.heap.size wo wr)) (fun c i wr => L.length - (intOf i).toNat)
      case atStart => exact ⟨0, rfl, rfl, by omega, HX1⟩
      case round =>
        clear HX1
        obtain ⟨k, rfl, rfl, hk, HY⟩ := hrel
        have HBY := hide ((unhide HBX).step (unhide HY))
        obtain ⟨g0, g1⟩ := (unhide HBY).cells
        have hpl := plK_len es L k x
        by_cases hkl : k < L.length
        · have hkl2 : (k : Int) < (L.length : Int) := by omega
          obtain ⟨gb, hba, hgb, cb⟩ := unhide HCL k hkl
          subst hba
          have HXY := hide (bto (unhide HX) (unhide HY))
          have hm : L.getD k [] ∈ L := by simp [List.getD, hkl]
          obtain ⟨_, hb128, hbm⟩ := (unhide HLB).each (by rw [unhide HN]; exact hn128) _ hm
          obtain ⟨la, lc, hlv, hlc, hln⟩ := ns_of_owns ((unhide HOL).rows k hkl) (by omega)
          rw [hlv] at cb
          have d0 : wr.cell? ⟨gb, k, none⟩ = some (.slice la (L.getD k []).length lc) := by rw [(unhide HXY).cell (p := ⟨gb, k, none⟩) hgb]; exact cb
          have HLN := hide (hln.below (unhide HXY))
          have HBM := hide hbm
          have hgbr : gb < wr.heap.size := Nat.lt_of_lt_of_le hgb (unhide HXY).size
          clear hbm hln hlv cb hm hlc hb128
          obtain ⟨lk, hlk⟩ : ∃ lk, (L.getD k []).length = lk := ⟨_, rfl⟩
          rw [hlk] at d0 HLN
          have HATK := hide (fun (u : World) (hu : Below wr.heap.size wr u) => unhide HAT u ((unhide HE).below (bto (unhide HBY).bel hu)) la lk lc (L.getD k []) ((unhide HLN).below hu) (unhide HBM) (x : Int))
          have hsb := (unhide HBY).lt
          clear hlk
          go_wp2_with fail
          go_region_held3 (fun u => u.cell? ⟨w.heap.size, 0, none⟩ = some (.int .i64 (V : Int)) ∧ u.cell? ⟨w.heap.size, 1, none⟩ = some (.slice a n cap) ∧ u.cell? ⟨gb, k, none⟩ = some (.slice la lk lc)) (first | exact ⟨g0, g1, d0⟩ | refine ⟨by rw [hb6.cell (p := ⟨w.heap.size, 0, none⟩) hsb]; exact g0, by rw [hb6.cell (p := ⟨w.heap.size, 1, none⟩) hsb]; exact g1, by rw [hb6.cell (p := ⟨gb, k, none⟩) hgbr]; exact d0⟩) ((go_at_call 17; refine (unhide HATK _ b_dr).mono ?_; rintro e w6 ⟨⟨r, rfl, hr⟩, hb6⟩))
          have HR := hide (hr.trans atB_iff)
          have HYE := hide (bto (unhide HY) (bto b_dr hb6))
          clear hr hb6 g0 g1 d0
          have hsucc := plK_succ es L k x
          cases r with
          | true =>
            rw [if_pos ((unhide HR).1 rfl)] at hsucc
            have hl2 : (plK es L (k + 1) x).length = (plK es L k x).length + 1 := by rw [hsucc]; simp
            have HL2 := hide hl2
            clear hsucc hl2
            go_wp2_with fail
            go_roundw
            case rel =>
              refine ⟨k + 1, ?_, by go_num, by omega, HYE⟩
              rw [unhide HL2]
              go_num
            case measure => simp [intOf]; omega
          | false =>
            rw [if_neg (by intro hh; have := (unhide HR).2 hh; cases this)] at hsucc
            rw [List.append_nil] at hsucc
            have HL2 := hide hsucc
            clear hsucc
            go_wp2_with fail
            go_roundw
            case rel => exact ⟨k + 1, by rw [unhide HL2], by go_num, by omega, HYE⟩
            case measure => simp [intOf]; omega
        · obtain rfl : k = L.length := by omega
          have HXY := hide (bto (unhide HX) (unhide HY))
          have HOY := hide (owns_below (unhide HO) (unhide HY))
          have hsucc := cutsOf_succ V es L x
          have hcl : (cutsOf V es L x).length ≤ x := by
            have := List.length_filter_le (fun y => decide (1 < (plK es L L.length y).length)) (List.range x)
            simpa [cutsOf] using this
          by_cases hc : 1 < (plK es L L.length x).length
          · have hc2 : (1 : Int) < ((plK es L L.length x).length : Int) := by omega
            rw [if_pos hc] at hsucc
            have HSC := hide hsucc
            clear hsucc hc g0 g1
            go_wp2_with (at_builtin; refine wpList_append_own _ rfl (.tmp 34) (.tmp 36) 29 rfl w1.heap.size 3 i0 (.int .i64 0) 1 8 Try.underlying29 (unhide HI) (unhide HZ0) (unhide HZ1) (unhide HZ2) rfl (by decide) u4 (cutsOf V es L x).length (zcells (toIs (cutsOf V es L x))) rfl ((unhide HOY).alloc _) ⟨wr.heap.size, 0, none⟩ 1 1 [.int .i64 (x : Int)] rfl rfl (cell_one_new _ _ _) (one_i (x : Int)) ?a3 ?a4 ?a5 ?_)
            case a3 => unfold maxLen; omega
            case a4 => omega
            case a5 => have := (unhide HXY).size; first | omega | (simp; omega)
            intro v2 w7 hown7 hg7 _
            rw [zcells_snoc, toIs_snoc, ← unhide HSC] at hown7
            have hl7 : (cutsOf V es L x).length + 1 = (cutsOf V es L (x + 1)).length := by rw [unhide HSC]; simp
            rw [hl7] at hown7
            have HX7 := hide (((unhide HXY).alloc (unhide HXY).size _).grown hg7 (by have := (unhide HXY).size; simp; omega) fun t ht => ((unhide HOY).lt t ht).1)
            have HO7 := hide hown7
            clear hown7 hg7 hl7
            go_wp2_with fail
            go_roundw
            case rel => exact ⟨x + 1, by go_num, by omega, HO7, HX7⟩
            case measure => simp [intOf]; omega
          · have hc2 : ¬ (1 : Int) < ((plK es L L.length x).length : Int) := by omega
            rw [if_neg hc, List.append_nil] at hsucc
            have HO7 := hide (show wr.ownsRow w1.heap.size 3 1 u4 (cutsOf V es L (x + 1)).length (zcells (toIs (cutsOf V es L (x + 1)))) by rw [hsucc]; exact unhide HOY)
            clear hsucc hc g0 g1
            go_wp2_with fail
            go_roundw
            case rel => exact ⟨x + 1, by go_num, by omega, HO7, HXY⟩
            case measure => simp [intOf]; omega
    · obtain rfl : x = V := by omega
      have hs1 := (unhide HB1).bel.size
      go_wp2_with fail
      go_ret
      exact ⟨⟨_, rfl, owns_mono (unhide HO) hs1⟩, (unhide HBX).bel⟩
end Go.Proofs.Ytbecmaandhadhaa.pt


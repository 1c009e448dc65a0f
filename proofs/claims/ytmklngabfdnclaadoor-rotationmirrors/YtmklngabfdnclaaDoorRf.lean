/-
  The contract of the document's Faces. Conditions: the graph and the lists lie in memory as told, and the lists are a rotation.
-/
import Derived.Test.YtmklngabfdnclaaDoorRn
namespace Go.Proofs.YtmklngabfdnclaaDoor
open Go.RowKit
set_option linter.unusedVariables false
set_option maxRecDepth 20000

/-- lists that are laid: their row, and each of them -/
structure Ol (u0 wr : World) (bv : Value) (R : Nat → Value) (Ls : List (List Nat)) : Prop where
  bel : Below u0.heap.size u0 wr
  own : wr.ownsRow u0.heap.size 36 1 bv Ls.length ((List.range Ls.length).map R)
  rows : ∀ j, j < Ls.length → wr.ownsRow u0.heap.size 3 1 (R j) (Ls.getD j []).length (zcells (toIs (Ls.getD j [])))
theorem Ol.start (u0 : World) : Ol u0 (u0.alloc (.cells #[] 36)) (.slice (some ⟨u0.heap.size, 0, none⟩) 0 0) (fun _ => .slice none 0 0) [] :=
  ⟨b_al _, owns_lit_empty u0 36 1 _ (Nat.le_refl _), fun j hj => by simp at hj⟩
theorem Ol.step {u0 wr wr' : World} {bv : Value} {R : Nat → Value} {Ls : List (List Nat)} (h : Ol u0 wr bv R Ls) (hb : Below wr.heap.size wr wr') : Ol u0 wr' bv R Ls :=
  ⟨bto h.bel hb, owns_below h.own hb, fun j hj => owns_below (h.rows j hj) hb⟩
theorem Ol.push {u0 u u' : World} {bv v' l : Value} {R : Nat → Value} {Ls : List (List Nat)} {x : List Nat} (h : Ol u0 u bv R Ls) (hl : u.ownsRow u0.heap.size 3 1 l x.length (zcells (toIs x)))
    (ho : u'.ownsRow u0.heap.size 36 1 v' (Ls.length + 1) ((List.range Ls.length).map R ++ [l])) (hg : u.grownBy u' bv.ownBlock) : Ol u0 u' v' (upd R Ls.length l) (Ls ++ [x]) := by
  have hk : ∀ {v : Value} {n : Nat} {xs : List Value}, u.ownsRow u0.heap.size 3 1 v n xs → u'.ownsRow u0.heap.size 3 1 v n xs := fun {v n xs} hv => by
    refine owns_keep hv fun g hgv => hg.block g (hv.lt g hgv).2 fun e => ?_
    obtain ⟨c1, h1⟩ := owns_type hv hgv
    obtain ⟨c2, h2⟩ := owns_type h.own e.symm
    rw [h1] at h2
    simp at h2
  refine ⟨h.bel.grown hg h.bel.size fun k hk' => (h.own.lt k hk').1, ?_, fun j hj => ?_⟩
  · rw [List.length_append, show [x].length = 1 from rfl, List.range_succ, List.map_append]
    have e1 : (List.range Ls.length).map (upd R Ls.length l) = (List.range Ls.length).map R := List.map_congr_left fun t ht => upd_other _ _ (by have := List.mem_range.1 ht; omega)
    rw [e1]
    simpa [upd_same] using ho
  · rw [List.length_append, show [x].length = 1 from rfl] at hj
    by_cases hjl : j = Ls.length
    · subst hjl
      rw [upd_same, show (Ls ++ [x]).getD Ls.length [] = x by simp [List.getD]]
      exact hk hl
    · rw [upd_other _ _ hjl, show (Ls ++ [x]).getD j [] = Ls.getD j [] by simp only [List.getD]; rw [List.getElem?_append_left (by omega)]]
      exact hk (h.rows j (by omega))
theorem Ol.read {u0 wr : World} {bv : Value} {R : Nat → Value} {Ls : List (List Nat)} (h : Ol u0 wr bv R Ls) (hL : Ls.length ≤ 1000) (hm : ∀ j, j < Ls.length → (Ls.getD j []).length ≤ 1000) : ∃ ba bc, bv = .slice ba Ls.length bc ∧ Ls.length ≤ bc ∧ Rr wr ba Ls.length (rowsI Ls) := by
  rcases h.own.2 with ⟨hv, hn⟩ | ⟨gb, cap, cur, hv, hb, hg, h1, h2, h3, h4⟩
  · exact ⟨none, 0, by rw [hv, hn], by omega, by rw [rowsI_length], by omega, fun t ht => by omega⟩
  · refine ⟨_, cap, hv, h1, by rw [rowsI_length], by omega, fun t ht => ?_⟩
    have hb' := hm t ht
    obtain ⟨la, lc, hl, hlc, hn⟩ := ns_of_owns (h.rows t ht) (by omega)
    have : (cur.toList.take (Ls.length * 1))[t]? = ((List.range Ls.length).map R)[t]? := by rw [h4]
    rw [List.getElem?_take] at this
    simp [ht] at this
    rw [rowsI_getD, toIs_length]
    exact ⟨gb, 0, la, lc, rfl, (Array.getElem?_eq_some_iff.1 hg).1, by simp [World.cell?, hg, this, hl], hlc, hn⟩
theorem owns_one (w : World) (z : Int) (base : Nat) (hb : base ≤ w.heap.size) : (w.alloc (.cells #[.int .i64 z] 3)).ownsRow base 3 1 (.slice (some ⟨w.heap.size, 0, none⟩) 1 1) 1 [.int .i64 z] :=
  ⟨by simp, .inr ⟨w.heap.size, 1, #[.int .i64 z], rfl, hb, (MapKept.heap_alloc w _).1, Nat.le_refl _, by unfold maxLen; omega, by simp, by simp⟩⟩
/-- none so far is less -/
def lbB (N : Nat → Nat) (h t : Nat) : Bool := (List.range t).all fun s => decide (h ≤ it N s h)
theorem lb_succ (N : Nat → Nat) (h t : Nat) : lbB N h (t + 1) = (lbB N h t && decide (h ≤ it N t h)) := by
  unfold lbB
  rw [List.range_succ, List.all_append]
  simp
theorem lb_end {N : Nat → Nat} {H h : Nat} : lbB N h (pr N H h + 1) = isLeast N H h := by
  unfold lbB isLeast orb
  rw [List.all_map]
  rfl

set_option maxHeartbeats 8000000 in
theorem reffaces_any (w : World) (V : Nat) (a : Option Addr) (n cap : Nat) (es : List (Nat × Nat)) {B : Nat} (h : Es B w a n (toI es)) (hne : es.length = n) (hn : n ≤ 128) (ra : Option Addr) (m rc : Nat) (q : List (List Nat)) (hr : Rr w ra m (rowsI q)) (ro : pt.Ro V es q) (N : Nat → Nat) (hN : Behind q N) :
    Calls Tryd.prog 12 #[.agg #[.int .i64 V, .slice a n cap], .slice ra m rc] w fun e w' => (∃ va vc, e = .returned (.slice va (facesF N (2 * n) (2 * n)).length vc) ∧ (facesF N (2 * n) (2 * n)).length ≤ vc ∧ Rr w' va (facesF N (2 * n) (2 * n)).length (rowsI (facesF N (2 * n) (2 * n)))) ∧ Below w.heap.size w w' := by
  have hpm : Pm N (2 * n) := by rw [← hne]; exact pt.nx_pm ro hN
  have HB0 := hide (Bg.start w (.int .i64 V) (.slice a n cap))
  have HNX := hide (fun (u : World) (hu : Below w.heap.size w u) (j : Nat) (hj : j < 2 * n) => next_any u V a n cap es (h.below hu) hne hn ra m rc q (hr.below hu) ro N hN j hj)
  have HPM := hide hpm
  obtain ⟨H, hH⟩ : ∃ H, 2 * n = H := ⟨_, rfl⟩
  rw [hH] at HNX HPM ⊢
  have hH256 : H ≤ 256 := by omega
  have hmul : IntKind.i64.wrap (2 * (n : Int)) = (H : Int) := by rw [IntKind.wrap_i64]; omega
  obtain ⟨i0, hi0, hz0, hz1, hz2⟩ := info_parts info3
  have HI := hide hi0
  have HZ0 := hide hz0
  have HZ1 := hide hz1
  have HZ2 := hide hz2
  obtain ⟨j0, hj0, hy0, hy1, hy2⟩ := info_parts info28
  have HJ := hide hj0
  have HY0 := hide hy0
  have HY1 := hide hy1
  have HY2 := hide hy2
  clear hi0 hz0 hz1 hz2 hj0 hy0 hy1 hy2 h hne hr ro hN hpm hH
  go_enter Tryd.func12, Tryd.ntmps12
  go_wp2_with fail
  have HO0 := hide (Ol.start (w.alloc (.cells #[.int .i64 (V : Int), .slice a n cap] 24)))
  generalize hw1 : w.alloc (.cells #[.int .i64 (V : Int), .slice a n cap] 24) = w1 at *
  have hs1 : w1.heap.size = w.heap.size + 1 := by rw [← hw1]; simp
  clear hw1
  have HS1 := hide hs1
  clear hs1
  go_loopw [5, 6] (fun v5 i wr => ∃ (k : Nat) (R : Nat → Value), i = .int .i64 k ∧ k ≤ H ∧ Hid (Ol w1 wr v5 R (facesF N H k))) (fun v5 i wr => H - (intOf i).toNat)
  case atStart => exact ⟨0, _, by first | rfl | simp, by omega, by rw [unhide HS1] at HO0; exact HO0⟩
  case round =>
    clear HO0
    obtain ⟨k, R, rfl, hk, HO⟩ := hrel
    obtain ⟨wo, rfl⟩ : ∃ wo, wo = wr := ⟨_, rfl⟩
    have HBr := hide ((unhide HB0).step (unhide HO).bel)
    obtain ⟨g0, g1⟩ := (unhide HBr).cells
    have hfl := facesF_len N H k
    by_cases hkH : k < H
    · have hkH2 : (k : Int) < (H : Int) := by omega
      obtain ⟨hp1, hp2, hp3⟩ := (unhide HPM).pr hkH
      have hlen := lb_end (N := N) (H := H) (h := k)
      have horb := orb_its N H k
      have hol := (unhide HPM).orb_len hkH
      obtain ⟨P, hP⟩ : ∃ P, pr N H k = P := ⟨_, rfl⟩
      rw [hP] at hp1 hp2 hp3 hlen horb
      have HP2 := hide hp2
      have HP3 := hide hp3
      have HLEN := hide hlen
      have HORB := hide horb
      have HLT := hide ((unhide HPM).it_lt hkH)
      clear hp2 hp3 hP hlen horb
      obtain ⟨wa, hwa⟩ : ∃ wa, wo.alloc (.cells #[.int .i64 (k : Int)] 3) = wa := ⟨_, rfl⟩
      have hba : Below wo.heap.size wo wa := by rw [← hwa]; exact b_al _
      have HBA := hide ((unhide HBr).step hba)
      have HFA := hide (show wa.ownsRow wo.heap.size 3 1 (.slice (some ⟨wo.heap.size, 0, none⟩) 1 1) 1 (zcells (toIs (its N k 1))) by rw [← hwa]; exact owns_one wo (k : Int) _ (Nat.le_refl _))
      obtain ⟨g2, g3⟩ := (unhide HBA).cells
      go_wp2_with fail
      refine (unhide HNX _ (unhide HBA).bel k hkH).mono ?_
      rintro e wn ⟨rfl, hbn⟩
      have HBN := hide (bto hba hbn)
      have HFN := hide (owns_below (unhide HFA) hbn)
      have HLB := hide (show lbB N k 1 = true by simp [lbB, it])
      clear hwa hba hbn HBA HFA g2 g3 g0 g1
      go_wp2_with fail
      go_loopw [7, 8, 9] (fun v7 v8 v9 wx => ∃ t : Nat, v9 = .int .i64 (it N t k : Nat) ∧ 1 ≤ t ∧ t ≤ P + 1 ∧ v8 = .bool (lbB N k t) ∧ Hid (wx.ownsRow wo.heap.size 3 1 v7 t (zcells (toIs (its N k t)))) ∧ Hid (Below wo.heap.size wo wx)) (fun v7 v8 v9 wx => P + 1 - slen v7)
      case atStart => exact ⟨1, rfl, by omega, by omega, by rw [unhide HLB], HFN, HBN⟩
      case round =>
        clear HFN HBN HLB
        obtain ⟨t, rfl, ht1, ht2, rfl, HFx, HBx⟩ := hrel
        have hsl := slen_owns (unhide HFx)
        have hszx := (unhide HBx).size
        by_cases htP : t ≤ P
        · have hne : it N t k ≠ k := by
            have := unhide HP3 (t - 1) (by omega)
            rwa [show t - 1 + 1 = t by omega] at this
          have hlt := unhide HLT t
          have hlbs := lb_succ N k t
          obtain ⟨x, hx⟩ : ∃ x, it N t k = x := ⟨_, rfl⟩
          have HXE := hide hx
          rw [hx] at hne hlt hlbs
          rw [hx]
          have t1 : ((x : Int) != (k : Int)) = true := by simp; omega
          have HCN := hide (fun (u : World) (hu : Below w.heap.size w u) => unhide HNX u hu x hlt)
          have HNX1 := hide (show N x = it N (t + 1) k by rw [← unhide HXE]; rfl)
          obtain ⟨lb, hlb⟩ : ∃ b, lbB N k t = b := ⟨_, rfl⟩
          rw [hlb] at hlbs
          rw [hlb]
          obtain ⟨gt, hgt⟩ : ∃ b, decide ((k : Int) < (x : Int)) = b := ⟨_, rfl⟩
          have hgt2 : decide (k < x) = gt := by rw [← hgt]; exact decide_eq_decide.2 (by omega)
          have hgt3 : decide (k ≤ x) = gt := by rw [← hgt]; exact decide_eq_decide.2 (by omega)
          rw [hgt3] at hlbs
          have HLBS := hide hlbs
          clear hx hlbs hlb hgt3
          have fin : ∀ (v2 : Value) (w7 w8 : World), w7.ownsRow wo.heap.size 3 1 v2 (t + 1) (zcells (toIs (its N k t ++ [x]))) → (wr.alloc (.cells #[.int .i64 (x : Int)] 3)).grownBy w7 u7.ownBlock → Below w7.heap.size w7 w8 → w8.ownsRow wo.heap.size 3 1 v2 (t + 1) (zcells (toIs (its N k (t + 1)))) ∧ Below wo.heap.size wo w8 := fun v2 w7 w8 ho hg hb => by
            rw [its_succ, unhide HXE]
            exact ⟨owns_below ho hb, bto (((unhide HBx).alloc hszx _).grown hg (by simp; omega) fun b hb => ((unhide HFx).lt b hb).1) hb⟩
          have bel7 : ∀ (w7 : World), (wr.alloc (.cells #[.int .i64 (x : Int)] 3)).grownBy w7 u7.ownBlock → Bg w w7 (.int .i64 (V : Int)) (.slice a n cap) := fun w7 hg => (unhide HBr).step (((unhide HBx).alloc hszx _).grown hg (by simp; omega) fun b hb => ((unhide HFx).lt b hb).1)
          have HFIN := hide fin
          have HBEL := hide bel7
          clear fin bel7
          cases lb with
          | true =>
            go_wp2_with (at_builtin; refine wpList_append_own _ rfl (.tmp 32) (.tmp 34) 36 rfl wo.heap.size 3 i0 (.int .i64 0) 1 8 Tryd.underlying36 (unhide HI) (unhide HZ0) (unhide HZ1) (unhide HZ2) rfl (by decide) u7 t (zcells (toIs (its N k t))) rfl ((unhide HFx).alloc _) ⟨wr.heap.size, 0, none⟩ 1 1 [.int .i64 (x : Int)] rfl rfl (cell_one_new _ _ _) (one_i (x : Int)) ?a3 ?a4 ?a5 ?_)
            case a3 => unfold maxLen; omega
            case a4 => omega
            case a5 => simp; omega
            intro v2 w7 hown7 hg7 _
            rw [zcells_snoc, toIs_snoc] at hown7
            have HO7 := hide hown7
            have HG7 := hide hg7
            have HB7 := hide (unhide HBEL w7 hg7)
            have hsl2 := slen_owns hown7
            obtain ⟨g4, g5⟩ := (unhide HB7).cells
            clear hown7 hg7
            go_wp2_with fail
            refine (unhide HCN _ (unhide HB7).bel).mono ?_
            rintro e w8 ⟨rfl, hb8⟩
            have HF8 := hide (unhide HFIN v2 w7 w8 (unhide HO7) (unhide HG7) hb8)
            clear hb8 g4 g5
            go_wp2_with fail
            go_roundw
            case rel => exact ⟨t + 1, by rw [unhide HNX1], by omega, by omega, by rw [unhide HLBS]; simp, (unhide HF8).1, (unhide HF8).2⟩
            case measure => omega
          | false =>
            go_wp2_with (at_builtin; refine wpList_append_own _ rfl (.tmp 32) (.tmp 34) 36 rfl wo.heap.size 3 i0 (.int .i64 0) 1 8 Tryd.underlying36 (unhide HI) (unhide HZ0) (unhide HZ1) (unhide HZ2) rfl (by decide) u7 t (zcells (toIs (its N k t))) rfl ((unhide HFx).alloc _) ⟨wr.heap.size, 0, none⟩ 1 1 [.int .i64 (x : Int)] rfl rfl (cell_one_new _ _ _) (one_i (x : Int)) ?a3 ?a4 ?a5 ?_)
            case a3 => unfold maxLen; omega
            case a4 => omega
            case a5 => simp; omega
            intro v2 w7 hown7 hg7 _
            rw [zcells_snoc, toIs_snoc] at hown7
            have HO7 := hide hown7
            have HG7 := hide hg7
            have HB7 := hide (unhide HBEL w7 hg7)
            have hsl2 := slen_owns hown7
            obtain ⟨g4, g5⟩ := (unhide HB7).cells
            clear hown7 hg7
            go_wp2_with fail
            refine (unhide HCN _ (unhide HB7).bel).mono ?_
            rintro e w8 ⟨rfl, hb8⟩
            have HF8 := hide (unhide HFIN v2 w7 w8 (unhide HO7) (unhide HG7) hb8)
            clear hb8 g4 g5
            go_wp2_with fail
            go_roundw
            case rel => exact ⟨t + 1, by rw [unhide HNX1], by omega, by omega, by rw [unhide HLBS]; simp, (unhide HF8).1, (unhide HF8).2⟩
            case measure => omega
        · obtain rfl : t = P + 1 := by omega
          rw [unhide HP2, unhide HLEN]
          have t1 : ((k : Int) != (k : Int)) = false := by simp
          have HOx := hide ((unhide HO).step (unhide HBx))
          have HFy := hide (show wr.ownsRow w1.heap.size 3 1 u7 (orb N H k).length (zcells (toIs (orb N H k))) by
            rw [unhide HORB, its_length]
            exact owns_mono (unhide HFx) (unhide HO).bel.size)
          have hsucc := facesF_succ N H k
          obtain ⟨fa, fc, hfv⟩ := owns_slice (unhide HFy)
          subst hfv
          cases hl : isLeast N H k with
          | true =>
            rw [hl] at hsucc
            have HSU := hide hsucc
            have hs1 := (unhide HOx).bel.size
            clear hsucc hl
            go_wp2_with (at_builtin; refine wpList_append_own _ rfl (.tmp 43) (.tmp 45) 25 rfl w1.heap.size 36 j0 (.slice none 0 0) 1 24 Tryd.underlying25 (unhide HJ) (unhide HY0) (unhide HY1) (unhide HY2) rfl (by decide) u5 (facesF N H k).length _ rfl ((unhide HOx).own.alloc _) ⟨wr.heap.size, 0, none⟩ 1 1 [.slice fa (orb N H k).length fc] rfl rfl (cell_one_new _ _ _) one_v ?a3 ?a4 ?a5 ?_)
            case a3 => unfold maxLen; omega
            case a4 => omega
            case a5 => first | omega | (simp; omega)
            intro v2 w7 hown7 hg7 _
            have hp7 := Ol.push ((unhide HOx).step (b_al _)) (owns_below (unhide HFy) (b_al _)) hown7 hg7
            have HP7 := hide (show Ol w1 w7 v2 (upd R (facesF N H k).length (.slice fa (orb N H k).length fc)) (facesF N H (k + 1)) by rw [unhide HSU]; exact hp7)
            clear hp7 hown7 hg7
            go_wp2_with fail
            go_roundw
            case rel => exact ⟨k + 1, _, by go_num, by omega, HP7⟩
            case measure => simp [intOf]; omega
          | false =>
            rw [hl] at hsucc
            have HO2 := hide (show Ol w1 wr u5 R (facesF N H (k + 1)) by rw [hsucc]; simpa using unhide HOx)
            clear hsucc hl
            go_wp2_with fail
            go_roundw
            case rel => exact ⟨k + 1, R, by go_num, by omega, HO2⟩
            case measure => simp [intOf]; omega
    · obtain rfl : k = H := by omega
      have hfe := (unhide HPM).faces_len (Nat.le_refl k)
      obtain ⟨ba, bc, rfl, hbc, hrr⟩ := (unhide HO).read (by omega) (fun j hj => by have := hfe _ (show (facesF N k k).getD j [] ∈ facesF N k k by simp [List.getD, hj]); omega)
      have HRR := hide hrr
      clear hrr hfe
      go_wp2_with fail
      go_ret
      exact ⟨⟨ba, bc, rfl, hbc, unhide HRR⟩, (unhide HBr).bel⟩
end Go.Proofs.YtmklngabfdnclaaDoor


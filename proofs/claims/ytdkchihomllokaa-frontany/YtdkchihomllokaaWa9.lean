/-
  The walk of FrontAny. Conditions: its arguments lie in memory as their readings say.
-/
import Derived.Test.YtdkchihomllokaaJc9
import Derived.Test.YtdkchihomllokaaOa9
namespace Go.Proofs.Ytdkchihomllokaa
open Go.RowKit
set_option linter.unusedVariables false
set_option maxRecDepth 20000

set_option maxHeartbeats 4000000 in
/-- a graph with a fault -/
theorem any_bad (w : World) (V : Int) (a : Option Addr) (n cap : Nat) (c : Int) (hc : c ≠ 0) (hg : GoodC w V a n cap c) (ac : Option Addr) (an acap : Nat) :
    Calls Try.prog 5 #[.agg #[.int .i64 V, .slice a n cap], .slice ac an acap] w fun e w' => e = .returned (.bool true) ∧ Below w.heap.size w w' := by
  have HG := hide hg
  have HB0 := hide (Bg.start w (.int .i64 V) (.slice a n cap))
  have HC := hide (show (c == 0) = false by simp [hc])
  clear hg hc
  go_enter Try.func5, Try.ntmps5
  go_wp2_with fail
  refine (speaks_any _).mono ?_
  rintro e w1 ⟨rfl, hb1⟩
  have HB1 := hide ((unhide HB0).step hb1)
  obtain ⟨g0, g1⟩ := (unhide HB1).cells
  clear hb1 HB0
  go_wp2_with fail
  refine (good_is w1 V a n cap c (fun u hu => unhide HG u ((unhide HB1).bel.trans (hu.mono (unhide HB1).bel.size)))).mono ?_
  rintro e w2 ⟨rfl, hb2⟩
  rw [unhide HC]
  have HB2 := hide ((unhide HB1).step hb2)
  clear hb2 g0 g1 HB1
  go_wp2_with fail
  go_ret
  exact ⟨rfl, (unhide HB2).bel⟩

set_option maxHeartbeats 4000000 in
/-- too large -/
theorem any_big1 (w : World) (V : Int) (a : Option Addr) (n cap : Nat) (hg : GoodC w V a n cap 0) (ac : Option Addr) (an acap : Nat) (h1 : (6 : Int) < V) :
    Calls Try.prog 5 #[.agg #[.int .i64 V, .slice a n cap], .slice ac an acap] w fun e w' => e = .returned (.bool true) ∧ Below w.heap.size w w' := by
  have HG := hide hg
  have HB0 := hide (Bg.start w (.int .i64 V) (.slice a n cap))
  clear hg
  go_enter Try.func5, Try.ntmps5
  go_wp2_with fail
  refine (speaks_any _).mono ?_
  rintro e w1 ⟨rfl, hb1⟩
  have HB1 := hide ((unhide HB0).step hb1)
  obtain ⟨g0, g1⟩ := (unhide HB1).cells
  clear hb1 HB0
  go_wp2_with fail
  refine (good_is w1 V a n cap 0 (fun u hu => unhide HG u ((unhide HB1).bel.trans (hu.mono (unhide HB1).bel.size)))).mono ?_
  rintro e w2 ⟨rfl, hb2⟩
  rw [show ((0 : Int) == 0) = true from rfl]
  have HB2 := hide ((unhide HB1).step hb2)
  clear hb2 g0 g1 HB1
  obtain ⟨g0, g1⟩ := (unhide HB2).cells
  go_wp2_with fail
  go_ret
  exact ⟨rfl, (unhide HB2).bel⟩

set_option maxHeartbeats 4000000 in
/-- too large -/
theorem any_big2 (w : World) (V : Int) (a : Option Addr) (n cap : Nat) (hg : GoodC w V a n cap 0) (ac : Option Addr) (an acap : Nat) (h1 : ¬ (6 : Int) < V) (h2 : 9 < n) :
    Calls Try.prog 5 #[.agg #[.int .i64 V, .slice a n cap], .slice ac an acap] w fun e w' => e = .returned (.bool true) ∧ Below w.heap.size w w' := by
  have HG := hide hg
  have HB0 := hide (Bg.start w (.int .i64 V) (.slice a n cap))
  have h2i : (9 : Int) < (n : Int) := by omega
  clear hg
  go_enter Try.func5, Try.ntmps5
  go_wp2_with fail
  refine (speaks_any _).mono ?_
  rintro e w1 ⟨rfl, hb1⟩
  have HB1 := hide ((unhide HB0).step hb1)
  obtain ⟨g0, g1⟩ := (unhide HB1).cells
  clear hb1 HB0
  go_wp2_with fail
  refine (good_is w1 V a n cap 0 (fun u hu => unhide HG u ((unhide HB1).bel.trans (hu.mono (unhide HB1).bel.size)))).mono ?_
  rintro e w2 ⟨rfl, hb2⟩
  rw [show ((0 : Int) == 0) = true from rfl]
  have HB2 := hide ((unhide HB1).step hb2)
  clear hb2 g0 g1 HB1
  obtain ⟨g0, g1⟩ := (unhide HB2).cells
  go_wp2_with fail
  go_ret
  exact ⟨rfl, (unhide HB2).bel⟩

set_option maxHeartbeats 4000000 in
/-- too large -/
theorem any_big3 (w : World) (V : Int) (a : Option Addr) (n cap : Nat) (hg : GoodC w V a n cap 0) (ac : Option Addr) (an acap : Nat) (h1 : ¬ (6 : Int) < V) (h2 : ¬ 9 < n) (h3 : 20 < an) :
    Calls Try.prog 5 #[.agg #[.int .i64 V, .slice a n cap], .slice ac an acap] w fun e w' => e = .returned (.bool true) ∧ Below w.heap.size w w' := by
  have HG := hide hg
  have HB0 := hide (Bg.start w (.int .i64 V) (.slice a n cap))
  have h2i : ¬ (9 : Int) < (n : Int) := by omega
  have h3i : (20 : Int) < (an : Int) := by omega
  clear hg
  go_enter Try.func5, Try.ntmps5
  go_wp2_with fail
  refine (speaks_any _).mono ?_
  rintro e w1 ⟨rfl, hb1⟩
  have HB1 := hide ((unhide HB0).step hb1)
  obtain ⟨g0, g1⟩ := (unhide HB1).cells
  clear hb1 HB0
  go_wp2_with fail
  refine (good_is w1 V a n cap 0 (fun u hu => unhide HG u ((unhide HB1).bel.trans (hu.mono (unhide HB1).bel.size)))).mono ?_
  rintro e w2 ⟨rfl, hb2⟩
  rw [show ((0 : Int) == 0) = true from rfl]
  have HB2 := hide ((unhide HB1).step hb2)
  clear hb2 g0 g1 HB1
  obtain ⟨g0, g1⟩ := (unhide HB2).cells
  go_wp2_with fail
  go_ret
  exact ⟨rfl, (unhide HB2).bel⟩

set_option maxHeartbeats 16000000 in
theorem any_good (w : World) (V : Nat) (a : Option Addr) (cap : Nat) (es : List (Nat × Nat)) (h : Es 0 w a es.length (toI es)) (hno : a = none → es.length = 0 ∧ cap = 0) (hcap : es.length ≤ cap) (hp : Plain V es) (hok : IsFault V es 0 0 []) (hg : GoodC w V a es.length cap 0) (src : Nat) (hsrc : bare (Pl.ins es) V = [src])
    (ac : Option Addr) (an acap : Nat) (hac : Acs w ac an) (han : an ≤ 20) (hV : V ≤ 6) (hE : es.length ≤ 9) :
    Calls Try.prog 5 #[.agg #[.int .i64 V, .slice a es.length cap], .slice ac an acap] w fun e w' => e = .returned (.bool true) ∧ Below w.heap.size w w' := by
  have HG := hide hg
  have HE := hide h
  have HP := hide hp
  have HSRC := hide hsrc
  have HAC := hide hac
  have HNEW := hide (fun (u : World) (hu : Below w.heap.size w u) => new_good u V a cap es (h.below hu) hno hcap hp hok)
  have H10 := hide (show es.length ≤ 10 by omega)
  obtain ⟨n, hn⟩ : ∃ n, es.length = n := ⟨_, rfl⟩
  have HENDS := hide (fun (y : Nat) (q : Nat) (hq : (Pl.outs es y).length = q) (u : World) (hu : Below w.heap.size w u) => (show Calls Try.prog 24 #[.agg #[.int .i64 (V : Nat), .slice a n cap], .int .i64 (y : Nat), .bool true] u fun e u' => (∃ v, e = .returned v ∧ u'.ownsRow u.heap.size 3 1 v q (zcells (toIs (Pl.outs es y)))) ∧ Below u.heap.size u u' from by
    have := refEnds_any u V a cap es (h.below hu) hp.n128 (y : Nat) true
    rw [ends_out, hq, hn] at this
    exact this))
  have HDA := hide (show 0 < n → ∀ g off, a = some ⟨g, off, none⟩ → g < w.heap.size from fun h0 g off he => by
    obtain ⟨g', off', he', _, hg', _⟩ := h.2.2 0 (by omega)
    rw [he] at he'; cases he'; exact hg')
  have HN := hide hn
  rw [hn] at HG HNEW hE ⊢
  have HB0 := hide (Bg.start w (.int .i64 (V : Nat)) (.slice a n cap))
  have hl1 : ¬ (6 : Int) < (V : Int) := by omega
  have hl2 : ¬ (9 : Int) < (n : Int) := by omega
  have hl3 : ¬ (20 : Int) < (an : Int) := by omega
  clear hg h hno hcap hp hok hac hsrc hn
  go_enter Try.func5, Try.ntmps5
  go_wp2_with fail
  refine (speaks_any _).mono ?_
  rintro e w1 ⟨rfl, hb1⟩
  have HB1 := hide ((unhide HB0).step hb1)
  obtain ⟨g0, g1⟩ := (unhide HB1).cells
  clear hb1 HB0
  go_wp2_with fail
  refine (good_is w1 V a n cap 0 (fun u hu => unhide HG u ((unhide HB1).bel.trans (hu.mono (unhide HB1).bel.size)))).mono ?_
  rintro e w2 ⟨rfl, hb2⟩
  rw [show ((0 : Int) == 0) = true from rfl]
  have HB2 := hide ((unhide HB1).step hb2)
  clear hb2 g0 g1 HB1
  obtain ⟨g0, g1⟩ := (unhide HB2).cells
  go_wp2_with fail
  refine (unhide HNEW w2 (unhide HB2).bel).mono ?_
  rintro e w3 ⟨⟨b, s, rfl, hlo, hF3, hS3⟩, hb3⟩
  obtain ⟨N, hNe⟩ : ∃ N, w3.heap.size = N := ⟨_, rfl⟩
  rw [hNe] at hF3 hS3
  have hwb : w.heap.size + 1 ≤ b := by have := (unhide HB2).lt; omega
  have hbN : b < N := by rw [← hNe]; exact hF3.lt
  have HWB := hide (show w.heap.size + 1 ≤ min b N ∧ b < N ∧ w.heap.size < N by omega)
  have HB3 := hide ((unhide HB2).step hb3)
  have hb4 := b_al (w := w3) (.cells #[.int .i64 (V : Nat), .slice a n cap, .slice none 0 0, .slice none 0 0] 36)
  have HB4 := hide ((unhide HB3).step hb4)
  have HBO4 := hide (show Bo N b N V es src s a cap (w3.alloc (.cells #[.int .i64 (V : Nat), .slice a n cap, .slice none 0 0, .slice none 0 0] 36)) none (.slice none 0 0) [] [] none 0 none 0 [] [] from
    ⟨(show Fy N b w3 b V es s none (.slice none 0 0) [] [] from ⟨hS3, ⟨_, hF3⟩, fun _ => rfl, .inl rfl⟩).below hb4,
      ⟨by rw [unhide HN, ← hNe]; exact (MapKept.heap_alloc w3 _).1, (unhide HE).below (unhide HB4).bel, Is.nil0 _ _, Ns.nil _ _, fun _ => ⟨rfl, rfl⟩, fun _ => ⟨rfl, rfl⟩, Nat.le_refl _, fun h0 g off he => by have := unhide HDA (by rw [← unhide HN]; exact h0) g off he; omega, fun g off he => (by cases he), fun g off he => (by cases he)⟩,
      Inv.start V es src, hbN, Nat.le_refl _, fun g off he => (by cases he), fun e => (by simp [Value.ownBlock] at e), fun h => absurd rfl h, fun h => absurd rfl h, fun h0 g off he => by have := unhide HDA (by rw [← unhide HN]; exact h0) g off he; omega, fun _ => rfl, fun _ => rfl⟩)
  clear hlo hF3 hS3 hwb hbN hb3 hb4 HNEW HB2 HB3 g0 g1 HG
  obtain ⟨g0, g1⟩ := (unhide HB4).cells
  have g30 : w3.cell? ⟨w.heap.size, 0, none⟩ = some (.int .i64 (V : Nat)) ∧ w3.cell? ⟨w.heap.size, 1, none⟩ = some (.slice a n cap) := by
    have hw : w.heap.size < w3.heap.size := by have := unhide HWB; omega
    rw [cell_old _ _ _ hw] at g0 g1
    exact ⟨g0, g1⟩
  obtain ⟨g2, g3⟩ := g30
  go_wp2_with fail
  clear g0 g1 g2 g3
  go_loopw [55] (fun i wr => ∃ (q : Nat) (ra : Option Addr) (pv : Value) (row : List It) (pl : List Nat) (xa : Option Addr) (xc : Nat) (ya : Option Addr) (yc : Nat), i = .int .i64 q ∧ q ≤ an ∧ Hid (Bo N b N V es src s a cap wr ra pv row pl xa xc ya yc row pl) ∧ Hid (Bg w wr (.int .i64 (V : Nat)) (.slice a n cap))) (fun i wr => an - (intOf i).toNat)
  case atStart => exact ⟨0, none, _, [], [], none, 0, none, 0, rfl, by omega, HBO4, HB4⟩
  case round =>
    obtain ⟨q, ra, pv, row, pl, xa, xc, ya, yc, rfl, hq, HBO, HBr⟩ := hrel
    by_cases hlt : q < an
    · obtain ⟨g, off, x, ak, lk, ck, zs, hae, hA⟩ := unhide HAC q hlt
      subst hae
      have hAr := hA.below (unhide HBr).bel (Nat.le_refl _)
      have d0 := hAr.c0
      have d1 := hAr.c1
      have hqa : (q : Int) < (an : Int) := by omega
      have hwq : IntKind.i64.wrap ((q : Int) + 1) = (q : Int) + 1 := by rw [IntKind.wrap_i64]; omega
      have hba := b_al (w := wr) (.cells #[.int .i64 x, .slice ak lk ck] 38)
      have hbx : (wr.alloc (.cells #[.int .i64 x, .slice ak lk ck] 38)).heap[wr.heap.size]? = some (.cells #[.int .i64 x, .slice ak lk ck] 38 (0, 0)) := (MapKept.heap_alloc wr _).1
      have HBX := hide hbx
      have hup := (unhide HBO).f.up
      have HUP := hide hup
      have C := hide (place_any (wr.alloc (.cells #[.int .i64 x, .slice ak lk ck] 38)) N b b V es src s ra pv row pl ((unhide HBO).f.below hba) (unhide HP) (unhide HSRC) (unhide HBO).i x ak lk ck zs (hAr.ns.below hba) hA.no hA.sz (fun g' off' he hl0 h => by
        have hw := unhide HWB
        obtain ⟨g2, off2, ha2, hg2, _⟩ := hA.ns.2.2 0 (by omega)
        rw [he] at ha2
        cases ha2
        rcases h with h | h
        · omega
        · have := (hup.2.2 _ h).1; omega))
      have HBa := hide ((unhide HBr).step hba)
      have HBOa := hide ((unhide HBO).below hba)
      have HA := hide hA
      clear hA hAr hba hbx hup
      go_wp2_with fail
      refine (unhide C).mono ?_
      rintro e w5 hst
      obtain ⟨code, ends, row2, pl2, v5, ra5, pv5, hP, rfl, _, hBO5, _, hbz⟩ := (unhide HBOa).stepF (unhide HP) (unhide HSRC) hst
      have HB5 := hide ((unhide HBa).stepB (by have := unhide HWB; omega) hbz.bel)
      have hbx5 : w5.heap[wr.heap.size]? = some (.cells #[.int .i64 x, .slice ak lk ck] 38 (0, 0)) := by
        rw [hbz.far wr.heap.size (by simp) (by
          rintro (e | e)
          · have := (unhide HUP).1; omega
          · have := ((unhide HUP).2.2 _ e).2; omega)]
        exact unhide HBX
      have e0 : w5.cell? ⟨wr.heap.size, 0, none⟩ = some (.int .i64 x) := by simp only [World.cell?, hbx5]; rfl
      have e1 : w5.cell? ⟨wr.heap.size, 1, none⟩ = some (.slice ak lk ck) := by simp only [World.cell?, hbx5]; rfl
      have CR := hide (refPlace_any w5 N V a cap es xa xc row ya yc pl src hBO5.r (unhide HBO).i (unhide HP) (unhide HSRC) x ak lk ck zs ((unhide HA).below (unhide HB5).bel (Nat.le_refl _)).ns (unhide HA).no)
      have HBO5 := hide hBO5
      have HPF := hide hP
      clear C hst hP hBO5 hbz hbx5 HBX HBOa
      go_wp2_with fail
      refine (unhide CR).mono ?_
      rintro e w6 hst
      obtain ⟨code', ends', row2', pl2', v6, xa', xc', ya', yc', hP', rfl, _, hBO6, hbz⟩ := (unhide HBO5).stepR hst
      obtain ⟨rfl, rfl, rfl, rfl⟩ := (unhide HPF).det hP'
      have HBO6 := hide hBO6
      have HB6 := hide ((unhide HB5).stepB (by have := unhide HWB; omega) hbz.bel)
      clear CR hst hP' hBO6 hbz
      go_wp2_with fail
      go_roundw
      case rel => exact ⟨q + 1, ra5, pv5, row2, pl2, xa', xc', ya', yc', by go_num, by omega, HBO6, HB6⟩
      case measure => simp [intOf]; omega
    · obtain rfl : q = an := by omega
      have hbo := unhide HBO
      have CC := hide (can_calls V es src a cap (unhide HP) (unhide HSRC) (unhide H10) V wr N xa xc row ya yc pl hbo.r hbo.i (by omega))
      clear hbo
      go_wp2_with fail
      refine (unhide CC).mono ?_
      rintro e w5 ⟨⟨r, rfl, hr⟩, hb5⟩
      have HBO5 := hide ((unhide HBO).below hb5)
      have HB5 := hide ((unhide HBr).step hb5)
      clear CC hb5 HBO HBr
      cases r with
      | false =>
        clear hr
        go_wp2_with fail
        go_ret
        exact ⟨rfl, (unhide HB5).bel⟩
      | true =>
      have HC := hide (hr.1 rfl)
      obtain ⟨rc, hf⟩ := (unhide HBO5).f.fb
      obtain ⟨rl, hrl⟩ : ∃ rl, srtZ ((wholeF V es src row pl).map Bn.head) = rl := ⟨_, rfl⟩
      obtain ⟨rn, hrn⟩ : ∃ rn, ((wholeF V es src row pl).map Bn.head).length = rn := ⟨_, rfl⟩
      have HREADY := hide (fun (u : World) (hu : Below w5.heap.size w5 u) => (show Calls Try.prog 19 #[.pointer (some ⟨b, 0, none⟩)] u fun e u' => (∃ v, e = .returned v ∧ u'.ownsRow u.heap.size 3 1 v rn (zcells rl)) ∧ Below u.heap.size u u' from by
        have := ready_any u N b V es s ra rc row pv pl (hf.below hu) ((unhide HBO5).f.below hu).sn.sd (unhide HP) src (unhide HSRC) ((unhide HBO5).i.rowOk (unhide HP))
        rw [hrl, hrn] at this
        exact this))
      have HDONE := hide (fun (u : World) (hu : Below w5.heap.size w5 u) => done_any u N b V s ra rc row pv pl (hf.below hu))
      have HL := hide (show ∀ z ∈ rl, ∃ y : Nat, z = (y : Int) ∧ y < V ∧ ReadyAt V es src row pl y from fun z hz => by
        rw [← hrl] at hz
        obtain ⟨bn, hb, rfl⟩ := List.mem_map.1 ((srtZ_perm _).mem_iff.1 hz)
        exact whole_is (unhide HBO5).i (unhide HP) (unhide HSRC) bn hb)
      have HL2 := hide (show rl.length = rn by rw [← hrl, ← hrn]; exact (srtZ_perm _).length_eq)
      have HL4 := hide (show rn ≤ 500 by rw [← hrn, List.length_map]; have := wholeF_len V es src row pl; have := hf.small.1; omega)
      have HNE := hide (show pl.length ≠ V → 0 < rn from fun hne => by
        rw [← hrn, List.length_map]
        have hv1 := (unhide HP).v1
        obtain ⟨mV, hmV⟩ : ∃ mV, V = mV + 1 := ⟨V - 1, by omega⟩
        have hC := unhide HC
        have hy : ∃ y, ReadyAt V es src row pl y := by
          have h2 : CanR V es src (mV + 1) row pl := hmV ▸ hC
          rcases h2 with h | ⟨y, zs, ends, row2, pl2, hP, _⟩
          · exact absurd h hne
          · obtain ⟨y', _, _, _, h, _⟩ := hP.at0
            exact ⟨y', h⟩
        obtain ⟨y, ⟨h1, h2⟩ | ⟨h1, A, Y, C, h2⟩⟩ := hy
        · subst h1; simp [wholeF]
        · obtain ⟨bn, hb, _⟩ := ready_whole (src := src) h1 h2
          exact List.length_pos_of_mem hb)
      clear hr hf hrl hrn
      have CR := hide (unhide HREADY w5 (Below.refl _ _))
      go_wp2_with fail
      refine (unhide CR).mono ?_
      rintro e w6 ⟨⟨v, rfl, ho⟩, hb6⟩
      obtain ⟨va, vc, hv, _, hN⟩ := ns_of_owns ho (by have := unhide HL4; omega)
      subst hv
      have HNS := hide hN
      have HB56 := hide hb6
      have HB6 := hide ((unhide HB5).step hb6)
      clear CR ho hb6 hN
      go_wp2_with fail
      go_loopw [78] (fun i wr => ∃ q : Nat, i = .int .i64 q ∧ q ≤ rn ∧ Hid (Below w6.heap.size w6 wr)) (fun i wr => rn - (intOf i).toNat)
      case atStart => exact ⟨0, rfl, by omega, Below.refl _ _⟩
      case round =>
        obtain ⟨q, rfl, hq, HBq⟩ := hrel
        have HBW := hide ((unhide HB6).step (unhide HBq))
        obtain ⟨g0, g1⟩ := (unhide HBW).cells
        by_cases hlt : q < rn
        · obtain ⟨g, off, hae, hg, c0⟩ := ((unhide HNS).below (unhide HBq)).2.2 q hlt
          obtain ⟨y, hy, hyV, hyR⟩ := unhide HL (rl.getD q 0) (by rw [List.getD_eq_getElem?_getD, List.getElem?_eq_getElem (show q < rl.length by rw [unhide HL2]; exact hlt)]; exact List.getElem_mem _)
          rw [hy] at c0
          subst hae
          have HYR := hide hyR
          have hqn : (q : Int) < (rn : Int) := by omega
          have hwq : IntKind.i64.wrap ((q : Int) + 1) = (q : Int) + 1 := by have := unhide HL4; rw [IntKind.wrap_i64]; omega
          obtain ⟨k, hk⟩ : ∃ k, (Pl.outs es y).length = k := ⟨_, rfl⟩
          have hk10 : k ≤ 10 := by rw [← hk]; exact Nat.le_trans (Pl.sel_len _ _ _) (unhide H10)
          have CE := hide (unhide HENDS y k hk wr (unhide HBW).bel)
          have HK := hide hk
          clear hy hyR hk
          go_wp2_with fail
          refine (unhide CE).mono ?_
          rintro e w7 ⟨⟨v, rfl, ho⟩, hb7⟩
          obtain ⟨ua, uc, hv, huc, hun, _, _⟩ := cr_of_owns ho (by omega)
          obtain ⟨ua', uc', hv', _, hN7⟩ := ns_of_owns ho (by omega)
          subst hv
          cases hv'
          have CO := hide (orders_any k w7 ua uc (toIs (Pl.outs es y)) hN7 hk10 hun huc)
          have HB7 := hide ((unhide HBq).trans (hb7.mono (unhide HBq).size))
          clear ho hb7 huc hun hN7 CE g0 g1 c0
          go_wp2_with fail
          refine (unhide CO).mono ?_
          rintro e w8 ⟨⟨v4, rfl, ho4⟩, hb8⟩
          obtain ⟨ords, hord⟩ : ∃ ords, ordsF k (toIs (Pl.outs es y)) = ords := ⟨_, rfl⟩
          rw [hord] at ho4
          have HMEM := hide (show ∀ t : List Int, t ∈ ords ↔ t.Perm (toIs (Pl.outs es y)) from fun t => by rw [← hord]; exact mem_ords k _ t (by rw [toIs_length]; exact unhide HK))
          have hLb : ords.length ≤ 4000000 := by rw [← hord, ords_len k _ (by rw [toIs_length]; exact unhide HK)]; exact fct_small hk10
          obtain ⟨ga, gc, rfl⟩ := ho4.shape
          have HO4 := hide ho4
          have HB8 := hide ((unhide HB7).trans (hb8.mono (unhide HB7).size))
          obtain ⟨L, hL⟩ : ∃ L, ords.length = L := ⟨_, rfl⟩
          rw [hL] at hLb ⊢
          have HLL := hide hL
          clear ho4 hb8 hord hL CO
          obtain ⟨mV, hmV⟩ : ∃ mV, V = mV + 1 := ⟨V - 1, by have := (unhide HP).v1; omega⟩
          have HMV := hide hmV
          clear hmV
          go_wp2_with fail
          go_loopw [12, 87] (fun c i wr2 => ∃ (j : Nat) (cb : Bool), c = .bool cb ∧ i = .int .i64 j ∧ j ≤ L ∧ Hid (Below w8.heap.size w8 wr2) ∧ Hid (cb = true ∨ ∀ i, i < j → ∀ ends row2 pl2, Placed V es src row pl (y : Nat) (ords.getD i []) 0 ends row2 pl2 → ¬ CanR V es src mV row2 pl2)) (fun c i wr2 => L - (intOf i).toNat)
          case atStart => exact ⟨0, false, rfl, rfl, by omega, Below.refl _ _, .inr (fun i hi => by omega)⟩
          case round =>
            obtain ⟨j, cb, rfl, rfl, hj, HBJ, HAJ⟩ := hrel
            by_cases hjl : j < L
            · have HBK := hide ((unhide HB8).trans ((unhide HBJ).mono (unhide HB8).size))
              obtain ⟨g, off, hgs, hgsw, ct1⟩ : ∃ g c6, ga = some ⟨g, 0, none⟩ ∧ g < wr.heap.size ∧ c6 = gc := by
                obtain ⟨g6, c6, _, _, hv6, _, hg62, _⟩ := ((unhide HO4).below (unhide HBJ)).at (j := j) (by rw [unhide HLL]; exact hjl)
                cases hv6
                exact ⟨g6, gc, rfl, hg62, rfl⟩
              obtain ⟨g6, c6, at', ct, hv6, hg61, hg62, ct0, hNt, htc, _⟩ := ((unhide HO4).below (unhide HBJ)).at (j := j) (by rw [unhide HLL]; exact hjl)
              obtain ⟨t, ht⟩ : ∃ t, ords.getD j [] = t := ⟨_, rfl⟩
              rw [ht] at ct0 hNt htc
              have htm : t.Perm (toIs (Pl.outs es y)) := (unhide HMEM t).1 (by rw [← ht, List.getD_eq_getElem?_getD, List.getElem?_eq_getElem (show j < ords.length by rw [unhide HLL]; exact hjl)]; exact List.getElem_mem _)
              rw [unhide HLL] at hv6
              cases hv6
              obtain ⟨tn, htn⟩ : ∃ tn, t.length = tn := ⟨_, rfl⟩
              rw [htn] at ct0 hNt
              have hboj := ((unhide HBO5).below (unhide HB56)).below (unhide HBK)
              have hrl : row.length ≤ 1000 := by have := hboj.i.rlen; have := hboj.i.plen; have := (unhide H10); omega
              have hpl' : pl.length ≤ 1000 := by have := hboj.i.plen; omega
              have CC := hide (refCopy_any wr N V a cap es xa xc row ya yc pl hboj.r hrl hpl')
              have hjL : (j : Int) < (L : Int) := by omega
              have hwj : IntKind.i64.wrap ((j : Int) + 1) = (j : Int) + 1 := by rw [IntKind.wrap_i64]; omega
              have HNT := hide hNt
              have HTM := hide htm
              have HT := hide ht
              clear hboj hrl hpl' hgs hgsw ct1 hNt htm ht htc htn
              go_wp2_with fail
              refine (unhide CC).mono ?_
              rintro e w9 ⟨yb, ba, bc, za, zc, rfl, hyb, hRy, hb9⟩
              have CP := hide (refPlace_any w9 yb V a cap es ba bc row za zc pl src hRy (unhide HBO5).i (unhide HP) (unhide HSRC) (y : Nat) (some at') tn ct t ((unhide HNT).below hb9) (fun h => by cases h))
              have HB9 := hide hb9
              have HYB := hide hyb
              clear CC hRy hb9 hyb ct0
              go_wp2_with fail
              refine (unhide CP).mono ?_
              rintro e w10 ⟨code, ends, row2, pl2, v, ra', rc', pa', pc', hP, rfl, hov, hR2, _, _, hbz, _⟩
              obtain rfl : code = 0 := hP.ok (unhide HYR) (unhide HTM)
              obtain ⟨xv, xvc, rfl⟩ := own_shape hov
              have hI2 := hP.inv (unhide HBO5).i (unhide HP) (unhide HSRC)
              have hn2 : V - pl2.length ≤ mV := by
                obtain ⟨y', o, _, _, _, _, _, h, _⟩ := hP.at0
                rw [h]
                have := unhide HMV
                simp
                omega
              have CN := hide (can_calls V es src a cap (unhide HP) (unhide HSRC) (unhide H10) mV w10 yb ra' rc' row2 pa' pc' pl2 hR2 hI2 hn2)
              have HP2 := hide hP
              have HB10 := hide ((unhide HB9).trans (hbz.bel.mono (unhide HYB)))
              clear CP hP hR2 hbz hI2 hn2 hov
              cases cb with
              | true =>
                clear CN
                go_wp2_with fail
                go_roundw
                case rel => exact ⟨j + 1, true, rfl, by go_num, by omega, (unhide HBJ).trans ((unhide HB10).mono (unhide HBJ).size), .inl rfl⟩
                case measure => simp [intOf]; omega
              | false =>
              have HAF := hide (show ∀ i, i < j → ∀ ends row2 pl2, Placed V es src row pl (y : Nat) (ords.getD i []) 0 ends row2 pl2 → ¬ CanR V es src mV row2 pl2 from by
                rcases unhide HAJ with h | h
                · cases h
                · exact h)
              clear HAJ
              go_wp2_with fail
              refine (unhide CN).mono ?_
              rintro e w11 ⟨⟨r, rfl, hr⟩, hb11⟩
              have HB11 := hide ((unhide HBJ).trans (((unhide HB10).trans (hb11.mono (unhide HB10).size)).mono (unhide HBJ).size))
              have HRR := hide (show r = true ∨ ∀ i, i < j + 1 → ∀ ends row2 pl2, Placed V es src row pl (y : Nat) (ords.getD i []) 0 ends row2 pl2 → ¬ CanR V es src mV row2 pl2 from by
                cases r with
                | true => exact .inl rfl
                | false =>
                  refine .inr (fun i hi ends' row2' pl2' hP' h => ?_)
                  by_cases hij : i < j
                  · exact unhide HAF i hij _ _ _ hP' h
                  · obtain rfl : i = j := by omega
                    rw [unhide HT] at hP'
                    obtain ⟨_, _, rfl, rfl⟩ := hP'.det (unhide HP2)
                    exact absurd (hr.2 h) (by simp))
              clear CN hb11 hr HB9 HB10
              go_wp2_with fail
              go_roundw
              case rel => exact ⟨j + 1, r, rfl, by go_num, by omega, HB11, HRR⟩
              case measure => simp [intOf]; omega
            · obtain rfl : j = L := by omega
              have hcb : cb = true := by
                rcases unhide HAJ with h | h
                · exact h
                · exfalso
                  obtain ⟨m', o, ends, row2, pl2, hm', ho, hPo, hCo⟩ := can_any (unhide HP) (unhide HSRC) V row pl (unhide HBO5).i (unhide HC) y (unhide HYR)
                  obtain rfl : m' = mV := by have := unhide HMV; omega
                  obtain ⟨i, hi, hiz⟩ := List.mem_iff_getElem.1 ((unhide HMEM (toIs o)).2 (ho.map _))
                  have e : ords.getD i [] = toIs o := by rw [List.getD_eq_getElem?_getD, List.getElem?_eq_getElem hi]; exact hiz
                  exact h i (by rw [← unhide HLL]; exact hi) ends row2 pl2 (by rw [e]; exact hPo) hCo
              subst hcb
              go_wp2_with fail
              go_roundw
              case rel => exact ⟨q + 1, by go_num, by omega, (unhide HB8).trans ((unhide HBJ).mono (unhide HB8).size)⟩
              case measure => simp [intOf]; omega
        · obtain rfl : q = rn := by omega
          have hb5r : Below w5.heap.size w5 wr := (unhide HB56).trans ((unhide HBq).mono (unhide HB56).size)
          have CD := hide (unhide HDONE wr hb5r)
          have HB5R := hide hb5r
          clear hb5r g0 g1
          by_cases hd : pl.length = V
          · rw [decide_eq_true hd] at CD
            go_wp2_with fail
            refine (unhide CD).mono ?_
            rintro e w7 ⟨rfl, hb7⟩
            have HB7 := hide ((unhide HBW).step hb7)
            clear CD hb7
            go_wp2_with fail
            go_ret
            exact ⟨rfl, (unhide HB7).bel⟩
          · rw [decide_eq_false hd] at CD
            have hpos : (0 : Int) < (q : Int) := by have := unhide HNE hd; omega
            go_wp2_with fail
            refine (unhide CD).mono ?_
            rintro e w7 ⟨rfl, hb7⟩
            have HB7 := hide ((unhide HBW).step hb7)
            have CR := hide (unhide HREADY w7 ((unhide HB5R).trans (hb7.mono (unhide HB5R).size)))
            clear CD hb7
            go_wp2_with fail
            refine (unhide CR).mono ?_
            rintro e w8 ⟨⟨v, rfl, ho⟩, hb8⟩
            obtain ⟨xv, xvc, rfl⟩ := own_shape ho
            have HB8 := hide ((unhide HB7).step hb8)
            clear CR hb8 ho
            go_wp2_with fail
            go_ret
            refine ⟨ret_b ?_, (unhide HB8).bel⟩
            have hp0 : 0 < q := by omega
            simp [hp0]
end Go.Proofs.Ytdkchihomllokaa


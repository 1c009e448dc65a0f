/-
  The walk of FrontTangled. Conditions: its arguments lie in memory as their readings say.
-/
import Derived.Test.YtdkchihomllokaaJt9
import Derived.Test.YtdkchihomllokaaOa9
namespace Go.Proofs.Ytdkchihomllokaa
open Go.RowKit
set_option linter.unusedVariables false
set_option maxRecDepth 20000

set_option maxHeartbeats 4000000 in
/-- a graph with a fault -/
theorem tang_bad (w : World) (V : Int) (a : Option Addr) (n cap : Nat) (c : Int) (hc : c ≠ 0) (hg : GoodC w V a n cap c) (ac : Option Addr) (an acap : Nat) :
    Calls Try.prog 4 #[.agg #[.int .i64 V, .slice a n cap], .slice ac an acap] w fun e w' => e = .returned (.bool true) ∧ Below w.heap.size w w' := by
  have HG := hide hg
  have HB0 := hide (Bg.start w (.int .i64 V) (.slice a n cap))
  have HC := hide (show (c == 0) = false by simp [hc])
  clear hg hc
  go_enter Try.func4, Try.ntmps4
  go_wp2_with fail
  refine (speaks_any _).mono ?_
  rintro e w1 ⟨rfl, hb1⟩
  have HB1 := hide ((unhide HB0).step hb1)
  obtain ⟨g0, g1⟩ := (unhide HB1).cells
  clear hb1 HB0
  go_wp2_with fail
  refine (good_is w1 V a n cap c (fun u hu => unhide HG u ((unhide HB1).bel.trans (hu.mono (unhide HB1).bel.size)))).mono ?_
  rintro e w2 ⟨rfl, hb2⟩
  rw [unhide HC]
  have HB2 := hide ((unhide HB1).step hb2)
  clear hb2 g0 g1 HB1
  go_wp2_with fail
  go_ret
  exact ⟨rfl, (unhide HB2).bel⟩

set_option maxHeartbeats 4000000 in
/-- too large -/
theorem tang_big1 (w : World) (V : Int) (a : Option Addr) (n cap : Nat) (hg : GoodC w V a n cap 0) (ac : Option Addr) (an acap : Nat) (h1 : (7 : Int) < V) :
    Calls Try.prog 4 #[.agg #[.int .i64 V, .slice a n cap], .slice ac an acap] w fun e w' => e = .returned (.bool true) ∧ Below w.heap.size w w' := by
  have HG := hide hg
  have HB0 := hide (Bg.start w (.int .i64 V) (.slice a n cap))
  clear hg
  go_enter Try.func4, Try.ntmps4
  go_wp2_with fail
  refine (speaks_any _).mono ?_
  rintro e w1 ⟨rfl, hb1⟩
  have HB1 := hide ((unhide HB0).step hb1)
  obtain ⟨g0, g1⟩ := (unhide HB1).cells
  clear hb1 HB0
  go_wp2_with fail
  refine (good_is w1 V a n cap 0 (fun u hu => unhide HG u ((unhide HB1).bel.trans (hu.mono (unhide HB1).bel.size)))).mono ?_
  rintro e w2 ⟨rfl, hb2⟩
  rw [show ((0 : Int) == 0) = true from rfl]
  have HB2 := hide ((unhide HB1).step hb2)
  clear hb2 g0 g1 HB1
  obtain ⟨g0, g1⟩ := (unhide HB2).cells
  go_wp2_with fail
  go_ret
  exact ⟨rfl, (unhide HB2).bel⟩

set_option maxHeartbeats 4000000 in
/-- too large -/
theorem tang_big2 (w : World) (V : Int) (a : Option Addr) (n cap : Nat) (hg : GoodC w V a n cap 0) (ac : Option Addr) (an acap : Nat) (h1 : ¬ (7 : Int) < V) (h2 : 10 < n) :
    Calls Try.prog 4 #[.agg #[.int .i64 V, .slice a n cap], .slice ac an acap] w fun e w' => e = .returned (.bool true) ∧ Below w.heap.size w w' := by
  have HG := hide hg
  have HB0 := hide (Bg.start w (.int .i64 V) (.slice a n cap))
  have h2i : (10 : Int) < (n : Int) := by omega
  clear hg
  go_enter Try.func4, Try.ntmps4
  go_wp2_with fail
  refine (speaks_any _).mono ?_
  rintro e w1 ⟨rfl, hb1⟩
  have HB1 := hide ((unhide HB0).step hb1)
  obtain ⟨g0, g1⟩ := (unhide HB1).cells
  clear hb1 HB0
  go_wp2_with fail
  refine (good_is w1 V a n cap 0 (fun u hu => unhide HG u ((unhide HB1).bel.trans (hu.mono (unhide HB1).bel.size)))).mono ?_
  rintro e w2 ⟨rfl, hb2⟩
  rw [show ((0 : Int) == 0) = true from rfl]
  have HB2 := hide ((unhide HB1).step hb2)
  clear hb2 g0 g1 HB1
  obtain ⟨g0, g1⟩ := (unhide HB2).cells
  go_wp2_with fail
  go_ret
  exact ⟨rfl, (unhide HB2).bel⟩

set_option maxHeartbeats 4000000 in
/-- too large -/
theorem tang_big3 (w : World) (V : Int) (a : Option Addr) (n cap : Nat) (hg : GoodC w V a n cap 0) (ac : Option Addr) (an acap : Nat) (h1 : ¬ (7 : Int) < V) (h2 : ¬ 10 < n) (h3 : 20 < an) :
    Calls Try.prog 4 #[.agg #[.int .i64 V, .slice a n cap], .slice ac an acap] w fun e w' => e = .returned (.bool true) ∧ Below w.heap.size w w' := by
  have HG := hide hg
  have HB0 := hide (Bg.start w (.int .i64 V) (.slice a n cap))
  have h2i : ¬ (10 : Int) < (n : Int) := by omega
  have h3i : (20 : Int) < (an : Int) := by omega
  clear hg
  go_enter Try.func4, Try.ntmps4
  go_wp2_with fail
  refine (speaks_any _).mono ?_
  rintro e w1 ⟨rfl, hb1⟩
  have HB1 := hide ((unhide HB0).step hb1)
  obtain ⟨g0, g1⟩ := (unhide HB1).cells
  clear hb1 HB0
  go_wp2_with fail
  refine (good_is w1 V a n cap 0 (fun u hu => unhide HG u ((unhide HB1).bel.trans (hu.mono (unhide HB1).bel.size)))).mono ?_
  rintro e w2 ⟨rfl, hb2⟩
  rw [show ((0 : Int) == 0) = true from rfl]
  have HB2 := hide ((unhide HB1).step hb2)
  clear hb2 g0 g1 HB1
  obtain ⟨g0, g1⟩ := (unhide HB2).cells
  go_wp2_with fail
  go_ret
  exact ⟨rfl, (unhide HB2).bel⟩

set_option maxHeartbeats 16000000 in
theorem tang_good (w : World) (V : Nat) (a : Option Addr) (cap : Nat) (es : List (Nat × Nat)) (h : Es 0 w a es.length (toI es)) (hno : a = none → es.length = 0 ∧ cap = 0) (hcap : es.length ≤ cap) (hp : Plain V es) (hok : IsFault V es 0 0 []) (hg : GoodC w V a es.length cap 0) (src : Nat) (hsrc : bare (Pl.ins es) V = [src])
    (ac : Option Addr) (an acap : Nat) (hac : Acs w ac an) (han : an ≤ 20) (hV : V ≤ 7) (hE : es.length ≤ 10) :
    Calls Try.prog 4 #[.agg #[.int .i64 V, .slice a es.length cap], .slice ac an acap] w fun e w' => e = .returned (.bool true) ∧ Below w.heap.size w w' := by
  have HG := hide hg
  have HE := hide h
  have HP := hide hp
  have HSRC := hide hsrc
  have HAC := hide hac
  have HNEW := hide (fun (u : World) (hu : Below w.heap.size w u) => new_good u V a cap es (h.below hu) hno hcap hp hok)
  have H10 := hide (show es.length ≤ 10 by omega)
  obtain ⟨n, hn⟩ : ∃ n, es.length = n := ⟨_, rfl⟩
  have HENDS := hide (fun (y : Nat) (q : Nat) (hq : (Pl.outs es y).length = q) (u : World) (hu : Below w.heap.size w u) => (show Calls Try.prog 24 #[.agg #[.int .i64 (V : Nat), .slice a n cap], .int .i64 (y : Nat), .bool true] u fun e u' => (∃ v, e = .returned v ∧ u'.ownsRow u.heap.size 3 1 v q (zcells (toIs (Pl.outs es y)))) ∧ Below u.heap.size u u' from by
    have := refEnds_any u V a cap es (h.below hu) hp.n128 (y : Nat) true
    rw [ends_out, hq, hn] at this
    exact this))
  have HDA := hide (show 0 < n → ∀ g off, a = some ⟨g, off, none⟩ → g < w.heap.size from fun h0 g off he => by
    obtain ⟨g', off', he', _, hg', _⟩ := h.2.2 0 (by omega)
    rw [he] at he'; cases he'; exact hg')
  have HN := hide hn
  rw [hn] at HG HNEW hE ⊢
  have HB0 := hide (Bg.start w (.int .i64 (V : Nat)) (.slice a n cap))
  have hl1 : ¬ (7 : Int) < (V : Int) := by omega
  have hl2 : ¬ (10 : Int) < (n : Int) := by omega
  have hl3 : ¬ (20 : Int) < (an : Int) := by omega
  clear hg h hno hcap hp hok hac hsrc hn
  go_enter Try.func4, Try.ntmps4
  go_wp2_with fail
  refine (speaks_any _).mono ?_
  rintro e w1 ⟨rfl, hb1⟩
  have HB1 := hide ((unhide HB0).step hb1)
  obtain ⟨g0, g1⟩ := (unhide HB1).cells
  clear hb1 HB0
  go_wp2_with fail
  refine (good_is w1 V a n cap 0 (fun u hu => unhide HG u ((unhide HB1).bel.trans (hu.mono (unhide HB1).bel.size)))).mono ?_
  rintro e w2 ⟨rfl, hb2⟩
  rw [show ((0 : Int) == 0) = true from rfl]
  have HB2 := hide ((unhide HB1).step hb2)
  clear hb2 g0 g1 HB1
  obtain ⟨g0, g1⟩ := (unhide HB2).cells
  go_wp2_with fail
  refine (unhide HNEW w2 (unhide HB2).bel).mono ?_
  rintro e w3 ⟨⟨b, s, rfl, hlo, hF3, hS3⟩, hb3⟩
  obtain ⟨N, hNe⟩ : ∃ N, w3.heap.size = N := ⟨_, rfl⟩
  rw [hNe] at hF3 hS3
  have hwb : w.heap.size + 1 ≤ b := by have := (unhide HB2).lt; omega
  have hbN : b < N := by rw [← hNe]; exact hF3.lt
  have HWB := hide (show w.heap.size + 1 ≤ min b N ∧ b < N ∧ w.heap.size < N by omega)
  have HB3 := hide ((unhide HB2).step hb3)
  have hb4 := b_al (w := w3) (.cells #[.int .i64 (V : Nat), .slice a n cap, .slice none 0 0, .slice none 0 0] 36)
  have HB4 := hide ((unhide HB3).step hb4)
  have HBO4 := hide (show Bo N b N V es src s a cap (w3.alloc (.cells #[.int .i64 (V : Nat), .slice a n cap, .slice none 0 0, .slice none 0 0] 36)) none (.slice none 0 0) [] [] none 0 none 0 [] [] from
    ⟨(show Fy N b w3 b V es s none (.slice none 0 0) [] [] from ⟨hS3, ⟨_, hF3⟩, fun _ => rfl, .inl rfl⟩).below hb4,
      ⟨by rw [unhide HN, ← hNe]; exact (MapKept.heap_alloc w3 _).1, (unhide HE).below (unhide HB4).bel, Is.nil0 _ _, Ns.nil _ _, fun _ => ⟨rfl, rfl⟩, fun _ => ⟨rfl, rfl⟩, Nat.le_refl _, fun h0 g off he => by have := unhide HDA (by rw [← unhide HN]; exact h0) g off he; omega, fun g off he => (by cases he), fun g off he => (by cases he)⟩,
      Inv.start V es src, hbN, Nat.le_refl _, fun g off he => (by cases he), fun e => (by simp [Value.ownBlock] at e), fun h => absurd rfl h, fun h => absurd rfl h, fun h0 g off he => by have := unhide HDA (by rw [← unhide HN]; exact h0) g off he; omega, fun _ => rfl, fun _ => rfl⟩)
  clear hlo hF3 hS3 hwb hbN hb3 hb4 HNEW HB2 HB3 g0 g1 HG
  obtain ⟨g0, g1⟩ := (unhide HB4).cells
  have g30 : w3.cell? ⟨w.heap.size, 0, none⟩ = some (.int .i64 (V : Nat)) ∧ w3.cell? ⟨w.heap.size, 1, none⟩ = some (.slice a n cap) := by
    have hw : w.heap.size < w3.heap.size := by have := unhide HWB; omega
    rw [cell_old _ _ _ hw] at g0 g1
    exact ⟨g0, g1⟩
  obtain ⟨g2, g3⟩ := g30
  go_wp2_with fail
  clear g0 g1 g2 g3
  go_loopw [47] (fun i wr => ∃ (q : Nat) (ra : Option Addr) (pv : Value) (row : List It) (pl : List Nat) (xa : Option Addr) (xc : Nat) (ya : Option Addr) (yc : Nat), i = .int .i64 q ∧ q ≤ an ∧ Hid (Bo N b N V es src s a cap wr ra pv row pl xa xc ya yc row pl) ∧ Hid (Bg w wr (.int .i64 (V : Nat)) (.slice a n cap))) (fun i wr => an - (intOf i).toNat)
  case atStart => exact ⟨0, none, _, [], [], none, 0, none, 0, rfl, by omega, HBO4, HB4⟩
  case round =>
    obtain ⟨q, ra, pv, row, pl, xa, xc, ya, yc, rfl, hq, HBO, HBr⟩ := hrel
    by_cases hlt : q < an
    · obtain ⟨g, off, x, ak, lk, ck, zs, hae, hA⟩ := unhide HAC q hlt
      subst hae
      have hAr := hA.below (unhide HBr).bel (Nat.le_refl _)
      have d0 := hAr.c0
      have d1 := hAr.c1
      have hqa : (q : Int) < (an : Int) := by omega
      have hwq : IntKind.i64.wrap ((q : Int) + 1) = (q : Int) + 1 := by rw [IntKind.wrap_i64]; omega
      have hba := b_al (w := wr) (.cells #[.int .i64 x, .slice ak lk ck] 38)
      have hbx : (wr.alloc (.cells #[.int .i64 x, .slice ak lk ck] 38)).heap[wr.heap.size]? = some (.cells #[.int .i64 x, .slice ak lk ck] 38 (0, 0)) := (MapKept.heap_alloc wr _).1
      have HBX := hide hbx
      have hup := (unhide HBO).f.up
      have HUP := hide hup
      have C := hide (place_any (wr.alloc (.cells #[.int .i64 x, .slice ak lk ck] 38)) N b b V es src s ra pv row pl ((unhide HBO).f.below hba) (unhide HP) (unhide HSRC) (unhide HBO).i x ak lk ck zs (hAr.ns.below hba) hA.no hA.sz (fun g' off' he hl0 h => by
        have hw := unhide HWB
        obtain ⟨g2, off2, ha2, hg2, _⟩ := hA.ns.2.2 0 (by omega)
        rw [he] at ha2
        cases ha2
        rcases h with h | h
        · omega
        · have := (hup.2.2 _ h).1; omega))
      have HBa := hide ((unhide HBr).step hba)
      have HBOa := hide ((unhide HBO).below hba)
      have HA := hide hA
      clear hA hAr hba hbx hup
      go_wp2_with fail
      refine (unhide C).mono ?_
      rintro e w5 hst
      obtain ⟨code, ends, row2, pl2, v5, ra5, pv5, hP, rfl, _, hBO5, _, hbz⟩ := (unhide HBOa).stepF (unhide HP) (unhide HSRC) hst
      have HB5 := hide ((unhide HBa).stepB (by have := unhide HWB; omega) hbz.bel)
      have hbx5 : w5.heap[wr.heap.size]? = some (.cells #[.int .i64 x, .slice ak lk ck] 38 (0, 0)) := by
        rw [hbz.far wr.heap.size (by simp) (by
          rintro (e | e)
          · have := (unhide HUP).1; omega
          · have := ((unhide HUP).2.2 _ e).2; omega)]
        exact unhide HBX
      have e0 : w5.cell? ⟨wr.heap.size, 0, none⟩ = some (.int .i64 x) := by simp only [World.cell?, hbx5]; rfl
      have e1 : w5.cell? ⟨wr.heap.size, 1, none⟩ = some (.slice ak lk ck) := by simp only [World.cell?, hbx5]; rfl
      have CR := hide (refPlace_any w5 N V a cap es xa xc row ya yc pl src hBO5.r (unhide HBO).i (unhide HP) (unhide HSRC) x ak lk ck zs ((unhide HA).below (unhide HB5).bel (Nat.le_refl _)).ns (unhide HA).no)
      have HBO5 := hide hBO5
      have HPF := hide hP
      clear C hst hP hBO5 hbz hbx5 HBX HBOa
      go_wp2_with fail
      refine (unhide CR).mono ?_
      rintro e w6 hst
      obtain ⟨code', ends', row2', pl2', v6, xa', xc', ya', yc', hP', rfl, _, hBO6, hbz⟩ := (unhide HBO5).stepR hst
      obtain ⟨rfl, rfl, rfl, rfl⟩ := (unhide HPF).det hP'
      have HBO6 := hide hBO6
      have HB6 := hide ((unhide HB5).stepB (by have := unhide HWB; omega) hbz.bel)
      clear CR hst hP' hBO6 hbz
      go_wp2_with fail
      go_roundw
      case rel => exact ⟨q + 1, ra5, pv5, row2, pl2, xa', xc', ya', yc', by go_num, by omega, HBO6, HB6⟩
      case measure => simp [intOf]; omega
    · obtain rfl : q = an := by omega
      have hbo := unhide HBO
      obtain ⟨rc, hf⟩ := hbo.f.fb
      have CT := hide (tangled_any wr b ra rc row hf.cells.1 hf.items (by have := hf.small.1; omega))
      obtain ⟨tg, htg⟩ : ∃ tg, tgF [] [] ((bnF row).map Bn.head) = tg := ⟨_, rfl⟩
      rw [htg] at CT
      have HTG := hide (show tg = true ↔ TgR row by rw [← htg]; exact tg_row hbo.i)
      have HBOq := hide hbo
      clear hbo hf htg HBO
      go_wp2_with fail
      refine (unhide CT).mono ?_
      rintro e w5 ⟨rfl, hb5⟩
      have HBO5 := hide ((unhide HBOq).below hb5)
      have HB5 := hide ((unhide HBr).step hb5)
      clear CT hb5 HBOq HBr
      cases tg with
      | false =>
        go_wp2_with fail
        go_ret
        exact ⟨rfl, (unhide HB5).bel⟩
      | true =>
      have hbo := unhide HBO5
      have CC := hide (can_calls V es src a cap (unhide HP) (unhide HSRC) (unhide H10) V w5 N xa xc row ya yc pl hbo.r hbo.i (by omega))
      have HNV := hide (TgR.never (unhide HP) (unhide HSRC) V row pl hbo.i ((unhide HTG).1 rfl))
      clear hbo HTG
      go_wp2_with fail
      refine (unhide CC).mono ?_
      rintro e w6 ⟨⟨r, rfl, hr⟩, hb6⟩
      have hrf : r = false := by
        cases r with
        | false => rfl
        | true => exact absurd (hr.1 rfl) (unhide HNV)
      subst hrf
      have HB6 := hide ((unhide HB5).step hb6)
      clear CC hr hb6
      go_wp2_with fail
      go_ret
      exact ⟨rfl, (unhide HB6).bel⟩
end Go.Proofs.Ytdkchihomllokaa


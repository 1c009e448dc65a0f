/-
  The contract of the document's Block: of each edge the least edge of its block. Conditions: the graph lies in memory as told, may be, and has no loops.
-/
import Derived.Test.YtbecmaandhadhaaRk0
import Derived.Deep.RegionHeld3
namespace Go.Proofs.Ytbecmaandhadhaa.pt
open Go.RowKit
set_option linter.unusedVariables false
set_option maxRecDepth 20000

/-- what lies in memory while edges are held against each other without x: the labels, the box, the parts -/
structure Mk (w wr : World) (V : Nat) (a : Option Addr) (n cap : Nat) (s : Nat → Nat) (gp : Nat) (L : Nat → Int) : Prop where
  rs : RowN wr (w.heap.size + 1) n s
  bg : Bg w wr (.int .i64 V) (.slice a n cap)
  pr : RowZ wr gp V L
  ne : w.heap.size + 1 < gp
theorem Mk.step {w wr wr' : World} {V : Nat} {a : Option Addr} {n cap : Nat} {s : Nat → Nat} {gp : Nat} {L : Nat → Int} (h : Mk w wr V a n cap s gp L) (hb : Below wr.heap.size wr wr') : Mk w wr' V a n cap s gp L :=
  ⟨Row.below h.rs hb, h.bg.step hb, Row.below h.pr hb, h.ne⟩
theorem Mk.set {w wr : World} {V : Nat} {a : Option Addr} {n cap : Nat} {s : Nat → Nat} {gp : Nat} {L : Nat → Int} (h : Mk w wr V a n cap s gp L) (p v : Nat) : Mk w (wr.setCell ⟨w.heap.size + 1, p, none⟩ (.int .i64 (v : Nat))) V a n cap (Df.upd s p v) gp L := by
  refine ⟨RowN.set h.rs p v, h.bg.stepB (B := w.heap.size + 1) (by omega) ((Below.refl _ _).setCell (p := ⟨w.heap.size + 1, p, none⟩) (Nat.le_refl _) _), Row.keep h.pr ?_, h.ne⟩
  have := h.ne
  simp [World.setCell, Array.getElem?_modify]
  omega
theorem Mk.setZ {w wr : World} {V : Nat} {a : Option Addr} {n cap : Nat} {s : Nat → Nat} {gp : Nat} {L : Nat → Int} (h : Mk w wr V a n cap s gp L) (p : Nat) {z : Int} {l : Nat} (hz : z = (l : Int)) : Mk w (wr.setCell ⟨w.heap.size + 1, p, none⟩ (.int .i64 z)) V a n cap (Df.upd s p l) gp L := by
  rw [hz]
  exact h.set p l
theorem two_box (u : World) (c1 c2 : Array Value) : ((u.alloc (.cells c1 40)).alloc (.cells c2 40)).drew.heap[u.heap.size]? = some (.cells c1 40 (0, 0)) ∧ ((u.alloc (.cells c1 40)).alloc (.cells c2 40)).drew.heap[u.heap.size + 1]? = some (.cells c2 40 (0, 0)) ∧ Below u.heap.size u ((u.alloc (.cells c1 40)).alloc (.cells c2 40)).drew := by
  have hs : (u.alloc (.cells c1 40)).heap.size = u.heap.size + 1 := by simp
  have hb : Below (u.alloc (.cells c1 40)).heap.size (u.alloc (.cells c1 40)) ((u.alloc (.cells c1 40)).alloc (.cells c2 40)).drew := (b_al _).drew
  refine ⟨?_, ?_, (b_al _).trans (hb.mono (by omega))⟩
  · rw [hb.block _ (by omega)]; exact (MapKept.heap_alloc u _).1
  · have := (MapKept.heap_alloc (u.alloc (.cells c1 40)) (.cells c2 40)).1
    rw [hs] at this
    exact this
/-- how far a loop is that runs while b holds -/
def runM (b : Value) (m : Nat) : Nat := match b with
  | .bool true => m + 1
  | _ => 0

set_option maxHeartbeats 16000000 in
theorem refblock_any (w : World) (V : Nat) (a : Option Addr) (n cap : Nat) (es : List (Nat × Nat)) {B : Nat} (h : Es B w a n (toI es)) (hne : es.length = n) (hp : Plain V es) (hnl : Df.NoLoop es) :
    Calls Try.prog 35 #[.agg #[.int .i64 V, .slice a n cap]] w fun e w' => (∃ g s, e = .returned (.slice (some ⟨g, 0, none⟩) n n) ∧ w.heap.size ≤ g ∧ RowN w' g n s ∧ Df.IsLs es s) ∧ Below w.heap.size w w' := by
  have hv64 := hp.v64
  have hv1 := hp.v1
  have hn128 := hp.n128
  rw [hne] at hn128
  have HE := hide h
  have HP := hide hp
  have HN := hide hne
  have HNL := hide hnl
  have HB0 := hide (Bg.start w (.int .i64 V) (.slice a n cap))
  have HPT := hide (fun (u : World) (h : Es B u a n (toI es)) (wa : Option Addr) (wcap : Nat) (wo : Nat → Bool) (hW : Bs u wa V wo) (L : Nat → Int) (hL : IsL V es wo L) => refpart_any u V a n cap es h hne hp wa wcap wo hW L hL)
  obtain ⟨i0, hi0, hz0, hz1, hz2⟩ := info_parts info3
  have HI := hide hi0
  have HZ0 := hide hz0
  have HZ1 := hide hz1
  have hzb : i0.bytes * n ≤ 281474976710656 := by rw [hz2]; omega
  obtain ⟨j0, hj0, hy0, hy1, hy2⟩ := info_parts info4
  have HJ := hide hj0
  have HY0 := hide hy0
  have HY1 := hide hy1
  have hyb : j0.bytes * V ≤ 281474976710656 := by rw [hy2]; omega
  clear hi0 hz0 hz1 hz2 hj0 hy0 hy1 hy2 h hp hne hnl
  go_enter Try.func35, Try.ntmps35
  go_wp2_with (refine wpList_make_full _ rfl (.tmp 18) (.tmp 18) 29 rfl (w.heap.size + 1) 3 i0 (.int .i64 0) 1 Try.underlying29 (unhide HI) (unhide HZ0) (unhide HZ1) .i64 .i64 _ _ n rfl rfl rfl rfl hzb ?m1 ?m2 ?_)
  case m1 => unfold maxLen; omega
  case m2 => simp
  intro w1 hown1 hg1
  rw [toList_madeCells_one] at hown1
  have hs0 : (w.alloc (.cells #[.int .i64 (V : Int), .slice a n cap] 24)).heap.size = w.heap.size + 1 := by simp
  have hb1 : Below (w.heap.size + 1) (w.alloc (.cells #[.int .i64 (V : Int), .slice a n cap] 24)) w1 := ⟨hg1.os, hg1.tape, hg1.output, hg1.size, fun k hk => hg1.block k (by rw [hs0]; exact hk) (by simp)⟩
  have HB1 := hide ((unhide HB0).stepB (by omega) hb1)
  have HR1 := hide (show RowN w1 (w.heap.size + 1) n (fun t => if t < 0 then t else 0) from (Row.of_owns hown1).congr fun t ht => by simp)
  clear hown1 hg1 hb1 HB0 hs0
  go_wp2_with fail
  go_loopw [5] (fun i wr => ∃ k : Nat, i = .int .i64 k ∧ k ≤ n ∧ Hid (RowN wr (w.heap.size + 1) n (fun t => if t < k then t else 0)) ∧ Hid (Bg w wr (.int .i64 V) (.slice a n cap))) (fun i wr => n - (intOf i).toNat)
  case atStart => exact ⟨0, rfl, by omega, HR1, HB1⟩
  case round =>
    clear HR1 HB1
    obtain ⟨k, rfl, hk, HR, HB⟩ := hrel
    by_cases hlt : k < n
    · have hlt2 : (k : Int) < (n : Int) := by omega
      have r0 := (unhide HR).cell hlt
      have r1 := (unhide HR).fz k
      go_wp2_with fail
      go_roundw
      case rel =>
        refine ⟨k + 1, by go_num, by omega, ?_, (unhide HB).stepB (B := w.heap.size + 1) (by omega) ((Below.refl _ _).setCell (p := ⟨w.heap.size + 1, k, none⟩) (Nat.le_refl _) _)⟩
        refine Row.congr (RowN.set (unhide HR) k k) fun t ht => ?_
        unfold Df.upd
        by_cases h1 : t = k
        · subst h1; simp
        · rw [if_neg h1]
          congr 2
          dsimp only
          by_cases h2 : t < k
          · rw [if_pos h2, if_pos (by omega)]
          · rw [if_neg h2, if_neg (by omega)]
      case measure => simp [intOf]; omega
    · obtain rfl : k = n := by omega
      have HRF := hide (show RowN wr (w.heap.size + 1) k (fun t => t) from Row.congr (unhide HR) fun t ht => by simp [ht])
      clear HR
      go_wp2_with fail
      obtain ⟨wo0, rfl⟩ : ∃ wo0, wo0 = wr := ⟨_, rfl⟩
      have HL0 := hide (Df.Lb.start es)
      go_loopw [6] (fun b wr => ∃ (bb : Bool) (s : Nat → Nat), b = .bool bb ∧ Hid (RowN wr (w.heap.size + 1) k s) ∧ Hid (Df.Lb es s) ∧ Hid (bb = false → Df.IsLs es s) ∧ Hid (Bg w wr (.int .i64 V) (.slice a k cap))) (fun b wr => runM b (sumR wr (w.heap.size + 1) k))
      case atStart => exact ⟨true, _, rfl, HRF, HL0, (fun e => by cases e), HB⟩
      case round =>
        clear HRF HL0 HB
        obtain ⟨bb, s0, rfl, HR, HLB, HLS, HB⟩ := hrel
        cases bb with
        | false =>
          go_wp2_with fail
          go_ret
          exact ⟨⟨_, rfl, by omega, s0, unhide HR, unhide HLS trivial⟩, (unhide HB).bel⟩
        | true =>
          clear HLS
          go_wp2_with fail
          have HSM := hide (RowN.sum (unhide HR))
          obtain ⟨wo1, rfl⟩ : ∃ wo1, wo1 = wr := ⟨_, rfl⟩
          have HP0 := hide ((Df.Ps.start (unhide HLB)).to (D' := fun y _ _ => y < 0) fun y i l hy _ => by omega)
          go_loopw [6, 7] (fun b i wr => ∃ (bb : Bool) (x : Nat) (s : Nat → Nat), b = .bool bb ∧ i = .int .i64 x ∧ x ≤ V ∧ Hid (RowN wr (w.heap.size + 1) k s) ∧ Hid (Df.Ps es s0 s bb fun y _ _ => y < x) ∧ Hid (Bg w wr (.int .i64 V) (.slice a k cap))) (fun b i wr => V - (intOf i).toNat)
          case atStart => exact ⟨false, 0, s0, rfl, rfl, by omega, HR, HP0, HB⟩
          case round =>
            clear HR HP0 HB
            obtain ⟨bb, x, s, rfl, rfl, hx, HR, HPS, HB⟩ := hrel
            obtain ⟨g0, g1⟩ := (unhide HB).cells
            by_cases hxV : x < V
            · have hxV2 : (x : Int) < (V : Int) := by omega
              have hlt := (unhide HB).lt
              go_wp2_with (refine wpList_make_full _ rfl (.tmp 37) (.tmp 37) 38 rfl wr.heap.size 4 j0 (.bool false) 1 Try.underlying38 (unhide HJ) (unhide HY0) (unhide HY1) .i64 .i64 _ _ V rfl rfl rfl rfl hyb ?m1 ?m2 ?_)
              case m1 => unfold maxLen; omega
              case m2 => simp
              intro w2 hown2 hg2
              rw [toList_madeCells_one] at hown2
              have hb2 : Below wr.heap.size wr w2 := ⟨hg2.os, hg2.tape, hg2.output, hg2.size, fun k hk => hg2.block k hk (by simp)⟩
              have HO2 := hide (show RowB w2 wr.heap.size V (fun _ => false) from Row.of_owns hown2)
              have HB2 := hide ((unhide HB).step hb2)
              have HR2 := hide (Row.below (unhide HR) hb2)
              have HX2 := hide hb2
              clear hown2 hg2 hb2 g0 g1
              have r0 := (unhide HO2).cell hxV
              have r1 := (unhide HO2).fz x
              obtain ⟨g0, g1⟩ := (unhide HB2).cells
              go_wp2_with fail
              have HO3 := hide (show RowB (w2.setCell ⟨wr.heap.size, x, none⟩ (.bool true)) wr.heap.size V (fun t => decide (t = x)) from Row.congr (RowB.set (unhide HO2) x true) fun t ht => by
                unfold upd
                by_cases h1 : t = x
                · simp [h1]
                · simp [h1])
              have HB3 := hide ((unhide HB2).stepB (B := wr.heap.size) hlt ((Below.refl _ _).setCell (p := ⟨wr.heap.size, x, none⟩) (Nat.le_refl _) (.bool true)))
              have HR3 := hide (show RowN (w2.setCell ⟨wr.heap.size, x, none⟩ (.bool true)) (w.heap.size + 1) k s from Row.keep (unhide HR2) (by have := (unhide HR).lt; simp [World.setCell, Array.getElem?_modify]; omega))
              clear g0 g1 r0 r1 HO2 HB2 HR2 HX2
              generalize w2.setCell ⟨wr.heap.size, x, none⟩ (.bool true) = w3 at HO3 HB3 HR3 ⊢
              obtain ⟨L, hL⟩ := isL_ex V es (fun t => decide (t = x))
              have HL := hide hL
              clear hL
              obtain ⟨g0, g1⟩ := (unhide HB3).cells
              go_wp2_with fail
              refine (unhide HPT _ ((unhide HE).below (unhide HB3).bel) _ _ _ (RowB.read (unhide HO3) (by omega)) L (unhide HL)).mono ?_
              rintro e w4 ⟨⟨pv, rfl, hpo⟩, hb4⟩
              obtain ⟨gp, pc, rfl, hgp, hpr⟩ := rowZ_of_owns hpo (by omega)
              have HR4 := hide (Row.below (unhide HR3) hb4)
              have HB4 := hide ((unhide HB3).step hb4)
              have HPR := hide hpr
              have hgs : w.heap.size + 1 < gp := Nat.lt_of_lt_of_le (unhide HR3).lt hgp
              clear hpr hpo hb4 hgp g0 g1 HO3 HB3 HR3
              go_wp2_with fail
              have HM4 := hide (Mk.mk (unhide HR4) (unhide HB4) (unhide HPR) hgs)
              have HP1 := hide ((unhide HPS).to (D' := fun y j _ => y < x ∨ (y = x ∧ j < 0)) fun y j l hy _ => by omega)
              clear HR4 HB4 HPR HR HB HPS
              obtain ⟨wo2, rfl⟩ : ∃ wo2, wo2 = wr := ⟨_, rfl⟩
              go_loopw [6, 10] (fun b i wr => ∃ (bb : Bool) (i1 : Nat) (s : Nat → Nat), b = .bool bb ∧ i = .int .i64 i1 ∧ i1 ≤ k ∧ Hid (Df.Ps es s0 s bb fun y j _ => y < x ∨ (y = x ∧ j < i1)) ∧ Hid (Mk w wr V a k cap s gp L)) (fun b i wr => k - (intOf i).toNat)
              case atStart => exact ⟨bb, 0, s, rfl, rfl, by omega, HP1, HM4⟩
              case round =>
                clear HM4 HP1
                obtain ⟨bb, i, s, rfl, rfl, hi, HPS, HM⟩ := hrel
                by_cases hik : i < k
                · have hik2 : (i : Int) < (k : Int) := by omega
                  go_wp2_with fail
                  have HP2 := hide ((unhide HPS).to (D' := fun y j l => y < x ∨ (y = x ∧ (j < i ∨ (j = i ∧ l < 0)))) fun y j l hy _ => by omega)
                  obtain ⟨wo3, rfl⟩ : ∃ wo3, wo3 = wr := ⟨_, rfl⟩
                  go_loopw [6, 11] (fun b i1 wr => ∃ (bb : Bool) (kk : Nat) (s : Nat → Nat), b = .bool bb ∧ i1 = .int .i64 kk ∧ kk ≤ k ∧ Hid (Df.Ps es s0 s bb fun y j l => y < x ∨ (y = x ∧ (j < i ∨ (j = i ∧ l < kk)))) ∧ Hid (Mk w wr V a k cap s gp L)) (fun b i1 wr => k - (intOf i1).toNat)
                  case atStart => exact ⟨bb, 0, s, rfl, rfl, by omega, HP2, HM⟩
                  case round =>
                    clear HM HP2 HPS
                    obtain ⟨bb, kk, s, rfl, rfl, hkk, HPS, HM⟩ := hrel
                    by_cases hkk2 : kk < k
                    · have hkk3 : (kk : Int) < (k : Int) := by omega
                      obtain ⟨g, off, ha, hg, c0, c1⟩ := es_at (i := i) (by have := unhide HE; rw [← unhide HN] at this; exact this) (by rw [unhide HN]; exact hik)
                      subst ha
                      obtain ⟨g', off', ha', hg', c2, c3⟩ := es_at (i := kk) (by have := unhide HE; rw [← unhide HN] at this; exact this) (by rw [unhide HN]; exact hkk2)
                      cases ha'
                      have hends := plat (unhide HP) (i := i) (by rw [unhide HN]; exact hik)
                      have hends2 := plat (unhide HP) (i := kk) (by rw [unhide HN]; exact hkk2)
                      have hnl1 := unhide HNL i (by rw [unhide HN]; exact hik)
                      have hnl2 := unhide HNL kk (by rw [unhide HN]; exact hkk2)
                      unfold Pl.at' at hnl1 hnl2
                      obtain ⟨⟨p, q⟩, hpq⟩ : ∃ e, es.getD i (0, 0) = e := ⟨_, rfl⟩
                      obtain ⟨⟨p2, q2⟩, hpq2⟩ : ∃ e, es.getD kk (0, 0) = e := ⟨_, rfl⟩
                      rw [hpq] at c0 c1 hends hnl1
                      rw [hpq2] at c2 c3 hends2 hnl2
                      have HPQ := hide hpq
                      have HPQ2 := hide hpq2
                      clear hpq hpq2
                      obtain ⟨hpV, hqV⟩ := hends
                      obtain ⟨hpV2, hqV2⟩ := hends2
                      simp only at c0 c1 c2 c3 hpV hqV hpV2 hqV2 hnl1 hnl2
                      obtain ⟨g0, g1⟩ := (unhide HM).bg.cells
                      have d0 : wr.cell? ⟨g, off + i * 2, none⟩ = some (.int .i64 (p : Nat)) := by rw [(unhide HM).bg.bel.cell (p := ⟨g, off + i * 2, none⟩) hg]; exact c0
                      have d1 : wr.cell? ⟨g, off + i * 2 + 1, none⟩ = some (.int .i64 (q : Nat)) := by rw [(unhide HM).bg.bel.cell (p := ⟨g, off + i * 2 + 1, none⟩) hg]; exact c1
                      have d2 : wr.cell? ⟨g, off + kk * 2, none⟩ = some (.int .i64 (p2 : Nat)) := by rw [(unhide HM).bg.bel.cell (p := ⟨g, off + kk * 2, none⟩) hg]; exact c2
                      have d3 : wr.cell? ⟨g, off + kk * 2 + 1, none⟩ = some (.int .i64 (q2 : Nat)) := by rw [(unhide HM).bg.bel.cell (p := ⟨g, off + kk * 2 + 1, none⟩) hg]; exact c3
                      have hgr : g < wr.heap.size := by have := (unhide HM).bg.lt; omega
                      have hwr := (unhide HM).bg.lt
                      clear c0 c1 c2 c3
                      go_upto_region 22 with fail
                      go_cut [12, 13] from 50 to 135 (fun v12 v13 wx => ∃ ga gb, v12 = .pointer (some ⟨ga, 0, none⟩) ∧ v13 = .pointer (some ⟨gb, 0, none⟩) ∧ Hid (wx.heap[ga]? = some (.cells #[.int .i64 (p : Int), .int .i64 (q : Int)] 40 (0, 0))) ∧ Hid (wx.heap[gb]? = some (.cells #[.int .i64 (p2 : Int), .int .i64 (q2 : Int)] 40 (0, 0))) ∧ Hid (Below wr.heap.size wr wx))
                      case first =>
                        go_region_held3 (fun u => u.cell? ⟨w.heap.size, 1, none⟩ = some (.slice (some ⟨g, off, none⟩) k cap) ∧ u.cell? ⟨g, off + i * 2, none⟩ = some (.int .i64 (p : Nat)) ∧ u.cell? ⟨g, off + i * 2 + 1, none⟩ = some (.int .i64 (q : Nat)) ∧ u.cell? ⟨g, off + kk * 2, none⟩ = some (.int .i64 (p2 : Nat)) ∧ u.cell? ⟨g, off + kk * 2 + 1, none⟩ = some (.int .i64 (q2 : Nat))) (go_keep) (fail)
                        · go_wp2_with fail
                          go_meet
                          obtain ⟨t1, t2, t3⟩ := two_box wr #[.int .i64 (p : Int), .int .i64 (q : Int)] #[.int .i64 (p2 : Int), .int .i64 (q2 : Int)]
                          exact ⟨_, _, rfl, rfl, t1, t2, t3⟩
                        · go_wp2_with fail
                          go_meet
                          obtain ⟨t1, t2, t3⟩ := two_box wr #[.int .i64 (p2 : Int), .int .i64 (q2 : Int)] #[.int .i64 (p : Int), .int .i64 (q : Int)]
                          exact ⟨_, _, rfl, rfl, t2, t1, t3⟩
                      case rest =>
                        obtain ⟨ga, gb, rfl, rfl, HGA, HGB, HBX⟩ := hcut
                        have HMX := hide ((unhide HM).step (unhide HBX))
                        clear d0 d1 d2 d3 g0 g1 HM HBX hgr hwr
                        have e0 : wc.cell? ⟨ga, 0, none⟩ = some (.int .i64 (p : Int)) := by simp [World.cell?, unhide HGA]
                        have e1 : wc.cell? ⟨ga, 1, none⟩ = some (.int .i64 (q : Int)) := by simp [World.cell?, unhide HGA]
                        have e2 : wc.cell? ⟨gb, 0, none⟩ = some (.int .i64 (p2 : Int)) := by simp [World.cell?, unhide HGB]
                        have e3 : wc.cell? ⟨gb, 1, none⟩ = some (.int .i64 (q2 : Int)) := by simp [World.cell?, unhide HGB]
                        have HSK := hide (fun (hn : Df.Sx es x i kk → s i = s kk) => (unhide HPS).skip (D' := fun y j l => y < x ∨ (y = x ∧ (j < i ∨ (j = i ∧ l < kk + 1)))) hn fun y j l hd => by omega)
                        by_cases hA : p = x ∨ q = x
                        · by_cases hB : p2 = x ∨ q2 = x
                          · obtain ⟨o1, ho1⟩ : ∃ o, p + q - x = o := ⟨_, rfl⟩
                            obtain ⟨o2, ho2⟩ : ∃ o, p2 + q2 - x = o := ⟨_, rfl⟩
                            have hE1 := en_end (by rw [unhide HN]; exact hik) (unhide HPQ) hA ho1
                            have hE2 := en_end (by rw [unhide HN]; exact hkk2) (unhide HPQ2) hB ho2
                            have ho1V : o1 < V := by omega
                            have ho2V : o2 < V := by omega
                            have HSX := hide (sx_iff (unhide HL) ho1V ho2V (by omega) (by omega) hE1 hE2)
                            have hI1 : (p : Int) + (q : Int) - (x : Int) = (o1 : Int) := by omega
                            have hI2 : (p2 : Int) + (q2 : Int) - (x : Int) = (o2 : Int) := by omega
                            have hW1 : IntKind.i64.wrap ((p : Int) + (q : Int)) = (p : Int) + (q : Int) := by rw [IntKind.wrap_i64]; omega
                            have hW2 : IntKind.i64.wrap ((p2 : Int) + (q2 : Int)) = (p2 : Int) + (q2 : Int) := by rw [IntKind.wrap_i64]; omega
                            have hW3 : IntKind.i64.wrap (o1 : Int) = (o1 : Int) := by rw [IntKind.wrap_i64]; omega
                            have hW4 : IntKind.i64.wrap (o2 : Int) = (o2 : Int) := by rw [IntKind.wrap_i64]; omega
                            have hZ1 : (0 : Int) ≤ (o1 : Int) := by omega
                            have hZ2 : (0 : Int) ≤ (o2 : Int) := by omega
                            have hJ1 : (p : Int) + (q : Int) < 1000 := by omega
                            have hJ2 : (p2 : Int) + (q2 : Int) < 1000 := by omega
                            have hK1 : (o1 : Int) < (V : Int) := by omega
                            have hK2 : (o2 : Int) < (V : Int) := by omega
                            clear hE1 hE2
                            obtain ⟨wd, rfl⟩ : ∃ wd, wd = wc := ⟨_, rfl⟩
                            go_upto_region 23 with fail
                            go_cut [86] from 50 to 135 (fun v wx => v = .bool false ∧ wx = wd)
                            case first =>
                              by_cases hpx : p = x
                              · have h1 : ((p : Int) != (x : Int)) = false := by simp [hpx]
                                by_cases hpx2 : p2 = x
                                · have h2 : ((p2 : Int) != (x : Int)) = false := by simp [hpx2]
                                  clear hpx hpx2
                                  go_wp2_with fail
                                  go_meet
                                  exact ⟨rfl, rfl⟩
                                · have h2 : ((p2 : Int) != (x : Int)) = true := by simp; omega
                                  have h3 : ((q2 : Int) != (x : Int)) = false := by simp; omega
                                  clear hpx hpx2
                                  go_wp2_with fail
                                  go_meet
                                  exact ⟨rfl, rfl⟩
                              · have h1 : ((p : Int) != (x : Int)) = true := by simp; omega
                                have h4 : ((q : Int) != (x : Int)) = false := by simp; omega
                                by_cases hpx2 : p2 = x
                                · have h2 : ((p2 : Int) != (x : Int)) = false := by simp [hpx2]
                                  clear hpx hpx2
                                  go_wp2_with fail
                                  go_meet
                                  exact ⟨rfl, rfl⟩
                                · have h2 : ((p2 : Int) != (x : Int)) = true := by simp; omega
                                  have h3 : ((q2 : Int) != (x : Int)) = false := by simp; omega
                                  clear hpx hpx2
                                  go_wp2_with fail
                                  go_meet
                                  exact ⟨rfl, rfl⟩
                            case rest =>
                              obtain ⟨rfl, hwc⟩ := hcut
                              subst hwc
                              have l0 := (unhide HMX).pr.cell ho1V
                              have l1 := (unhide HMX).pr.cell ho2V
                              have z0 := (unhide HMX).rs.cell hik
                              have z1 := (unhide HMX).rs.cell hkk2
                              by_cases hLL : L o1 = L o2
                              · have t1 : (L o1 == L o2) = true := by simp [hLL]
                                by_cases hss : s i = s kk
                                · have t2 : (((s i : Nat) : Int) != ((s kk : Nat) : Int)) = false := by simp [hss]
                                  have HSW := hide (unhide HSK fun _ => hss)
                                  clear hLL hss
                                  go_wp2_with fail
                                  go_region_held3 (fun u => u.cell? ⟨ga, 0, none⟩ = some (.int .i64 (p : Int)) ∧ u.cell? ⟨ga, 1, none⟩ = some (.int .i64 (q : Int)) ∧ u.cell? ⟨gb, 0, none⟩ = some (.int .i64 (p2 : Int)) ∧ u.cell? ⟨gb, 1, none⟩ = some (.int .i64 (q2 : Int)) ∧ u.cell? ⟨gp, o1, none⟩ = some (.int .i64 (L o1)) ∧ u.cell? ⟨gp, o2, none⟩ = some (.int .i64 (L o2)) ∧ u.cell? ⟨w.heap.size + 1, i, none⟩ = some (.int .i64 (s i : Nat)) ∧ u.cell? ⟨w.heap.size + 1, kk, none⟩ = some (.int .i64 (s kk : Nat))) (go_keep) (fail)
                                  go_wp2_with fail
                                  go_roundw
                                  case rel => exact ⟨bb, kk + 1, s, rfl, by go_num, by omega, HSW, (unhide HMX).step b_dr⟩
                                  case measure => simp [intOf]; omega
                                · have t2 : (((s i : Nat) : Int) != ((s kk : Nat) : Int)) = true := by simp; omega
                                  have t3 : (s i : Nat) < 128 := by have := (unhide HPS).lb.le i (by rw [unhide HN]; exact hik); omega
                                  have t4 : (s kk : Nat) < 128 := by have := (unhide HPS).lb.le kk (by rw [unhide HN]; exact hkk2); omega
                                  have HTK := hide (fun l hl => (unhide HPS).take ((unhide HSX).2 hLL) hss (l := l) hl (fun y j l => y < x ∨ (y = x ∧ (j < i ∨ (j = i ∧ l < kk + 1)))))
                                  have HFZ := hide (fun (u : World) (hu : Mk w u V (some ⟨g, off, none⟩) k cap s gp L) => hu.rs.fz)
                                  have HSS := hide hss
                                  clear hLL hss
                                  go_wp2_with fail
                                  go_region_held3 (fun u => u.cell? ⟨ga, 0, none⟩ = some (.int .i64 (p : Int)) ∧ u.cell? ⟨ga, 1, none⟩ = some (.int .i64 (q : Int)) ∧ u.cell? ⟨gb, 0, none⟩ = some (.int .i64 (p2 : Int)) ∧ u.cell? ⟨gb, 1, none⟩ = some (.int .i64 (q2 : Int)) ∧ u.cell? ⟨gp, o1, none⟩ = some (.int .i64 (L o1)) ∧ u.cell? ⟨gp, o2, none⟩ = some (.int .i64 (L o2)) ∧ u.cell? ⟨w.heap.size + 1, i, none⟩ = some (.int .i64 (s i : Nat)) ∧ u.cell? ⟨w.heap.size + 1, kk, none⟩ = some (.int .i64 (s kk : Nat))) (go_keep) (fail)
                                  have HM1 := hide ((unhide HMX).step b_dr)
                                  generalize wc.drew = we at HM1 ⊢
                                  have y0 := (unhide HM1).rs.cell hik
                                  have y1 := (unhide HM1).rs.cell hkk2
                                  clear e0 e1 e2 e3 l0 l1 z0 z1
                                  go_wp2_with fail
                                  go_region_held3 (fun u => u.cell? ⟨w.heap.size + 1, i, none⟩ = some (.int .i64 (s i : Nat)) ∧ u.cell? ⟨w.heap.size + 1, kk, none⟩ = some (.int .i64 (s kk : Nat))) (go_keep) (fail)
                                  have HM3 := hide ((unhide HM1).step b_dr)
                                  generalize we.drew = wf at HM3 ⊢
                                  have x0 := (unhide HM3).rs.cell hik
                                  have x1 := (unhide HM3).rs.cell hkk2
                                  have x2 := (unhide HM3).rs.fz i
                                  have x3 := (unhide HM3).rs.fz kk
                                  have hne1 : i ≠ kk := fun e => unhide HSS (by rw [e])
                                  have hne2 : kk ≠ i := fun e => hne1 e.symm
                                  clear y0 y1
                                  go_wp2_with fail
                                  go_roundw
                                  case rel =>
                                    refine ⟨true, kk + 1, _, rfl, by go_num, by omega, unhide HTK _ rfl, ?_⟩
                                    exact Mk.setZ (Mk.setZ (unhide HM3) i (by omega)) kk (by omega)
                                  case measure => simp [intOf]; omega
                              · have t1 : (L o1 == L o2) = false := by rw [beq_eq_false_iff_ne]; exact hLL
                                have HSW := hide (unhide HSK fun hs => absurd ((unhide HSX).1 hs) hLL)
                                clear hLL
                                go_wp2_with fail
                                refine wp_region_held_drew (S := (fun u => u.cell? ⟨ga, 0, none⟩ = some (.int .i64 (p : Int)) ∧ u.cell? ⟨ga, 1, none⟩ = some (.int .i64 (q : Int)) ∧ u.cell? ⟨gb, 0, none⟩ = some (.int .i64 (p2 : Int)) ∧ u.cell? ⟨gb, 1, none⟩ = some (.int .i64 (q2 : Int)) ∧ u.cell? ⟨gp, o1, none⟩ = some (.int .i64 (L o1)) ∧ u.cell? ⟨gp, o2, none⟩ = some (.int .i64 (L o2)) ∧ u.cell? ⟨w.heap.size + 1, i, none⟩ = some (.int .i64 (s i : Nat)) ∧ u.cell? ⟨w.heap.size + 1, kk, none⟩ = some (.int .i64 (s kk : Nat)))) (by kernel_rfl) ⟨e0, e1, e2, e3, l0, l1, z0, z1⟩ (fun hS => ?_)
                                refine wpAnyH_take (i := 0) (v := ?_) rfl (by kernel_rfl) (by kernel_rfl) (by kernel_rfl) (fun _ _ _ h => h) (Or.inl ⟨by rfl, ?_⟩) hS ?_
                                rotate_left
                                · intro u hu; (try dsimp only at hu); go_simp; try with_reducible rfl
                                simp only [Act.put, List.getElem_toArray, List.getElem_cons_zero, List.setIfInBounds_toArray, List.set_cons_zero, List.set_cons_succ]
                                refine wpAnyH_take (i := 1) (v := ?_) rfl (by kernel_rfl) (by kernel_rfl) (by kernel_rfl) (fun _ _ _ h => h) (Or.inl ⟨by rfl, ?_⟩) hS ?_
                                rotate_left
                                · intro u hu; (try dsimp only at hu); go_simp; try with_reducible rfl
                                simp only [Act.put, List.getElem_toArray, List.getElem_cons_zero, List.getElem_cons_succ, List.setIfInBounds_toArray, List.set_cons_zero, List.set_cons_succ]
                                refine wpAnyH_take (i := 2) (v := ?_) rfl (by kernel_rfl) (by kernel_rfl) (by kernel_rfl) (fun _ _ _ h => h) (Or.inl ⟨by rfl, ?_⟩) hS ?_
                                rotate_left
                                · intro u hu; (try dsimp only at hu); go_simp; try with_reducible rfl
                                simp only [Act.put, List.getElem_toArray, List.getElem_cons_zero, List.getElem_cons_succ, List.setIfInBounds_toArray, List.set_cons_zero, List.set_cons_succ]
                                refine wpAnyH_take (i := 3) (v := ?_) rfl (by kernel_rfl) (by kernel_rfl) (by kernel_rfl) (fun _ _ _ h => h) (Or.inl ⟨by rfl, ?_⟩) hS ?_
                                rotate_left
                                · intro u hu; (try dsimp only at hu); go_simp; try with_reducible rfl
                                simp only [Act.put, List.getElem_toArray, List.getElem_cons_zero, List.getElem_cons_succ, List.setIfInBounds_toArray, List.set_cons_zero, List.set_cons_succ]
                                refine wpAnyH_take (i := 4) (v := ?_) rfl (by kernel_rfl) (by kernel_rfl) (by kernel_rfl) (fun _ _ _ h => h) (Or.inl ⟨by rfl, ?_⟩) hS ?_
                                rotate_left
                                · intro u hu; (try dsimp only at hu); go_simp; try with_reducible rfl
                                simp only [Act.put, List.getElem_toArray, List.getElem_cons_zero, List.getElem_cons_succ, List.setIfInBounds_toArray, List.set_cons_zero, List.set_cons_succ]
                                refine wpAnyH_take (i := 5) (v := ?_) rfl (by kernel_rfl) (by kernel_rfl) (by kernel_rfl) (fun _ _ _ h => h) (Or.inl ⟨by rfl, ?_⟩) hS ?_
                                rotate_left
                                · intro u hu; (try dsimp only at hu); go_simp; try with_reducible rfl
                                simp only [Act.put, List.getElem_toArray, List.getElem_cons_zero, List.getElem_cons_succ, List.setIfInBounds_toArray, List.set_cons_zero, List.set_cons_succ]
                                refine wpAnyH_take (i := 6) (v := ?_) rfl (by kernel_rfl) (by kernel_rfl) (by kernel_rfl) (fun _ _ _ h => h) (Or.inl ⟨by rfl, ?_⟩) hS ?_
                                rotate_left
                                · intro u hu; (try dsimp only at hu); go_simp; try with_reducible rfl
                                simp only [Act.put, List.getElem_toArray, List.getElem_cons_zero, List.getElem_cons_succ, List.setIfInBounds_toArray, List.set_cons_zero, List.set_cons_succ]
                                refine wpAnyH_take (i := 7) (v := ?_) rfl (by kernel_rfl) (by kernel_rfl) (by kernel_rfl) (fun _ _ _ h => h) (Or.inl ⟨by rfl, ?_⟩) hS ?_
                                rotate_left
                                · intro u hu; (try dsimp only at hu); go_simp; try with_reducible rfl
                                simp only [Act.put, List.getElem_toArray, List.getElem_cons_zero, List.getElem_cons_succ, List.setIfInBounds_toArray, List.set_cons_zero, List.set_cons_succ]
                                refine wpAnyH_take (i := 8) (v := ?_) rfl (by kernel_rfl) (by kernel_rfl) (by kernel_rfl) (fun _ _ _ h => h) (Or.inl ⟨by rfl, ?_⟩) hS ?_
                                rotate_left
                                · intro u hu; (try dsimp only at hu); go_simp; try with_reducible rfl
                                simp only [Act.put, List.getElem_toArray, List.getElem_cons_zero, List.getElem_cons_succ, List.setIfInBounds_toArray, List.set_cons_zero, List.set_cons_succ]
                                refine wpAnyH_take (i := 9) (v := ?_) rfl (by kernel_rfl) (by kernel_rfl) (by kernel_rfl) (fun _ _ _ h => h) (Or.inl ⟨by rfl, ?_⟩) hS ?_
                                rotate_left
                                · intro u hu; (try dsimp only at hu); go_simp; try with_reducible rfl
                                simp only [Act.put, List.getElem_toArray, List.getElem_cons_zero, List.getElem_cons_succ, List.setIfInBounds_toArray, List.set_cons_zero, List.set_cons_succ]
                                refine wpAnyH_take (i := 10) (v := ?_) rfl (by kernel_rfl) (by kernel_rfl) (by kernel_rfl) (fun _ _ _ h => h) (Or.inl ⟨by rfl, ?_⟩) hS ?_
                                rotate_left
                                · intro u hu; (try dsimp only at hu); go_simp; try with_reducible rfl
                                simp only [Act.put, List.getElem_toArray, List.getElem_cons_zero, List.getElem_cons_succ, List.setIfInBounds_toArray, List.set_cons_zero, List.set_cons_succ]
                                refine wpAnyH_take (i := 11) (v := ?_) rfl (by kernel_rfl) (by kernel_rfl) (by kernel_rfl) (fun _ _ _ h => h) (Or.inl ⟨by rfl, ?_⟩) hS ?_
                                rotate_left
                                · intro u hu; (try dsimp only at hu); go_simp; try with_reducible rfl
                                simp only [Act.put, List.getElem_toArray, List.getElem_cons_zero, List.getElem_cons_succ, List.setIfInBounds_toArray, List.set_cons_zero, List.set_cons_succ]
                                refine wpAnyH_take (i := 12) (v := ?_) rfl (by kernel_rfl) (by kernel_rfl) (by kernel_rfl) (fun _ _ _ h => h) (Or.inl ⟨by rfl, ?_⟩) hS ?_
                                rotate_left
                                · intro u hu; (try dsimp only at hu); go_simp; try with_reducible rfl
                                simp only [Act.put, List.getElem_toArray, List.getElem_cons_zero, List.getElem_cons_succ, List.setIfInBounds_toArray, List.set_cons_zero, List.set_cons_succ]
                                refine wpAnyH_take (i := 13) (v := ?_) rfl (by kernel_rfl) (by kernel_rfl) (by kernel_rfl) (fun _ _ _ h => h) (Or.inl ⟨by rfl, ?_⟩) hS ?_
                                rotate_left
                                · intro u hu; (try dsimp only at hu); go_simp; try with_reducible rfl
                                simp only [Act.put, List.getElem_toArray, List.getElem_cons_zero, List.getElem_cons_succ, List.setIfInBounds_toArray, List.set_cons_zero, List.set_cons_succ]
                                refine wpAnyH_take (i := 14) (v := ?_) rfl (by kernel_rfl) (by kernel_rfl) (by kernel_rfl) (fun _ _ _ h => h) (Or.inl ⟨by rfl, ?_⟩) hS ?_
                                rotate_left
                                · intro u hu; (try dsimp only at hu); go_simp; try with_reducible rfl
                                simp only [Act.put, List.getElem_toArray, List.getElem_cons_zero, List.getElem_cons_succ, List.setIfInBounds_toArray, List.set_cons_zero, List.set_cons_succ]
                                refine wpAnyH_take (i := 15) (v := ?_) rfl (by kernel_rfl) (by kernel_rfl) (by kernel_rfl) (fun _ _ _ h => h) (Or.inl ⟨by rfl, ?_⟩) hS ?_
                                rotate_left
                                · intro u hu; (try dsimp only at hu); go_simp; try with_reducible rfl
                                simp only [Act.put, List.getElem_toArray, List.getElem_cons_zero, List.getElem_cons_succ, List.setIfInBounds_toArray, List.set_cons_zero, List.set_cons_succ]
                                refine wpAnyH_take (i := 16) (v := ?_) rfl (by kernel_rfl) (by kernel_rfl) (by kernel_rfl) (fun _ _ _ h => h) (Or.inl ⟨by rfl, ?_⟩) hS ?_
                                rotate_left
                                · intro u hu; (try dsimp only at hu); go_simp; try with_reducible rfl
                                simp only [Act.put, List.getElem_toArray, List.getElem_cons_zero, List.getElem_cons_succ, List.setIfInBounds_toArray, List.set_cons_zero, List.set_cons_succ]
                                refine wpAnyH_take (i := 17) (v := ?_) rfl (by kernel_rfl) (by kernel_rfl) (by kernel_rfl) (fun _ _ _ h => h) (Or.inl ⟨by rfl, ?_⟩) hS ?_
                                rotate_left
                                · intro u hu; (try dsimp only at hu); go_simp; try with_reducible rfl
                                simp only [Act.put, List.getElem_toArray, List.getElem_cons_zero, List.getElem_cons_succ, List.setIfInBounds_toArray, List.set_cons_zero, List.set_cons_succ]
                                refine wpAnyH_take (i := 18) (v := ?_) rfl (by kernel_rfl) (by kernel_rfl) (by kernel_rfl) (fun _ _ _ h => h) (Or.inl ⟨by rfl, ?_⟩) hS ?_
                                rotate_left
                                · intro u hu; (try dsimp only at hu); go_simp; try with_reducible rfl
                                simp only [Act.put, List.getElem_toArray, List.getElem_cons_zero, List.getElem_cons_succ, List.setIfInBounds_toArray, List.set_cons_zero, List.set_cons_succ]
                                refine wpAnyH_take (i := 19) (v := ?_) rfl (by kernel_rfl) (by kernel_rfl) (by kernel_rfl) (fun _ _ _ h => h) (Or.inl ⟨by rfl, ?_⟩) hS ?_
                                rotate_left
                                · intro u hu; (try dsimp only at hu); go_simp; try with_reducible rfl
                                simp only [Act.put, List.getElem_toArray, List.getElem_cons_zero, List.getElem_cons_succ, List.setIfInBounds_toArray, List.set_cons_zero, List.set_cons_succ]
                                refine wpAnyH_take (i := 20) (v := ?_) rfl (by kernel_rfl) (by kernel_rfl) (by kernel_rfl) (fun _ _ _ h => h) (Or.inl ⟨by rfl, ?_⟩) hS ?_
                                rotate_left
                                · intro u hu; (try dsimp only at hu); go_simp; try with_reducible rfl
                                simp only [Act.put, List.getElem_toArray, List.getElem_cons_zero, List.getElem_cons_succ, List.setIfInBounds_toArray, List.set_cons_zero, List.set_cons_succ]
                                refine wpAnyH_take (i := 21) (v := ?_) rfl (by kernel_rfl) (by kernel_rfl) (by kernel_rfl) (fun _ _ _ h => h) (Or.inl ⟨by rfl, ?_⟩) hS ?_
                                rotate_left
                                · intro u hu; (try dsimp only at hu); go_simp; try with_reducible rfl
                                simp only [Act.put, List.getElem_toArray, List.getElem_cons_zero, List.getElem_cons_succ, List.setIfInBounds_toArray, List.set_cons_zero, List.set_cons_succ]
                                refine wpAnyH_take (i := 22) (v := undef) rfl (by kernel_rfl) (by kernel_rfl) (by kernel_rfl) (fun _ _ _ h => h) (Or.inr ⟨by rfl, rfl⟩) hS ?_
                                simp only [Act.put, List.getElem_toArray, List.getElem_cons_zero, List.getElem_cons_succ, List.setIfInBounds_toArray, List.set_cons_zero, List.set_cons_succ]
                                refine wpAnyH_take (i := 23) (v := undef) rfl (by kernel_rfl) (by kernel_rfl) (by kernel_rfl) (fun _ _ _ h => h) (Or.inr ⟨by rfl, rfl⟩) hS ?_
                                simp only [Act.put, List.getElem_toArray, List.getElem_cons_zero, List.getElem_cons_succ, List.setIfInBounds_toArray, List.set_cons_zero, List.set_cons_succ]
                                refine wpAnyH_take (i := 24) (v := undef) rfl (by kernel_rfl) (by kernel_rfl) (by kernel_rfl) (fun _ _ _ h => h) (Or.inr ⟨by rfl, rfl⟩) hS ?_
                                simp only [Act.put, List.getElem_toArray, List.getElem_cons_zero, List.getElem_cons_succ, List.setIfInBounds_toArray, List.set_cons_zero, List.set_cons_succ]
                                refine wpAnyH_take (i := 25) (v := undef) rfl (by kernel_rfl) (by kernel_rfl) (by kernel_rfl) (fun _ _ _ h => h) (Or.inr ⟨by rfl, rfl⟩) hS ?_
                                simp only [Act.put, List.getElem_toArray, List.getElem_cons_zero, List.getElem_cons_succ, List.setIfInBounds_toArray, List.set_cons_zero, List.set_cons_succ]
                                refine wpAnyH_take (i := 26) (v := undef) rfl (by kernel_rfl) (by kernel_rfl) (by kernel_rfl) (fun _ _ _ h => h) (Or.inr ⟨by rfl, rfl⟩) hS ?_
                                simp only [Act.put, List.getElem_toArray, List.getElem_cons_zero, List.getElem_cons_succ, List.setIfInBounds_toArray, List.set_cons_zero, List.set_cons_succ]
                                refine wpAnyH_take (i := 27) (v := undef) rfl (by kernel_rfl) (by kernel_rfl) (by kernel_rfl) (fun _ _ _ h => h) (Or.inr ⟨by rfl, rfl⟩) hS ?_
                                simp only [Act.put, List.getElem_toArray, List.getElem_cons_zero, List.getElem_cons_succ, List.setIfInBounds_toArray, List.set_cons_zero, List.set_cons_succ]
                                refine wpAnyH_take (i := 28) (v := undef) rfl (by kernel_rfl) (by kernel_rfl) (by kernel_rfl) (fun _ _ _ h => h) (Or.inr ⟨by rfl, rfl⟩) hS ?_
                                simp only [Act.put, List.getElem_toArray, List.getElem_cons_zero, List.getElem_cons_succ, List.setIfInBounds_toArray, List.set_cons_zero, List.set_cons_succ]
                                refine wpAnyH_take (i := 29) (v := undef) rfl (by kernel_rfl) (by kernel_rfl) (by kernel_rfl) (fun _ _ _ h => h) (Or.inr ⟨by rfl, rfl⟩) hS ?_
                                simp only [Act.put, List.getElem_toArray, List.getElem_cons_zero, List.getElem_cons_succ, List.setIfInBounds_toArray, List.set_cons_zero, List.set_cons_succ]
                                refine wpAnyH_take (i := 30) (v := undef) rfl (by kernel_rfl) (by kernel_rfl) (by kernel_rfl) (fun _ _ _ h => h) (Or.inr ⟨by rfl, rfl⟩) hS ?_
                                simp only [Act.put, List.getElem_toArray, List.getElem_cons_zero, List.getElem_cons_succ, List.setIfInBounds_toArray, List.set_cons_zero, List.set_cons_succ]
                                refine wpAnyH_take (i := 31) (v := ?_) rfl (by kernel_rfl) (by kernel_rfl) (by kernel_rfl) (fun _ _ _ h => h) (Or.inl ⟨by rfl, ?_⟩) hS ?_
                                rotate_left
                                · intro u hu; (try dsimp only at hu); go_simp; try with_reducible rfl
                                simp only [Act.put, List.getElem_toArray, List.getElem_cons_zero, List.getElem_cons_succ, List.setIfInBounds_toArray, List.set_cons_zero, List.set_cons_succ]
                                refine wpAnyH_done (by kernel_rfl) ?_ _
                                clear hS
                                go_wp2_with fail
                                go_roundw
                                case rel => exact ⟨bb, kk + 1, s, rfl, by go_num, by omega, HSW, (unhide HMX).step b_dr⟩
                                case measure => simp [intOf]; omega
                          · have h1 : ((p2 : Int) != (x : Int)) = true := by simp; omega
                            have h2 : ((q2 : Int) != (x : Int)) = true := by simp; omega
                            have HSW := hide (unhide HSK fun ⟨a1, b1, _, k2, _⟩ => absurd (en_at (unhide HPQ2) k2) hB)
                            clear hB
                            by_cases hpx : p = x
                            · have h3 : ((p : Int) != (x : Int)) = false := by simp [hpx]
                              go_wp2_with fail
                              go_roundw
                              case rel =>
                                exact ⟨bb, kk + 1, s, rfl, by go_num, by omega, HSW, HMX⟩
                              case measure => simp [intOf]; omega
                            · have h3 : ((p : Int) != (x : Int)) = true := by simp; omega
                              have h4 : ((q : Int) != (x : Int)) = false := by simp; omega
                              go_wp2_with fail
                              go_roundw
                              case rel =>
                                exact ⟨bb, kk + 1, s, rfl, by go_num, by omega, HSW, HMX⟩
                              case measure => simp [intOf]; omega
                        · have h1 : ((p : Int) != (x : Int)) = true := by simp; omega
                          have h2 : ((q : Int) != (x : Int)) = true := by simp; omega
                          have HSW := hide (unhide HSK fun ⟨a1, b1, k1, _, _⟩ => absurd (en_at (unhide HPQ) k1) hA)
                          clear hA
                          go_wp2_with fail
                          go_roundw
                          case rel =>
                            exact ⟨bb, kk + 1, s, rfl, by go_num, by omega, HSW, HMX⟩
                          case measure => simp [intOf]; omega
                    · obtain rfl : kk = k := by omega
                      go_wp2_with fail
                      have HP3 := hide ((unhide HPS).to (D' := fun y j _ => y < x ∨ (y = x ∧ j < i + 1)) fun y j l hy hs => by have := hs.lt.2; rw [unhide HN] at this; omega)
                      go_roundw
                      case rel => exact ⟨bb, i + 1, s, rfl, by go_num, by omega, HP3, HM⟩
                      case measure => simp [intOf]; omega
                · obtain rfl : i = k := by omega
                  go_wp2_with fail
                  have HP3 := hide ((unhide HPS).to (D' := fun y _ _ => y < x + 1) fun y j l hy hs => by have := hs.lt.1; rw [unhide HN] at this; omega)
                  go_roundw
                  case rel => exact ⟨bb, x + 1, s, rfl, by go_num, by omega, (unhide HM).rs, HP3, (unhide HM).bg⟩
                  case measure => simp [intOf]; omega
            · obtain rfl : x = V := by omega
              go_wp2_with fail
              go_roundw
              case rel =>
                refine ⟨bb, s, rfl, HR, (unhide HPS).lb, fun hb => ?_, HB⟩
                subst hb
                refine (unhide HPS).done fun y j l hs => ?_
                obtain ⟨a1, b1, h1, _, _⟩ := hs
                rcases en_at (i := j) rfl h1 with h2 | h2
                · rw [← h2]; exact (plat (unhide HP) h1.1).1
                · rw [← h2]; exact (plat (unhide HP) h1.1).2
              case measure =>
                have h1 := RowN.sum (unhide HR)
                have h2 := unhide HSM
                have h3 := (unhide HPS).yes
                rw [unhide HN] at h3
                cases bb with
                | false => simp [runM]
                | true =>
                  have := h3 rfl
                  simp [runM]
                  omega
end Go.Proofs.Ytbecmaandhadhaa.pt


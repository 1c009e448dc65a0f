/-
  The walk of the statement AngleSwitches. Conditions: the graph and the lists lie in memory as told; the table of math/bits lies where it should.
-/
import Derived.Test.YtefagplbpbkpgaaDoorJ15
import Derived.Test.YtefagplbpbkpgaaDoorJ16
import Derived.Test.YtefagplbpbkpgaaDoorJ11
import Derived.Test.YtefagplbpbkpgaaDoorJ19
namespace Go.Proofs.YtefagplbpbkpgaaDoor
open Go.RowKit
set_option linter.unusedVariables false
set_option maxRecDepth 20000
set_option maxHeartbeats 4000000 in
theorem sw_great (w : World) (hT : pt.Tab w) (V : Int) (a : Option Addr) (n cap : Nat) (ra : Option Addr) (m rc : Nat) (rs : List (List Int)) (hr : Rq w ra m rs) (hg : GreatP 60 n m rs) :
    Calls Tryd.prog 6 #[.agg #[.int .i64 V, .slice a n cap], .slice ra m rc] w fun e w' => e = .returned (.bool true) ∧ Below w.heap.size w w' := by
  have HR := hide hr
  have HG := hide hg
  have HB0 := hide (Bg.start w (.int .i64 V) (.slice a n cap))
  have HSP := hide (speaks_any _ (hT.below (unhide HB0).bel))
  clear hr hg hT
  go_enter Tryd.func6, Tryd.ntmps6
  go_wp2_with fail
  refine (unhide HSP).mono ?_
  rintro e w1 ⟨rfl, hb1⟩
  have HB1 := hide ((unhide HB0).step hb1)
  obtain ⟨g0, g1⟩ := (unhide HB1).cells
  clear hb1 HB0 HSP
  go_wp2_with fail
  refine (great_any w1 V a n cap ra m rc rs ((unhide HR).below (unhide HB1).bel) 60 (by decide)).mono ?_
  rintro e w2 ⟨⟨r, rfl, hr⟩, hb2⟩
  have hrt : r = true := hr.2 (unhide HG)
  subst hrt
  have HB2 := hide ((unhide HB1).step hb2)
  clear hb2 HB1 g0 g1 hr
  go_wp2_with fail
  go_ret
  exact ⟨rfl, (unhide HB2).bel⟩
set_option maxHeartbeats 8000000 in
theorem sw_odd (w : World) (hT : pt.Tab w) (V : Int) (a : Option Addr) (n cap : Nat) (ra : Option Addr) (m rc : Nat) (rs : List (List Int)) (hq : Rq w ra m rs) (hg : ¬ GreatP 60 n m rs) (b : Bool)
    (ho : ∀ u, Below w.heap.size w u → Calls Tryd.prog 9 #[.agg #[.int .i64 V, .slice a n cap], .slice ra m rc] u fun e w' => e = .returned (.bool b) ∧ Below u.heap.size u w') (hb : b = true ∨ n = 0) :
    Calls Tryd.prog 6 #[.agg #[.int .i64 V, .slice a n cap], .slice ra m rc] w fun e w' => e = .returned (.bool true) ∧ Below w.heap.size w w' := by
  have HR := hide hq
  have HG := hide hg
  have HB0 := hide (Bg.start w (.int .i64 V) (.slice a n cap))
  have HSP := hide (speaks_any _ (hT.below (unhide HB0).bel))
  have HO := hide ho
  have HBB := hide hb
  clear hq hg hT ho hb
  go_enter Tryd.func6, Tryd.ntmps6
  go_wp2_with fail
  refine (unhide HSP).mono ?_
  rintro e w1 ⟨rfl, hb1⟩
  have HB1 := hide ((unhide HB0).step hb1)
  obtain ⟨g0, g1⟩ := (unhide HB1).cells
  clear hb1 HB0 HSP
  go_wp2_with fail
  refine (great_any w1 V a n cap ra m rc rs ((unhide HR).below (unhide HB1).bel) 60 (by decide)).mono ?_
  rintro e w2 ⟨⟨r, rfl, hr⟩, hb2⟩
  have hrt : r = false := by
    cases r with
    | false => rfl
    | true => exact absurd (hr.1 rfl) (unhide HG)
  subst hrt
  have HB2 := hide ((unhide HB1).step hb2)
  clear hb2 HB1 g0 g1 hr
  obtain ⟨g0, g1⟩ := (unhide HB2).cells
  go_wp2_with fail
  refine (unhide HO w2 (unhide HB2).bel).mono ?_
  rintro e w3 ⟨rfl, hb3⟩
  have HB3 := hide ((unhide HB2).step hb3)
  clear hb3 HB2 g0 g1
  obtain ⟨g0, g1⟩ := (unhide HB3).cells
  cases b with
  | true =>
    go_wp2_with fail
    go_ret
    exact ⟨by first | rfl | simp, (unhide HB3).bel⟩
  | false =>
    obtain rfl : n = 0 := (unhide HBB).resolve_left (by simp)
    go_wp2_with fail
    go_ret
    exact ⟨by first | rfl | simp, (unhide HB3).bel⟩
/-- Low less High, of the first k angles, in a face -/
def lh (A : Nat → Nat → Nat) (k f : Nat) : Int := (cn (fun t => decide (A t 3 = 1 ∧ A t 2 = f)) k : Int) - (cn (fun t => decide (A t 3 = 2 ∧ A t 2 = f)) k : Int)
theorem lh_bd (A : Nat → Nat → Nat) (k f : Nat) : -(k : Int) ≤ lh A k f ∧ lh A k f ≤ k := by
  have h1 : cn (fun t => decide (A t 3 = 1 ∧ A t 2 = f)) k ≤ k := Nat.le_trans (List.length_filter_le _ _) (by simp)
  have h2 : cn (fun t => decide (A t 3 = 2 ∧ A t 2 = f)) k ≤ k := Nat.le_trans (List.length_filter_le _ _) (by simp)
  unfold lh
  omega
theorem lh_succ (A : Nat → Nat → Nat) (k f : Nat) : lh A (k + 1) f = if A k 2 = f then (if A k 3 = 1 then lh A k f + 1 else if A k 3 = 2 then lh A k f - 1 else lh A k f) else lh A k f := by
  unfold lh
  rw [cn_succ, cn_succ]
  by_cases h : A k 2 = f
  · rw [if_pos h]
    by_cases h1 : A k 3 = 1
    · rw [if_pos h1, if_pos (decide_eq_true ⟨h1, h⟩), if_neg (by rw [decide_eq_true_iff]; omega)]
      omega
    · rw [if_neg h1, if_neg (by rw [decide_eq_true_iff]; omega)]
      by_cases h2 : A k 3 = 2
      · rw [if_pos h2, if_pos (decide_eq_true ⟨h2, h⟩)]
        omega
      · rw [if_neg h2, if_neg (by rw [decide_eq_true_iff]; omega)]
        rfl
  · rw [if_neg h, if_neg (by rw [decide_eq_true_iff]; omega), if_neg (by rw [decide_eq_true_iff]; omega)]
    rfl
/-- how many of the first k are High -/
def hh (A : Nat → Nat → Nat) (k : Nat) : Nat := cn (fun t => decide (A t 3 = 2)) k
theorem hh_le (A : Nat → Nat → Nat) (k : Nat) : hh A k ≤ k := Nat.le_trans (List.length_filter_le _ _) (by simp)
theorem hh_succ (A : Nat → Nat → Nat) (k : Nat) : hh A (k + 1) = hh A k + if A k 3 = 2 then 1 else 0 := by
  unfold hh
  rw [cn_succ]
  congr 1
  by_cases h : A k 3 = 2
  · rw [if_pos h, if_pos (decide_eq_true h)]
  · rw [if_neg h, if_neg (by rw [decide_eq_true_iff]; exact h)]
set_option maxHeartbeats 16000000 in
theorem sw_good (w : World) (V : Nat) (a : Option Addr) (n cap : Nat) (es : List (Nat × Nat)) (ra : Option Addr) (m rc : Nat) (q : List (List Nat)) (N : Nat → Nat) (c g : Nat) (h : Gd w V a n cap es ra m rc q N c g) (hq : Rq w ra m (rowsI q)) (hg : ¬ GreatP 60 n m (rowsI q)) (hn : Nice V es c g) (hn0 : 0 < n) :
    Calls Tryd.prog 6 #[.agg #[.int .i64 V, .slice a n cap], .slice ra m rc] w fun e w' => e = .returned (.bool true) ∧ Below w.heap.size w w' := by
  have hn60 : n ≤ 60 := Nat.le_of_not_lt fun h => hg (.inl h)
  have hl200 : ∀ k, k < m → ((rowsI q).getD k []).length ≤ 200 := fun k hk => Nat.le_of_not_lt fun h => hg (.inr (.inr ⟨k, hk, h⟩))
  obtain ⟨F, hF⟩ := fc_ex h.pm
  have hv64 := h.plain.v64
  have HR := hide hq
  have HG := hide hg
  have HB0 := hide (Bg.start w (.int .i64 V) (.slice a n cap))
  have HSP := hide (speaks_any _ (h.tab.below (unhide HB0).bel))
  have HO := hide (fun (u : World) (hu : Below w.heap.size w u) => odd_good u V a n cap es ra m rc q N c g (h.below hu) (fun k hk => by have := hl200 k hk; omega))
  have HA := hide (fun (u : World) (hu : Below w.heap.size w u) => angles_yes u V a n cap es ra m rc q N c g (h.below hu) hn F hF)
  have HFA := hide (fun (u : World) (hu : Below w.heap.size w u) => faces_good u V a n cap (toI es) ((h.below hu).edges) ra m rc q ((h.below hu).rr) h.yes N h.nx h.pm h.lt h.cov)
  have HEN := hide (fun (u : World) (hu : Below w.heap.size w u) => refends_any u V a n cap es ((h.below hu).edges) h.ne h.pl)
  obtain ⟨bb, hbb⟩ : ∃ bb : Bool, (bb = true ↔ Bim (angI (pt.stV es) F N) (2 * n) V) := by
    by_cases hB : Bim (angI (pt.stV es) F N) (2 * n) V
    · exact ⟨true, by simp [hB]⟩
    · exact ⟨false, by simp [hB]⟩
  have HBI := hide (fun (u : World) (hu : Below w.heap.size w u) => show Calls Tryd.prog 10 #[.agg #[.int .i64 V, .slice a n cap], .slice ra m rc] u fun e w' => e = .returned (.bool bb) ∧ Below u.heap.size u w' from (bim_yes u V a n cap es ra m rc q N c g (h.below hu) hn F hF).mono fun e w' hh => by
    obtain ⟨⟨r, rfl, hr⟩, hb⟩ := hh
    have : r = bb := by rw [Bool.eq_iff_iff, hr, hbb]
    subst this
    exact ⟨rfl, hb⟩)
  have hends := ends_count h.ro h.cnt hn.2.1 (by rw [h.ne]; exact hn0)
  have HHI := hide (show bb = true → hh (angI (pt.stV es) F N) (2 * n) + inn es V = n from fun hb => by
    have := high_count (F := F) h.ro h.nx (by rw [h.ne]; exact h.pm) (by rw [h.ne]; exact hbb.1 hb)
    rw [h.ne] at this
    exact this)
  have HLH := hide (show ∀ f, lh (angI (pt.stV es) F N) (2 * n) f = 0 from fun f => by
    have := low_high (F := F) (N := N) (es := es) (by rw [h.ne]; exact h.pm) (by rw [h.ne]; exact hF) f
    rw [h.ne] at this
    unfold lh
    omega)
  have H3 := hide (fun (t : Nat) (ht : t < 2 * n) => show angI (pt.stV es) F N t 3 < 3 from knd_lt _ _)
  have H2 := hide (fun (t : Nat) (ht : t < 2 * n) => show angI (pt.stV es) F N t 2 < (facesF N (2 * n) (2 * n)).length from (hF.cov (oth t) (oth_lt ht)).1)
  have hFl := facesF_len N (2 * n) (2 * n)
  have HN := hide hn
  have hl1 := bare_len (Pl.ins es) V
  clear h hq hg hn hl200 hF hbb
  obtain ⟨A, hA⟩ : ∃ A, angI (pt.stV es) F N = A := ⟨_, rfl⟩
  rw [hA] at HA HHI HLH H3 H2
  obtain ⟨K, hKe⟩ : ∃ K, (facesF N (2 * n) (2 * n)).length = K := ⟨_, rfl⟩
  simp only [hKe] at HFA
  rw [hKe] at H2 hFl
  obtain ⟨H, hH⟩ : ∃ H, 2 * n = H := ⟨_, rfl⟩
  rw [hH] at HA HHI HLH H3 H2 hFl
  simp only [hH] at HFA
  have hH256 : H ≤ 256 := by omega
  have hK256 : K ≤ 256 := by omega
  have hmul : IntKind.i64.wrap (2 * (n : Int)) = (H : Int) := by rw [IntKind.wrap_i64]; omega
  have t0 : ((H : Int) != (H : Int)) = false := by simp
  have tn : ((n : Int) == 0) = false := by rw [beq_eq_false_iff_ne]; omega
  obtain ⟨L, hL⟩ : ∃ L, (bare (Pl.ins es) V).length + (bare (Pl.outs es) V).length = L := ⟨_, rfl⟩
  rw [hL] at hends HEN
  obtain ⟨iv, hiv⟩ : ∃ iv, inn es V = iv := ⟨_, rfl⟩
  rw [hiv] at hends HHI
  have hwL : IntKind.i64.wrap ((V : Int) - (L : Int)) = (iv : Int) := by rw [IntKind.wrap_i64]; omega
  have hwi : IntKind.i64.wrap ((n : Int) - (iv : Int)) = (n : Int) - (iv : Int) := by rw [IntKind.wrap_i64]; omega
  have HLV := hide hends
  obtain ⟨i0, hi0, hz0, hz1, hz2⟩ := info_parts info3
  have HI := hide hi0
  have HZ0 := hide hz0
  have HZ1 := hide hz1
  have hzb : i0.bytes * K ≤ 281474976710656 := by rw [hz2]; omega
  clear hA hKe hH hL hiv hl1 hi0 hz0 hz1 hz2 hends hFl
  go_enter Tryd.func6, Tryd.ntmps6
  go_wp2_with fail
  refine (unhide HSP).mono ?_
  rintro e w1 ⟨rfl, hb1⟩
  have HB1 := hide ((unhide HB0).step hb1)
  obtain ⟨g0, g1⟩ := (unhide HB1).cells
  clear hb1 HB0 HSP
  go_wp2_with fail
  refine (great_any w1 V a n cap ra m rc _ ((unhide HR).below (unhide HB1).bel) 60 (by decide)).mono ?_
  rintro e w2 ⟨⟨r, rfl, hr⟩, hb2⟩
  have hrt : r = false := by
    cases r with
    | false => rfl
    | true => exact absurd (hr.1 rfl) (unhide HG)
  subst hrt
  have HB2 := hide ((unhide HB1).step hb2)
  clear hb2 HB1 g0 g1 hr
  obtain ⟨g0, g1⟩ := (unhide HB2).cells
  go_wp2_with fail
  refine (unhide HO w2 (unhide HB2).bel).mono ?_
  rintro e w3 ⟨⟨r, rfl, hr⟩, hb3⟩
  have hrt : r = false := by
    cases r with
    | false => rfl
    | true => exact absurd (unhide HN) (hr.1 rfl)
  subst hrt
  have HB3 := hide ((unhide HB2).step hb3)
  clear hb3 HB2 g0 g1 hr
  obtain ⟨g0, g1⟩ := (unhide HB3).cells
  go_wp2_with fail
  refine (unhide HFA _ (unhide HB3).bel).mono ?_
  rintro e w4 ⟨⟨fa, fc, rfl, _, _⟩, hb4⟩
  have HB4 := hide ((unhide HB3).step hb4)
  clear hb4 HB3 g0 g1
  go_wp2_with (refine wpList_make_full _ rfl (.tmp 32) (.tmp 32) 37 rfl w4.heap.size 3 i0 (.int .i64 0) 1 Tryd.underlying37 (unhide HI) (unhide HZ0) (unhide HZ1) .i64 .i64 _ _ K rfl rfl rfl rfl hzb ?m1 (Nat.le_refl _) ?_)
  case m1 => unfold maxLen; omega
  intro w5 hown5 hg5
  rw [toList_madeCells_one] at hown5
  have hb5 : Below w4.heap.size w4 w5 := ⟨hg5.os, hg5.tape, hg5.output, hg5.size, fun k hk => hg5.block k hk (by simp)⟩
  obtain ⟨gc, hgc⟩ : ∃ gc, w4.heap.size = gc := ⟨_, rfl⟩
  have HR5 := hide (show RowZ w5 gc K (lh A 0) by rw [← hgc]; exact (Row.of_owns hown5).congr fun t ht => by simp [lh, cn])
  have HB5 := hide ((unhide HB4).step hb5)
  have hgcw : w.heap.size < gc := by have := (unhide HB4).lt; omega
  rw [hgc]
  clear hown5 hg5 hb5 hgc HB4
  obtain ⟨g0, g1⟩ := (unhide HB5).cells
  go_wp2_with fail
  refine (unhide HA _ (unhide HB5).bel).mono ?_
  rintro e w6 ⟨⟨ga, rfl, hga, hrow⟩, hb6⟩
  have HB6 := hide ((unhide HB5).step hb6)
  have HR6 := hide ((unhide HR5).below hb6)
  have HAS := hide (hrow.as hH256)
  have hgal := hrow.lt
  have hg5s := (unhide HR5).lt
  have hne : ¬ ga = gc := by omega
  clear hb6 HB5 HR5 g0 g1 hrow
  obtain ⟨g0, g1⟩ := (unhide HB6).cells
  go_wp2_with fail
  have HBu := hide (But.refl gc w6)
  have HFAR := hide (fun (u : World) (hu : But gc w6 u) (t : Nat) (ht : t < H) => show u.cell? ⟨ga, t * 4, none⟩ = some (.int .i64 (A t 0 : Nat)) ∧ u.cell? ⟨ga, t * 4 + 1, none⟩ = some (.int .i64 (A t 1 : Nat)) ∧ u.cell? ⟨ga, t * 4 + 2, none⟩ = some (.int .i64 (A t 2 : Nat)) ∧ u.cell? ⟨ga, t * 4 + 3, none⟩ = some (.int .i64 (A t 3 : Nat)) from by
    obtain ⟨g', off, ha, hg', c0, c1, c2, c3⟩ := (unhide HAS).2 t ht
    cases ha
    rw [Nat.zero_add] at c0 c1 c2 c3
    have e := hu.far ga hg' hne
    exact ⟨by rw [World.cell?_of_block (w := w6) e]; exact c0, by rw [World.cell?_of_block (w := w6) e]; exact c1, by rw [World.cell?_of_block (w := w6) e]; exact c2, by rw [World.cell?_of_block (w := w6) e]; exact c3⟩)
  have HBG := hide (fun (u : World) (hu : But gc w6 u) => show Bg w u (.int .i64 (V : Int)) (.slice a n cap) from ⟨(unhide HB6).bel.trans (hu.bel.mono (by omega)), by rw [hu.far _ (unhide HB6).lt (by omega)]; exact (unhide HB6).gb⟩)
  clear g0 g1 hga
  go_loopw [6, 46] (fun v6 i wr => ∃ k : Nat, i = .int .i64 k ∧ k ≤ H ∧ v6 = .int .i64 ((hh A k : Nat) : Int) ∧ Hid (RowZ wr gc K (lh A k)) ∧ Hid (But gc w6 wr)) (fun v6 i wr => H - (intOf i).toNat)
  case atStart => exact ⟨0, rfl, by omega, rfl, HR6, HBu⟩
  case round =>
    clear HR6 HBu
    obtain ⟨k, rfl, hk, rfl, HRow, HB⟩ := hrel
    by_cases hkH : k < H
    · have hkH2 : (k : Int) < (H : Int) := by omega
      obtain ⟨c0, c1, c2, c3⟩ := unhide HFAR wr (unhide HB) k hkH
      have hx := unhide H2 k hkH
      have hx3 := unhide H3 k hkH
      have hgw := (unhide HRow).lt
      have hnew : ¬ gc = wr.heap.size := by omega
      have HLS := hide (lh_succ A k)
      have HHS := hide (hh_succ A k)
      have hhl := hh_le A k
      have hbd := lh_bd A k (A k 2)
      have hsz := (unhide HB).size
      have hgl2 : ga < wr.heap.size := by omega
      obtain ⟨a0, ha0⟩ : ∃ z, A k 0 = z := ⟨_, rfl⟩
      obtain ⟨a1, ha1⟩ : ∃ z, A k 1 = z := ⟨_, rfl⟩
      obtain ⟨a2, ha2⟩ : ∃ z, A k 2 = z := ⟨_, rfl⟩
      obtain ⟨a3, ha3⟩ : ∃ z, A k 3 = z := ⟨_, rfl⟩
      rw [ha0] at c0
      rw [ha1] at c1
      rw [ha2] at c2 hx hbd
      rw [ha3] at c3 hx3
      have HA2 := hide ha2
      have HA3 := hide ha3
      clear ha0 ha1 ha2 ha3
      have r0 := (unhide HRow).cell hx
      have r1 := (unhide HRow).fz a2
      obtain ⟨z, hz⟩ : ∃ z, lh A k a2 = z := ⟨_, rfl⟩
      rw [hz] at r0 hbd
      have HZ := hide hz
      obtain ⟨hv, hhv⟩ : ∃ z, hh A k = z := ⟨_, rfl⟩
      rw [hhv] at hhl
      have HHV := hide hhv
      rw [hhv]
      have hW1 : IntKind.i64.wrap (z + 1) = z + 1 := by rw [IntKind.wrap_i64]; omega
      have hW2 : IntKind.i64.wrap (z - 1) = z - 1 := by rw [IntKind.wrap_i64]; omega
      have hW3 : IntKind.i64.wrap ((hv : Int) + 1) = (hv : Int) + 1 := by rw [IntKind.wrap_i64]; omega
      have hlo : ¬ (a2 : Int) < 0 := by omega
      have hhi : ¬ (K : Int) ≤ (a2 : Int) := by omega
      have HBA := hide (fun (o : Obj) => show But gc w6 (wr.alloc o) from (unhide HB).trans (But.of ((Below.refl _ _).alloc (Nat.le_refl _) _) (by omega)))
      have HBA2 := hide (fun (o : Obj) (y : Int) => show But gc w6 ((wr.setCell ⟨gc, a2, none⟩ (.int .i64 y)).alloc o) from ((unhide HB).trans (But.set a2 (.int .i64 y))).trans (But.of ((Below.refl _ _).alloc (Nat.le_refl _) _) (by simp; omega)))
      clear hz hbd hhv
      have h3 : a3 = 1 ∨ a3 = 2 ∨ a3 = 0 := by omega
      rcases h3 with rfl | rfl | rfl
      · have HRN := hide (fun (o : Obj) => show RowZ ((wr.setCell ⟨gc, a2, none⟩ (.int .i64 (z + 1))).alloc o) gc K (lh A (k + 1)) from (Row.congr (RowZ.set (unhide HRow) a2 (z + 1)) fun t ht => by
          have := unhide HLS t
          rw [unhide HA2, unhide HA3] at this
          unfold upd
          by_cases he : t = a2
          · subst he; rw [if_pos rfl, if_pos rfl, unhide HZ] at this; rw [if_pos rfl, this]
          · rw [if_neg (fun e => he e.symm)] at this; rw [if_neg he, this]).below ((Below.refl _ _).alloc (Nat.le_refl _) _))
        have HH1 := hide (show hh A (k + 1) = hv by rw [unhide HHS, unhide HA3, unhide HHV]; rfl)
        clear hx3
        go_wp2_with fail
        go_roundw
        case rel => exact ⟨k + 1, by go_num, by omega, by rw [unhide HH1], hide (unhide HRN _), hide (unhide HBA2 _ _)⟩
        case measure => simp [intOf]; omega
      · have HRN := hide (fun (o : Obj) => show RowZ ((wr.setCell ⟨gc, a2, none⟩ (.int .i64 (z - 1))).alloc o) gc K (lh A (k + 1)) from (Row.congr (RowZ.set (unhide HRow) a2 (z - 1)) fun t ht => by
          have := unhide HLS t
          rw [unhide HA2, unhide HA3] at this
          unfold upd
          by_cases he : t = a2
          · subst he; rw [if_pos rfl, if_neg (by decide), if_pos rfl, unhide HZ] at this; rw [if_pos rfl, this]
          · rw [if_neg (fun e => he e.symm)] at this; rw [if_neg he, this]).below ((Below.refl _ _).alloc (Nat.le_refl _) _))
        have HH1 := hide (show hh A (k + 1) = hv + 1 by rw [unhide HHS, unhide HA3, unhide HHV]; rfl)
        clear hx3
        go_wp2_with fail
        go_roundw
        case rel => exact ⟨k + 1, by go_num, by omega, by rw [unhide HH1]; go_num, hide (unhide HRN _), hide (unhide HBA2 _ _)⟩
        case measure => simp [intOf]; omega
      · have HRN := hide (fun (o : Obj) => show RowZ (wr.alloc o) gc K (lh A (k + 1)) from (Row.congr (unhide HRow) fun t ht => by
          have := unhide HLS t
          rw [unhide HA3] at this
          by_cases he : A k 2 = t
          · rw [if_pos he, if_neg (by decide), if_neg (by decide)] at this; rw [this]
          · rw [if_neg he] at this; rw [this]).below ((Below.refl _ _).alloc (Nat.le_refl _) _))
        have HH1 := hide (show hh A (k + 1) = hv by rw [unhide HHS, unhide HA3, unhide HHV]; rfl)
        clear hx3
        go_wp2_with fail
        go_roundw
        case rel => exact ⟨k + 1, by go_num, by omega, by rw [unhide HH1], hide (unhide HRN _), hide (unhide HBA _)⟩
        case measure => simp [intOf]; omega
    · obtain rfl : k = H := by omega
      have HBX := hide (unhide HBG wr (unhide HB))
      have HZR := hide (show RowZ wr gc K (fun _ => 0) from Row.congr (unhide HRow) fun t ht => by rw [unhide HLH t])
      have hhl := hh_le A k
      obtain ⟨hv, hhv⟩ : ∃ z, hh A k = z := ⟨_, rfl⟩
      rw [hhv] at HHI hhl
      rw [hhv]
      clear HRow HBG HFAR HB hhv
      obtain ⟨w7, rfl⟩ : ∃ w7, w7 = wr := ⟨_, rfl⟩
      go_wp2_with fail
      go_loopw [85] (fun i wx => ∃ j : Nat, i = .int .i64 j ∧ j ≤ K ∧ wx = w7) (fun i wx => K - (intOf i).toNat)
      case atStart => exact ⟨0, rfl, by omega, rfl⟩
      case round =>
        obtain ⟨j, rfl, hj, hwe⟩ := hrel
        subst hwe
        by_cases hjK : j < K
        · have hjK2 : (j : Int) < (K : Int) := by omega
          have r0 := (unhide HZR).cell hjK
          go_wp2_with fail
          go_roundw
          case rel => exact ⟨j + 1, by go_num, by omega, (by first | rfl | trivial)⟩
          case measure => simp [intOf]; omega
        · obtain rfl : j = K := by omega
          go_upto_region 27 with fail
          have XD := hide ((unhide HBX).step b_dr)
          refine wp_region_held_drew (S := fun u => u.cell? ⟨w.heap.size, 0, none⟩ = some (.int .i64 (V : Int)) ∧ u.cell? ⟨w.heap.size, 1, none⟩ = some (.slice a n cap)) (by kernel_rfl) (unhide XD).cells (fun hS => ?_)
          generalize wr.drew = wd at XD hS ⊢
          refine wpAnyH_take (i := 0) (v := ?_) rfl (by kernel_rfl) (by kernel_rfl) (by kernel_rfl) (fun _ _ _ h => h) (Or.inl ⟨by rfl, ?_⟩) hS ?_
          rotate_left
          · intro u hu; (try dsimp only at hu); go_simp; try with_reducible rfl
          simp only [Act.put, List.getElem_toArray, List.getElem_cons_zero, List.setIfInBounds_toArray, List.set_cons_zero, List.set_cons_succ]
          refine wpAnyH_take (i := 1) (v := ?_) rfl (by kernel_rfl) (by kernel_rfl) (by kernel_rfl) (fun _ _ _ h => h) (Or.inl ⟨by rfl, ?_⟩) hS ?_
          rotate_left
          · intro u hu; (try dsimp only at hu); go_simp; try with_reducible rfl
          simp only [Act.put, List.getElem_toArray, List.getElem_cons_zero, List.getElem_cons_succ, List.setIfInBounds_toArray, List.set_cons_zero, List.set_cons_succ]
          refine wpAnyH_take (i := 2) (v := ?_) rfl (by kernel_rfl) (by kernel_rfl) (by kernel_rfl) (fun _ _ _ h => h) (Or.inl ⟨by rfl, ?_⟩) hS ?_
          rotate_left
          · intro u hu; (try dsimp only at hu); go_simp; try with_reducible rfl
          simp only [Act.put, List.getElem_toArray, List.getElem_cons_zero, List.getElem_cons_succ, List.setIfInBounds_toArray, List.set_cons_zero, List.set_cons_succ]
          refine wpAnyH_ready (rs := [3]) (by kernel_rfl) (by simp) ?_
          refine AllReadyH.cons rfl (fun K hK => ?_) AllReadyH.nil
          go_simp
          go_wp2_with (go_at_call 17; refine (unhide HEN _ (unhide XD).bel).mono ?_; rintro e w8 ⟨⟨v8, rfl, ho8⟩, hb8⟩; have X8 := hide ((unhide XD).step hb8); have HO8 := hide ho8; clear hb8 ho8)
          obtain ⟨ea, ec, rfl, _⟩ := owns_slice3 (unhide HO8)
          refine hK.out _ _ (unhide X8).cells (fun hS2 => ?_)
          clear hK K hS HO8 XD
          refine wpAnyH_take (i := 4) (v := ?_) rfl (by kernel_rfl) (by kernel_rfl) (by kernel_rfl) (fun _ _ _ h => h) (Or.inl ⟨by rfl, ?_⟩) hS2 ?_
          rotate_left
          · intro u hu; (try dsimp only at hu); go_simp; try with_reducible rfl
          simp only [Act.put, List.getElem_toArray, List.getElem_cons_zero, List.getElem_cons_succ, List.setIfInBounds_toArray, List.set_cons_zero, List.set_cons_succ]
          refine wpAnyH_take (i := 5) (v := ?_) rfl (by kernel_rfl) (by kernel_rfl) (by kernel_rfl) (fun _ _ _ h => h) (Or.inl ⟨by rfl, ?_⟩) hS2 ?_
          rotate_left
          · intro u hu; (try dsimp only at hu); go_simp; try with_reducible rfl
          simp only [Act.put, List.getElem_toArray, List.getElem_cons_zero, List.getElem_cons_succ, List.setIfInBounds_toArray, List.set_cons_zero, List.set_cons_succ]
          refine wpAnyH_take (i := 6) (v := ?_) rfl (by kernel_rfl) (by kernel_rfl) (by kernel_rfl) (fun _ _ _ h => h) (Or.inl ⟨by rfl, ?_⟩) hS2 ?_
          rotate_left
          · intro u hu; (try dsimp only at hu); go_simp; try with_reducible rfl
          simp only [Act.put, List.getElem_toArray, List.getElem_cons_zero, List.getElem_cons_succ, List.setIfInBounds_toArray, List.set_cons_zero, List.set_cons_succ]
          refine wpAnyH_done (by kernel_rfl) ?_ _
          obtain ⟨g0, g1⟩ := (unhide X8).cells
          clear hS2
          go_wp2_with fail
          refine (unhide HBI _ (unhide X8).bel).mono ?_
          rintro e w9 ⟨rfl, hb9⟩
          have X9 := hide ((unhide X8).step hb9)
          clear hb9 g0 g1
          obtain ⟨g0, g1⟩ := (unhide X9).cells
          cases bb with
          | true =>
            have hfin : (hv : Int) = (n : Int) - (iv : Int) := by have := unhide HHI rfl; omega
            have hfb : ((hv : Int) == (n : Int) - (iv : Int)) = true := by rw [hfin]; simp
            clear hfin
            go_wp2_with fail
            go_ret
            exact ⟨by first | rfl | simp, (unhide X9).bel⟩
          | false =>
            go_wp2_with fail
            go_ret
            exact ⟨by first | rfl | simp, (unhide X9).bel⟩
theorem sw_any (w : World) (hT : pt.Tab w) (V : Int) (a : Option Addr) (n cap : Nat) (zs : List (Int × Int)) (h : 200 < n ∨ Es 0 w a n zs) (hno : a = none → n = 0 ∧ cap = 0) (ra : Option Addr) (m rc : Nat) (rs : List (List Int)) (hq : Rq w ra m rs) :
    Calls Tryd.prog 6 #[.agg #[.int .i64 V, .slice a n cap], .slice ra m rc] w fun e w' => e = .returned (.bool true) ∧ Below w.heap.size w w' := by
  by_cases hg : GreatP 60 n m rs
  · exact sw_great w hT V a n cap ra m rc rs hq hg
  have hn60 : n ≤ 60 := Nat.le_of_not_lt fun h => hg (.inl h)
  have hm70 : m ≤ 70 := Nat.le_of_not_lt fun h => hg (.inr (.inl h))
  have hl200 : ∀ k, k < m → (rs.getD k []).length ≤ 200 := fun k hk => Nat.le_of_not_lt fun h => hg (.inr (.inr ⟨k, hk, h⟩))
  have hE : Es 0 w a n zs := h.resolve_left (by omega)
  have hr : Rr w ra m rs := hq.rr (by omega) fun k hk => by have := hl200 k hk; omega
  by_cases hrot : IsRot V n zs rs
  · obtain ⟨v, es, rfl, rfl, hne, hp⟩ := pt.plain_of_good hE.1 hrot.good
    subst hne
    obtain ⟨q, rfl, ro⟩ := pt.ro_of hp hrot
    obtain ⟨c, hc⟩ := pt.cnt_ex v es
    obtain ⟨g, hgg⟩ := pt.euler ro (pt.nx_behind ro) (pt.nx_pm ro (pt.nx_behind ro)) hc
    have gd : Gd w v a es.length cap es ra m rc q (pt.nxF es q) c g := ⟨hT, hE, hno, rfl, hp, hr, hrot, ro, pt.nx_behind ro, hc, hgg⟩
    have ho : ∀ (b : Bool), (b = true ↔ ¬ Nice v es c g) → ∀ u, Below w.heap.size w u → Calls Tryd.prog 9 #[.agg #[.int .i64 (v : Int), .slice a es.length cap], .slice ra m rc] u fun e w' => e = .returned (.bool b) ∧ Below u.heap.size u w' := fun b hb u hu => (odd_good u v a _ cap es ra m rc q _ c g (gd.below hu) (fun k hk => by have := hl200 k hk; omega)).mono fun e w' hh => by
      obtain ⟨⟨r, rfl, hr⟩, hbl⟩ := hh
      have : r = b := by rw [Bool.eq_iff_iff, hr, hb]
      subst this
      exact ⟨rfl, hbl⟩
    by_cases hnice : Nice v es c g
    · rcases Nat.eq_zero_or_pos es.length with h0 | h0
      · exact sw_odd w hT v a _ cap ra m rc _ hq hg false (ho false (by simp [hnice])) (.inr h0)
      · exact sw_good w v a _ cap es ra m rc q _ c g gd hq hg hnice h0
    · exact sw_odd w hT v a _ cap ra m rc _ hq hg true (ho true (by simp [hnice])) (.inl rfl)
  · exact sw_odd w hT V a n cap ra m rc rs hq hg true (fun u hu => odd_bad u V a n cap zs (hE.below hu) ra m rc rs (hr.below hu) (fun k hk => by have := hl200 k hk; omega) (by omega) hrot) (.inl rfl)
end Go.Proofs.YtefagplbpbkpgaaDoor

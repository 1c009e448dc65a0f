/-
  The walk of the statement LinesTexts: it answers true. Conditions: the graph's edges lie in memory as told, and strconv's table is as its text lays it.
-/
import Derived.Test.YtdcfhdpbpfgohaaDoorText
import Derived.Test.YtdcfhdpbpfgohaaDoorRefText
import Derived.Test.YtdcfhdpbpfgohaaDoorMay
import Derived.Test.YtdcfhdpbpfgohaaDoorConv
import Derived.Test.YtdcfhdpbpfgohaaDoorSame
import Derived.Test.YtdcfhdpbpfgohaaDoorSpeaks
namespace Go.Proofs.YtdcfhdpbpfgohaaDoor
open Go.RowKit
set_option linter.unusedVariables false

/-- a graph that may be, in small numbers -/
theorem good_nat {V : Int} {n : Nat} {es : List (Int × Int)} (hl : es.length = n) (h : Good V n es) :
    ∃ (v : Nat) (ns : List (Nat × Nat)), V = (v : Int) ∧ es = toI ns ∧ 1 ≤ v ∧ v ≤ 64 ∧ n ≤ 128 ∧ ∀ e ∈ ns, e.1 < v ∧ e.2 < v := by
  obtain ⟨h1, h2, h3, h4⟩ := h
  have hall : ∀ e ∈ es, OkE V e := by
    intro e he
    obtain ⟨k, hk, rfl⟩ := List.mem_iff_getElem.1 he
    have := h4 k (by omega)
    simpa [hk] using this
  refine ⟨V.toNat, es.map fun e => (e.1.toNat, e.2.toNat), by omega, ?_, by omega, by omega, h3, ?_⟩
  · unfold toI
    rw [List.map_map]
    conv => lhs; rw [← List.map_id es]
    apply List.map_congr_left
    intro e he
    obtain ⟨a1, a2, a3, a4⟩ := hall e he
    obtain ⟨x, y⟩ := e
    simp only [id, Function.comp] at *
    rw [Int.toNat_of_nonneg a1, Int.toNat_of_nonneg a2]
  · intro e he
    obtain ⟨e0, he0, rfl⟩ := List.mem_map.1 he
    obtain ⟨a1, a2, a3, a4⟩ := hall e0 he0
    simp only
    omega

set_option maxHeartbeats 2000000 in
theorem texts_no (w : World) (V : Int) (a : Option Addr) (n cap : Nat) (es : List (Int × Int)) {B : Nat} (h : Es B w a n es) (hG : ¬ Good V n es) :
    Calls Tryd.prog 3 #[.agg #[.int .i64 V, .slice a n cap]] w fun e w' => e = .returned (.bool true) ∧ Below w.heap.size w w' := by
  have HE := hide h
  have HG := hide hG
  clear h hG
  go_enter Tryd.func3, Tryd.ntmps3
  go_wp2_with fail
  have hb0 : Below w.heap.size w (w.alloc (.cells #[.int .i64 V, .slice a n cap] 24)) := (Below.refl _ _).alloc (Nat.le_refl _) _
  refine (speaks_any _).mono ?_
  rintro e w1 ⟨rfl, hb1⟩
  have d0 : w1.cell? ⟨w.heap.size, 0, none⟩ = some (.int .i64 V) := by rw [hb1.cell (p := ⟨w.heap.size, 0, none⟩) (by simp)]; simp
  have d1 : w1.cell? ⟨w.heap.size, 1, none⟩ = some (.slice a n cap) := by rw [hb1.cell (p := ⟨w.heap.size, 1, none⟩) (by simp)]; simp
  have HB1 := hide (hb0.trans (hb1.mono (by simp)))
  clear hb0 hb1
  go_wp2_with fail
  refine (may_any _ V a n cap es ((unhide HE).below (unhide HB1))).mono ?_
  rintro e w2 ⟨⟨r, rfl, hr⟩, hb2⟩
  obtain rfl : r = false := by
    cases r with
    | false => rfl
    | true => exact absurd (hr.1 rfl) (unhide HG)
  have HB2 := hide ((unhide HB1).trans (hb2.mono (unhide HB1).size))
  clear hb2 hr
  go_wp2_with fail
  go_ret
  exact ⟨rfl, unhide HB2⟩

theorem fit_bad {v : Nat} {ns : List (Nat × Nat)} (h : ∀ e ∈ ns, e.1 < v ∧ e.2 < v) : ∀ k, k < ns.length → badB v ((toI ns).getD k (0, 0)) = false := by
  intro k hk
  rw [toI_getD]
  have := h (ns.getD k (0, 0)) (by simp [hk])
  simp only [badB, decide_eq_false_iff_not]
  omega

/-- behind a call of Read: its two results in boxes -/
theorem box2 {w w6 : World} {g1 g2 f1 f2 f3 : Value} (hb : Below (w.heap.size + 2) ((w.alloc (.cells #[g1, g2] 24)).alloc (.cells #[f1, f2, f3] 31)) w6) :
    (w6.cell? ⟨w.heap.size, 0, none⟩ = some g1 ∧ w6.cell? ⟨w.heap.size, 1, none⟩ = some g2 ∧ w6.cell? ⟨w.heap.size + 1, 0, none⟩ = some f1 ∧ w6.cell? ⟨w.heap.size + 1, 1, none⟩ = some f2) ∧
      Below w.heap.size w w6 ∧ w.heap.size + 2 ≤ w6.heap.size := by
  have hs := hb.size
  simp at hs
  have gb : w6.heap[w.heap.size]? = some (.cells #[g1, g2] 24) := by
    rw [hb.block _ (by omega), Below.heap_alloc _ _ _ (by simp)]
    exact (MapKept.heap_alloc w _).1
  have fb : w6.heap[w.heap.size + 1]? = some (.cells #[f1, f2, f3] 31) := by
    rw [hb.block _ (by omega)]
    have := (MapKept.heap_alloc (w.alloc (.cells #[g1, g2] 24)) (.cells #[f1, f2, f3] 31)).1
    rw [World.size_alloc] at this
    exact this
  exact ⟨⟨by simp [World.cell?, gb], by simp [World.cell?, gb], by simp [World.cell?, fb], by simp [World.cell?, fb]⟩,
    (((Below.refl _ w).alloc (Nat.le_refl _) _).alloc (by simp) _).trans (hb.mono (by omega)), hs⟩

set_option maxHeartbeats 4000000 in
theorem texts_fit (w : World) (v : Nat) (a : Option Addr) (n cap : Nat) (ns : List (Nat × Nat)) {B : Nat} (h : Es B w a n (toI ns)) (hG : Good v n (toI ns)) (hv : v ≤ 24) (hn : n ≤ 40) (hs : ∀ e ∈ ns, e.1 < v ∧ e.2 < v) (ht : Tab w) :
    Calls Tryd.prog 3 #[.agg #[.int .i64 v, .slice a n cap]] w fun e w' => e = .returned (.bool true) ∧ Below w.heap.size w w' := by
  have hl : ns.length = n := by simpa [toI] using h.1
  have h1 : 1 ≤ v := by have := hG.1; omega
  have hs6 : ∀ e ∈ ns, e.1 ≤ 999999 ∧ e.2 ≤ 999999 := fun e he => by have := hs e he; omega
  have hgt := Pl.graph_text v ns (by omega) (by omega) hs6
  have htl := Pl.text_len v ns (by omega) (by omega) hs6
  have hfb := fit_bad hs
  have hff : fitsB v ns.length = true := by simp only [fitsB, decide_eq_true_eq]; omega
  have HE := hide h
  have HG := hide hG
  have HS := hide hs6
  have HL := hide hl
  have HT := hide ht
  have HGT := hide hgt
  have HTL := hide htl
  have HFB := hide hfb
  have HFF := hide hff
  clear h hG hs hs6 ht hgt htl hfb hff
  go_enter Tryd.func3, Tryd.ntmps3
  go_wp2_with fail
  have hb0 : Below w.heap.size w (w.alloc (.cells #[.int .i64 v, .slice a n cap] 24)) := (Below.refl _ _).alloc (Nat.le_refl _) _
  refine (speaks_any _).mono ?_
  rintro e w1 ⟨rfl, hb1⟩
  have d0 : w1.cell? ⟨w.heap.size, 0, none⟩ = some (.int .i64 v) := by rw [hb1.cell (p := ⟨w.heap.size, 0, none⟩) (by simp)]; simp
  have d1 : w1.cell? ⟨w.heap.size, 1, none⟩ = some (.slice a n cap) := by rw [hb1.cell (p := ⟨w.heap.size, 1, none⟩) (by simp)]; simp
  have hz1 : w.heap.size < w1.heap.size := by have := hb1.size; simp at this; omega
  have HB1 := hide (hb0.trans (hb1.mono (by simp)))
  clear hb0 hb1
  go_wp2_with fail
  refine (may_any _ v a n cap _ ((unhide HE).below (unhide HB1))).mono ?_
  rintro e w2 ⟨⟨r, rfl, hr⟩, hb2⟩
  obtain rfl : r = true := hr.2 (unhide HG)
  have e0 : w2.cell? ⟨w.heap.size, 0, none⟩ = some (.int .i64 v) := by rw [hb2.cell (p := ⟨w.heap.size, 0, none⟩) hz1]; exact d0
  have e1 : w2.cell? ⟨w.heap.size, 1, none⟩ = some (.slice a n cap) := by rw [hb2.cell (p := ⟨w.heap.size, 1, none⟩) hz1]; exact d1
  have hz2 : w.heap.size < w2.heap.size := by have := hb2.size; omega
  have HB2 := hide ((unhide HB1).trans (hb2.mono (unhide HB1).size))
  clear hb2 hr d0 d1 hz1
  go_wp2_with fail
  refine (text_any _ v a n cap ns ((unhide HE).below (unhide HB2)) (by omega) (by omega) (unhide HS) (tab_below (unhide HT) (unhide HB2))).mono ?_
  rintro e w3 ⟨rfl, hb3⟩
  have d0 : w3.cell? ⟨w.heap.size, 0, none⟩ = some (.int .i64 v) := by rw [hb3.cell (p := ⟨w.heap.size, 0, none⟩) hz2]; exact e0
  have d1 : w3.cell? ⟨w.heap.size, 1, none⟩ = some (.slice a n cap) := by rw [hb3.cell (p := ⟨w.heap.size, 1, none⟩) hz2]; exact e1
  have hz3 : w.heap.size < w3.heap.size := by have := hb3.size; omega
  have HB3 := hide ((unhide HB2).trans (hb3.mono (unhide HB2).size))
  clear hb3 e0 e1 hz2
  obtain ⟨c4, cur4, w4, kc, hb4, hz4', hbs4, _, _⟩ := conv_bytes w3 (Pl.text v ns)
  have e0 : w4.cell? ⟨w.heap.size, 0, none⟩ = some (.int .i64 v) := by rw [hb4.cell (p := ⟨w.heap.size, 0, none⟩) hz3]; exact d0
  have e1 : w4.cell? ⟨w.heap.size, 1, none⟩ = some (.slice a n cap) := by rw [hb4.cell (p := ⟨w.heap.size, 1, none⟩) hz3]; exact d1
  have hz4 : w.heap.size < w4.heap.size := by have := hb4.size; omega
  have HB4 := hide ((unhide HB3).trans (hb4.mono (unhide HB3).size))
  have HBS4 := hide hbs4
  clear hb4 d0 d1 hz4' hbs4
  go_wp2_with fail
  refine (read_ok _ _ _ c4 _ (unhide HBS4) (by have := unhide HTL; have := unhide HL; omega) _ _ _ (unhide HGT) (unhide HFF) (unhide HFB)).mono ?_
  rintro e w5 ⟨ae, ce, rfl, hE5, hb5⟩
  have d0 : w5.cell? ⟨w.heap.size, 0, none⟩ = some (.int .i64 v) := by rw [hb5.cell (p := ⟨w.heap.size, 0, none⟩) hz4]; exact e0
  have d1 : w5.cell? ⟨w.heap.size, 1, none⟩ = some (.slice a n cap) := by rw [hb5.cell (p := ⟨w.heap.size, 1, none⟩) hz4]; exact e1
  have hz5 : w.heap.size < w5.heap.size := by have := hb5.size; omega
  have HB5 := hide ((unhide HB4).trans (hb5.mono (unhide HB4).size))
  have HE5 := hide hE5
  clear hb5 e0 e1 hz4 hE5
  rw [hl] at HE5
  go_wp2_with fail
  have hA : Below (w5.heap.size + 2) ((w5.alloc (.cells #[.int .i64 v, .slice ae n ce] 24)).alloc (.cells #[.int .i64 0, .int .i64 0, .slice none 0 0] 31)) _ := Below.refl _ _
  have hbA := (box2 hA).2.1
  refine (refFits_any _ v a n cap _ ((unhide HE).below ((unhide HB5).trans (hbA.mono (unhide HB5).size)))).mono ?_
  rintro e w6 ⟨⟨r, rfl, hr⟩, hb6⟩
  obtain rfl : r = true := hr.2 ⟨unhide HG, by omega, by omega⟩
  have hA6 := hA.trans (hb6.mono (by simp))
  obtain ⟨⟨g0, g1, f0, f1⟩, hB6, hz6⟩ := box2 hA6
  have e0 : w6.cell? ⟨w.heap.size, 0, none⟩ = some (.int .i64 v) := by rw [hB6.cell (p := ⟨w.heap.size, 0, none⟩) hz5]; exact d0
  have e1 : w6.cell? ⟨w.heap.size, 1, none⟩ = some (.slice a n cap) := by rw [hB6.cell (p := ⟨w.heap.size, 1, none⟩) hz5]; exact d1
  have HA6 := hide hA6
  have HB6 := hide ((unhide HB5).trans (hB6.mono (unhide HB5).size))
  clear hA hbA hb6 hr hA6 hB6 g0 g1 f0 f1
  go_wp2_with fail
  refine (refText_any _ v a n cap ns ((unhide HE).below (unhide HB6)) (by omega) (by omega) (unhide HS)).mono ?_
  rintro e w7 ⟨rfl, hb7⟩
  obtain ⟨⟨g0, g1, f0, f1⟩, hB7, hz7⟩ := box2 ((unhide HA6).trans (hb7.mono hz6))
  have d0' : w7.cell? ⟨w.heap.size, 0, none⟩ = some (.int .i64 v) := by rw [hB7.cell (p := ⟨w.heap.size, 0, none⟩) hz5]; exact d0
  have d1' : w7.cell? ⟨w.heap.size, 1, none⟩ = some (.slice a n cap) := by rw [hB7.cell (p := ⟨w.heap.size, 1, none⟩) hz5]; exact d1
  have HB7 := hide ((unhide HB5).trans (hB7.mono (unhide HB5).size))
  have HE7 := hide ((unhide HE5).below hB7)
  clear hb7 hB7 d0 d1 e0 e1
  go_wp2_with fail
  refine (graph_same _ v ae a n ce cap (toI ns) (unhide HE7) ((unhide HE).below (unhide HB7))).mono ?_
  rintro e w8 ⟨rfl, hb8⟩
  have HB8 := hide ((unhide HB7).trans (hb8.mono (unhide HB7).size))
  clear hb8
  go_wp2_with fail
  go_ret
  exact ⟨rfl, unhide HB8⟩
set_option maxHeartbeats 4000000 in
theorem texts_large (w : World) (v : Nat) (a : Option Addr) (n cap : Nat) (ns : List (Nat × Nat)) {B : Nat} (h : Es B w a n (toI ns)) (hG : Good v n (toI ns)) (hno : ¬ (v ≤ 24 ∧ n ≤ 40)) (hs : ∀ e ∈ ns, e.1 < v ∧ e.2 < v) (ht : Tab w) :
    Calls Tryd.prog 3 #[.agg #[.int .i64 v, .slice a n cap]] w fun e w' => e = .returned (.bool true) ∧ Below w.heap.size w w' := by
  have hl : ns.length = n := by simpa [toI] using h.1
  have h1 : 1 ≤ v := by have := hG.1; omega
  have hv : v ≤ 64 := by have := hG.2.1; omega
  have hn : n ≤ 128 := hG.2.2.1
  have HNO := hide hno
  clear hno
  have hs6 : ∀ e ∈ ns, e.1 ≤ 999999 ∧ e.2 ≤ 999999 := fun e he => by have := hs e he; omega
  have hgt := Pl.graph_text v ns (by omega) (by omega) hs6
  have htl := Pl.text_len v ns (by omega) (by omega) hs6
  have hff : fitsB v ns.length = false := by have := unhide HNO; simp only [fitsB, decide_eq_false_iff_not]; omega
  have HE := hide h
  have HG := hide hG
  have HS := hide hs6
  have HL := hide hl
  have HT := hide ht
  have HGT := hide hgt
  have HTL := hide htl
  have HFF := hide hff
  clear h hG hs hs6 ht hgt htl hff
  go_enter Tryd.func3, Tryd.ntmps3
  go_wp2_with fail
  have hb0 : Below w.heap.size w (w.alloc (.cells #[.int .i64 v, .slice a n cap] 24)) := (Below.refl _ _).alloc (Nat.le_refl _) _
  refine (speaks_any _).mono ?_
  rintro e w1 ⟨rfl, hb1⟩
  have d0 : w1.cell? ⟨w.heap.size, 0, none⟩ = some (.int .i64 v) := by rw [hb1.cell (p := ⟨w.heap.size, 0, none⟩) (by simp)]; simp
  have d1 : w1.cell? ⟨w.heap.size, 1, none⟩ = some (.slice a n cap) := by rw [hb1.cell (p := ⟨w.heap.size, 1, none⟩) (by simp)]; simp
  have hz1 : w.heap.size < w1.heap.size := by have := hb1.size; simp at this; omega
  have HB1 := hide (hb0.trans (hb1.mono (by simp)))
  clear hb0 hb1
  go_wp2_with fail
  refine (may_any _ v a n cap _ ((unhide HE).below (unhide HB1))).mono ?_
  rintro e w2 ⟨⟨r, rfl, hr⟩, hb2⟩
  obtain rfl : r = true := hr.2 (unhide HG)
  have e0 : w2.cell? ⟨w.heap.size, 0, none⟩ = some (.int .i64 v) := by rw [hb2.cell (p := ⟨w.heap.size, 0, none⟩) hz1]; exact d0
  have e1 : w2.cell? ⟨w.heap.size, 1, none⟩ = some (.slice a n cap) := by rw [hb2.cell (p := ⟨w.heap.size, 1, none⟩) hz1]; exact d1
  have hz2 : w.heap.size < w2.heap.size := by have := hb2.size; omega
  have HB2 := hide ((unhide HB1).trans (hb2.mono (unhide HB1).size))
  clear hb2 hr d0 d1 hz1
  go_wp2_with fail
  refine (text_any _ v a n cap ns ((unhide HE).below (unhide HB2)) (by omega) (by omega) (unhide HS) (tab_below (unhide HT) (unhide HB2))).mono ?_
  rintro e w3 ⟨rfl, hb3⟩
  have d0 : w3.cell? ⟨w.heap.size, 0, none⟩ = some (.int .i64 v) := by rw [hb3.cell (p := ⟨w.heap.size, 0, none⟩) hz2]; exact e0
  have d1 : w3.cell? ⟨w.heap.size, 1, none⟩ = some (.slice a n cap) := by rw [hb3.cell (p := ⟨w.heap.size, 1, none⟩) hz2]; exact e1
  have hz3 : w.heap.size < w3.heap.size := by have := hb3.size; omega
  have HB3 := hide ((unhide HB2).trans (hb3.mono (unhide HB2).size))
  clear hb3 e0 e1 hz2
  obtain ⟨c4, cur4, w4, kc, hb4, hz4', hbs4, _, _⟩ := conv_bytes w3 (Pl.text v ns)
  have e0 : w4.cell? ⟨w.heap.size, 0, none⟩ = some (.int .i64 v) := by rw [hb4.cell (p := ⟨w.heap.size, 0, none⟩) hz3]; exact d0
  have e1 : w4.cell? ⟨w.heap.size, 1, none⟩ = some (.slice a n cap) := by rw [hb4.cell (p := ⟨w.heap.size, 1, none⟩) hz3]; exact d1
  have hz4 : w.heap.size < w4.heap.size := by have := hb4.size; omega
  have HB4 := hide ((unhide HB3).trans (hb4.mono (unhide HB3).size))
  have HBS4 := hide hbs4
  clear hb4 d0 d1 hz4' hbs4
  go_wp2_with fail
  refine (read_limits _ _ _ c4 _ (unhide HBS4) (by have := unhide HTL; have := unhide HL; omega) _ _ _ (unhide HGT) (unhide HFF)).mono ?_
  rintro e w5 ⟨rfl, hb5⟩
  have d0 : w5.cell? ⟨w.heap.size, 0, none⟩ = some (.int .i64 v) := by rw [hb5.cell (p := ⟨w.heap.size, 0, none⟩) hz4]; exact e0
  have d1 : w5.cell? ⟨w.heap.size, 1, none⟩ = some (.slice a n cap) := by rw [hb5.cell (p := ⟨w.heap.size, 1, none⟩) hz4]; exact e1
  have hz5 : w.heap.size < w5.heap.size := by have := hb5.size; omega
  have HB5 := hide ((unhide HB4).trans (hb5.mono (unhide HB4).size))
  clear hb5 e0 e1 hz4
  go_wp2_with fail
  have hA : Below (w5.heap.size + 2) ((w5.alloc (.cells #[.int .i64 0, .slice none 0 0] 24)).alloc (.cells #[.int .i64 10, .int .i64 0, .slice none 0 0] 31)) _ := Below.refl _ _
  have hbA := (box2 hA).2.1
  refine (refFits_any _ v a n cap _ ((unhide HE).below ((unhide HB5).trans (hbA.mono (unhide HB5).size)))).mono ?_
  rintro e w6 ⟨⟨r, rfl, hr⟩, hb6⟩
  obtain rfl : r = false := by
    cases r with
    | false => rfl
    | true => exact absurd (hr.1 rfl) (fun h => unhide HNO ⟨by have := h.2.1; omega, h.2.2⟩)
  have hA6 := hA.trans (hb6.mono (by simp))
  obtain ⟨⟨g0, g1, f0, f1⟩, hB6, hz6⟩ := box2 hA6
  have e0 : w6.cell? ⟨w.heap.size, 0, none⟩ = some (.int .i64 v) := by rw [hB6.cell (p := ⟨w.heap.size, 0, none⟩) hz5]; exact d0
  have e1 : w6.cell? ⟨w.heap.size, 1, none⟩ = some (.slice a n cap) := by rw [hB6.cell (p := ⟨w.heap.size, 1, none⟩) hz5]; exact d1
  have HA6 := hide hA6
  have HB6 := hide ((unhide HB5).trans (hB6.mono (unhide HB5).size))
  clear hA hbA hb6 hr hA6 hB6 g0 g1 f0 f1
  go_wp2_with fail
  refine (refText_any _ v a n cap ns ((unhide HE).below (unhide HB6)) (by omega) (by omega) (unhide HS)).mono ?_
  rintro e w7 ⟨rfl, hb7⟩
  obtain ⟨⟨g0, g1, f0, f1⟩, hB7, hz7⟩ := box2 ((unhide HA6).trans (hb7.mono hz6))
  have d0' : w7.cell? ⟨w.heap.size, 0, none⟩ = some (.int .i64 v) := by rw [hB7.cell (p := ⟨w.heap.size, 0, none⟩) hz5]; exact d0
  have d1' : w7.cell? ⟨w.heap.size, 1, none⟩ = some (.slice a n cap) := by rw [hB7.cell (p := ⟨w.heap.size, 1, none⟩) hz5]; exact d1
  have HB7 := hide ((unhide HB5).trans (hB7.mono (unhide HB5).size))
  clear hb7 hB7 d0 d1 e0 e1
  go_wp2_with fail
  have hE0 : Es 0 w7 none 0 [] := ⟨rfl, by omega, fun k hk => by omega⟩
  refine (graph_same w7 0 none none 0 0 0 [] hE0 hE0).mono ?_
  rintro e w8 ⟨rfl, hb8⟩
  have HB8 := hide ((unhide HB7).trans (hb8.mono (unhide HB7).size))
  clear hb8
  go_wp2_with fail
  go_ret
  exact ⟨rfl, unhide HB8⟩
/-- whatever the graph -/
theorem texts_all (w : World) (V : Int) (a : Option Addr) (n cap : Nat) (es : List (Int × Int)) {B : Nat} (h : Es B w a n es) (ht : Tab w) :
    Calls Tryd.prog 3 #[.agg #[.int .i64 V, .slice a n cap]] w fun e w' => e = .returned (.bool true) ∧ Below w.heap.size w w' := by
  by_cases hG : Good V n es
  · obtain ⟨v, ns, rfl, rfl, _, _, _, hs⟩ := good_nat h.1 hG
    by_cases hf : v ≤ 24 ∧ n ≤ 40
    · exact texts_fit w v a n cap ns h hG hf.1 hf.2 hs ht
    · exact texts_large w v a n cap ns h hG hf hs ht
  · exact texts_no w V a n cap es h hG
end Go.Proofs.YtdcfhdpbpfgohaaDoor

/-
  The walk of the statement LinesCut: it answers true. Conditions: the graph's edges and the bytes lie in memory as told, and strconv's table is as its text lays it.
-/
import Derived.Test.YtdcfhdpbpfgohaaDoorWalkTexts
import Derived.Test.YtdcfhdpbpfgohaaDoorAppend
namespace Go.Proofs.YtdcfhdpbpfgohaaDoor
open Go.RowKit
set_option linter.unusedVariables false

theorem mask16 (n : Int) : bits .and .i64 n 65535 = n % 65536 := by
  have hm : (BitVec.ofInt 64 65535).toNat = 2 ^ 16 - 1 := by decide
  have key : (BitVec.ofInt 64 n &&& BitVec.ofInt 64 65535).toNat = (n % ((2 ^ 64 : Nat) : Int)).toNat % 2 ^ 16 := by
    rw [BitVec.toNat_and, BitVec.toNat_ofInt, hm, Nat.and_two_pow_sub_one_eq_mod]
  show IntKind.i64.wrap ((BitVec.ofInt 64 n &&& BitVec.ofInt 64 65535).toNat : Nat) = n % 65536
  rw [key, IntKind.wrap_i64]
  omega

set_option maxHeartbeats 4000000 in
theorem cut_main (w : World) (v : Nat) (a : Option Addr) (n cap : Nat) (ns : List (Nat × Nat)) {B : Nat} (cut : Int) (x : Option Addr) (m c : Nat) (r : List UInt8) (h : Es B w a n (toI ns)) (hG : Good v n (toI ns)) (hv : v ≤ 24) (hn : n ≤ 40) (hs : ∀ e ∈ ns, e.1 < v ∧ e.2 < v) (ht : Tab w)
    (hr : Bs w x m r) (hx : x = none → c = 0) (hm : m ≤ 100) :
    Calls Tryd.prog 4 #[.agg #[.int .i64 v, .slice a n cap], .int .i64 cut, .slice x m c] w fun e w' => e = .returned (.bool true) ∧ Below w.heap.size w w' := by
  have hl : ns.length = n := by simpa [toI] using h.1
  have h1 : 1 ≤ v := by have := hG.1; omega
  have hs6 : ∀ e ∈ ns, e.1 ≤ 999999 ∧ e.2 ≤ 999999 := fun e he => by have := hs e he; omega
  have hgm := Pl.graph_more v ns (by omega) (by omega) hs6
  have hgc := fun k hk => Pl.graph_cut v ns (by omega) (by omega) hs6 (k := k) hk
  have htl := Pl.text_len v ns (by omega) (by omega) hs6
  have hfb := fit_bad hs
  have hff : fitsB v ns.length = true := by simp only [fitsB, decide_eq_true_eq]; omega
  have hmask := mask16
  have HE := hide h
  have HG := hide hG
  have HS := hide hs6
  have HL := hide hl
  have HT := hide ht
  have HGM := hide hgm
  have HGC := hide hgc
  have HFB := hide hfb
  have HFF := hide hff
  have HR := hide hr
  have HX := hide hx
  obtain ⟨L, hL⟩ : ∃ L, (Pl.text v ns).length = L := ⟨_, rfl⟩
  have hLs : L ≤ 700 := by omega
  have hsz : (ByteArray.mk (Pl.text v ns).toArray).size = L := by simpa [ByteArray.size] using hL
  have hszx : (ByteArray.mk (Pl.text v ns).toArray ++ ByteArray.mk #[120]).size = L + 1 := by
    rw [← size_list, ByteArray.data_append, Array.toList_append, List.length_append, size_list, hsz]; rfl
  have HLL := hide hL
  obtain ⟨k, hk⟩ : ∃ k : Nat, cut % 65536 % ((L : Int) + 1) = (k : Int) := ⟨(cut % 65536 % ((L : Int) + 1)).toNat, by rw [Int.toNat_of_nonneg]; exact Int.emod_nonneg _ (by omega)⟩
  have hkL : k ≤ L := by
    have := Int.emod_lt_of_pos (cut % 65536) (show (0 : Int) < (L : Int) + 1 by omega)
    omega
  have hm2 : (m : Int) ≤ 100 := by omega
  clear h hG hs hs6 ht hgm hgc htl hfb hff hr hx hl hL
  go_enter Tryd.func4, Tryd.ntmps4
  go_wp2_with fail
  have hb0 : Below w.heap.size w (w.alloc (.cells #[.int .i64 v, .slice a n cap] 24)) := (Below.refl _ _).alloc (Nat.le_refl _) _
  refine (speaks_any _).mono ?_
  rintro e w1 ⟨rfl, hb1⟩
  have d0 : w1.cell? ⟨w.heap.size, 0, none⟩ = some (.int .i64 v) := by rw [hb1.cell (p := ⟨w.heap.size, 0, none⟩) (by simp)]; simp
  have d1 : w1.cell? ⟨w.heap.size, 1, none⟩ = some (.slice a n cap) := by rw [hb1.cell (p := ⟨w.heap.size, 1, none⟩) (by simp)]; simp
  have hz1 : w.heap.size < w1.heap.size := by have := hb1.size; simp at this; omega
  have HB1 := hide (hb0.trans (hb1.mono (by simp)))
  clear hb0 hb1
  go_wp2_with fail
  refine (refFits_any _ v a n cap _ ((unhide HE).below (unhide HB1))).mono ?_
  rintro e w2 ⟨⟨rr, rfl, hrr⟩, hb2⟩
  obtain rfl : rr = true := hrr.2 ⟨unhide HG, by omega, by omega⟩
  have e0 : w2.cell? ⟨w.heap.size, 0, none⟩ = some (.int .i64 v) := by rw [hb2.cell (p := ⟨w.heap.size, 0, none⟩) hz1]; exact d0
  have e1 : w2.cell? ⟨w.heap.size, 1, none⟩ = some (.slice a n cap) := by rw [hb2.cell (p := ⟨w.heap.size, 1, none⟩) hz1]; exact d1
  have hz2 : w.heap.size < w2.heap.size := by have := hb2.size; omega
  have HB2 := hide ((unhide HB1).trans (hb2.mono (unhide HB1).size))
  clear hb2 hrr d0 d1 hz1
  go_wp2_with fail
  refine (text_any _ v a n cap ns ((unhide HE).below (unhide HB2)) (by omega) (by omega) (unhide HS) (tab_below (unhide HT) (unhide HB2))).mono ?_
  rintro e w3 ⟨rfl, hb3⟩
  have hz3 : w.heap.size < w3.heap.size := by have := hb3.size; omega
  have HB3 := hide ((unhide HB2).trans (hb3.mono (unhide HB2).size))
  clear hb3 e0 e1 hz2
  by_cases hkl : k < L
  · have hkl2 : (k : Int) < (L : Int) := by omega
    have hex : (ByteArray.mk (Pl.text v ns).toArray).extract 0 k = ⟨((Pl.text v ns).take k).toArray⟩ := by
      apply bytes_ext
      simp
    have htk : ((Pl.text v ns).take k).length = k := by rw [List.length_take, unhide HLL]; omega
    obtain ⟨c4, cur4, w4, kc, hb4, hz4', hbs4, _, _⟩ := conv_bytes w3 ((Pl.text v ns).take k)
    rw [htk] at kc hbs4
    have hz4 : w.heap.size < w4.heap.size := by have := hb4.size; omega
    have HB4 := hide ((unhide HB3).trans (hb4.mono (unhide HB3).size))
    have HBS4 := hide hbs4
    clear hb4 hz4' hbs4 htk
    go_wp2_with fail
    refine (read_wrong _ _ _ c4 _ (unhide HBS4) (by omega) _ (unhide HGC k (by rw [unhide HLL]; exact hkl))).mono ?_
    rintro e w5 ⟨rfl, hb5⟩
    have hz5 := hb5.size
    have HBW := hide ((((unhide HB4).trans (hb5.mono (unhide HB4).size)).alloc (by omega) (.cells #[.int .i64 0, .slice none 0 0] 24)).alloc (by simp; omega) (.cells #[.int .i64 11, .int .i64 k, .slice none 0 0] 31))
    clear hb5 kc
    obtain ⟨c6, cur6, w6, kc6, hb6, hz6, hbs6, hnr6, _⟩ := conv_bytes ((w5.alloc (.cells #[.int .i64 0, .slice none 0 0] 24)).alloc (.cells #[.int .i64 11, .int .i64 k, .slice none 0 0] 31)) (Pl.text v ns)
    rw [unhide HLL] at kc6
    have hzz : ((w5.alloc (.cells #[.int .i64 0, .slice none 0 0] 24)).alloc (.cells #[.int .i64 11, .int .i64 k, .slice none 0 0] 31)).heap.size = (w5.heap.size + 1 + 1) := by first | rfl | simp
    have hat6 := hnr6.at_
    rw [hzz] at kc6 hat6
    have HAT := hide hat6
    clear hat6
    have HB6 := hide ((unhide HBW).trans (hb6.mono (unhide HBW).size))
    have HNR := hide hnr6
    have HR6 := hide ((unhide HR).below (unhide HB6))
    clear hb6 hbs6 hnr6
    go_wp2_with (at_builtin; refine wpList_append_new rfl (.tmp 54) (.tmp 55) rfl (w5.heap.size + 1 + 1) c6 m c cur6 (Pl.text v ns) r x (by rw [unhide HLL]; rfl) rfl (unhide HAT) (unhide HNR).sz (unhide HNR).le (unhide HNR).hd (unhide HR6) (unhide HX) (by rw [unhide HLL]; omega) ?_)
    intro a7 c7 w7 hbs7 hb7
    rw [unhide HLL] at hbs7
    have hz7 := hb7.size
    have HB7 := hide ((unhide HB6).trans (hb7.mono (by first | omega | (rw [← hzz]; exact (unhide HBW).size))))
    have HBS7 := hide hbs7
    clear hb7 hbs7
    by_cases hm0 : m = 0
    · subst hm0
      have hr0 : r = [] := List.eq_nil_of_length_eq_zero (unhide HR).1
      subst hr0
      have hg7 : Pl.graph (Pl.text v ns ++ []) = (L, some (v, ns)) := by rw [unhide HGM []]; simp [unhide HLL]
      have HG7 := hide hg7
      clear hg7
      rw [unhide HLL]
      go_wp2_with fail
      refine (read_ok _ _ _ c7 _ (unhide HBS7) (by omega) _ _ _ (unhide HG7) (unhide HFF) (unhide HFB)).mono ?_
      rintro e w8 ⟨ae, ce, rfl, hE8, hb8⟩
      have hz8 := hb8.size
      have HB8 := hide ((unhide HB7).trans (hb8.mono (unhide HB7).size))
      clear hE8 hb8
      go_wp2_with fail
      go_ret
      exact ⟨rfl, ((unhide HB8).alloc (unhide HB8).size _).alloc (by have := (unhide HB8).size; simp; omega) _⟩
    · have hg7 : Pl.graph (Pl.text v ns ++ r) = (L, none) := by
        rw [unhide HGM r, unhide HLL, if_neg]
        intro h
        have := (unhide HR).1
        rw [h] at this
        exact hm0 this.symm
      have HG7 := hide hg7
      clear hg7
      have hmp : 0 < (m : Int) := by omega
      have hmz : ¬ ((m : Int) = 0) := by omega
      rw [unhide HLL]
      go_wp2_with fail
      refine (read_wrong _ _ _ c7 _ (unhide HBS7) (by omega) _ (unhide HG7)).mono ?_
      rintro e w8 ⟨rfl, hb8⟩
      have hz8 := hb8.size
      have HB8 := hide ((unhide HB7).trans (hb8.mono (unhide HB7).size))
      clear hb8
      go_wp2_with fail
      go_ret
      exact ⟨rfl, ((unhide HB8).alloc (unhide HB8).size _).alloc (by have := (unhide HB8).size; simp; omega) _⟩
  · have hkl2 : ¬ ((k : Int) < (L : Int)) := by omega
    have HBW := HB3
    obtain ⟨c6, cur6, w6, kc6, hb6, hz6, hbs6, hnr6, _⟩ := conv_bytes w3 (Pl.text v ns)
    rw [unhide HLL] at kc6
    have hzz : w3.heap.size = w3.heap.size := by first | rfl | simp
    have hat6 := hnr6.at_
    rw [hzz] at kc6 hat6
    have HAT := hide hat6
    clear hat6
    have HB6 := hide ((unhide HBW).trans (hb6.mono (unhide HBW).size))
    have HNR := hide hnr6
    have HR6 := hide ((unhide HR).below (unhide HB6))
    clear hb6 hbs6 hnr6
    go_wp2_with (at_builtin; refine wpList_append_new rfl (.tmp 54) (.tmp 55) rfl w3.heap.size c6 m c cur6 (Pl.text v ns) r x (by rw [unhide HLL]; rfl) rfl (unhide HAT) (unhide HNR).sz (unhide HNR).le (unhide HNR).hd (unhide HR6) (unhide HX) (by rw [unhide HLL]; omega) ?_)
    intro a7 c7 w7 hbs7 hb7
    rw [unhide HLL] at hbs7
    have hz7 := hb7.size
    have HB7 := hide ((unhide HB6).trans (hb7.mono (by first | omega | (rw [← hzz]; exact (unhide HBW).size))))
    have HBS7 := hide hbs7
    clear hb7 hbs7
    by_cases hm0 : m = 0
    · subst hm0
      have hr0 : r = [] := List.eq_nil_of_length_eq_zero (unhide HR).1
      subst hr0
      have hg7 : Pl.graph (Pl.text v ns ++ []) = (L, some (v, ns)) := by rw [unhide HGM []]; simp [unhide HLL]
      have HG7 := hide hg7
      clear hg7
      rw [unhide HLL]
      go_wp2_with fail
      refine (read_ok _ _ _ c7 _ (unhide HBS7) (by omega) _ _ _ (unhide HG7) (unhide HFF) (unhide HFB)).mono ?_
      rintro e w8 ⟨ae, ce, rfl, hE8, hb8⟩
      have hz8 := hb8.size
      have HB8 := hide ((unhide HB7).trans (hb8.mono (unhide HB7).size))
      clear hE8 hb8
      go_wp2_with fail
      go_ret
      exact ⟨rfl, ((unhide HB8).alloc (unhide HB8).size _).alloc (by have := (unhide HB8).size; simp; omega) _⟩
    · have hg7 : Pl.graph (Pl.text v ns ++ r) = (L, none) := by
        rw [unhide HGM r, unhide HLL, if_neg]
        intro h
        have := (unhide HR).1
        rw [h] at this
        exact hm0 this.symm
      have HG7 := hide hg7
      clear hg7
      have hmp : 0 < (m : Int) := by omega
      have hmz : ¬ ((m : Int) = 0) := by omega
      rw [unhide HLL]
      go_wp2_with fail
      refine (read_wrong _ _ _ c7 _ (unhide HBS7) (by omega) _ (unhide HG7)).mono ?_
      rintro e w8 ⟨rfl, hb8⟩
      have hz8 := hb8.size
      have HB8 := hide ((unhide HB7).trans (hb8.mono (unhide HB7).size))
      clear hb8
      go_wp2_with fail
      go_ret
      exact ⟨rfl, ((unhide HB8).alloc (unhide HB8).size _).alloc (by have := (unhide HB8).size; simp; omega) _⟩
end Go.Proofs.YtdcfhdpbpfgohaaDoor

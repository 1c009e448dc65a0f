/-
  The contracts of the document's Next and Faces. Conditions: the graph and the lists lie in memory as told, and the lists are a rotation.
-/
import Derived.Test.YtmklngabfdnclaaDoorRr
namespace Go.Proofs.YtmklngabfdnclaaDoor
open Go.RowKit
set_option linter.unusedVariables false
set_option maxRecDepth 20000

set_option maxHeartbeats 4000000 in
theorem next_any (w : World) (V : Nat) (a : Option Addr) (n cap : Nat) (es : List (Nat × Nat)) {B : Nat} (h : Es B w a n (toI es)) (hne : es.length = n) (hn : n ≤ 128) (ra : Option Addr) (m rc : Nat) (q : List (List Nat)) (hr : Rr w ra m (rowsI q)) (ro : pt.Ro V es q) (N : Nat → Nat) (hN : Behind q N) (j : Nat) (hj : j < 2 * n) :
    Calls Tryd.prog 25 #[.agg #[.int .i64 V, .slice a n cap], .slice ra m rc, .int .i64 (j : Nat)] w fun e w' => e = .returned (.int .i64 (N j : Nat)) ∧ Below w.heap.size w w' := by
  have hmV : m = V := by have := hr.1; rw [rowsI_length] at this; rw [← this, ro.len]
  have HB0 := hide (Bg.start w (.int .i64 V) (.slice a n cap))
  have hoj : oth j < 2 * n := oth_lt hj
  have hat := ro.at (h := oth j) (by rw [hne]; exact hoj)
  have HAT := hide (fun (u : World) (hu : Below w.heap.size w u) => show Calls Tryd.prog 22 #[.agg #[.int .i64 V, .slice a n cap], .int .i64 (oth j : Nat)] u fun e w' => e = .returned (.int .i64 (pt.stV es (oth j) : Nat)) ∧ Below u.heap.size u w' from by
    refine (at_any u V a n cap (toI es) (h.below hu) (oth j) hoj hn).mono ?_
    rintro e w' ⟨rfl, hb⟩
    rw [pt.atI_toI]
    exact ⟨rfl, hb⟩)
  obtain ⟨x, hx⟩ : ∃ x, pt.stV es (oth j) = x := ⟨_, rfl⟩
  rw [hx] at hat HAT
  obtain ⟨p, hp, hpe⟩ := pt.in_getD hat.2
  have hNj : N j = (q.getD x []).getD ((p + 1) % (q.getD x []).length) 0 := by
    have := hN x (by rw [ro.len]; exact hat.1) p hp
    rwa [hpe, oth_oth] at this
  have hnd := ro.one x hat.1
  have hxV := hat.1
  obtain ⟨l, hl⟩ : ∃ l, q.getD x [] = l := ⟨_, rfl⟩
  rw [hl] at hp hpe hNj hnd
  have hrx := hr.2.2 x (by omega)
  rw [rowsI_getD, toIs_length, hl] at hrx
  obtain ⟨gr, or, la, lc, ha, hgr, c0, hlc, hls⟩ := hrx
  subst ha
  have hln := hls.2.1
  obtain ⟨len, hlen⟩ : ∃ len, l.length = len := ⟨_, rfl⟩
  rw [hlen] at hp hNj c0 hls hln
  have HLS := hide hls
  have HC0 := hide c0
  have HND := hide hnd
  have HLEN := hide hlen
  have HPE := hide hpe
  have HNJ := hide hNj
  have hxm : (x : Int) < (m : Int) := by omega
  have hw1 : IntKind.i64.wrap ((j : Int) + 1) = (j : Int) + 1 := by rw [IntKind.wrap_i64]; omega
  have hw2 : IntKind.i64.wrap ((j : Int) - 1) = (j : Int) - 1 := by rw [IntKind.wrap_i64]; omega
  have hrm : ((j : Nat) : Int).tmod 2 = ((j % 2 : Nat) : Int) := by rw [show (2 : Int) = ((2 : Nat) : Int) from rfl, ← Int.ofNat_tmod]
  have hwr : IntKind.i64.wrap ((j % 2 : Nat) : Int) = ((j % 2 : Nat) : Int) := by rw [IntKind.wrap_i64]; omega
  obtain ⟨g0, g1⟩ := (unhide HB0).cells
  clear h hne hr ro hN hat hls c0 hnd hlen hpe hNj hl hx hmV
  have rest : ∀ w2 : World, Below w.heap.size w w2 → True := fun _ _ => trivial
  obtain ⟨o, ho⟩ : ∃ o, oth j = o := ⟨_, rfl⟩
  have hoe : (o : Int) = if j % 2 = 0 then (j : Int) + 1 else (j : Int) - 1 := by
    rw [← ho]
    unfold oth
    split <;> omega
  rw [ho] at HAT hoj
  have HPO := hide (show l.getD p 0 = o by rw [← ho]; exact unhide HPE)
  clear ho HPE rest
  have HOE := hide hoe
  clear hoe hrm hwr
  by_cases hj0 : j % 2 = 0
  · have hoo : (o : Int) = (j : Int) + 1 := by rw [unhide HOE, if_pos hj0]
    have t1 : ((j : Int) % 2 == 1) = false := by rw [beq_eq_false_iff_ne]; omega
    go_enter Tryd.func25, Tryd.ntmps25
    go_wp2_with fail
    rw [← hoo]
    refine (unhide HAT _ (unhide HB0).bel).mono ?_
    rintro e w2 ⟨rfl, hb2⟩
    have HB2 := hide ((unhide HB0).step hb2)
    have d0 : w2.cell? ⟨gr, or + x, none⟩ = some (.slice la len lc) := by rw [(unhide HB2).bel.cell (p := ⟨gr, or + x, none⟩) hgr]; exact unhide HC0
    have hgr2 : gr < w2.heap.size := Nat.lt_of_lt_of_le hgr (unhide HB2).bel.size
    clear hb2 g0 g1
    go_wp2_with fail
    clear d0 hgr2
    go_loopw [9] (fun i wr => ∃ k : Nat, i = .int .i64 k ∧ k ≤ p ∧ wr = w2) (fun i wr => p + 1 - (intOf i).toNat)
    case atStart => exact ⟨0, rfl, by omega, rfl⟩
    case round =>
      obtain ⟨k, rfl, hk, hwe⟩ := hrel
      subst hwe
      have hkl : k < len := by omega
      have hkl2 : (k : Int) < (len : Int) := by omega
      obtain ⟨gl, ol, hla, hgl, c1⟩ := (unhide HLS).2.2 k hkl
      have hpp : (k + 1) % len < len := Nat.mod_lt _ (by omega)
      obtain ⟨gl', ol', hla', _, c2⟩ := (unhide HLS).2.2 _ hpp
      subst hla
      simp only [Option.some.injEq, Addr.mk.injEq] at hla'
      obtain ⟨rfl, rfl, _⟩ := hla'
      rw [toIs_getD] at c1 c2
      have hsz := (unhide HB2).bel.size
      have hgl2 : gl < wr.heap.size := by omega
      have d1 : wr.cell? ⟨gl, ol + k, none⟩ = some (.int .i64 (l.getD k 0 : Nat)) := by rw [(unhide HB2).bel.cell (p := ⟨gl, ol + k, none⟩) hgl]; exact c1
      have d2 : wr.cell? ⟨gl, ol + (k + 1) % len, none⟩ = some (.int .i64 (l.getD ((k + 1) % len) 0 : Nat)) := by rw [(unhide HB2).bel.cell (p := ⟨gl, ol + (k + 1) % len, none⟩) hgl]; exact c2
      clear c1 c2
      by_cases hkp : k = p
      · subst hkp
        rw [unhide HPO] at d1
        have t2 : ((o : Int) == (o : Int)) = true := by simp
        have hw3 : IntKind.i64.wrap ((k : Int) + 1) = (k : Int) + 1 := by rw [IntKind.wrap_i64]; omega
        have hT : ((k : Int) + 1).tmod (len : Int) = (((k + 1) % len : Nat) : Int) := by rw [show ((k : Int) + 1) = ((k + 1 : Nat) : Int) by omega, Int.ofNat_tmod]
        have hw4 : IntKind.i64.wrap (((k + 1) % len : Nat) : Int) = (((k + 1) % len : Nat) : Int) := by rw [IntKind.wrap_i64]; omega
        have hN0 : ¬ len = 0 := by omega
        have hp2 : (((k + 1) % len : Nat) : Int) < (len : Int) := by omega
        generalize (k + 1) % len = pp at *
        go_wp2_with fail
        go_ret
        exact ⟨by rw [unhide HNJ]; rfl, (unhide HB2).bel⟩
      · have hne : l.getD k 0 ≠ o := fun e => hkp (pt.getD_inj (unhide HND) (by rw [unhide HLEN]; exact hkl) (by rw [unhide HLEN]; exact hp) (e.trans (unhide HPO).symm))
        generalize l.getD k 0 = z at *
        have t2 : ((z : Int) == (o : Int)) = false := by rw [beq_eq_false_iff_ne]; omega
        clear hne d2
        go_wp2_with fail
        go_roundw
        case rel => exact ⟨k + 1, by go_num, by omega, (by first | rfl | trivial)⟩
        case measure => simp [intOf]; omega
  · have hoo : (o : Int) = (j : Int) - 1 := by rw [unhide HOE, if_neg hj0]
    have t1 : ((j : Int) % 2 == 1) = true := by rw [beq_iff_eq]; omega
    go_enter Tryd.func25, Tryd.ntmps25
    go_wp2_with fail
    rw [← hoo]
    refine (unhide HAT _ (unhide HB0).bel).mono ?_
    rintro e w2 ⟨rfl, hb2⟩
    have HB2 := hide ((unhide HB0).step hb2)
    have d0 : w2.cell? ⟨gr, or + x, none⟩ = some (.slice la len lc) := by rw [(unhide HB2).bel.cell (p := ⟨gr, or + x, none⟩) hgr]; exact unhide HC0
    have hgr2 : gr < w2.heap.size := Nat.lt_of_lt_of_le hgr (unhide HB2).bel.size
    clear hb2 g0 g1
    go_wp2_with fail
    clear d0 hgr2
    go_loopw [9] (fun i wr => ∃ k : Nat, i = .int .i64 k ∧ k ≤ p ∧ wr = w2) (fun i wr => p + 1 - (intOf i).toNat)
    case atStart => exact ⟨0, rfl, by omega, rfl⟩
    case round =>
      obtain ⟨k, rfl, hk, hwe⟩ := hrel
      subst hwe
      have hkl : k < len := by omega
      have hkl2 : (k : Int) < (len : Int) := by omega
      obtain ⟨gl, ol, hla, hgl, c1⟩ := (unhide HLS).2.2 k hkl
      have hpp : (k + 1) % len < len := Nat.mod_lt _ (by omega)
      obtain ⟨gl', ol', hla', _, c2⟩ := (unhide HLS).2.2 _ hpp
      subst hla
      simp only [Option.some.injEq, Addr.mk.injEq] at hla'
      obtain ⟨rfl, rfl, _⟩ := hla'
      rw [toIs_getD] at c1 c2
      have hsz := (unhide HB2).bel.size
      have hgl2 : gl < wr.heap.size := by omega
      have d1 : wr.cell? ⟨gl, ol + k, none⟩ = some (.int .i64 (l.getD k 0 : Nat)) := by rw [(unhide HB2).bel.cell (p := ⟨gl, ol + k, none⟩) hgl]; exact c1
      have d2 : wr.cell? ⟨gl, ol + (k + 1) % len, none⟩ = some (.int .i64 (l.getD ((k + 1) % len) 0 : Nat)) := by rw [(unhide HB2).bel.cell (p := ⟨gl, ol + (k + 1) % len, none⟩) hgl]; exact c2
      clear c1 c2
      by_cases hkp : k = p
      · subst hkp
        rw [unhide HPO] at d1
        have t2 : ((o : Int) == (o : Int)) = true := by simp
        have hw3 : IntKind.i64.wrap ((k : Int) + 1) = (k : Int) + 1 := by rw [IntKind.wrap_i64]; omega
        have hT : ((k : Int) + 1).tmod (len : Int) = (((k + 1) % len : Nat) : Int) := by rw [show ((k : Int) + 1) = ((k + 1 : Nat) : Int) by omega, Int.ofNat_tmod]
        have hw4 : IntKind.i64.wrap (((k + 1) % len : Nat) : Int) = (((k + 1) % len : Nat) : Int) := by rw [IntKind.wrap_i64]; omega
        have hN0 : ¬ len = 0 := by omega
        have hp2 : (((k + 1) % len : Nat) : Int) < (len : Int) := by omega
        generalize (k + 1) % len = pp at *
        go_wp2_with fail
        go_ret
        exact ⟨by rw [unhide HNJ]; rfl, (unhide HB2).bel⟩
      · have hne : l.getD k 0 ≠ o := fun e => hkp (pt.getD_inj (unhide HND) (by rw [unhide HLEN]; exact hkl) (by rw [unhide HLEN]; exact hp) (e.trans (unhide HPO).symm))
        generalize l.getD k 0 = z at *
        have t2 : ((z : Int) == (o : Int)) = false := by rw [beq_eq_false_iff_ne]; omega
        clear hne d2
        go_wp2_with fail
        go_roundw
        case rel => exact ⟨k + 1, by go_num, by omega, (by first | rfl | trivial)⟩
        case measure => simp [intOf]; omega
end Go.Proofs.YtmklngabfdnclaaDoor


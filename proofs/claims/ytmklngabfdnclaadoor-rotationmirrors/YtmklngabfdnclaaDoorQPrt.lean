/-
  The contract of reach.Parts: the parts that hang together without some vertices, by their least vertices; of a graph that may not be, nothing. Conditions: the graph lies in memory as told; the table of math/bits holds what its initialiser lays.
-/
import Derived.Test.YtmklngabfdnclaaDoorQBes
namespace Go.Proofs.YtmklngabfdnclaaDoor.pt
open Go.RowKit
set_option linter.unusedVariables false

def ucells (l : List Nat) : List Value := l.map fun (x : Nat) => Value.int .u64 (x : Int)
theorem ucells_snoc (l : List Nat) (x : Nat) : ucells l ++ [.int .u64 (x : Int)] = ucells (l ++ [x]) := by simp [ucells]
def repsL (rp : Nat → Bool) (C : Nat → Nat) (k : Nat) : List Nat := ((List.range k).filter rp).map C
theorem repsL_yes {rp : Nat → Bool} {C : Nat → Nat} {k : Nat} (h : rp k = true) : repsL rp C (k + 1) = repsL rp C k ++ [C k] := by
  unfold repsL
  rw [List.range_succ, List.filter_append]
  simp [h]
theorem repsL_no {rp : Nat → Bool} {C : Nat → Nat} {k : Nat} (h : rp k = false) : repsL rp C (k + 1) = repsL rp C k := by
  unfold repsL
  rw [List.range_succ, List.filter_append]
  simp [h]
theorem repsL_len (rp : Nat → Bool) (C : Nat → Nat) (k : Nat) : (repsL rp C k).length ≤ k := by
  have := List.length_filter_le rp (List.range k)
  simpa [repsL] using this
/-- what is done: those without, and the parts of the least ones below k -/
def IsDone (V : Nat) (es : List (Nat × Nat)) (wo rp : Nat → Bool) (k D : Nat) : Prop := ∀ j, j < V → (D.testBit j = true ↔ wo j = true ∨ ∃ r, r < k ∧ rp r = true ∧ Star (Bd es wo) r j)
theorem IsDone.rep {V : Nat} {es : List (Nat × Nat)} {wo : Nat → Bool} {C : Nat → Nat} {rp : Nat → Bool} (hP : IsPt V es wo C rp) {k D : Nat} (hk : k < V) (h : IsDone V es wo rp k D) : D.testBit k = !rp k := by
  have h1 := h k hk
  have h2 := hP.rep k hk
  have h3 : D.testBit k = true ↔ ¬ Rep es wo k := by
    rw [h1]
    constructor
    · rintro (hw | ⟨r, hr, hrr, hs⟩) hR
      · rw [hR.1] at hw; cases hw
      · exact (rep_iff hR.1).1 hR ⟨r, hr, (hP.rep r (by omega)).1 hrr, hs⟩
    · intro hR
      cases hw : wo k with
      | true => exact .inl rfl
      | false =>
        right
        apply Classical.byContradiction
        intro hno
        exact hR ((rep_iff hw).2 fun ⟨r, hr, hrr, hs⟩ => hno ⟨r, hr, (hP.rep r (by omega)).2 hrr, hs⟩)
  cases hd : D.testBit k with
  | true =>
    cases hr : rp k with
    | false => rfl
    | true => exact absurd (h2.1 hr) (h3.1 hd)
  | false =>
    cases hr : rp k with
    | true => rfl
    | false =>
      have : D.testBit k = true := h3.2 fun hR => by have := h2.2 hR; rw [hr] at this; cases this
      rw [hd] at this; cases this
theorem IsDone.no {V : Nat} {es : List (Nat × Nat)} {wo rp : Nat → Bool} {k D : Nat} (h : IsDone V es wo rp k D) (hr : rp k = false) : IsDone V es wo rp (k + 1) D := by
  intro j hj
  rw [h j hj]
  constructor
  · rintro (hw | ⟨r, h1, h2⟩)
    · exact .inl hw
    · exact .inr ⟨r, by omega, h2⟩
  · rintro (hw | ⟨r, h1, h2, h3⟩)
    · exact .inl hw
    · by_cases hrk : r = k
      · rw [hrk, hr] at h2; cases h2
      · exact .inr ⟨r, by omega, h2, h3⟩
theorem IsDone.yes {V : Nat} {es : List (Nat × Nat)} {wo : Nat → Bool} {C : Nat → Nat} {rp : Nat → Bool} (hP : IsPt V es wo C rp) {k D : Nat} (hk : k < V) (h : IsDone V es wo rp k D) (hr : rp k = true) : IsDone V es wo rp (k + 1) (D ||| C k) := by
  intro j hj
  rw [Nat.testBit_or, Bool.or_eq_true, h j hj, hP.bit k hk]
  constructor
  · rintro ((hw | ⟨r, h1, h2⟩) | hs)
    · exact .inl hw
    · exact .inr ⟨r, by omega, h2⟩
    · exact .inr ⟨k, by omega, hr, hs⟩
  · rintro (hw | ⟨r, h1, h2, h3⟩)
    · exact .inl (.inl hw)
    · by_cases hrk : r = k
      · rw [hrk] at h3; exact .inr h3
      · exact .inl (.inr ⟨r, by omega, h2, h3⟩)
theorem one_u64 (k : Nat) : ∀ u ∈ [Value.int .u64 (k : Int)], u.oneCell' = true := by
  intro u hu
  simp only [List.mem_singleton] at hu
  subst hu
  rfl

set_option maxHeartbeats 8000000 in
theorem parts_any (w : World) (hT : Tab w) (V : Nat) (a : Option Addr) (n cap : Nat) (es : List (Nat × Nat)) {B : Nat} (h : Es B w a n (toI es)) (hne : es.length = n) (hp : Plain V es) (S : Nat) (hS : S < 18446744073709551616) (C : Nat → Nat) (rp : Nat → Bool) (hP : IsPt V es S.testBit C rp) :
    Calls Tryd.prog 19 #[.agg #[.int .i64 V, .slice a n cap], .int .u64 S] w fun e w' => (∃ v, e = .returned v ∧ w'.ownsRow w.heap.size 50 1 v (repsL rp C V).length (ucells (repsL rp C V))) ∧ Below w.heap.size w w' := by
  have hv64 := hp.v64
  have hv1 := hp.v1
  have HT := hide hT
  have HE := hide h
  have HPT := hide hP
  have HB0 := hide (Bg.start w (.int .i64 V) (.slice a n cap))
  have HMAY := hide fun (w : World) (h : Es B w a n (toI es)) => show Calls Tryd.prog 23 #[.agg #[.int .i64 V, .slice a n cap]] w fun e w' => e = .returned (.bool true) ∧ Below w.heap.size w w' from by
    subst hne
    exact may_yes w V a cap es h hp
  have HBES := hide fun (w : World) (h : Es B w a n (toI es)) => beside_any w V a n cap es h hne hp S hS
  have HSP := hide (fun (u : World) (hT : Tab u) (gh x : Nat) (hx : x < V) (h : RowU u gh V (bsF es S.testBit)) => show Calls Tryd.prog 34 #[.int .u64 ((ofS [(x : Int)] : Nat) : Int), .slice (some ⟨gh, 0, none⟩) V V] u fun e w' => e = .returned (.int .u64 (C x : Nat)) ∧ Below u.heap.size u w' from by
    refine (spread_any u hT V V _ (bsF es S.testBit) _ (ofS_lt _) (h.read (by omega)) hv64 (fun x hx => bsF_lt es _ x) (fun x hx => bs_bnd hp _ x) (one_bnd hx)).mono ?_
    rintro e w' ⟨⟨t, rfl, ht⟩, hb⟩
    rw [hP.spread hp hx ht]
    exact ⟨rfl, hb⟩)
  obtain ⟨i0, hi0, hz0, hz1, hz2⟩ := info_parts info25
  have HI := hide hi0
  have HZ0 := hide hz0
  have HZ1 := hide hz1
  have HZ2 := hide hz2
  have HD0 := hide (show IsDone V es S.testBit rp 0 S from fun j hj => ⟨fun h => .inl h, fun h => h.resolve_right fun ⟨r, hr, _⟩ => by omega⟩)
  clear hi0 hz0 hz1 hz2 h hp hne hT hP
  go_enter Tryd.func19, Tryd.ntmps19
  go_wp2_with fail
  refine (unhide HMAY _ ((unhide HE).below (unhide HB0).bel)).mono ?_
  rintro e w1 ⟨rfl, hb1⟩
  have HB1 := hide ((unhide HB0).step hb1)
  obtain ⟨g0, g1⟩ := (unhide HB1).cells
  clear hb1 HB0 HMAY
  go_wp2_with fail
  refine (unhide HBES _ ((unhide HE).below (unhide HB1).bel)).mono ?_
  rintro e w2 ⟨⟨gh, rfl, hgh, hrow⟩, hb2⟩
  have HB2 := hide ((unhide HB1).step hb2)
  have HR2 := hide hrow
  clear hb2 HB1 HBES hrow g0 g1
  obtain ⟨g0, g1⟩ := (unhide HB2).cells
  have hsz2 := (unhide HB2).lt
  go_wp2_with fail
  clear g0 g1
  go_loopw [6, 7, 19] (fun v6 v7 i wr => ∃ k D : Nat, i = .int .i64 k ∧ k ≤ V ∧ v7 = .int .u64 D ∧ D < 18446744073709551616 ∧ Hid (IsDone V es S.testBit rp k D) ∧ Hid (wr.ownsRow w2.heap.size 50 1 v6 (repsL rp C k).length (ucells (repsL rp C k))) ∧ Hid (Below w2.heap.size w2 wr)) (fun v6 v7 i wr => V - (intOf i).toNat)
  case atStart => exact ⟨0, S, rfl, by omega, rfl, hS, HD0, World.ownsRow_nil _ _ _ _, Below.refl _ _⟩
  case round =>
    obtain ⟨k, D, rfl, hk, rfl, hD, HD, HO, HB⟩ := hrel
    have hsz := (unhide HB).size
    by_cases hlt : k < V
    · have hlt2 : (k : Int) < (V : Int) := by omega
      have hbit := (unhide HD).rep (unhide HPT) hlt
      have HH := hide (fun (u : World) => show Calls Tryd.prog 33 #[.int .u64 D, .int .i64 k] u fun e w' => e = .returned (.bool (!rp k)) ∧ Below u.heap.size u w' from by
        refine (has_any u D hD k).mono ?_
        rintro e w' ⟨rfl, hb⟩
        exact ⟨ret_b (by rw [hasI_nat hD, hbit]), hb⟩)
      clear hbit
      have hck := (unhide HPT).lt k hlt
      have hll := repsL_len rp C k
      go_wp2_with fail
      refine (unhide HH wr).mono ?_
      rintro e w4 ⟨rfl, hb4⟩
      have HB4 := hide ((unhide HB).trans (hb4.mono hsz))
      have HO4 := hide (owns_below (unhide HO) hb4)
      have hs4 := (unhide HB4).size
      clear hb4 HH
      cases hrp : rp k with
      | false =>
        have HD2 := hide ((unhide HD).no hrp)
        have hre := repsL_no (C := C) hrp
        have HRE := hide hre
        clear hre hrp
        go_wp2_with fail
        go_roundw
        case rel => exact ⟨k + 1, D, by go_num, by omega, rfl, hD, HD2, by rw [unhide HRE]; exact HO4, HB4⟩
        case measure => simp [intOf]; omega
      | true =>
        have HD2 := hide ((unhide HD).yes (unhide HPT) hlt hrp)
        have hre := repsL_yes (C := C) hrp
        have HRE := hide hre
        clear hre hrp
        go_wp2_with fail
        refine (of_any _ _ 1 1 [(k : Int)] (ns_one w4 k)).mono ?_
        rintro e w5 ⟨rfl, hw5⟩
        obtain rfl := hw5.symm
        clear hw5
        have X5 := hide ((unhide HB4).alloc hs4 (.cells #[.int .i64 (k : Int)] 3))
        have O5 := hide ((unhide HO4).alloc (.cells #[.int .i64 (k : Int)] 3))
        generalize (w4.alloc (.cells #[.int .i64 (k : Int)] 3)) = wa at X5 O5 ⊢
        go_wp2_with fail
        refine (unhide HSP wa ((unhide HT).below (bto (unhide HB2).bel (unhide X5))) gh k hlt (Row.below (unhide HR2) (unhide X5))).mono ?_
        rintro e wb ⟨rfl, hb⟩
        have X6 := hide (bto (unhide X5) hb)
        have O6 := hide (owns_below (unhide O5) hb)
        have hs6 := (unhide X6).size
        clear hb X5 O5
        have hor := u64_or_nat D (C k) hD hck
        have hdl := or_lt hD hck
        generalize C k = ck at *
        go_wp2_with (at_builtin; refine wpList_append_own _ rfl (.tmp 30) (.tmp 32) 47 rfl w2.heap.size 50 i0 (.int .u64 0) 1 8 Tryd.underlying47 (unhide HI) (unhide HZ0) (unhide HZ1) (unhide HZ2) rfl (by decide) u6 (repsL rp C k).length (ucells (repsL rp C k)) rfl ((unhide O6).alloc _) ⟨wb.heap.size, 0, none⟩ 1 1 [.int .u64 ck] rfl rfl (cell_one_new _ _ _) (one_u64 ck) ?a3 ?a4 ?a5 ?_)
        case a3 => unfold maxLen; omega
        case a4 => omega
        case a5 => first | omega | (simp; omega)
        intro v2 w7 hown7 hg7 _
        rw [ucells_snoc] at hown7
        have HB7 := hide (((unhide X6).alloc hs6 _).grown hg7 (by simp; omega) fun t ht => ((unhide O6).lt t ht).1)
        have HO7 := hide hown7
        clear hown7 hg7
        go_wp2_with fail
        go_roundw
        case rel =>
          refine ⟨k + 1, D ||| ck, by go_num, by omega, rfl, hdl, HD2, ?_, HB7⟩
          rw [unhide HRE, List.length_append]
          exact HO7
        case measure => simp [intOf]; omega
    · obtain rfl : k = V := by omega
      go_wp2_with fail
      go_ret
      exact ⟨⟨_, rfl, owns_mono (unhide HO) (by omega)⟩, bto (unhide HB2).bel (unhide HB)⟩

set_option maxHeartbeats 1000000 in
theorem parts_no (w : World) (V : Int) (a : Option Addr) (n cap : Nat) (zs : List (Int × Int)) {B : Nat} (h : Es B w a n zs) (hno : ¬ Good V n zs) (S : Int) :
    Calls Tryd.prog 19 #[.agg #[.int .i64 V, .slice a n cap], .int .u64 S] w fun e w' => e = .returned (.slice none 0 0) ∧ Below w.heap.size w w' := by
  have HB0 := hide (Bg.start w (.int .i64 V) (.slice a n cap))
  have HE := hide h
  clear h
  go_enter Tryd.func19, Tryd.ntmps19
  go_wp2_with fail
  refine (may_no _ V a n cap zs ((unhide HE).below (unhide HB0).bel) hno).mono ?_
  rintro e w1 ⟨rfl, hb1⟩
  have HB1 := hide ((unhide HB0).step hb1)
  clear hb1 HB0
  go_wp2_with fail
  go_ret
  exact ⟨rfl, (unhide HB1).bel⟩
end Go.Proofs.YtmklngabfdnclaaDoor.pt


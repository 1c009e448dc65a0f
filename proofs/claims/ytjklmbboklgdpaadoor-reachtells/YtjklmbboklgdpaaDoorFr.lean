/-
  The contract of reach.From: for each vertex the set of what can be reached from it; of a graph that may not be, nothing. Conditions: the graph lies in memory as told; the table of math/bits holds what its initialiser lays.
-/
import Derived.Test.YtjklmbboklgdpaaDoorPn
import Derived.Test.YtjklmbboklgdpaaDoorBt
namespace Go.Proofs.YtjklmbboklgdpaaDoor
open Go.RowKit
set_option linter.unusedVariables false

/-- the set that a vertex reaches -/
theorem reach_ex {V : Nat} {es : List (Nat × Nat)} (hp : Plain V es) (x : Nat) (hx : x < V) : ∃ t, ReachSet es x t := by
  classical
  refine ⟨ofS (((List.range V).filter fun j => decide (Star (Via es) x j)).map fun (j : Nat) => (j : Int)), ofS_lt _, fun j => ?_⟩
  have hv := hp.v64
  rw [testBit_ofS]
  simp only [decide_eq_true_eq, List.mem_map, List.mem_filter, List.mem_range]
  constructor
  · rintro ⟨h1, i, ⟨h2, h3⟩, h4⟩
    have : i = j := by omega
    subst this
    exact h3
  · intro h
    have hj := star_bnd hp hx h
    exact ⟨by omega, j, ⟨hj, h⟩, rfl⟩
/-- what each vertex reaches -/
def AllReach (V : Nat) (es : List (Nat × Nat)) (f : Nat → Nat) : Prop := ∀ x, x < V → ReachSet es x (f x)
theorem allReach_ex {V : Nat} {es : List (Nat × Nat)} (hp : Plain V es) : ∃ f, AllReach V es f := by
  classical
  refine ⟨fun x => if h : x < V then (reach_ex hp x h).choose else 0, fun x hx => ?_⟩
  simp only [hx, dite_true]
  exact (reach_ex hp x hx).choose_spec

set_option maxHeartbeats 4000000 in
theorem from_all (w : World) (hT : Tab w) (V : Nat) (a : Option Addr) (cap : Nat) (es : List (Nat × Nat)) {B : Nat} (h : Es B w a es.length (toI es)) (hp : Plain V es) (F : Nat → Nat) (hF : AllReach V es F) :
    Calls Tryd.prog 12 #[.agg #[.int .i64 V, .slice a es.length cap]] w fun e w' => (∃ g, e = .returned (.slice (some ⟨g, 0, none⟩) V V) ∧ w.heap.size ≤ g ∧ RowU w' g V F) ∧ Below w.heap.size w w' := by
  have hv64 := hp.v64
  have hv1 := hp.v1
  have hn128 := hp.n128
  have HT := hide hT
  have HE := hide h
  have HP := hide hp
  have HF := hide hF
  have HMAY := hide fun (w : World) (h : Es B w a es.length (toI es)) => may_yes w V a cap es h hp
  have HHD := hide fun (w : World) (h : Es B w a es.length (toI es)) => heads_any w V a cap es h hp
  have HSP := hide (fun (u : World) (hT : Tab u) (gh x : Nat) (hx : x < V) (h : RowU u gh V (hdS es)) => show Calls Tryd.prog 23 #[.int .u64 ((ofS [(x : Int)] : Nat) : Int), .slice (some ⟨gh, 0, none⟩) V V] u fun e w' => e = .returned (.int .u64 (F x : Nat)) ∧ Below u.heap.size u w' from by
    refine (spread_any u hT V V _ (hdS es) _ (ofS_lt _) (h.read (by omega)) hv64 (fun x hx => hdS_lt es x) (fun x hx => hd_bnd hp x) (one_bnd hx)).mono ?_
    rintro e w' ⟨⟨t, rfl, ht⟩, hb⟩
    rw [(ReachSet.of hp hx ht).only (hF x hx)]
    exact ⟨rfl, hb⟩)
  obtain ⟨n, hn⟩ : ∃ n, es.length = n := ⟨_, rfl⟩
  have HN := hide hn
  rw [hn] at hn128 HMAY HHD HE ⊢
  obtain ⟨i0, hi0, hz0, hz1, hz2⟩ := info_parts info25
  have HI := hide hi0
  have HZ0 := hide hz0
  have HZ1 := hide hz1
  have hzb : i0.bytes * V ≤ 281474976710656 := by rw [hz2]; omega
  have HB0 := hide (Bg.start w (.int .i64 V) (.slice a n cap))
  clear h hp hn hT hF hi0 hz0 hz1 hz2
  go_enter Tryd.func12, Tryd.ntmps12
  go_wp2_with fail
  refine (unhide HMAY _ ((unhide HE).below (unhide HB0).bel)).mono ?_
  rintro e w1 ⟨rfl, hb1⟩
  have HB1 := hide ((unhide HB0).step hb1)
  obtain ⟨g0, g1⟩ := (unhide HB1).cells
  clear hb1 HB0 HMAY
  go_wp2_with fail
  refine (unhide HHD _ ((unhide HE).below (unhide HB1).bel)).mono ?_
  rintro e w2 ⟨⟨gh, rfl, hgh, hrow⟩, hb2⟩
  have HB2 := hide ((unhide HB1).step hb2)
  have HR2 := hide hrow
  have hlh := hrow.lt
  clear hb2 HB1 HHD hrow g0 g1
  obtain ⟨g0, g1⟩ := (unhide HB2).cells
  have hsz2 := (unhide HB2).lt
  go_wp2_with (refine wpList_make_full _ rfl (.tmp 15) (.tmp 15) 34 rfl w2.heap.size 25 i0 (.int .u64 0) 1 Tryd.underlying34 (unhide HI) (unhide HZ0) (unhide HZ1) .i64 .i64 _ _ V rfl rfl rfl rfl hzb ?m1 ?m2 ?_)
  case m1 => unfold maxLen; omega
  case m2 => simp
  intro w3 hown3 hg3
  rw [toList_madeCells_one] at hown3
  have HB3 := hide (show Below w2.heap.size w2 w3 from ⟨hg3.os, hg3.tape, hg3.output, hg3.size, fun k hk => hg3.block k hk (by simp)⟩)
  have HR3 := hide ((Row.of_owns hown3).congr (f' := fun t => .int .u64 ((if t < 0 then F t else 0 : Nat) : Nat)) (fun t ht => rfl))
  clear hown3 hg3 g0 g1
  go_wp2_with fail
  go_loopw [19] (fun i wr => ∃ k : Nat, i = .int .i64 k ∧ k ≤ V ∧ Hid (RowU wr w2.heap.size V (fun t => if t < k then F t else 0)) ∧ Hid (Below w2.heap.size w2 wr)) (fun i wr => V - (intOf i).toNat)
  case atStart => exact ⟨0, rfl, by omega, HR3, HB3⟩
  case round =>
    obtain ⟨k, rfl, hk, HR, HB⟩ := hrel
    have hsz := (unhide HR).lt
    by_cases hlt : k < V
    · have hlt2 : (k : Int) < (V : Int) := by omega
      go_wp2_with fail
      refine (of_any _ _ 1 1 [(k : Int)] (ns_one wr k)).mono ?_
      rintro e w5 ⟨rfl, hw5⟩
      obtain rfl := hw5.symm
      clear hw5
      have X4 := hide ((unhide HB).alloc (Nat.le_of_lt hsz) (.cells #[.int .i64 (k : Int)] 3))
      have R4 := hide ((unhide HR).below (b_al (.cells #[.int .i64 (k : Int)] 3)))
      generalize (wr.alloc (.cells #[.int .i64 (k : Int)] 3)) = wa at X4 R4 ⊢
      go_wp2_with fail
      refine (unhide HSP wa ((unhide HT).below (bto (unhide HB2).bel (unhide X4))) gh k hlt (Row.below (unhide HR2) (unhide X4))).mono ?_
      rintro e wb ⟨rfl, hb⟩
      have R5 := hide ((unhide R4).below hb)
      have X5 := hide ((unhide X4).trans (hb.mono (by have := (unhide X4).size; omega)))
      have r1 := (unhide R5).fz k
      have hw5 := (unhide R5).lt
      have r0 := (unhide R5).cell (t := k) hlt
      clear hb X4 R4
      go_wp2_with fail
      go_roundw
      case rel =>
        refine ⟨k + 1, by go_num, by omega, ?_, ?_⟩
        · refine Row.congr (RowU.set (unhide R5) k (F k)) fun t ht => ?_
          unfold upd
          by_cases h1 : t = k
          · subst h1; simp
          · rw [if_neg h1]
            dsimp only
            by_cases h2 : t < k
            · rw [if_pos h2, if_pos (by omega)]
            · rw [if_neg h2, if_neg (by omega)]
        · exact (unhide X5).setCell (p := ⟨w2.heap.size, k, none⟩) (Nat.le_refl _) _
      case measure => simp [intOf]; omega
    · obtain rfl : k = V := by omega
      go_wp2_with fail
      go_ret
      refine ⟨⟨_, rfl, by omega, Row.congr (unhide HR) fun t ht => by simp only [ht, if_true]⟩, bto (unhide HB2).bel (unhide HB)⟩

set_option maxHeartbeats 1000000 in
theorem from_no (w : World) (V : Int) (a : Option Addr) (n cap : Nat) (zs : List (Int × Int)) {B : Nat} (h : Es B w a n zs) (hno : ¬ Good V n zs) :
    Calls Tryd.prog 12 #[.agg #[.int .i64 V, .slice a n cap]] w fun e w' => e = .returned (.slice none 0 0) ∧ Below w.heap.size w w' := by
  have HB0 := hide (Bg.start w (.int .i64 V) (.slice a n cap))
  have HE := hide h
  clear h
  go_enter Tryd.func12, Tryd.ntmps12
  go_wp2_with fail
  refine (may_no _ V a n cap zs ((unhide HE).below (unhide HB0).bel) hno).mono ?_
  rintro e w1 ⟨rfl, hb1⟩
  have HB1 := hide ((unhide HB0).step hb1)
  clear hb1 HB0
  go_wp2_with fail
  go_ret
  exact ⟨rfl, (unhide HB1).bel⟩
end Go.Proofs.YtjklmbboklgdpaaDoor


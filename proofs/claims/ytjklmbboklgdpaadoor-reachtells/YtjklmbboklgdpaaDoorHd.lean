/-
  The contract of reach.heads: for each vertex the set of the heads of the edges from it. Conditions: the edges lie in memory as told, their ends are vertices.
-/
import Derived.Test.YtjklmbboklgdpaaDoorMem
namespace Go.Proofs.YtjklmbboklgdpaaDoor
open Go.RowKit
set_option linter.unusedVariables false

/-- the heads of the edges from a vertex -/
def hdS (es : List (Nat × Nat)) (x : Nat) : Nat := ofS ((es.filter fun e => e.1 == x).map fun e => (e.2 : Int))
theorem hdS_lt (es : List (Nat × Nat)) (x : Nat) : hdS es x < 18446744073709551616 := ofS_lt _
theorem testBit_hdS (es : List (Nat × Nat)) (x j : Nat) : (hdS es x).testBit j = decide (j < 64 ∧ (x, j) ∈ es) := by
  unfold hdS
  rw [testBit_ofS]
  congr 1
  apply propext
  simp only [List.mem_map, List.mem_filter, beq_iff_eq]
  constructor
  · rintro ⟨h, ⟨p, q⟩, ⟨h1, rfl⟩, h2⟩
    refine ⟨h, ?_⟩
    have : q = j := by simp at h2; omega
    subst this
    exact h1
  · rintro ⟨h, h1⟩
    exact ⟨h, (x, j), ⟨h1, rfl⟩, rfl⟩
theorem hdS_snoc (es : List (Nat × Nat)) (p q x : Nat) : hdS (es ++ [(p, q)]) x = if x = p then hdS es x ||| bitI (q : Int) else hdS es x := by
  unfold hdS
  rw [List.filter_append]
  by_cases h : x = p
  · subst h
    simp [ofS_snoc]
  · have h' : ¬ p = x := fun e => h e.symm
    simp [h, h']
theorem take_snoc (es : List (Nat × Nat)) (k : Nat) (h : k < es.length) : es.take (k + 1) = es.take k ++ [es.getD k (0, 0)] := by
  rw [List.take_add_one]
  simp [List.getD, h]
theorem hdS_step (es : List (Nat × Nat)) (k p q : Nat) (h : k < es.length) (he : es.getD k (0, 0) = (p, q)) : hdS (es.take (k + 1)) = upd (hdS (es.take k)) p (hdS (es.take k) p ||| bitI (q : Int)) := by
  funext x
  rw [take_snoc es k h, he, hdS_snoc]
  unfold upd
  split
  · rename_i hx; rw [hx]
  · rfl

/-- all ways come to one goal -/
theorem in_one {G p : Prop} (h : G) (k : G → p) : p := k h
theorem ns_one' (w : World) (x : Int) (g : Nat) (hg : g = w.heap.size) : Ns (w.alloc (.cells #[.int .i64 x] 3)) (some ⟨g, 0, none⟩) 1 [x] := by
  subst hg
  exact ns_one w x

set_option maxHeartbeats 4000000 in
theorem heads_any (w : World) (V : Nat) (a : Option Addr) (cap : Nat) (es : List (Nat × Nat)) {B : Nat} (h : Es B w a es.length (toI es)) (hp : Plain V es) :
    Calls Tryd.prog 22 #[.int .i64 V, .slice a es.length cap] w fun e w' => (∃ g, e = .returned (.slice (some ⟨g, 0, none⟩) V V) ∧ w.heap.size ≤ g ∧ RowU w' g V (hdS es)) ∧ Below w.heap.size w w' := by
  have hv64 := hp.v64
  have hv1 := hp.v1
  have hn128 := hp.n128
  have HE := hide h
  have HP := hide hp
  obtain ⟨n, hn⟩ : ∃ n, es.length = n := ⟨_, rfl⟩
  have HN := hide hn
  rw [hn] at hn128 ⊢
  obtain ⟨i0, hi0, hz0, hz1, hz2⟩ := info_parts info25
  have HI := hide hi0
  have HZ0 := hide hz0
  have HZ1 := hide hz1
  have hzb : i0.bytes * V ≤ 281474976710656 := by rw [hz2]; omega
  clear h hp hn hi0 hz0 hz1 hz2
  go_enter Tryd.func22, Tryd.ntmps22
  go_wp2_with (refine wpList_make_full _ rfl (.tmp 8) (.tmp 8) 34 rfl w.heap.size 25 i0 (.int .u64 0) 1 Tryd.underlying34 (unhide HI) (unhide HZ0) (unhide HZ1) .i64 .i64 _ _ V rfl rfl rfl rfl hzb ?m1 ?m2 ?_)
  case m1 => unfold maxLen; omega
  case m2 => simp
  intro w1 hown1 hg1
  rw [toList_madeCells_one] at hown1
  have hg1s := hg1.size
  have HB1 := hide (show Below w.heap.size w w1 from ⟨hg1.os, hg1.tape, hg1.output, hg1.size, fun k hk => hg1.block k hk (by simp)⟩)
  have HR1 := hide ((Row.of_owns hown1).congr (f' := fun t => .int .u64 (hdS (es.take 0) t : Nat)) (fun t ht => rfl))
  clear hown1 hg1
  go_wp2_with fail
  go_loopw [12] (fun i wr => ∃ k : Nat, i = .int .i64 k ∧ k ≤ n ∧ Hid (RowU wr w.heap.size V (hdS (es.take k))) ∧ Hid (Below w.heap.size w wr)) (fun i wr => n - (intOf i).toNat)
  case atStart => exact ⟨0, rfl, by omega, HR1, HB1⟩
  case round =>
    obtain ⟨k, rfl, hk, HR, HB⟩ := hrel
    have hsz := (unhide HR).lt
    by_cases hlt : k < n
    · obtain ⟨g, off, ha, hg, c0, c1⟩ := es_at (unhide HE) (i := k) (by rw [unhide HN]; exact hlt)
      subst ha
      have hends := (unhide HP).at (i := k) (by rw [unhide HN]; exact hlt)
      have hstep := fun p q he => hdS_step es k p q (by rw [unhide HN]; exact hlt) he
      obtain ⟨⟨p, q⟩, hpq⟩ : ∃ e, es.getD k (0, 0) = e := ⟨_, rfl⟩
      rw [hpq] at c0 c1 hends
      have hst := hstep p q hpq
      have HST := hide hst
      clear hstep hpq hst
      obtain ⟨hp, hq⟩ := hends
      simp only at c0 c1 hp hq
      have d0 : wr.cell? ⟨g, off + k * 2, none⟩ = some (.int .i64 (p : Nat)) := by rw [(unhide HB).cell (p := ⟨g, off + k * 2, none⟩) hg]; exact c0
      have d1 : wr.cell? ⟨g, off + k * 2 + 1, none⟩ = some (.int .i64 (q : Nat)) := by rw [(unhide HB).cell (p := ⟨g, off + k * 2 + 1, none⟩) hg]; exact c1
      have r0 := (unhide HR).cell (t := p) hp
      have r1 := (unhide HR).fz p
      have hlt2 : (k : Int) < (n : Int) := by omega
      have hp2 : (p : Int) < (V : Int) := by omega
      clear c0 c1
      have hsl := hdS_lt (es.take k) p
      obtain ⟨s, hs⟩ : ∃ s, hdS (es.take k) p = s := ⟨_, rfl⟩
      rw [hs] at r0 hsl
      have HS := hide hs
      clear hs
      go_wp2_with fail
      refine in_one (G := ?G) ?fin fun hfin => ?walk
      case walk =>
        go_region_with (go_at_call 8; refine (of_any _ _ 1 1 [(q : Int)] ?_).mono ?_; exact ns_one' _ _ _ (by simp); rintro e w5 ⟨rfl, hw5⟩; obtain rfl := hw5.symm; clear hw5)
        all_goals exact hfin
      go_wp2_with fail
      go_roundw
      case rel =>
        refine ⟨k + 1, by go_num, by omega, ?_, ?_⟩
        · rw [unhide HST, ofS_one, u64_or_nat _ _ hsl (bitI_lt _)]
          have h1 := RowU.set (unhide HR) p (s ||| bitI (q : Int))
          rw [← unhide HS] at h1 ⊢
          exact ((h1.below ((Below.refl _ _).alloc (Nat.le_refl _) _)).below ((Below.refl _ _).alloc (Nat.le_refl _) _)).below (Below.refl _ _).drew
        · exact ((((unhide HB).setCell (p := ⟨w.heap.size, p, none⟩) (Nat.le_refl _) _).alloc (by simp; omega) _).alloc (by simp; omega) _).drew
      case measure => simp [intOf]; omega
    · obtain rfl : k = n := by omega
      go_wp2_with fail
      go_ret
      refine ⟨⟨_, rfl, Nat.le_refl _, ?_⟩, unhide HB⟩
      have := unhide HR
      rw [← unhide HN, List.take_length] at this
      exact this
end Go.Proofs.YtjklmbboklgdpaaDoor

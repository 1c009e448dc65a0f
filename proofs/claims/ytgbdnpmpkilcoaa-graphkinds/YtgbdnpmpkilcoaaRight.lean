/-
  The contract of the statement's own right: whether a list has each vertex once, tails ahead of heads. Conditions: the graph and the list lie in memory as told.
-/
import Derived.Test.YtgbdnpmpkilcoaaLeastP
import Derived.Test.YtgbdnpmpkilcoaaBx
import Derived.Test.YtgbdnpmpkilcoaaPlL
import Derived.OwnWalk
namespace Go.Proofs.Ytgbdnpmpkilcoaa
open Go.RowKit
set_option linter.unusedVariables false

set_option maxHeartbeats 8000000 in
theorem right_any (w : World) (V : Nat) (a : Option Addr) (cap : Nat) (es : List (Nat × Nat)) (la : Option Addr) (m lc : Nat) (xs : List Int) {B : Nat} (h : Es B w a es.length (toI es)) (hp : Plain V es) (hl : Ns w la m xs) :
    Calls Try.prog 29 #[.agg #[.int .i64 V, .slice a es.length cap], .slice la m lc] w fun e w' => Told (IsRight V es xs) e ∧ Below w.heap.size w w' := by
  have hv64 := hp.v64
  have hv1 := hp.v1
  have hn128 := hp.n128
  have HE := hide h
  have HP := hide hp
  have HL := hide hl
  obtain ⟨n, hn⟩ : ∃ n, es.length = n := ⟨_, rfl⟩
  have HN := hide hn
  rw [hn] at hn128 ⊢
  have HB0 := hide (Bg.start w (.int .i64 V) (.slice a n cap))
  have hcall := each_any (w.alloc (.cells #[.int .i64 V, .slice a n cap] 24)) la m lc V xs (hl.below (unhide HB0).bel) (by omega)
  have HCALL := hide hcall
  obtain ⟨i0, hi0, hz0, hz1, hz2⟩ := info_parts info3
  have HI := hide hi0
  have HZ0 := hide hz0
  have HZ1 := hide hz1
  have hzb : i0.bytes * V ≤ 281474976710656 := by rw [hz2]; omega
  clear h hp hl hn hcall hi0 hz0 hz1 hz2
  go_enter Try.func29, Try.ntmps29
  go_wp2_with fail
  refine (unhide HCALL).mono ?_
  rintro e w' ⟨⟨r, rfl, hr⟩, hw'⟩
  obtain rfl := hw'.symm
  have HR := hide hr
  clear hr hw' HCALL
  cases r with
  | false =>
    go_wp2_with fail
    go_ret
    exact ⟨.no (fun hx => by have := (unhide HR).2 hx.1; simp at this), (unhide HB0).bel⟩
  | true =>
    have hP := (unhide HR).1 (by trivial)
    have HPM := hide hP
    have hmV : m = V := by rw [← (unhide HL).1]; exact hP.1
    subst hmV
    have hxl : xs.length = m := hP.1
    have HXL := hide hxl
    clear hP HR hxl
    go_wp2_with (refine wpList_make_full _ rfl (.tmp 16) (.tmp 16) 28 rfl (w.heap.size + 1) 3 i0 (.int .i64 0) 1 Try.underlying28 (unhide HI) (unhide HZ0) (unhide HZ1) .i64 .i64 _ _ m rfl rfl rfl rfl hzb ?m1 ?m2 ?_)
    case m1 => unfold maxLen; omega
    case m2 => simp
    intro w1 hown1 hg1
    have hrow1 : RowAt w1 (w.heap.size + 1) 0 m (fun t => 0) := by
      have : (madeCells #[Value.int IntKind.i64 0] m).toList = zcells (List.replicate m 0) := by
        rw [toList_madeCells_one]
        simp [zcells]
      rw [this] at hown1
      refine (RowAt.of_owns hown1).congr (fun t ht => ?_)
      simp [List.getD, ht]
    have HR1 := hide hrow1
    have HBX1 := hide ((unhide HB0).step ⟨hg1.os, hg1.tape, hg1.output, hg1.size, fun k hk => hg1.block k hk (by simp)⟩)
    clear hown1 hg1 hrow1
    go_wp2_with fail
    go_loopw [20] (fun i wr => ∃ (k : Nat) (f : Nat → Int), i = .int .i64 k ∧ k ≤ m ∧ Hid (RowAt wr (w.heap.size + 1) 0 m f) ∧ Hid (∀ j, j < k → f (xs.getD j 0).toNat = (j : Int)) ∧ Hid (Bg w wr (.int .i64 m) (.slice a n cap))) (fun i wr => m - (intOf i).toNat)
    case atStart => exact ⟨0, _, rfl, by omega, HR1, fun j hj => by omega, HBX1⟩
    case round =>
      obtain ⟨k, f, rfl, hk, HF, HK, HBX⟩ := hrel
      obtain ⟨q0, q1⟩ := (unhide HBX).cells
      by_cases hlt : k < m
      · obtain ⟨g, off, ha, hg, d0⟩ := (unhide HL).2.2 k hlt
        subst ha
        have hmem : xs.getD k 0 ∈ xs := by
          have hk' : k < xs.length := by rw [unhide HXL]; exact hlt
          simp [List.getD, hk']
        have hbd := (unhide HPM).2.2 _ hmem
        obtain ⟨x, hx⟩ : ∃ x : Nat, xs.getD k 0 = x := ⟨(xs.getD k 0).toNat, by omega⟩
        rw [hx] at d0 hbd
        have HX := hide hx
        have d1 : wr.cell? ⟨g, off + k, none⟩ = some (.int .i64 (x : Nat)) := by rw [(unhide HBX).bel.cell (p := ⟨g, off + k, none⟩) hg]; exact d0
        have hxm : x < m := by omega
        have s0 := (unhide HF).cell (t := x) hxm
        have s1 := (unhide HF).fz (0 + x)
        rw [Nat.zero_add] at s0 s1
        have hlt2 : (k : Int) < (m : Int) := by omega
        have hxm2 : (x : Int) < (m : Int) := by omega
        clear d0 hx hmem hbd
        go_wp2_with fail
        go_roundw
        case rel =>
          refine ⟨k + 1, _, by go_num, by omega, by have := (unhide HF).set x (k : Int); rw [Nat.zero_add] at this; exact this, fun j hj => ?_, ?_⟩
          · by_cases hjk : j = k
            · subst hjk
              rw [unhide HX]
              simp
            · have hjk2 : j < k := by omega
              have hne : (xs.getD j 0).toNat ≠ x := by
                intro he
                have hjl : j < xs.length := by rw [unhide HXL]; omega
                have hkl : k < xs.length := by rw [unhide HXL]; exact hlt
                have h1 : xs.getD j 0 = xs[j] := by simp [List.getD, hjl]
                have h2 : xs.getD k 0 = xs[k] := by simp [List.getD, hkl]
                have h3 := (unhide HPM).2.2 xs[j] (by simp)
                have h4 := unhide HX
                rw [h1] at he
                rw [h2] at h4
                exact List.pairwise_iff_getElem.1 (unhide HPM).2.1 j k hjl hkl hjk2 (by omega)
              show (if (xs.getD j 0).toNat = x then (k : Int) else f (xs.getD j 0).toNat) = j
              rw [if_neg hne]
              exact unhide HK j hjk2
          · exact ⟨(unhide HBX).bel.setCell (p := ⟨w.heap.size + 1, x, none⟩) (Nat.le_succ _) _, by rw [Below.heap_setCell _ _ _ _ (show w.heap.size ≠ w.heap.size + 1 by omega)]; exact (unhide HBX).gb⟩
        case measure => simp [intOf]; omega
      · obtain rfl : k = m := by omega
        have hpos : ∀ x : Nat, x < k → f x = ix xs x := by
          intro x hx
          have hm := perm_all (unhide HPM) x hx
          rcases ix_cases xs (x : Int) with ⟨_, hn⟩ | ⟨j, hj, hjl, hjv, _⟩
          · exact absurd hm hn
          · have := unhide HK j (by rw [unhide HXL] at hjl; exact hjl)
            rw [hjv] at this
            rw [hj, ← this]
            simp
        have HPOS := hide hpos
        clear hpos HK HR1 HBX1
        go_wp2_with fail
        go_loopw [33] (fun i wr => ∃ j : Nat, i = .int .i64 j ∧ j ≤ n ∧ Hid (RowAt wr (w.heap.size + 1) 0 k f) ∧ Hid (Bg w wr (.int .i64 k) (.slice a n cap)) ∧ Hid (∀ t, t < j → ix xs (Pl.at' es t).1 < ix xs (Pl.at' es t).2)) (fun i wr => n - (intOf i).toNat)
        case atStart => exact ⟨0, rfl, by omega, HF, HBX, fun j hj => by omega⟩
        case round =>
          obtain ⟨j, rfl, hj, HF2, HBX2, HT⟩ := hrel
          by_cases hjn : j < n
          · obtain ⟨ge, off, ha, hge, e0, e1⟩ := es_at ((unhide HE).below (unhide HBX2).bel) (i := j) (by rw [unhide HN]; exact hjn)
            have hpV := (unhide HP).at (i := j) (by rw [unhide HN]; exact hjn)
            obtain ⟨x, y, hxy⟩ : ∃ x y, Pl.at' es j = (x, y) := ⟨_, _, rfl⟩
            rw [hxy] at e0 e1 hpV
            obtain ⟨hxV, hyV⟩ := hpV
            simp only at e0 e1 hxV hyV
            subst ha
            have p0 := (unhide HF2).cell (t := x) hxV
            have p1 := (unhide HF2).cell (t := y) hyV
            rw [Nat.zero_add, unhide HPOS x hxV] at p0
            rw [Nat.zero_add, unhide HPOS y hyV] at p1
            obtain ⟨zx, hzx⟩ : ∃ z, ix xs x = z := ⟨_, rfl⟩
            obtain ⟨zy, hzy⟩ : ∃ z, ix xs y = z := ⟨_, rfl⟩
            rw [hzx] at p0
            rw [hzy] at p1
            have HXY := hide hxy
            have HZX := hide hzx
            have HZY := hide hzy
            have hjn2 : (j : Int) < (n : Int) := by omega
            have hxV2 : (x : Int) < (k : Int) := by omega
            have hyV2 : (y : Int) < (k : Int) := by omega
            have hrl := (unhide HF2).lt
            have hbox : Below wr.heap.size wr (wr.alloc (.cells #[.int .i64 x, .int .i64 y] 54)) := (Below.refl _ _).alloc (Nat.le_refl _) _
            have HF3 := hide ((unhide HF2).keep (hbox.block _ hrl))
            have HBX3 := hide ((unhide HBX2).step hbox)
            obtain ⟨wo, hwo⟩ : ∃ wo, wr.alloc (.cells #[.int .i64 x, .int .i64 y] 54) = wo := ⟨_, rfl⟩
            clear hxy hzx hzy hbox hwo
            by_cases hlt3 : zx < zy
            · have hlt4 : ¬ zy ≤ zx := by omega
              go_wp2_with fail
              go_quiet (fail)
              go_wp2_with fail
              go_roundw
              case rel =>
                refine ⟨j + 1, by go_num, by omega, HF3, (unhide HBX3).step (below_refl_draws _ _), fun t ht => ?_⟩
                by_cases htj : t < j
                · exact unhide HT t htj
                · obtain rfl : t = j := by omega
                  rw [unhide HXY, unhide HZX, unhide HZY]
                  exact hlt3
              case measure => simp [intOf]; omega
            · have hlt4 : zy ≤ zx := by omega
              go_wp2_with fail
              go_quiet (fail)
              go_wp2_with fail
              go_ret
              refine ⟨.no (fun hx => ?_), below_draws (unhide HBX3).bel _⟩
              have := hx.2 j (by rw [unhide HN]; exact hjn)
              rw [unhide HXY, unhide HZX, unhide HZY] at this
              omega
          · obtain rfl : j = n := by omega
            go_wp2_with fail
            go_ret
            exact ⟨.yes ⟨unhide HPM, fun i hi => unhide HT i (by rw [unhide HN] at hi; exact hi)⟩, (unhide HBX2).bel⟩
end Go.Proofs.Ytgbdnpmpkilcoaa

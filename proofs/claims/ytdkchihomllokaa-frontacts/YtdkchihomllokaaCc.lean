/-
  The contracts of slices.Grow at nil, and of slices.Concat at two rows of ints, the first of which isn't empty. Conditions: the rows lie in memory as told.
-/
import Derived.Test.YtdkchihomllokaaCl
import Derived.Lib.AppendZeros
namespace Go.Proofs.Ytdkchihomllokaa
open Go.RowKit
set_option linter.unusedVariables false
set_option maxRecDepth 20000

set_option maxHeartbeats 1000000 in
theorem grow_nil (w : World) (n : Nat) (h1 : 1 ≤ n) (hn : n ≤ 1000000) :
    Calls Try.prog 85 #[.slice none 0 0, .int .i64 n] w fun e w' => (∃ v, e = .returned v ∧ w'.ownsRow w.heap.size 3 1 v 0 []) ∧ Below w.heap.size w w' := by
  obtain ⟨i0, hi0, hz0, hz1, hz2⟩ := info_parts info3
  have hrun := fun (ty : TypeId) (w : World) => Lib.run_append_nil_zeros (P := Try.prog) w 34 3 ty 3 i0 (.int .i64 0) .i64 .i64 Try.underlying34 Try.underlying3 hi0 hz0 n (by omega) (by rw [hz1]; omega) (by omega) (by rw [hz2]; omega)
  have HR := hide hrun
  clear hi0 hz0 hz1 hz2 hrun
  have h1' : (1 : Int) ≤ (n : Int) := by omega
  have h2' : (0 : Int) < (n : Int) := by omega
  have h3' : ¬ (n : Int) < 0 := by omega
  go_enter Try.func85, Try.ntmps85
  go_wp2_with (at_builtin; refine Lib.wpList_append_run _ rfl (.tmp 20) (.tmp 21) 34 3 rfl _ _ rfl rfl _ _ (unhide HR _ _) ?_)
  go_wp2
  go_ret
  refine ⟨⟨_, rfl, ?_⟩, (((Below.refl _ _).drew).alloc (Nat.le_refl _) _)⟩
  refine ⟨by simp, .inr ⟨w.heap.size, _, _, rfl, Nat.le_refl _, heap_alloc_new w.drew _, by omega, grownCap_le_maxLen w n 0 3 (by unfold maxLen; omega), ?_, by simp⟩⟩
  have := grownCap_ge w n 0 3
  simp [Builtin.zeroCells]
  omega

set_option maxHeartbeats 2000000 in
theorem concat_two (w : World) (q cq : Nat) (p1 p2 : Addr) (n1 c1 n2 c2 : Nat) (xs ys : List Int) (hq0 : w.cell? ⟨q, 0, none⟩ = some (.slice (some p1) n1 c1)) (hq1 : w.cell? ⟨q, 1, none⟩ = some (.slice (some p2) n2 c2)) (hq : q < w.heap.size)
    (h1 : Ns w (some p1) n1 xs) (h2 : Ns w (some p2) n2 ys) (hn1 : 1 ≤ n1) (hb1 : n1 ≤ 100000) (hb2 : n2 ≤ 100000) :
    Calls Try.prog 68 #[.slice (some ⟨q, 0, none⟩) 2 cq] w fun e w' => (∃ v, e = .returned v ∧ w'.ownsRow w.heap.size 3 1 v (n1 + n2) (zcells (xs ++ ys))) ∧ Below w.heap.size w w' := by
  obtain ⟨i0, hi0, hz0, hz1, hz2⟩ := info_parts info3
  have HI := hide hi0
  have HZ0 := hide hz0
  have HZ1 := hide hz1
  have HZ2 := hide hz2
  have H1 := hide h1
  have H2 := hide h2
  have HQ0 := hide hq0
  have HQ1 := hide hq1
  clear hi0 hz0 hz1 hz2 h1 h2
  go_enter Try.func68, Try.ntmps68
  go_wp2
  go_loop [3, 11] (fun s i => (i = .int .i64 0 ∧ s = .int .i64 0) ∨ (i = .int .i64 1 ∧ s = .int .i64 n1) ∨ (i = .int .i64 2 ∧ s = .int .i64 ((n1 + n2 : Nat) : Int))) (fun s i => 2 - (intOf i).toNat)
  case atStart => exact .inl ⟨rfl, rfl⟩
  case round =>
    rcases hrel with ⟨rfl, rfl⟩ | ⟨rfl, rfl⟩ | ⟨rfl, rfl⟩
    · go_wp2
      go_round
      case rel => exact .inr (.inl ⟨rfl, by go_num⟩)
      case measure => simp [intOf]
    · go_wp2
      go_round
      case rel => exact .inr (.inr ⟨rfl, by go_num⟩)
      case measure => simp [intOf]
    · go_wp2_with fail
      refine (grow_nil _ (n1 + n2) (by omega) (by omega)).mono ?_
      rintro e w1 ⟨⟨v, rfl, hown⟩, hb⟩
      have HO := hide hown
      have HB := hide hb
      have c0 : w1.cell? ⟨q, 0, none⟩ = some (.slice (some p1) n1 c1) := by rw [hb.cell (p := ⟨q, 0, none⟩) hq]; exact unhide HQ0
      have c1' : w1.cell? ⟨q, 1, none⟩ = some (.slice (some p2) n2 c2) := by rw [hb.cell (p := ⟨q, 1, none⟩) hq]; exact unhide HQ1
      have N1 := hide ((unhide H1).below hb)
      clear hown hb hq0 hq1
      go_wp2_with fail
      go_loopw [6, 27] (fun s i wr => ((i = .int .i64 0 ∧ wr.ownsRow w.heap.size 3 1 s 0 []) ∨ (i = .int .i64 1 ∧ wr.ownsRow w.heap.size 3 1 s n1 (zcells xs)) ∨ (i = .int .i64 2 ∧ wr.ownsRow w.heap.size 3 1 s (n1 + n2) (zcells (xs ++ ys)))) ∧ Below w.heap.size w wr) (fun s i wr => 2 - (intOf i).toNat)
      case atStart => exact ⟨.inl ⟨rfl, unhide HO⟩, unhide HB⟩
      case round =>
        obtain ⟨hrel, hbr⟩ := hrel
        have r0 : wr.cell? ⟨q, 0, none⟩ = some (.slice (some p1) n1 c1) := by rw [hbr.cell (p := ⟨q, 0, none⟩) hq]; exact unhide HQ0
        have r1 : wr.cell? ⟨q, 1, none⟩ = some (.slice (some p2) n2 c2) := by rw [hbr.cell (p := ⟨q, 1, none⟩) hq]; exact unhide HQ1
        have M1 := hide ((unhide H1).below hbr)
        have M2 := hide ((unhide H2).below hbr)
        have HBR := hide hbr
        have hsz := hbr.size
        clear hbr c0 c1'
        rcases hrel with ⟨rfl, ho⟩ | ⟨rfl, ho⟩ | ⟨rfl, ho⟩
        · have HO2 := hide ho
          clear ho
          go_wp2_with (at_builtin; refine wpList_append_own _ rfl (.tmp 31) (.tmp 32) 34 rfl w.heap.size 3 i0 (.int .i64 0) 1 8 Try.underlying34 (unhide HI) (unhide HZ0) (unhide HZ1) (unhide HZ2) rfl (by decide) u6 0 [] rfl (unhide HO2) p1 n1 c1 (zcells xs) rfl ?d1 (unhide M1).cells (zcells_one xs) ?d4 ?d5 hsz ?_)
          case d1 => rw [zcells_length, (unhide H1).1]; omega
          case d4 => unfold maxLen; omega
          case d5 => omega
          intro v2 w4 hown4 hg4 _
          have HO4 := hide hown4
          have HB4 := hide ((unhide HBR).grown hg4 hsz fun k hk => ((unhide HO2).lt k hk).1)
          clear hown4 hg4
          go_wp2_with fail
          go_roundw
          case rel =>
            refine ⟨.inr (.inl ⟨rfl, ?_⟩), unhide HB4⟩
            have := unhide HO4
            simpa using this
          case measure => simp [intOf]
        · have HO2 := hide ho
          clear ho
          go_wp2_with (at_builtin; refine wpList_append_own _ rfl (.tmp 31) (.tmp 32) 34 rfl w.heap.size 3 i0 (.int .i64 0) 1 8 Try.underlying34 (unhide HI) (unhide HZ0) (unhide HZ1) (unhide HZ2) rfl (by decide) u6 n1 (zcells xs) rfl (unhide HO2) p2 n2 c2 (zcells ys) rfl ?e1 (unhide M2).cells (zcells_one ys) ?e4 ?e5 hsz ?_)
          case e1 => rw [zcells_length, (unhide H2).1]; omega
          case e4 => unfold maxLen; omega
          case e5 => omega
          intro v2 w4 hown4 hg4 _
          have HO4 := hide hown4
          have HB4 := hide ((unhide HBR).grown hg4 hsz fun k hk => ((unhide HO2).lt k hk).1)
          clear hown4 hg4
          go_wp2_with fail
          go_roundw
          case rel =>
            refine ⟨.inr (.inr ⟨rfl, ?_⟩), unhide HB4⟩
            have := unhide HO4
            simpa [zcells] using this
          case measure => simp [intOf]
        · have HO2 := hide ho
          clear ho
          go_wp2_with fail
          go_ret
          exact ⟨⟨_, rfl, unhide HO2⟩, unhide HBR⟩
end Go.Proofs.Ytdkchihomllokaa

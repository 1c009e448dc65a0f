/-
  The contract of Set.All: the vertices of a set, rising. Conditions: the table of math/bits holds what its initialiser lays.
-/
import Derived.Test.YtjklmbboklgdpaaDoorOf
namespace Go.Proofs.YtjklmbboklgdpaaDoor
open Go.RowKit
set_option linter.unusedVariables false

/-- the vertices of a set below m, rising -/
def lowS (s m : Nat) : List Nat := (List.range m).filter fun j => s.testBit j
def allS (s : Nat) : List Nat := lowS s 64
theorem lowS_len (s m : Nat) : (lowS s m).length ≤ m := by
  have := List.length_filter_le (fun j => s.testBit j) (List.range m)
  simpa [lowS] using this
theorem lowS_mem (s m j : Nat) : j ∈ lowS s m ↔ j < m ∧ s.testBit j = true := by simp [lowS]
theorem lowS_gap (s m k : Nat) (hmk : m ≤ k) (hz : ∀ j, m ≤ j → j < k → s.testBit j = false) : lowS s k = lowS s m := by
  obtain ⟨d, rfl⟩ : ∃ d, k = m + d := ⟨k - m, by omega⟩
  induction d with
  | zero => rfl
  | succ d ih =>
    have h1 := ih (by omega) (fun j h1 h2 => hz j h1 (by omega))
    have h2 := hz (m + d) (by omega) (by omega)
    rw [← h1]
    unfold lowS
    rw [show m + (d + 1) = m + d + 1 by omega, List.range_succ, List.filter_append]
    simp [h2]
theorem lowS_step (s m k : Nat) (hmk : m ≤ k) (hz : ∀ j, m ≤ j → j < k → s.testBit j = false) (hk : s.testBit k = true) : lowS s (k + 1) = lowS s m ++ [k] := by
  rw [← lowS_gap s m k hmk hz]
  unfold lowS
  rw [List.range_succ, List.filter_append]
  simp [hk]
theorem dif_less {t k : Nat} (hk : k < 64) (hb : t.testBit k = true) : dif t (bitI (k : Int)) < t := by
  have h1 : dif t (bitI (k : Int)) ≤ t := Nat.and_le_left
  have h2 : dif t (bitI (k : Int)) ≠ t := by
    intro h
    have := testBit_dif t (bitI (k : Int)) k (bitI_lt _)
    rw [h, hb, testBit_bitI] at this
    simp [hk] at this
  omega
theorem one_int (k : Nat) : ∀ u ∈ [Value.int .i64 (k : Int)], u.oneCell' = true := by
  intro u hu
  simp only [List.mem_singleton] at hu
  subst hu
  rfl

set_option maxHeartbeats 2000000 in
theorem all_any (w : World) (hT : Tab w) (s : Nat) (hs : s < 18446744073709551616) :
    Calls Tryd.prog 11 #[.int .u64 s] w fun e w' => (∃ v, e = .returned v ∧ w'.ownsRow w.heap.size 3 1 v (allS s).length (zcells (toIs (allS s)))) ∧ Below w.heap.size w w' := by
  obtain ⟨i0, hi0, hz0, hz1, hz2⟩ := info_parts info3
  have HI := hide hi0
  have HZ0 := hide hz0
  have HZ1 := hide hz1
  have HZ2 := hide hz2
  have HT := hide hT
  clear hi0 hz0 hz1 hz2 hT
  go_enter Tryd.func11, Tryd.ntmps11
  go_wp2
  go_loopw [0, 3] (fun sv v wr => ∃ m t : Nat, sv = .int .u64 t ∧ m ≤ 64 ∧ t < 18446744073709551616 ∧ Hid (∀ j, t.testBit j = (decide (m ≤ j) && s.testBit j)) ∧ Hid (wr.ownsRow w.heap.size 3 1 v (lowS s m).length (zcells (toIs (lowS s m)))) ∧ Hid (Below w.heap.size w wr)) (fun sv v wr => (intOf sv).toNat)
  case atStart => exact ⟨0, s, rfl, by omega, hs, fun j => by simp, World.ownsRow_nil _ _ _ _, Below.refl _ _⟩
  case round =>
    obtain ⟨m, t, rfl, hm, ht, HM, HO, HB⟩ := hrel
    have hll := lowS_len s m
    have hsz := (unhide HB).size
    by_cases h0 : t = 0
    · subst h0
      have hl : lowS s m = allS s := (lowS_gap s m 64 hm fun j h1 h2 => by have := unhide HM j; simp [h1] at this; exact this).symm
      rw [hl] at HO
      clear hl
      go_wp2_with fail
      go_ret
      exact ⟨⟨_, rfl, unhide HO⟩, unhide HB⟩
    · have hne : ((t : Int) != 0) = true := by simp; omega
      obtain ⟨hk, hb, hlow⟩ := least_spec ht h0
      have HLOW := hide hlow
      clear hlow
      go_wp2_with fail
      refine (least_any wr ((unhide HT).below (unhide HB)) t ht h0).mono ?_
      rintro e w1 ⟨rfl, hw1⟩
      obtain rfl := hw1.symm
      clear hw1
      generalize Lib.ctz 64 t = k at *
      have hdl : dif t (bitI (k : Int)) < t := dif_less hk hb
      have hand : bits .andNot .u64 (t : Int) ((ofS [(k : Int)] : Nat) : Int) = ((dif t (bitI k) : Nat) : Int) := by rw [ofS_one, u64_andNot_nat t _ ht (bitI_lt _)]; rfl
      have hmk : m ≤ k := by
        have := unhide HM k
        rw [hb] at this
        simp at this
        exact this.1
      have hsk : s.testBit k = true := by
        have := unhide HM k
        rw [hb] at this
        simp at this
        exact this.2
      have hst : lowS s (k + 1) = lowS s m ++ [k] := lowS_step s m k hmk (fun j h1 h2 => by have := unhide HM j; rw [unhide HLOW j h2] at this; simp [h1] at this; exact this) hsk
      have HST := hide hst
      clear hst
      go_wp2_with (at_builtin; refine wpList_append_own _ rfl (.tmp 9) (.tmp 11) 22 rfl w.heap.size 3 i0 (.int .i64 0) 1 8 Tryd.underlying22 (unhide HI) (unhide HZ0) (unhide HZ1) (unhide HZ2) rfl (by decide) u3 (lowS s m).length (zcells (toIs (lowS s m))) rfl ((unhide HO).alloc _) ⟨wr.heap.size, 0, none⟩ 1 1 [.int .i64 k] rfl rfl (cell_one_new _ _ _) (one_int k) ?a3 ?a4 ?a5 ?_)
      case a3 => unfold maxLen; omega
      case a4 => omega
      case a5 => simp; omega
      intro v2 w4 hown4 hg4 _
      rw [zcells_snoc, toIs_snoc] at hown4
      have HB4 := hide (((unhide HB).alloc hsz _).grown hg4 (by simp; omega) fun j hj => ((unhide HO).lt j hj).1)
      have HO4 := hide hown4
      clear hown4 hg4
      have hs4 := (unhide HB4).size
      go_wp2_with fail
      refine (of_any _ _ 1 1 [(k : Int)] (ns_one w4 k)).mono ?_
      rintro e w5 ⟨rfl, hw5⟩
      obtain rfl := hw5.symm
      clear hw5
      go_wp2_with fail
      go_roundw
      case rel =>
        refine ⟨k + 1, dif t (bitI k), rfl, by omega, dif_lt ht _, fun j => ?_, ?_, (unhide HB4).alloc hs4 _⟩
        · rw [testBit_dif _ _ _ (bitI_lt _), testBit_bitI, unhide HM j]
          by_cases hj : j < 64
          · by_cases h1 : k + 1 ≤ j
            · have h2 : m ≤ j := by omega
              have h3 : ¬ (j : Int) = (k : Int) := by omega
              simp [h1, h2, h3, hj]
            · by_cases h3 : j = k
              · subst h3
                simp [hj]
                omega
              · have := unhide HLOW j (by omega)
                rw [unhide HM j] at this
                simp [h1, this]
          · rw [testBit_big hs (by omega)]
            simp
        · rw [unhide HST, List.length_append]
          exact (unhide HO4).alloc _
      case measure => simp [intOf]; exact hdl
end Go.Proofs.YtjklmbboklgdpaaDoor

/-
  The contract of the reader's method pair. Conditions: as in the reader's text.
-/
import Derived.Test.YtdcfhdpbpfgohaaDoorNumber
namespace Go.Proofs.YtdcfhdpbpfgohaaDoor
open Go.RowKit
set_option linter.unusedVariables false

theorem head_drop (s : ByteArray) (i : Nat) (c : UInt8) : (s.data.toList.drop i).head? = some c ↔ ∃ h : i < s.size, s[i] = c := by
  by_cases h : i < s.size
  · rw [drop_at s i h]
    simp [h]
  · rw [drop_end s i h]
    simp [h]

theorem take_is (w : World) (b : Nat) (s : ByteArray) (i : Nat) (c : UInt8) (x : Int) (hx : x = (c.toNat : Int)) (h : Rd w b s i) (hs : s.size ≤ maxLen) (hc : (s.data.toList.drop i).head? = some c) :
    Calls Tryd.prog 28 #[.pointer (some ⟨b, 0, none⟩), .int .u8 x] w fun e w' => e = .returned (.bool true) ∧ Rd w' b s (i + 1) ∧ Adv b w w' := by
  obtain ⟨h1, h2⟩ := (head_drop s i c).1 hc
  exact take_yes w b s i x h hs h1 (by rw [h2, hx]; simp)

theorem take_not (w : World) (b : Nat) (s : ByteArray) (i : Nat) (c : UInt8) (x : Int) (hx : x = (c.toNat : Int)) (h : Rd w b s i) (hs : s.size ≤ maxLen) (hi : i ≤ s.size) (hc : ¬ (s.data.toList.drop i).head? = some c) :
    Calls Tryd.prog 28 #[.pointer (some ⟨b, 0, none⟩), .int .u8 x] w fun e w' => e = .returned (.bool false) ∧ ∃ n, w' = w.drewN n := by
  by_cases h1 : i < s.size
  · refine take_no w b s i x h hs h1 ?_
    rw [head_drop] at hc
    rw [bne_iff_ne, hx]
    intro he
    exact hc ⟨h1, UInt8.toNat_inj.1 (by omega)⟩
  · exact take_end w b s i x h hs h1 hi

set_option maxHeartbeats 1000000 in
theorem pair_no (w : World) (b : Nat) (s : ByteArray) (i c : Nat) (h : Rd w b s i) (hs : s.size ≤ maxLen) (hi : i ≤ s.size) (hn : Pl.pair (s.data.toList.drop i) = (c, none)) :
    Calls Tryd.prog 23 #[.pointer (some ⟨b, 0, none⟩)] w fun e w' => e = .returned (.tuple #[.int .i64 0, .int .i64 0, .bool false]) ∧ Rd w' b s (i + c) ∧ Adv b w w' := by
  have hlen : s.data.toList.length = s.size := by rw [Array.length_toList]; rfl
  unfold Pl.pair at hn
  split at hn
  · rename_i h1
    obtain rfl : c = 0 := by simpa using hn.symm
    have H1 := hide h1
    clear h1 hn hlen
    go_enter Tryd.func23, Tryd.ntmps23
    go_wp2_with fail
    refine (number_no _ b s i h hs hi (unhide H1)).mono ?_
    rintro e w' ⟨rfl, n, rfl⟩
    go_wp2_with fail
    go_ret3
    exact ⟨rfl, h, (Adv.refl _ _).drewN _⟩
  · rename_i v k h1
    have hle := Pl.num_le h1
    simp only [List.length_drop, hlen] at hle
    have H1 := hide h1
    split at hn
    · rename_i h2
      rw [List.drop_drop] at h2
      have H2 := hide h2
      split at hn
      · rename_i h3
        rw [List.drop_drop] at h3
        have H3 := hide h3
        obtain rfl : c = k + 1 := by simpa using hn.symm
        obtain ⟨h4, _⟩ := (head_drop s _ _).1 h2
        clear h1 h2 h3 hn hlen
        go_enter Tryd.func23, Tryd.ntmps23
        go_wp2_with fail
        refine (number_yes _ b s i v k h hs (unhide H1)).mono ?_
        rintro e w1 ⟨rfl, hr1, ha1⟩
        go_wp2_with fail
        refine (take_is _ b s (i + k) 32 _ (by rfl) hr1 hs (unhide H2)).mono ?_
        rintro e w2 ⟨rfl, hr2, ha2⟩
        go_wp2_with fail
        refine (number_no _ b s (i + k + 1) hr2 hs (by omega) (unhide H3)).mono ?_
        rintro e w3 ⟨rfl, n, rfl⟩
        go_wp2_with fail
        go_ret3
        exact ⟨rfl, hr2, (ha1.trans ha2).drewN _⟩
      · rename_i v2 k2 h3
        rw [List.drop_drop] at h3
        have hle2 := Pl.num_le h3
        simp only [List.length_drop, hlen] at hle2
        have H3 := hide h3
        split at hn
        · simp at hn
        · rename_i h5
          rw [List.drop_drop] at h5
          have H5 := hide h5
          obtain rfl : c = k + 1 + k2 := by simpa using hn.symm
          clear h1 h2 h3 h5 hn hlen
          go_enter Tryd.func23, Tryd.ntmps23
          go_wp2_with fail
          refine (number_yes _ b s i v k h hs (unhide H1)).mono ?_
          rintro e w1 ⟨rfl, hr1, ha1⟩
          go_wp2_with fail
          refine (take_is _ b s (i + k) 32 _ (by rfl) hr1 hs (unhide H2)).mono ?_
          rintro e w2 ⟨rfl, hr2, ha2⟩
          go_wp2_with fail
          refine (number_yes _ b s (i + k + 1) v2 k2 hr2 hs (unhide H3)).mono ?_
          rintro e w3 ⟨rfl, hr3, ha3⟩
          go_wp2_with fail
          refine (take_not _ b s (i + k + 1 + k2) 10 _ (by rfl) hr3 hs (by omega) (by rw [Nat.add_assoc i k 1, Nat.add_assoc i (k + 1) k2]; exact unhide H5)).mono ?_
          rintro e w4 ⟨rfl, n, rfl⟩
          go_wp2_with fail
          go_ret3
          exact ⟨rfl, by rw [← Nat.add_assoc, ← Nat.add_assoc]; exact hr3, ((ha1.trans ha2).trans ha3).drewN _⟩
    · rename_i h2
      rw [List.drop_drop] at h2
      have H2 := hide h2
      obtain rfl : c = k := by simpa using hn.symm
      clear h1 h2 hn hlen
      go_enter Tryd.func23, Tryd.ntmps23
      go_wp2_with fail
      refine (number_yes _ b s i v c h hs (unhide H1)).mono ?_
      rintro e w1 ⟨rfl, hr1, ha1⟩
      go_wp2_with fail
      refine (take_not _ b s (i + c) 32 _ (by rfl) hr1 hs (by omega) (unhide H2)).mono ?_
      rintro e w2 ⟨rfl, n, rfl⟩
      go_wp2_with fail
      go_ret3
      exact ⟨rfl, hr1, ha1.drewN _⟩

set_option maxHeartbeats 1000000 in
theorem pair_yes (w : World) (b : Nat) (s : ByteArray) (i c x y : Nat) (h : Rd w b s i) (hs : s.size ≤ maxLen) (hi : i ≤ s.size) (hn : Pl.pair (s.data.toList.drop i) = (c, some (x, y))) :
    Calls Tryd.prog 23 #[.pointer (some ⟨b, 0, none⟩)] w fun e w' => e = .returned (.tuple #[.int .i64 x, .int .i64 y, .bool true]) ∧ Rd w' b s (i + c) ∧ Adv b w w' := by
  have hlen : s.data.toList.length = s.size := by rw [Array.length_toList]; rfl
  unfold Pl.pair at hn
  split at hn
  · simp at hn
  · rename_i v k h1
    have hle := Pl.num_le h1
    simp only [List.length_drop, hlen] at hle
    have H1 := hide h1
    split at hn
    · rename_i h2
      rw [List.drop_drop] at h2
      have H2 := hide h2
      split at hn
      · simp at hn
      · rename_i v2 k2 h3
        rw [List.drop_drop] at h3
        have hle2 := Pl.num_le h3
        simp only [List.length_drop, hlen] at hle2
        have H3 := hide h3
        split at hn
        · rename_i h5
          rw [List.drop_drop] at h5
          have H5 := hide h5
          simp only [Prod.mk.injEq, Option.some.injEq] at hn
          obtain ⟨rfl, rfl, rfl⟩ := hn
          clear h1 h2 h3 h5 hlen
          go_enter Tryd.func23, Tryd.ntmps23
          go_wp2_with fail
          refine (number_yes _ b s i v k h hs (unhide H1)).mono ?_
          rintro e w1 ⟨rfl, hr1, ha1⟩
          go_wp2_with fail
          refine (take_is _ b s (i + k) 32 _ (by rfl) hr1 hs (unhide H2)).mono ?_
          rintro e w2 ⟨rfl, hr2, ha2⟩
          go_wp2_with fail
          refine (number_yes _ b s (i + k + 1) v2 k2 hr2 hs (unhide H3)).mono ?_
          rintro e w3 ⟨rfl, hr3, ha3⟩
          go_wp2_with fail
          refine (take_is _ b s (i + k + 1 + k2) 10 _ (by rfl) hr3 hs (by rw [Nat.add_assoc i k 1, Nat.add_assoc i (k + 1) k2]; exact unhide H5)).mono ?_
          rintro e w4 ⟨rfl, hr4, ha4⟩
          go_wp2_with fail
          go_ret3
          exact ⟨rfl, by rw [← Nat.add_assoc, ← Nat.add_assoc, ← Nat.add_assoc]; exact hr4, ((ha1.trans ha2).trans ha3).trans ha4⟩
        · simp at hn
    · simp at hn
end Go.Proofs.YtdcfhdpbpfgohaaDoor

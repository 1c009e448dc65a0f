/-
  The contracts of the reader's methods number and pair. Conditions: as in the reader's text.
-/
import Derived.Test.YtdcfhdpbpfgohaaDoorReader
namespace Go.Proofs.YtdcfhdpbpfgohaaDoor
open Go.RowKit
set_option linter.unusedVariables false

theorem more_zero (l : List UInt8) : Pl.more l 0 = (0, 0) := by
  cases l <;> simp [Pl.more]
theorem more_nod (s : ByteArray) (j m : Nat) (h : ∀ hj : j < s.size, Pl.isD s[j] = false) : Pl.more (s.data.toList.drop j) m = (m, 0) := by
  by_cases hj : j < s.size
  · rw [drop_at s j hj]
    simp [Pl.more, h hj]
  · rw [drop_end s j hj]
    simp [Pl.more]
theorem more_big (s : ByteArray) (j m : Nat) (hj : j < s.size) (h : 999999 < m * 10 + Pl.dv s[j]) : Pl.more (s.data.toList.drop j) m = (m, 0) := by
  rw [drop_at s j hj]
  unfold Pl.more
  rw [if_neg (by omega)]
theorem more_go (s : ByteArray) (j m : Nat) (hj : j < s.size) (h0 : 0 < m) (hd : Pl.isD s[j] = true) (h : m * 10 + Pl.dv s[j] ≤ 999999) :
    Pl.more (s.data.toList.drop j) m = ((Pl.more (s.data.toList.drop (j + 1)) (m * 10 + Pl.dv s[j])).1, (Pl.more (s.data.toList.drop (j + 1)) (m * 10 + Pl.dv s[j])).2 + 1) := by
  rw [drop_at s j hj]
  conv => lhs; unfold Pl.more
  rw [if_pos ⟨h0, hd, h⟩]

/-- where the reader at block b stands -/
def posOf (w : World) (b : Nat) : Nat := match w.cell? ⟨b, 1, none⟩ with
  | some (.int _ q) => q.toNat
  | _ => 0
theorem posOf_rd {w : World} {b : Nat} {s : ByteArray} {i : Nat} (h : Rd w b s i) : posOf w b = i := by
  simp [posOf, h.c1]

set_option maxHeartbeats 1000000 in
theorem number_yes (w : World) (b : Nat) (s : ByteArray) (i v k : Nat) (h : Rd w b s i) (hs : s.size ≤ maxLen) (hn : Pl.num (s.data.toList.drop i) = some (v, k)) :
    Calls Tryd.prog 27 #[.pointer (some ⟨b, 0, none⟩)] w fun e w' => e = .returned (.tuple #[.int .i64 v, .bool true]) ∧ Rd w' b s (i + k) ∧ Adv b w w' := by
  have hi : i < s.size := by
    refine Decidable.byContradiction fun hc => ?_
    rw [drop_end s i hc] at hn
    cases hn
  rw [drop_at s i hi] at hn
  simp only [Pl.num] at hn
  have hd : Pl.isD s[i] = true := by
    cases hx : Pl.isD s[i] with
    | true => rfl
    | false => simp [hx] at hn
  rw [if_pos hd] at hn
  have hv := Pl.dv_le _ hd
  have hs2 : s.size ≤ 9223372036854775807 := by unfold maxLen at hs; omega
  generalize hdv : Pl.dv s[i] = d0 at *
  have Hn := hide hn
  have Hd := hide hd
  have Hdv := hide hdv
  clear hn hd hdv
  have h1 := h.c1
  have hf := h.fz
  go_enter Tryd.func27, Tryd.ntmps27
  go_wp2_with fail
  refine (digit_is _ b s i h hs hi (unhide Hd)).mono ?_
  rw [unhide Hdv]
  rintro e w' ⟨rfl, n, rfl⟩
  go_wp2_with fail
  have h2 : Rd ((w.drewN n).setCell { block := b, off := 1 } (Value.int IntKind.i64 (↑i + 1))) b s (i + 1) := Rd.step (w := w.drewN n) h (i + 1) _ (by omega)
  have ha2 : Adv b w ((w.drewN n).setCell { block := b, off := 1 } (Value.int IntKind.i64 (↑i + 1))) := ((Adv.refl b w).drewN n).setCell 1 _
  clear h1 hf
  have hn' := unhide Hn
  simp only [Option.some.injEq, Prod.mk.injEq] at hn'
  obtain ⟨hv1, hk1⟩ := hn'
  have Hv1 := hide hv1
  have Hk1 := hide hk1
  clear hv1 hk1
  go_loopw [4] (fun t w' => ∃ m j : Nat, t = .int .i64 m ∧ Rd w' b s j ∧ Adv b w w' ∧ (Pl.more (s.data.toList.drop j) m).1 = v ∧ j + (Pl.more (s.data.toList.drop j) m).2 = i + k ∧ m ≤ 999999 ∧ j ≤ s.size) (fun _ w' => s.size - posOf w' b)
  case atStart => exact ⟨d0, i + 1, rfl, h2, ha2, unhide Hv1, by have := unhide Hk1; omega, by omega, by omega⟩
  case round =>
    obtain ⟨m, j, rfl, hr, har, hmv, hmk, hm, hj⟩ := hrel
    clear Hv1 Hk1 Hn h2 ha2
    by_cases hz : m = 0
    · subst hz
      rw [more_zero] at hmv hmk
      have Hmv := hide hmv
      have Hmk := hide hmk
      clear hmv hmk
      go_wp2_with fail
      go_ret2
      exact ⟨ret_ib (by have := unhide Hmv; omega), by have := unhide Hmk; rw [← this]; exact hr, har⟩
    · have hz0 : 0 < m := by omega
      clear hz
      by_cases hd : ∀ hj : j < s.size, Pl.isD s[j] = false
      · rw [more_nod s j m hd] at hmv hmk
        have Hmv := hide hmv
        have Hmk := hide hmk
        have Hdd := hide hd
        clear hmv hmk hd
        go_wp2_with fail
        refine (digit_no _ b s j hr hs hj (unhide Hdd)).mono ?_
        rintro e w' ⟨rfl, n2, rfl⟩
        go_wp2_with fail
        go_ret2
        exact ⟨ret_ib (by have := unhide Hmv; omega), by have := unhide Hmk; rw [← this]; exact hr, har.drewN _⟩
      · have hj2 : j < s.size := by
          refine Decidable.byContradiction fun hc => hd fun hx => absurd hx hc
        have hd2 : Pl.isD s[j] = true := by
          cases hx : Pl.isD s[j] with
          | true => rfl
          | false => exact absurd (fun _ => hx) hd
        have hv2 := Pl.dv_le _ hd2
        by_cases hb : m * 10 + Pl.dv s[j] ≤ 999999
        · rw [more_go s j m hj2 hz0 hd2 hb] at hmv hmk
          generalize hdv : Pl.dv s[j] = d at *
          have Hdv := hide hdv
          have Hmv := hide hmv
          have Hmk := hide hmk
          have Hdd := hide hd2
          clear hmv hmk hd hd2 hdv
          have hq : ((m : Int) * 10 + d) ≤ 999999 := by omega
          have h1 := hr.c1
          have hf := hr.fz
          go_wp2_with fail
          refine (digit_is _ b s j hr hs hj2 (unhide Hdd)).mono ?_
          rw [unhide Hdv]
          rintro e w' ⟨rfl, n2, rfl⟩
          go_wp2_with fail
          go_roundw
          case rel =>
            refine ⟨m * 10 + d, j + 1, by go_num, Rd.step (w := wr.drewN n2) hr (j + 1) _ (by omega), (har.drewN n2).setCell 1 _, unhide Hmv, ?_, by omega, by omega⟩
            have := unhide Hmk
            omega
          case measure =>
            rw [posOf_rd hr, posOf_rd (Rd.step (w := wr.drewN n2) hr (j + 1) _ (by omega))]
            omega
        · rw [more_big s j m hj2 (by omega)] at hmv hmk
          generalize hdv : Pl.dv s[j] = d at *
          have Hdv := hide hdv
          have Hmv := hide hmv
          have Hmk := hide hmk
          have Hdd := hide hd2
          clear hmv hmk hd hd2 hdv
          have hq : 999999 < ((m : Int) * 10 + d) := by omega
          clear hb
          go_wp2_with fail
          refine (digit_is _ b s j hr hs hj2 (unhide Hdd)).mono ?_
          rw [unhide Hdv]
          rintro e w' ⟨rfl, n2, rfl⟩
          go_wp2_with fail
          go_ret2
          exact ⟨ret_ib (by have := unhide Hmv; omega), by have := unhide Hmk; rw [← this]; exact hr, har.drewN _⟩

end Go.Proofs.YtdcfhdpbpfgohaaDoor

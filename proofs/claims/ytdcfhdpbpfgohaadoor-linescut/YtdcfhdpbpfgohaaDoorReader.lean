/-
  The contracts of the reader's methods (ended, take, digit, number, pair): what each call returns, and where the reader stands behind it. Conditions: the reader's block holds a text of at most maxLen bytes and a place within it.
-/
import Derived.Test.YtdcfhdpbpfgohaaDoorProg
import Derived.Test.YtdcfhdpbpfgohaaDoorPlain
import Derived.WalkKit
import Derived.WalkSpells
import Derived.Below
import Derived.Deep.QuietTactic
import Derived.BigQuiet
import Derived.Outline
namespace Go.Proofs.YtdcfhdpbpfgohaaDoor
open Go.RowKit
set_option linter.unusedVariables false

/-- The reader at block b: a text and a place. -/
def Rd (w : World) (b : Nat) (s : ByteArray) (i : Nat) : Prop := w.heap[b]? = some (.cells #[.string s, .int .i64 i] 50)

theorem Rd.c0 {w : World} {b : Nat} {s : ByteArray} {i : Nat} (h : Rd w b s i) : w.cell? ⟨b, 0, none⟩ = some (.string s) := by
  unfold Rd at h
  simp [World.cell?, h]
theorem Rd.c1 {w : World} {b : Nat} {s : ByteArray} {i : Nat} (h : Rd w b s i) : w.cell? ⟨b, 1, none⟩ = some (.int .i64 i) := by
  unfold Rd at h
  simp [World.cell?, h]
theorem Rd.fz {w : World} {b : Nat} {s : ByteArray} {i : Nat} (h : Rd w b s i) : w.frozen? ⟨b, 1, none⟩ = false := by
  unfold Rd at h
  simp [World.frozen?, h]
theorem Rd.step {w : World} {b : Nat} {s : ByteArray} {i : Nat} (h : Rd w b s i) (j : Nat) (x : Int) (hx : x = (j : Int)) : Rd (w.setCell ⟨b, 1, none⟩ (.int .i64 x)) b s j := by
  subst hx
  unfold Rd at h ⊢
  simp [World.setCell, Array.getElem?_modify, h]

theorem hide {p : Prop} (h : p) : Hid p := h
theorem unhide {p : Prop} (h : Hid p) : p := h
theorem ret_ib {x y : Int} {v : Bool} (h : x = y) : Ending.returned (.tuple #[.int .i64 x, .bool v]) = .returned (.tuple #[.int .i64 y, .bool v]) := by rw [h]

/-- Nothing but the reader's block has turned. -/
structure Adv (b : Nat) (w w' : World) : Prop where
  os : w'.os = w.os
  tape : w'.tape = w.tape
  output : w'.output = w.output
  size : w'.heap.size = w.heap.size
  block : ∀ k, k ≠ b → w'.heap[k]? = w.heap[k]?
theorem Adv.refl (b : Nat) (w : World) : Adv b w w := ⟨rfl, rfl, rfl, rfl, fun _ _ => rfl⟩
theorem Adv.trans {b : Nat} {u v w : World} (h : Adv b u v) (k : Adv b v w) : Adv b u w :=
  ⟨k.os.trans h.os, k.tape.trans h.tape, k.output.trans h.output, k.size.trans h.size, fun i hi => (k.block i hi).trans (h.block i hi)⟩
theorem Adv.drewN {b : Nat} {u w : World} (h : Adv b u w) (n : Nat) : Adv b u (w.drewN n) := ⟨h.os, h.tape, h.output, h.size, h.block⟩
theorem Adv.setCell {b : Nat} {u w : World} (h : Adv b u w) (o : Nat) (v : Value) : Adv b u (w.setCell ⟨b, o, none⟩ v) :=
  h.trans ⟨rfl, rfl, rfl, by simp [World.setCell], fun k hk => Below.heap_setCell _ _ _ _ hk⟩
theorem Adv.below {b B : Nat} {u w : World} (h : Adv b u w) (hB : B ≤ b) : Below B u w :=
  ⟨h.os, h.tape, h.output, Nat.le_of_eq h.size.symm, fun k hk => h.block k (by omega)⟩

set_option maxHeartbeats 400000 in
theorem ended_yes (w : World) (b : Nat) (s : ByteArray) (i : Nat) (h : Rd w b s i) (hs : s.size ≤ maxLen) (hi : ¬ i < s.size) (hi2 : i ≤ s.size) :
    Calls Tryd.prog 24 #[.pointer (some ⟨b, 0, none⟩)] w fun e w' => e = .returned (.bool true) ∧ ∃ n, w' = w.drewN n := by
  have h0 := h.c0
  have h1 := h.c1
  unfold maxLen at hs
  go_enter Tryd.func24, Tryd.ntmps24
  go_wp2
  go_quiet (fail)
  go_wp2
  go_ret
  exact ⟨by simp; omega, _, rfl⟩

set_option maxHeartbeats 400000 in
theorem ended_no (w : World) (b : Nat) (s : ByteArray) (i : Nat) (h : Rd w b s i) (hs : s.size ≤ maxLen) (hi : i < s.size) :
    Calls Tryd.prog 24 #[.pointer (some ⟨b, 0, none⟩)] w fun e w' => e = .returned (.bool false) ∧ ∃ n, w' = w.drewN n := by
  have h0 := h.c0
  have h1 := h.c1
  unfold maxLen at hs
  go_enter Tryd.func24, Tryd.ntmps24
  go_wp2
  go_quiet (fail)
  go_wp2
  go_ret
  exact ⟨by simp; omega, _, rfl⟩

set_option maxHeartbeats 400000 in
theorem take_end (w : World) (b : Nat) (s : ByteArray) (i : Nat) (c : Int) (h : Rd w b s i) (hs : s.size ≤ maxLen) (hi : ¬ i < s.size) (hi2 : i ≤ s.size) :
    Calls Tryd.prog 28 #[.pointer (some ⟨b, 0, none⟩), .int .u8 c] w fun e w' => e = .returned (.bool false) ∧ ∃ n, w' = w.drewN n := by
  have h0 := h.c0
  have h1 := h.c1
  go_enter Tryd.func28, Tryd.ntmps28
  go_wp2_with fail
  go_quiet ((go_at_call 24; exact Calls.quiet_of (ended_yes _ b s i h hs hi hi2)))
  go_wp2_with fail
  go_ret
  exact ⟨rfl, _, rfl⟩

set_option maxHeartbeats 400000 in
theorem take_no (w : World) (b : Nat) (s : ByteArray) (i : Nat) (c : Int) (h : Rd w b s i) (hs : s.size ≤ maxLen) (hi : i < s.size) (hc : ((s[i].toNat : Int) != c) = true) :
    Calls Tryd.prog 28 #[.pointer (some ⟨b, 0, none⟩), .int .u8 c] w fun e w' => e = .returned (.bool false) ∧ ∃ n, w' = w.drewN n := by
  have h0 := h.c0
  have h1 := h.c1
  go_enter Tryd.func28, Tryd.ntmps28
  go_wp2_with fail
  go_quiet ((go_at_call 24; exact Calls.quiet_of (ended_no _ b s i h hs hi)))
  go_wp2_with fail
  go_ret
  exact ⟨rfl, _, rfl⟩

set_option maxHeartbeats 400000 in
theorem take_yes (w : World) (b : Nat) (s : ByteArray) (i : Nat) (c : Int) (h : Rd w b s i) (hs : s.size ≤ maxLen) (hi : i < s.size) (hc : ((s[i].toNat : Int) != c) = false) :
    Calls Tryd.prog 28 #[.pointer (some ⟨b, 0, none⟩), .int .u8 c] w fun e w' => e = .returned (.bool true) ∧ Rd w' b s (i + 1) ∧ Adv b w w' := by
  have h0 := h.c0
  have h1 := h.c1
  have hf := h.fz
  have hs2 : s.size ≤ 9223372036854775807 := by unfold maxLen at hs; omega
  go_enter Tryd.func28, Tryd.ntmps28
  go_wp2_with fail
  go_quiet ((go_at_call 24; exact Calls.quiet_of (ended_no _ b s i h hs hi)))
  go_wp2_with fail
  go_ret
  refine ⟨rfl, Rd.step (w := w.drewN nq) h (i + 1) _ (by omega), ?_⟩
  exact ((Adv.refl b w).drewN nq).setCell 1 _

set_option maxHeartbeats 400000 in
theorem digit_end (w : World) (b : Nat) (s : ByteArray) (i : Nat) (h : Rd w b s i) (hs : s.size ≤ maxLen) (hi : ¬ i < s.size) (hi2 : i ≤ s.size) :
    Calls Tryd.prog 30 #[.pointer (some ⟨b, 0, none⟩)] w fun e w' => e = .returned (.tuple #[.int .i64 0, .bool false]) ∧ ∃ n, w' = w.drewN n := by
  have h0 := h.c0
  have h1 := h.c1
  go_enter Tryd.func30, Tryd.ntmps30
  go_wp2_with fail
  go_quiet ((go_at_call 24; exact Calls.quiet_of (ended_yes _ b s i h hs hi hi2)))
  go_wp2_with fail
  go_ret2
  exact ⟨rfl, _, rfl⟩

set_option maxHeartbeats 400000 in
theorem digit_lo (w : World) (b : Nat) (s : ByteArray) (i : Nat) (h : Rd w b s i) (hs : s.size ≤ maxLen) (hi : i < s.size) (hc : decide ((s[i].toNat : Int) < 48) = true) :
    Calls Tryd.prog 30 #[.pointer (some ⟨b, 0, none⟩)] w fun e w' => e = .returned (.tuple #[.int .i64 0, .bool false]) ∧ ∃ n, w' = w.drewN n := by
  have h0 := h.c0
  have h1 := h.c1
  go_enter Tryd.func30, Tryd.ntmps30
  go_wp2_with fail
  go_quiet ((go_at_call 24; exact Calls.quiet_of (ended_no _ b s i h hs hi)))
  go_wp2_with fail
  go_ret2
  exact ⟨rfl, _, rfl⟩

set_option maxHeartbeats 400000 in
theorem digit_hi (w : World) (b : Nat) (s : ByteArray) (i : Nat) (h : Rd w b s i) (hs : s.size ≤ maxLen) (hi : i < s.size) (hc : decide ((s[i].toNat : Int) < 48) = false) (hd : decide (57 < (s[i].toNat : Int)) = true) :
    Calls Tryd.prog 30 #[.pointer (some ⟨b, 0, none⟩)] w fun e w' => e = .returned (.tuple #[.int .i64 0, .bool false]) ∧ ∃ n, w' = w.drewN n := by
  have h0 := h.c0
  have h1 := h.c1
  go_enter Tryd.func30, Tryd.ntmps30
  go_wp2_with fail
  go_quiet ((go_at_call 24; exact Calls.quiet_of (ended_no _ b s i h hs hi)))
  go_wp2_with fail
  go_ret2
  exact ⟨rfl, _, rfl⟩

set_option maxHeartbeats 400000 in
theorem digit_yes (w : World) (b : Nat) (s : ByteArray) (i : Nat) (h : Rd w b s i) (hs : s.size ≤ maxLen) (hi : i < s.size) (hc : decide ((s[i].toNat : Int) < 48) = false) (hd : decide (57 < (s[i].toNat : Int)) = false) (hcc : 48 ≤ (s[i].toNat : Int)) (hdd : (s[i].toNat : Int) ≤ 57) :
    Calls Tryd.prog 30 #[.pointer (some ⟨b, 0, none⟩)] w fun e w' => e = .returned (.tuple #[.int .i64 (Pl.dv s[i]), .bool true]) ∧ ∃ n, w' = w.drewN n := by
  have h0 := h.c0
  have h1 := h.c1
  go_enter Tryd.func30, Tryd.ntmps30
  go_wp2_with fail
  go_quiet ((go_at_call 24; exact Calls.quiet_of (ended_no _ b s i h hs hi)))
  go_wp2_with fail
  go_quiet (fail)
  go_wp2_with fail
  go_ret2
  exact ⟨ret_ib (by unfold Pl.dv; omega), _, World.drewN_drewN _ _ _⟩

theorem Rd.drewN {w : World} {b : Nat} {s : ByteArray} {i : Nat} (h : Rd w b s i) (n : Nat) : Rd (w.drewN n) b s i := h

/-- no digit: nothing has turned -/
theorem digit_no (w : World) (b : Nat) (s : ByteArray) (i : Nat) (h : Rd w b s i) (hs : s.size ≤ maxLen) (hi : i ≤ s.size) (hn : ∀ hi : i < s.size, Pl.isD s[i] = false) :
    Calls Tryd.prog 30 #[.pointer (some ⟨b, 0, none⟩)] w fun e w' => e = .returned (.tuple #[.int .i64 0, .bool false]) ∧ ∃ n, w' = w.drewN n := by
  by_cases h1 : i < s.size
  · have h2 := hn h1
    by_cases h3 : (s[i].toNat : Int) < 48
    · exact digit_lo w b s i h hs h1 (decide_eq_true h3)
    · refine digit_hi w b s i h hs h1 (decide_eq_false h3) (decide_eq_true ?_)
      simp [Pl.isD] at h2
      omega
  · exact digit_end w b s i h hs h1 hi

theorem digit_is (w : World) (b : Nat) (s : ByteArray) (i : Nat) (h : Rd w b s i) (hs : s.size ≤ maxLen) (hi : i < s.size) (hn : Pl.isD s[i] = true) :
    Calls Tryd.prog 30 #[.pointer (some ⟨b, 0, none⟩)] w fun e w' => e = .returned (.tuple #[.int .i64 (Pl.dv s[i]), .bool true]) ∧ ∃ n, w' = w.drewN n := by
  have h2 := (Pl.isD_iff _).1 hn
  exact digit_yes w b s i h hs hi (decide_eq_false (by omega)) (decide_eq_false (by omega)) (by omega) (by omega)

theorem drop_at (s : ByteArray) (i : Nat) (hi : i < s.size) : s.data.toList.drop i = s[i] :: s.data.toList.drop (i + 1) := by
  rw [List.drop_eq_getElem_cons (by simpa using hi)]
  rfl
theorem drop_end (s : ByteArray) (i : Nat) (hi : ¬ i < s.size) : s.data.toList.drop i = [] := by
  apply List.drop_eq_nil_of_le
  have : s.data.toList.length = s.size := by rw [Array.length_toList]; rfl
  omega

set_option maxHeartbeats 400000 in
theorem number_no (w : World) (b : Nat) (s : ByteArray) (i : Nat) (h : Rd w b s i) (hs : s.size ≤ maxLen) (hi : i ≤ s.size) (hn : Pl.num (s.data.toList.drop i) = none) :
    Calls Tryd.prog 27 #[.pointer (some ⟨b, 0, none⟩)] w fun e w' => e = .returned (.tuple #[.int .i64 0, .bool false]) ∧ ∃ n, w' = w.drewN n := by
  have hd : ∀ hi : i < s.size, Pl.isD s[i] = false := by
    intro hi
    rw [drop_at s i hi] at hn
    simp only [Pl.num] at hn
    cases hx : Pl.isD s[i] with
    | false => rfl
    | true => simp [hx] at hn
  clear hn
  go_enter Tryd.func27, Tryd.ntmps27
  go_wp2_with fail
  refine (digit_no _ b s i h hs hi hd).mono ?_
  rintro e w' ⟨rfl, n, rfl⟩
  go_wp2_with fail
  go_ret2
  exact ⟨rfl, _, rfl⟩

end Go.Proofs.YtdcfhdpbpfgohaaDoor

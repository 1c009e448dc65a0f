/-
  Sets of 64 bits as plain numbers: what Of, Has, the least one and the unions come to. No conditions.
-/
import Derived.Test.YtmklngabfdnclaaDoorBase
import Derived.Laws.BitsAllLaws
import Derived.Lib.TrailingZeros
namespace Go.Proofs.YtmklngabfdnclaaDoor.pt
open Go.RowKit
set_option linter.unusedVariables false

/-- one bit, of those that may be -/
def bitI (x : Int) : Nat := if 0 ≤ x ∧ x < 64 then 2 ^ x.toNat else 0
theorem bitI_lt (x : Int) : bitI x < 18446744073709551616 := by
  unfold bitI
  split
  · exact Nat.lt_of_lt_of_le (Nat.pow_lt_pow_right (by omega) (show x.toNat < 64 by omega)) (by decide)
  · decide
theorem or_lt {a b : Nat} (ha : a < 18446744073709551616) (hb : b < 18446744073709551616) : a ||| b < 18446744073709551616 := Nat.or_lt_two_pow (n := 64) ha hb
theorem and_lt (a : Nat) {b : Nat} (hb : b < 18446744073709551616) : a &&& b < 18446744073709551616 := Nat.and_lt_two_pow (n := 64) a hb
theorem and_lt' {a : Nat} (ha : a < 18446744073709551616) (b : Nat) : a &&& b < 18446744073709551616 := by rw [Nat.and_comm]; exact and_lt b ha
/-- what is left without some -/
def dif (a b : Nat) : Nat := a &&& (18446744073709551615 - b)
theorem dif_lt {a : Nat} (ha : a < 18446744073709551616) (b : Nat) : dif a b < 18446744073709551616 := and_lt' ha _
theorem testBit_big {a : Nat} (ha : a < 18446744073709551616) {j : Nat} (hj : 64 ≤ j) : a.testBit j = false :=
  Nat.testBit_lt_two_pow (Nat.lt_of_lt_of_le ha (Nat.pow_le_pow_right (by omega) hj : 2 ^ 64 ≤ 2 ^ j))
theorem testBit_bitI (x : Int) (j : Nat) : (bitI x).testBit j = decide (j < 64 ∧ (j : Int) = x) := by
  unfold bitI
  split
  · rename_i h
    rw [Nat.testBit_two_pow]
    congr 1
    apply propext
    omega
  · rename_i h
    simp
    omega
theorem testBit_dif (a b j : Nat) (hb : b < 18446744073709551616) : (dif a b).testBit j = (a.testBit j && (decide (j < 64) && !b.testBit j)) := by
  unfold dif
  rw [Nat.testBit_and, show 18446744073709551615 - b = 2 ^ 64 - (b + 1) by omega, Nat.testBit_two_pow_sub_succ (n := 64) hb]
theorem set_ext {a b : Nat} (ha : a < 18446744073709551616) (hb : b < 18446744073709551616) (h : ∀ j, j < 64 → a.testBit j = b.testBit j) : a = b := by
  apply Nat.eq_of_testBit_eq
  intro j
  by_cases hj : j < 64
  · exact h j hj
  · rw [testBit_big ha (by omega), testBit_big hb (by omega)]

theorem snoc_ind {α : Type} {P : List α → Prop} (h0 : P []) (h1 : ∀ xs x, P xs → P (xs ++ [x])) (xs : List α) : P xs := by
  have : ∀ ys : List α, P ys.reverse := by
    intro ys
    induction ys with
    | nil => exact h0
    | cons y ys ih => rw [List.reverse_cons]; exact h1 _ _ ih
  have := this xs.reverse
  rwa [List.reverse_reverse] at this

/-- the set of numbers -/
def ofS (xs : List Int) : Nat := xs.foldl (fun s x => s ||| bitI x) 0
theorem ofS_snoc (xs : List Int) (x : Int) : ofS (xs ++ [x]) = ofS xs ||| bitI x := by simp [ofS]
theorem ofS_nil : ofS [] = 0 := rfl
theorem ofS_lt (xs : List Int) : ofS xs < 18446744073709551616 := by
  induction xs using snoc_ind with
  | h0 => decide
  | h1 xs x ih => rw [ofS_snoc]; exact or_lt ih (bitI_lt x)
theorem testBit_ofS (xs : List Int) (j : Nat) : (ofS xs).testBit j = decide (j < 64 ∧ (j : Int) ∈ xs) := by
  induction xs using snoc_ind with
  | h0 => simp [ofS]
  | h1 xs x ih =>
    rw [ofS_snoc, Nat.testBit_or, ih, testBit_bitI]
    simp only [List.mem_append, List.mem_singleton]
    by_cases h1 : j < 64 <;> by_cases h2 : (j : Int) ∈ xs <;> by_cases h3 : (j : Int) = x <;> simp [h1, h2, h3]
theorem ofS_one (x : Int) : ofS [x] = bitI x := by simp [ofS]

/-- whether a vertex is there -/
def hasI (s : Nat) (x : Int) : Bool := decide (s &&& bitI x ≠ 0)
theorem and_bit_ne (s : Nat) (x : Int) : s &&& bitI x ≠ 0 ↔ 0 ≤ x ∧ x < 64 ∧ s.testBit x.toNat = true := by
  constructor
  · intro h
    obtain ⟨j, hj⟩ := Nat.exists_testBit_of_ne_zero h
    rw [Nat.testBit_and, testBit_bitI] at hj
    simp at hj
    obtain ⟨h1, h2, h3⟩ := hj
    subst h3
    exact ⟨by omega, by omega, by simpa using h1⟩
  · rintro ⟨h1, h2, h3⟩ h0
    have : (s &&& bitI x).testBit x.toNat = true := by
      rw [Nat.testBit_and, testBit_bitI, h3]
      simp
      omega
    rw [h0] at this
    simp at this
theorem hasI_iff (s : Nat) (x : Int) : hasI s x = true ↔ 0 ≤ x ∧ x < 64 ∧ s.testBit x.toNat = true := by
  simp only [hasI, decide_eq_true_eq]
  exact and_bit_ne s x
theorem hasI_nat {s : Nat} (hs : s < 18446744073709551616) (x : Nat) : hasI s (x : Int) = s.testBit x := by
  rw [Bool.eq_iff_iff, hasI_iff]
  constructor
  · rintro ⟨_, _, h⟩; simpa using h
  · intro h
    by_cases hx : x < 64
    · exact ⟨by omega, by omega, by simpa using h⟩
    · rw [testBit_big hs (by omega)] at h
      cases h

/-- the least one -/
theorem least_spec {s : Nat} (hs : s < 18446744073709551616) (h0 : s ≠ 0) : Lib.ctz 64 s < 64 ∧ s.testBit (Lib.ctz 64 s) = true ∧ ∀ j, j < Lib.ctz 64 s → s.testBit j = false := by
  obtain ⟨m, hm, hk⟩ := Lib.ctzFrom_spec 64 s (by omega) hs
  have hc : Lib.ctz 64 s = Lib.ctzFrom 64 s := by simp [Lib.ctz, h0]
  rw [hc]
  generalize Lib.ctzFrom 64 s = k at *
  subst hm
  refine ⟨hk, ?_, fun j hj => ?_⟩
  · rw [Nat.mul_comm, Nat.testBit_mul_two_pow]
    simp
  · rw [Nat.mul_comm, Nat.testBit_mul_two_pow]
    simp
    omega
end Go.Proofs.YtmklngabfdnclaaDoor.pt

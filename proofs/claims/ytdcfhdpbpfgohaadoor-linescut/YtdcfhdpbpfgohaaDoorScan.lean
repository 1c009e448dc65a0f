/-
  Plain mathematics: up to seven digits, taken at once, against a number that is read digit by digit.
-/
import Derived.Test.YtdcfhdpbpfgohaaDoorPlain
namespace Go.Proofs.YtdcfhdpbpfgohaaDoor.Pl

/-- up to f digits from the value n on: the value, and how many there are -/
def scan : Nat → List UInt8 → Nat → Nat × Nat
  | 0, _, n => (n, 0)
  | _ + 1, [], n => (n, 0)
  | f + 1, c :: cs, n => if isD c then ((scan f cs (10 * n + dv c)).1, (scan f cs (10 * n + dv c)).2 + 1) else (n, 0)

theorem scan_ge (f : Nat) : ∀ l n, n ≤ (scan f l n).1 := by
  induction f with
  | zero => intro l n; simp [scan]
  | succ f ih =>
    intro l n
    cases l with
    | nil => simp [scan]
    | cons c cs =>
      unfold scan
      split
      · have := ih cs (10 * n + dv c)
        simp
        omega
      · simp
theorem scan_len (f : Nat) : ∀ l n, (scan f l n).2 ≤ l.length ∧ (scan f l n).2 ≤ f := by
  induction f with
  | zero => intro l n; simp [scan]
  | succ f ih =>
    intro l n
    cases l with
    | nil => simp [scan]
    | cons c cs =>
      unfold scan
      split
      · have := ih cs (10 * n + dv c)
        simp
        omega
      · simp

theorem more_scan (f : Nat) : ∀ l n, 0 < n → n ≤ 999999 → 999999 < n * 10 ^ f →
    ((scan f l n).1 ≤ 999999 → more l n = scan f l n) ∧ (999999 < (scan f l n).1 → ∃ c, (l.drop (more l n).2).head? = some c ∧ isD c = true) := by
  induction f with
  | zero => intro l n h0 h1 h2; simp at h2; omega
  | succ f ih =>
    intro l n h0 h1 h2
    cases l with
    | nil => simp [scan, more, h1]
    | cons c cs =>
      by_cases hd : isD c = true
      · have e1 : scan (f + 1) (c :: cs) n = ((scan f cs (10 * n + dv c)).1, (scan f cs (10 * n + dv c)).2 + 1) := by simp [scan, hd]
        rw [e1]
        by_cases hle : n * 10 + dv c ≤ 999999
        · have e2 : more (c :: cs) n = ((more cs (n * 10 + dv c)).1, (more cs (n * 10 + dv c)).2 + 1) := by
            conv => lhs; unfold more
            rw [if_pos ⟨h0, hd, hle⟩]
          have hpow : 999999 < (n * 10 + dv c) * 10 ^ f := by
            have : n * 10 ^ (f + 1) = n * 10 * 10 ^ f := by rw [Nat.pow_succ, Nat.mul_comm (10 ^ f) 10, ← Nat.mul_assoc]
            rw [this] at h2
            exact Nat.lt_of_lt_of_le h2 (Nat.mul_le_mul_right _ (by omega))
          have := ih cs (n * 10 + dv c) (by omega) hle hpow
          rw [e2, show 10 * n + dv c = n * 10 + dv c by omega]
          refine ⟨fun h => ?_, fun h => ?_⟩
          · rw [this.1 h]
          · obtain ⟨x, hx, hxd⟩ := this.2 h
            exact ⟨x, by simpa using hx, hxd⟩
        · have e2 : more (c :: cs) n = (n, 0) := by
            conv => lhs; unfold more
            rw [if_neg (by omega)]
          rw [e2]
          have hge := scan_ge f cs (10 * n + dv c)
          refine ⟨fun h => by simp at h; omega, fun h => ⟨c, by simp, hd⟩⟩
      · have e1 : scan (f + 1) (c :: cs) n = (n, 0) := by simp [scan, hd]
        have e2 : more (c :: cs) n = (n, 0) := by simp [more, hd]
        rw [e1, e2]
        exact ⟨fun _ => rfl, fun h => by simp at h; omega⟩

theorem more_zero' (l : List UInt8) : more l 0 = (0, 0) := by
  cases l <;> simp [more]

/-- a number by both ways -/
theorem num_scan (l : List UInt8) :
    ((scan 7 l 0).2 = 0 → num l = none) ∧
    ((scan 7 l 0).2 ≠ 0 → (scan 7 l 0).1 ≤ 999999 → ¬ (1 < (scan 7 l 0).2 ∧ l.head? = some 48) → num l = some (scan 7 l 0)) ∧
    ((scan 7 l 0).2 ≠ 0 → (999999 < (scan 7 l 0).1 ∨ (1 < (scan 7 l 0).2 ∧ l.head? = some 48)) → ∃ v k c, num l = some (v, k) ∧ (l.drop k).head? = some c ∧ isD c = true) := by
  cases l with
  | nil => simp [scan, num]
  | cons c cs =>
    by_cases hd : isD c = true
    · have hv := dv_le c hd
      have e1 : scan 7 (c :: cs) 0 = ((scan 6 cs (dv c)).1, (scan 6 cs (dv c)).2 + 1) := by simp [scan, hd]
      have e2 : num (c :: cs) = some ((more cs (dv c)).1, (more cs (dv c)).2 + 1) := by simp [num, hd]
      rw [e1, e2]
      refine ⟨fun h => by simp at h, fun _ h2 h3 => ?_, fun _ h2 => ?_⟩
      · simp only at h2 h3
        by_cases hz : dv c = 0
        · have hc : c = 48 := by
            have := (isD_iff c).1 hd
            unfold dv at hz
            exact UInt8.toNat_inj.1 (show c.toNat = 48 by omega)
          subst hc
          have h4 : (scan 6 cs (dv 48)).2 = 0 := by simp at h3; omega
          rw [hz] at h4 ⊢
          rw [more_zero']
          have h5 : scan 6 cs 0 = (0, 0) := by
            cases cs with
            | nil => rfl
            | cons x xs =>
              simp only [scan] at h4 ⊢
              split at h4
              · simp at h4
              · rename_i hx
                rw [if_neg hx]
          rw [h5]
        · rw [(more_scan 6 cs (dv c) (by omega) (by omega) (by omega)).1 h2]
      · simp only at h2
        by_cases hz : dv c = 0
        · rw [hz]
          rw [more_zero']
          refine ⟨0, 0 + 1, ?_⟩
          rw [hz] at h2
          cases cs with
          | nil => simp [scan] at h2
          | cons x xs =>
            by_cases hx : isD x = true
            · exact ⟨x, rfl, by simp, hx⟩
            · simp [scan, hx] at h2
        · have h3 : 999999 < (scan 6 cs (dv c)).1 := by
            rcases h2 with h | ⟨_, h⟩
            · exact h
            · simp at h
              subst h
              exact absurd (by decide) hz
          obtain ⟨x, hx, hxd⟩ := (more_scan 6 cs (dv c) (by omega) (by omega) (by omega)).2 h3
          exact ⟨_, _, x, rfl, by simpa using hx, hxd⟩
    · have e1 : scan 7 (c :: cs) 0 = (0, 0) := by simp [scan, hd]
      have e2 : num (c :: cs) = none := by simp [num, hd]
      rw [e1, e2]
      simp
theorem scan_lt (f : Nat) : ∀ l n, (scan f l n).1 + 1 ≤ (n + 1) * 10 ^ f := by
  induction f with
  | zero => intro l n; simp [scan]
  | succ f ih =>
    intro l n
    have hp : (n + 1) * 10 ^ (f + 1) = (n + 1) * 10 * 10 ^ f := by rw [Nat.pow_succ, Nat.mul_comm (10 ^ f) 10, ← Nat.mul_assoc]
    have h1 : 1 ≤ 10 ^ f := Nat.pow_pos (by decide)
    have hbase : n + 1 ≤ (n + 1) * 10 ^ (f + 1) := Nat.le_mul_of_pos_right _ (Nat.pow_pos (by decide))
    cases l with
    | nil => simpa [scan] using hbase
    | cons c cs =>
      unfold scan
      split
      · rename_i hd
        have hv := dv_le c hd
        have := ih cs (10 * n + dv c)
        rw [hp]
        exact Nat.le_trans this (Nat.mul_le_mul_right _ (by omega))
      · simpa using hbase
theorem scan7_le (l : List UInt8) : (scan 7 l 0).1 ≤ 9999999 := by
  have := scan_lt 7 l 0
  simp at this
  omega

theorem numsF_nil (f : Nat) : numsF f [] = none := by
  cases f <;> simp [numsF, num]
theorem numsF_bad {f : Nat} {l : List UInt8} (h0 : (scan 7 l 0).2 ≠ 0) (h : 999999 < (scan 7 l 0).1 ∨ (1 < (scan 7 l 0).2 ∧ l.head? = some 48)) : numsF (f + 1) l = none := by
  obtain ⟨v, k, c, h1, h2, h3⟩ := (num_scan l).2.2 h0 h
  refine numsF_stop h1 (fun he => ?_) (fun he => ?_)
  · rw [← he, List.drop_length] at h2
    cases h2
  · rw [h2] at he
    cases he
    exact absurd h3 (by decide)
end Go.Proofs.YtdcfhdpbpfgohaaDoor.Pl

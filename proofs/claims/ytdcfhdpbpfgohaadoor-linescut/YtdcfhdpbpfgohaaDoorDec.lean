/-
  Plain mathematics: a number's decimal digits, rows of numbers with blanks between them, and how they are read again.
-/
import Derived.Test.YtdcfhdpbpfgohaaDoorScan
namespace Go.Proofs.YtdcfhdpbpfgohaaDoor.Pl

def dc (d : Nat) : UInt8 := UInt8.ofNat (48 + d)
theorem dc_toNat {d : Nat} (h : d < 10) : (dc d).toNat = 48 + d := by
  unfold dc
  rw [UInt8.toNat_ofNat']
  omega
theorem dc_isD {d : Nat} (h : d < 10) : isD (dc d) = true := by
  rw [isD_iff, dc_toNat h]
  omega
theorem dc_dv {d : Nat} (h : d < 10) : dv (dc d) = d := by
  unfold dv
  rw [dc_toNat h]
  omega

/-- the digits of n, f of them at most -/
def digs : Nat → Nat → List UInt8
  | 0, _ => []
  | f + 1, n => if n < 10 then [dc n] else digs f (n / 10) ++ [dc (n % 10)]
def dec (n : Nat) : List UInt8 := digs 20 n

theorem digs_succ (f : Nat) : ∀ n, 0 < f → n < 10 ^ f → digs (f + 1) n = digs f n := by
  induction f with
  | zero => intro n h; omega
  | succ f ih =>
    intro n _ h
    cases f with
    | zero =>
      have h10 : n < 10 := by simpa using h
      simp [digs, h10]
    | succ f =>
      conv => lhs; unfold digs
      conv => rhs; unfold digs
      split
      · rfl
      · rw [ih (n / 10) (by omega) (by rw [Nat.div_lt_iff_lt_mul (by decide)]; rw [Nat.pow_succ] at h; exact h)]
theorem dec_step {n : Nat} (h : 10 ≤ n) (hn : n ≤ 999999) : dec n = dec (n / 10) ++ [dc (n % 10)] := by
  have e : digs 20 n = digs 19 (n / 10) ++ [dc (n % 10)] := by
    conv => lhs; unfold digs
    rw [if_neg (by omega)]
  unfold dec
  rw [e, digs_succ 19 (n / 10) (by decide) (by omega)]
theorem dec_small {n : Nat} (h : n < 10) : dec n = [dc n] := by
  unfold dec
  conv => lhs; unfold digs
  rw [if_pos h]

theorem digs_len (f : Nat) : ∀ n k, 0 < k → n < 10 ^ k → 0 < f → (digs f n).length ≤ k ∧ 1 ≤ (digs f n).length := by
  induction f with
  | zero => intro n k _ _ h; omega
  | succ f ih =>
    intro n k hk h _
    unfold digs
    split
    · simp; omega
    · rename_i h10
      cases k with
      | zero => omega
      | succ k =>
        cases k with
        | zero => simp at h; omega
        | succ k =>
          cases f with
          | zero => simp [digs]
          | succ f =>
            have := ih (n / 10) (k + 1) (by omega) (by rw [Nat.div_lt_iff_lt_mul (by decide)]; rw [Nat.pow_succ] at h; exact h) (by omega)
            simp
            omega
theorem dec_len {n : Nat} (h : n ≤ 999999) : (dec n).length ≤ 6 ∧ 1 ≤ (dec n).length := digs_len 20 n 6 (by decide) (by omega) (by decide)

/-- the value of digits, from v on -/
def val (v : Nat) (l : List UInt8) : Nat := l.foldl (fun a c => 10 * a + dv c) v
theorem val_snoc (v : Nat) (l : List UInt8) (c : UInt8) : val v (l ++ [c]) = 10 * val v l + dv c := by simp [val]
theorem digs_val (f : Nat) : ∀ n, n < 10 ^ f → val 0 (digs f n) = n ∧ ∀ c ∈ digs f n, isD c = true := by
  induction f with
  | zero => intro n h; simp at h; subst h; simp [digs, val]
  | succ f ih =>
    intro n h
    unfold digs
    split
    · rename_i h10
      refine ⟨by simp [val, dc_dv h10], fun c hc => ?_⟩
      simp at hc
      subst hc
      exact dc_isD h10
    · have := ih (n / 10) (by rw [Nat.div_lt_iff_lt_mul (by decide)]; rw [Nat.pow_succ] at h; exact h)
      refine ⟨by rw [val_snoc, this.1, dc_dv (Nat.mod_lt _ (by decide))]; omega, fun c hc => ?_⟩
      rw [List.mem_append] at hc
      rcases hc with hc | hc
      · exact this.2 c hc
      · simp at hc
        subst hc
        exact dc_isD (Nat.mod_lt _ (by decide))
theorem digs_head (f : Nat) : ∀ n, 0 < n → n < 10 ^ f → ∃ d, 0 < d ∧ d < 10 ∧ (digs f n).head? = some (dc d) := by
  induction f with
  | zero => intro n h0 h; simp at h; omega
  | succ f ih =>
    intro n h0 h
    unfold digs
    split
    · rename_i h10
      exact ⟨n, h0, h10, rfl⟩
    · rename_i h10
      obtain ⟨d, h1, h2, h3⟩ := ih (n / 10) (by omega) (by rw [Nat.div_lt_iff_lt_mul (by decide)]; rw [Nat.pow_succ] at h; exact h)
      refine ⟨d, h1, h2, ?_⟩
      rw [List.head?_append, h3]
      rfl

theorem scan_digits (l : List UInt8) : ∀ f v r, (∀ c ∈ l, isD c = true) → l.length ≤ f → scan f (l ++ r) v = ((scan (f - l.length) r (val v l)).1, (scan (f - l.length) r (val v l)).2 + l.length) := by
  induction l with
  | nil => intro f v r _ _; simp [val]
  | cons c cs ih =>
    intro f v r hd hl
    obtain ⟨f, rfl⟩ : ∃ g, f = g + 1 := ⟨f - 1, by simp at hl; omega⟩
    have hc := hd c (by simp)
    have e : scan (f + 1) (c :: cs ++ r) v = ((scan f (cs ++ r) (10 * v + dv c)).1, (scan f (cs ++ r) (10 * v + dv c)).2 + 1) := by simp [scan, hc]
    rw [e, ih f _ r (fun x hx => hd x (by simp [hx])) (by simpa using hl)]
    have hv : val v (c :: cs) = val (10 * v + dv c) cs := by simp [val]
    simp [hv]
    omega
theorem scan_none (f : Nat) (r : List UInt8) (v : Nat) (h : ∀ c, r.head? = some c → isD c = false) : scan f r v = (v, 0) := by
  cases r with
  | nil => cases f <;> simp [scan]
  | cons c cs => have := h c rfl; cases f <;> simp [scan, this]

/-- a number's digits, with no digit behind them, are read as it -/
theorem num_dec (n : Nat) (hn : n ≤ 999999) (r : List UInt8) (hr : ∀ c, r.head? = some c → isD c = false) : num (dec n ++ r) = some (n, (dec n).length) := by
  have hv := digs_val 20 n (by omega)
  have hl := dec_len hn
  have hs : scan 7 (dec n ++ r) 0 = (n, (dec n).length) := by
    rw [scan_digits (dec n) 7 0 r hv.2 (by omega), scan_none _ _ _ hr]
    show (val 0 (digs 20 n), _) = _
    rw [hv.1]
    simp
  have := (num_scan (dec n ++ r)).2.1 (by rw [hs]; show (dec n).length ≠ 0; omega) (by rw [hs]; exact hn) (by
    rw [hs]
    rintro ⟨h1, h2⟩
    have h10 : 10 ≤ n := by
      rcases Nat.lt_or_ge n 10 with h | h
      · rw [dec_small h] at h1; simp at h1
      · exact h
    obtain ⟨d, d0, d1, d2⟩ := digs_head 20 n (by omega) (by omega)
    rw [List.head?_append] at h2
    have e : (dec n).head? = some (dc d) := d2
    rw [e] at h2
    simp at h2
    have := dc_toNat d1
    rw [h2] at this
    have e48 : (48 : UInt8).toNat = 48 := rfl
    omega)
  rw [this, hs]

/-- numbers with a blank between each two -/
def row : List Nat → List UInt8
  | [] => []
  | [x] => dec x
  | x :: y :: r => dec x ++ 32 :: row (y :: r)
theorem row_snoc (l : List Nat) (x : Nat) : row (l ++ [x]) = (if l = [] then dec x else row l ++ 32 :: dec x) := by
  induction l with
  | nil => rfl
  | cons a l ih =>
    cases l with
    | nil => simp [row]
    | cons b l =>
      have e1 : row (a :: b :: l ++ [x]) = dec a ++ 32 :: row (b :: l ++ [x]) := rfl
      have e2 : row (a :: b :: l) = dec a ++ 32 :: row (b :: l) := rfl
      rw [e1, ih, e2]
      simp

theorem isD32 : isD 32 = false := by decide
theorem row_read (xs : List Nat) : ∀ f, xs ≠ [] → (∀ x ∈ xs, x ≤ 999999) → xs.length ≤ f → numsF f (row xs) = some xs := by
  induction xs with
  | nil => intro f h; exact absurd rfl h
  | cons x xs ih =>
    intro f _ hx hf
    obtain ⟨f, rfl⟩ : ∃ g, f = g + 1 := ⟨f - 1, by simp at hf; omega⟩
    cases xs with
    | nil =>
      have := num_dec x (hx x (by simp)) [] (by simp)
      rw [List.append_nil] at this
      exact numsF_last this rfl
    | cons y r =>
      have e : row (x :: y :: r) = dec x ++ 32 :: row (y :: r) := rfl
      have := num_dec x (hx x (by simp)) (32 :: row (y :: r)) (by intro c hc; simp at hc; subst hc; exact isD32)
      rw [e, numsF_go this (by simp) (by simp)]
      have e2 : (dec x ++ 32 :: row (y :: r)).drop ((dec x).length + 1) = row (y :: r) := by
        rw [← List.drop_drop]
        simp
      rw [e2, ih f (by simp) (fun z hz => hx z (by simp [hz])) (by simpa using hf)]
      rfl
theorem row_more (xs : List Nat) : ∀ f, (∀ x ∈ xs, x ≤ 999999) → numsF f (row xs ++ [32]) = none := by
  induction xs with
  | nil => intro f _; cases f <;> simp [row, numsF, num, isD32]
  | cons x xs ih =>
    intro f hx
    cases f with
    | zero => rfl
    | succ f =>
      cases xs with
      | nil =>
        have := num_dec x (hx x (by simp)) [32] (by intro c hc; simp at hc; subst hc; exact isD32)
        have e : row [x] ++ [32] = dec x ++ [32] := rfl
        rw [e, numsF_go this (by simp) (by simp)]
        have e2 : (dec x ++ [32]).drop ((dec x).length + 1) = [] := by
          rw [← List.drop_drop]
          simp
        rw [e2, numsF_nil]
        rfl
      | cons y r =>
        have e : row (x :: y :: r) ++ [32] = dec x ++ 32 :: (row (y :: r) ++ [32]) := by
          show (dec x ++ 32 :: row (y :: r)) ++ [32] = _
          simp
        have := num_dec x (hx x (by simp)) (32 :: (row (y :: r) ++ [32])) (by intro c hc; simp at hc; subst hc; exact isD32)
        rw [e, numsF_go this (by simp) (by simp)]
        have e2 : (dec x ++ 32 :: (row (y :: r) ++ [32])).drop ((dec x).length + 1) = row (y :: r) ++ [32] := by
          rw [← List.drop_drop]
          simp
        rw [e2, ih f (fun z hz => hx z (by simp [hz]))]
        rfl
theorem row_ahead (l : List UInt8) (f : Nat) : numsF f (32 :: l) = none := by
  cases f <;> simp [numsF, num, isD32]
theorem row_ne {xs : List Nat} (h : xs ≠ []) (hx : ∀ x ∈ xs, x ≤ 999999) : row xs ≠ [] := by
  cases xs with
  | nil => exact absurd rfl h
  | cons x xs =>
    have := (dec_len (hx x (by simp))).2
    cases xs with
    | nil => intro he; have e : dec x = [] := he; rw [e] at this; simp at this
    | cons y r => intro he; have e : dec x ++ 32 :: row (y :: r) = [] := he; simp at e
theorem row_len (xs : List Nat) (hx : ∀ x ∈ xs, x ≤ 999999) : (row xs).length ≤ xs.length * 7 := by
  induction xs with
  | nil => simp [row]
  | cons x xs ih =>
    have h1 := (dec_len (hx x (by simp))).1
    cases xs with
    | nil => show (dec x).length ≤ _; simp; omega
    | cons y r =>
      have := ih (fun z hz => hx z (by simp [hz]))
      show (dec x ++ 32 :: row (y :: r)).length ≤ _
      simp at this ⊢
      omega
theorem numbers_row (xs : List Nat) (hx : ∀ x ∈ xs, x ≤ 999999) : numbers (row xs) = some xs := by
  unfold numbers
  by_cases h : xs = []
  · subst h; rfl
  · rw [if_neg (row_ne h hx), row_read xs _ h hx]
    have : ∀ ys : List Nat, ys ≠ [] → (∀ x ∈ ys, x ≤ 999999) → ys.length ≤ (row ys).length := by
      intro ys
      induction ys with
      | nil => intro h; exact absurd rfl h
      | cons y ys ih =>
        intro _ hy
        have h1 := (dec_len (hy y (by simp))).2
        cases ys with
        | nil => exact h1
        | cons z zs =>
          have := ih (by simp) (fun z hz => hy z (by simp [hz]))
          show _ ≤ (dec y ++ 32 :: row (z :: zs)).length
          simp at this ⊢
          omega
    have := this xs h hx
    omega
theorem numbers_more (xs : List Nat) (hx : ∀ x ∈ xs, x ≤ 999999) : numbers (row xs ++ [32]) = none := by
  unfold numbers
  rw [if_neg (by simp), row_more xs _ hx]
theorem numbers_ahead (l : List UInt8) : numbers (32 :: l) = none := by
  unfold numbers
  rw [if_neg (by simp), row_ahead]
end Go.Proofs.YtdcfhdpbpfgohaaDoor.Pl

/-
  The plain mathematics of layer 1: how a number is read off bytes. Nothing of the program stands here.
-/
namespace Go.Proofs.YtdcfhdpbpfgohaaDoor.Pl

/-- a byte that is a digit -/
def isD (c : UInt8) : Bool := 48 ≤ c.toNat && c.toNat ≤ 57
def dv (c : UInt8) : Nat := c.toNat - 48

/-- from the value n on: the value at the end, and how many bytes more were taken -/
def more : List UInt8 → Nat → Nat × Nat
  | [], n => (n, 0)
  | c :: cs, n => if 0 < n ∧ isD c = true ∧ n * 10 + dv c ≤ 999999 then ((more cs (n * 10 + dv c)).1, (more cs (n * 10 + dv c)).2 + 1) else (n, 0)

/-- a number at the head of bytes: its value, and how many bytes it takes -/
def num : List UInt8 → Option (Nat × Nat)
  | [] => none
  | c :: cs => if isD c then some ((more cs (dv c)).1, (more cs (dv c)).2 + 1) else none

theorem isD_iff (c : UInt8) : isD c = true ↔ 48 ≤ c.toNat ∧ c.toNat ≤ 57 := by simp [isD]
theorem dv_le (c : UInt8) (h : isD c = true) : dv c ≤ 9 := by have := (isD_iff c).1 h; unfold dv; omega

theorem more_le (l : List UInt8) : ∀ n, n ≤ 999999 → (more l n).1 ≤ 999999 ∧ (more l n).2 ≤ l.length := by
  induction l with
  | nil => intro n h; simp [more, h]
  | cons c cs ih =>
    intro n h
    unfold more
    by_cases hc : 0 < n ∧ isD c = true ∧ n * 10 + dv c ≤ 999999
    · rw [if_pos hc]
      have := ih (n * 10 + dv c) hc.2.2
      simp
      omega
    · rw [if_neg hc]
      simp [h]

theorem num_le {l : List UInt8} {v k : Nat} (h : num l = some (v, k)) : v ≤ 999999 ∧ 1 ≤ k ∧ k ≤ l.length := by
  cases l with
  | nil => simp [num] at h
  | cons c cs =>
    simp only [num] at h
    by_cases hc : isD c = true
    · rw [if_pos hc] at h
      have hd := dv_le c hc
      have := more_le cs (dv c) (by omega)
      simp at h
      obtain ⟨rfl, rfl⟩ := h
      simp
      omega
    · rw [if_neg hc] at h
      cases h

/-- the two numbers of a line: how many bytes were taken, be it one or not, and the numbers -/
def pair (l : List UInt8) : Nat × Option (Nat × Nat) :=
  match num l with
  | none => (0, none)
  | some (v, k) =>
    if (l.drop k).head? = some 32 then
      match num (l.drop (k + 1)) with
      | none => (k + 1, none)
      | some (v2, k2) => if (l.drop (k + 1 + k2)).head? = some 10 then (k + 1 + k2 + 1, some (v, v2)) else (k + 1 + k2, none)
    else (k, none)

theorem pair_le (l : List UInt8) : (pair l).1 ≤ l.length := by
  unfold pair
  split
  · exact Nat.zero_le _
  · rename_i v k h1
    have a1 := num_le h1
    split
    · rename_i h2
      have b1 : k < l.length := by
        refine Decidable.byContradiction fun hc => ?_
        rw [List.drop_eq_nil_of_le (by omega)] at h2
        cases h2
      split
      · show k + 1 ≤ _
        omega
      · rename_i v2 k2 h3
        have a2 := num_le h3
        simp only [List.length_drop] at a2
        split
        · rename_i h4
          have b2 : k + 1 + k2 < l.length := by
            refine Decidable.byContradiction fun hc => ?_
            rw [List.drop_eq_nil_of_le (by omega)] at h4
            cases h4
          show k + 1 + k2 + 1 ≤ _
          omega
        · show k + 1 + k2 ≤ _
          omega
    · show k ≤ _
      omega
theorem pair_val {l : List UInt8} {c x y : Nat} (h : pair l = (c, some (x, y))) : x ≤ 999999 ∧ y ≤ 999999 := by
  unfold pair at h
  split at h
  · simp at h
  · rename_i v k h1
    have a1 := num_le h1
    split at h
    · split at h
      · simp at h
      · rename_i v2 k2 h3
        have a2 := num_le h3
        split at h
        · simp at h
          omega
        · simp at h
    · simp at h

/-- so many lines of edges -/
def edges : List UInt8 → Nat → Nat × Option (List (Nat × Nat))
  | _, 0 => (0, some [])
  | l, n + 1 => match pair l with
    | (c, none) => (c, none)
    | (c, some e) => (c + (edges (l.drop c) n).1, (edges (l.drop c) n).2.map (e :: ·))

theorem edges_no {l : List UInt8} {n c : Nat} (h : pair l = (c, none)) : edges l (n + 1) = (c, none) := by
  simp [edges, h]
theorem edges_go {l : List UInt8} {n c : Nat} {e : Nat × Nat} (h : pair l = (c, some e)) : edges l (n + 1) = (c + (edges (l.drop c) n).1, (edges (l.drop c) n).2.map (e :: ·)) := by
  simp [edges, h]

/-- a whole text: how many bytes were taken, be it one or not; the number of vertices, and the edges -/
def graph (l : List UInt8) : Nat × Option (Nat × List (Nat × Nat)) :=
  match pair l with
  | (c, none) => (c, none)
  | (c, some (v, m)) => match edges (l.drop c) m with
    | (c2, none) => (c + c2, none)
    | (c2, some es) => (c + c2, if l.length = c + c2 then some (v, es) else none)

/-- the numbers of a line that isn't empty; f: more than its bytes -/
def numsF : Nat → List UInt8 → Option (List Nat)
  | 0, _ => none
  | f + 1, l => match num l with
    | none => none
    | some (v, k) => if l.length = k then some [v] else if (l.drop k).head? = some 32 then (numsF f (l.drop (k + 1))).map (v :: ·) else none
def numbers (l : List UInt8) : Option (List Nat) := if l = [] then some [] else numsF (l.length + 1) l

theorem numsF_none {f : Nat} {l : List UInt8} (h : num l = none) : numsF (f + 1) l = none := by
  simp [numsF, h]
theorem numsF_last {f : Nat} {l : List UInt8} {v k : Nat} (h : num l = some (v, k)) (hk : l.length = k) : numsF (f + 1) l = some [v] := by
  simp [numsF, h, hk]
theorem numsF_go {f : Nat} {l : List UInt8} {v k : Nat} (h : num l = some (v, k)) (hk : ¬ l.length = k) (hh : (l.drop k).head? = some 32) : numsF (f + 1) l = (numsF f (l.drop (k + 1))).map (v :: ·) := by
  simp only [numsF, h]
  rw [if_neg hk, if_pos hh]
theorem numsF_stop {f : Nat} {l : List UInt8} {v k : Nat} (h : num l = some (v, k)) (hk : ¬ l.length = k) (hh : ¬ (l.drop k).head? = some 32) : numsF (f + 1) l = none := by
  simp only [numsF, h]
  rw [if_neg hk, if_neg hh]

end Go.Proofs.YtdcfhdpbpfgohaaDoor.Pl

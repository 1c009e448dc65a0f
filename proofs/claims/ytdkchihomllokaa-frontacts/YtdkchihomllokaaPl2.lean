/-
  Plain mathematics of what is left: least tails, the way back, the cycle that is told. No conditions beyond each theorem's own.
-/
import Derived.Test.YtdkchihomllokaaPl
namespace Go.Proofs.Ytdkchihomllokaa.Pl
set_option linter.unusedVariables false

/-- a vertex that is left -/
def lf (V : Nat) (es : Ed) (x : Nat) : Bool := decide (x ∉ order V es)
/-- the least tail that is left of the first k edges to x, or V -/
def back (V : Nat) (es : Ed) (x k : Nat) : Nat := (List.range k).foldl (fun a i => if (at' es i).2 = x ∧ lf V es (at' es i).1 = true then min a (at' es i).1 else a) V
theorem back_zero (V : Nat) (es : Ed) (x : Nat) : back V es x 0 = V := rfl
theorem back_succ (V : Nat) (es : Ed) (x k : Nat) : back V es x (k + 1) = if (at' es k).2 = x ∧ lf V es (at' es k).1 = true then min (back V es x k) (at' es k).1 else back V es x k := by
  unfold back
  rw [List.range_succ, List.foldl_append]
  rfl
theorem back_le (V : Nat) (es : Ed) (x k : Nat) : back V es x k ≤ V ∧ (∀ i, i < k → (at' es i).2 = x → lf V es (at' es i).1 = true → back V es x k ≤ (at' es i).1) ∧ (back V es x k = V ∨ ∃ i, i < k ∧ (at' es i).2 = x ∧ lf V es (at' es i).1 = true ∧ back V es x k = (at' es i).1) := by
  induction k with
  | zero => exact ⟨Nat.le_refl _, fun i hi => by omega, .inl rfl⟩
  | succ k ih =>
    obtain ⟨h1, h2, h3⟩ := ih
    rw [back_succ]
    by_cases hc : (at' es k).2 = x ∧ lf V es (at' es k).1 = true
    · rw [if_pos hc]
      refine ⟨by omega, fun i hi a b => ?_, ?_⟩
      · by_cases hik : i < k
        · have := h2 i hik a b; omega
        · obtain rfl : i = k := by omega
          omega
      · by_cases hm : back V es x k ≤ (at' es k).1
        · rw [Nat.min_eq_left hm]
          rcases h3 with h3 | ⟨i, hi, a, b, e⟩
          · exact .inl h3
          · exact .inr ⟨i, by omega, a, b, e⟩
        · rw [Nat.min_eq_right (by omega)]
          exact .inr ⟨k, by omega, hc.1, hc.2, rfl⟩
    · rw [if_neg hc]
      refine ⟨h1, fun i hi a b => ?_, ?_⟩
      · by_cases hik : i < k
        · exact h2 i hik a b
        · obtain rfl : i = k := by omega
          exact absurd ⟨a, b⟩ hc
      · rcases h3 with h3 | ⟨i, hi, a, b, e⟩
        · exact .inl h3
        · exact .inr ⟨i, by omega, a, b, e⟩
/-- by the edges to x alone, the first j of them -/
def backI (V : Nat) (es : Ed) (x j : Nat) : Nat := ((ins es x).take j).foldl (fun a i => if lf V es (at' es i).1 = true then min a (at' es i).1 else a) V
theorem backI_zero (V : Nat) (es : Ed) (x : Nat) : backI V es x 0 = V := by simp [backI]
theorem backI_succ (V : Nat) (es : Ed) (x j : Nat) (hj : j < (ins es x).length) : backI V es x (j + 1) = if lf V es (at' es ((ins es x).getD j 0)).1 = true then min (backI V es x j) (at' es ((ins es x).getD j 0)).1 else backI V es x j := by
  unfold backI
  rw [List.take_succ_eq_append_getElem hj, List.foldl_append]
  simp [List.getD, hj]
theorem backI_end (V : Nat) (es : Ed) (x : Nat) : backI V es x (ins es x).length = back V es x es.length := by
  unfold backI back ins sel
  rw [List.take_length, List.foldl_filter]
  congr 1
  funext a i
  by_cases h1 : (at' es i).2 = x
  · simp [h1]
  · simp [h1]
theorem backI_le (V : Nat) (es : Ed) (x j : Nat) : backI V es x j ≤ V := by
  unfold backI
  generalize (ins es x).take j = l
  have : ∀ (l : List Nat) (a : Nat), a ≤ V → l.foldl (fun a i => if lf V es (at' es i).1 = true then min a (at' es i).1 else a) a ≤ V := by
    intro l
    induction l with
    | nil => intro a h; exact h
    | cons i l ih =>
      intro a h
      apply ih
      show (if lf V es (at' es i).1 = true then min a (at' es i).1 else a) ≤ V
      split
      · exact Nat.le_trans (Nat.min_le_left _ _) h
      · exact h
  exact this l V (Nat.le_refl _)

def bk (V : Nat) (es : Ed) (x : Nat) : Nat := back V es x es.length
/-- what is left, by name -/
def Lf (V : Nat) (es : Ed) (x : Nat) : Prop := x < V ∧ x ∉ order V es
theorem lf_iff {V : Nat} {es : Ed} {x : Nat} : lf V es x = true ↔ x ∉ order V es := by simp [lf]
theorem left_tail {V : Nat} {es : Ed} (he : ∀ e ∈ es, e.1 < V ∧ e.2 < V) {x : Nat} (h : Lf V es x) : Lf V es (bk V es x) ∧ ∃ i, i < es.length ∧ at' es i = (bk V es x, x) := by
  have hr := next_none (order_run V es).2 x h.1
  have hne : ¬ (x ∉ order V es ∧ ∀ e ∈ es, e.2 = x → e.1 ∈ order V es) := fun hc => by rw [ready_iff.2 hc] at hr; cases hr
  have : ∃ e ∈ es, e.2 = x ∧ e.1 ∉ order V es := by
    apply Classical.byContradiction
    intro hno
    apply hne
    refine ⟨h.2, fun e he hx => ?_⟩
    apply Classical.byContradiction
    intro h1
    exact hno ⟨e, he, hx, h1⟩
  obtain ⟨e, hem, hx, h1⟩ := this
  obtain ⟨i, hi, rfl⟩ := mem_at hem
  obtain ⟨b1, b2, b3⟩ := back_le V es x es.length
  have hb := b2 i hi hx (lf_iff.2 h1)
  have hv := (he _ hem).1
  rcases b3 with b3 | ⟨j, hj, a, b, e⟩
  · omega
  · have hbk : bk V es x = (at' es j).1 := e
    refine ⟨⟨?_, ?_⟩, j, hj, ?_⟩
    · rw [hbk]; exact (he _ (at_mem hj)).1
    · rw [hbk]; exact lf_iff.1 b
    · rw [hbk, ← a]

def start (V : Nat) (es : Ed) : Option Nat := (List.range V).find? (lf V es)
def walkF (V : Nat) (es : Ed) : Nat → List Nat → Nat → List Nat × Nat
  | 0, l, x => (l, x)
  | f + 1, l, x => if x ∈ l then (l, x) else walkF V es f (l ++ [x]) (bk V es x)
theorem walkF_stop {V : Nat} {es : Ed} {l : List Nat} {x : Nat} (f : Nat) (h : x ∈ l) : walkF V es f l x = (l, x) := by
  cases f with
  | zero => rfl
  | succ f => unfold walkF; rw [if_pos h]
theorem walkF_go {V : Nat} {es : Ed} {l : List Nat} {x : Nat} (f : Nat) (h : x ∉ l) : walkF V es (f + 1) l x = walkF V es f (l ++ [x]) (bk V es x) := by
  conv => lhs; unfold walkF
  rw [if_neg h]
/-- a way back of what is left -/
structure Way (V : Nat) (es : Ed) (l : List Nat) (x : Nat) : Prop where
  nodup : l.Nodup
  left : ∀ y ∈ l, Lf V es y
  here : Lf V es x
  chain : ∀ i, i < l.length → bk V es (l.getD i 0) = (l ++ [x]).getD (i + 1) 0
theorem Way.nil {V : Nat} {es : Ed} {x : Nat} (h : Lf V es x) : Way V es [] x := ⟨by simp, by simp, h, by simp⟩
theorem Way.step {V : Nat} {es : Ed} (he : ∀ e ∈ es, e.1 < V ∧ e.2 < V) {l : List Nat} {x : Nat} (h : Way V es l x) (hx : x ∉ l) : Way V es (l ++ [x]) (bk V es x) := by
  refine ⟨nodup_snoc h.nodup hx, ?_, (left_tail he h.here).1, ?_⟩
  · intro y hy
    simp at hy
    rcases hy with hy | rfl
    · exact h.left y hy
    · exact h.here
  · intro i hi
    simp at hi
    by_cases hil : i < l.length
    · have := h.chain i hil
      have e1 : (l ++ [x]).getD i 0 = l.getD i 0 := by simp [List.getD, List.getElem?_append, hil]
      have e2 : (l ++ [x] ++ [bk V es x]).getD (i + 1) 0 = (l ++ [x]).getD (i + 1) 0 := by
        simp only [List.getD]
        rw [List.getElem?_append_left (by simp; omega)]
      rw [e1, e2, this]
    · obtain rfl : i = l.length := by omega
      simp
theorem Way.room {V : Nat} {es : Ed} {l : List Nat} {x : Nat} (h : Way V es l x) (hx : x ∉ l) : l.length < V := by
  have := nodup_le V (l ++ [x]) (nodup_snoc h.nodup hx) (fun y hy => by
    simp at hy
    rcases hy with hy | rfl
    · exact (h.left y hy).1
    · exact h.here.1)
  simp at this
  omega
theorem Way.fuel {V : Nat} {es : Ed} {l : List Nat} {x : Nat} (h : Way V es l x) (hx : x ∉ l) : walkF V es (V + 1 - l.length) l x = walkF V es (V + 1 - (l ++ [x]).length) (l ++ [x]) (bk V es x) := by
  have := h.room hx
  rw [show V + 1 - l.length = (V + 1 - (l ++ [x]).length) + 1 by simp; omega]
  exact walkF_go _ hx
/-- where the way comes to -/
theorem Way.ends {V : Nat} {es : Ed} (he : ∀ e ∈ es, e.1 < V ∧ e.2 < V) : ∀ (f : Nat) (l : List Nat) (x : Nat), Way V es l x → V + 1 ≤ f + l.length → Way V es (walkF V es f l x).1 (walkF V es f l x).2 ∧ (walkF V es f l x).2 ∈ (walkF V es f l x).1 := by
  intro f
  induction f with
  | zero =>
    intro l x h hl
    by_cases hx : x ∈ l
    · exact ⟨h, hx⟩
    · have := h.room hx; omega
  | succ f ih =>
    intro l x h hl
    by_cases hx : x ∈ l
    · rw [walkF_stop _ hx]
      exact ⟨h, hx⟩
    · rw [walkF_go _ hx]
      exact ih _ _ (h.step he hx) (by simp; omega)

/-- from the m-th back, round to it -/
def turn (wy : List Nat) (m : Nat) : List Nat := (List.range wy.length).map fun i => wy.getD ((m + wy.length - i) % wy.length) 0
theorem turn_length (wy : List Nat) (m : Nat) : (turn wy m).length = wy.length := by simp [turn]
theorem turn_getD (wy : List Nat) (m i : Nat) (hi : i < wy.length) : (turn wy m).getD i 0 = wy.getD ((m + wy.length - i) % wy.length) 0 := by
  simp [turn, List.getD, hi]
theorem turn_rev (wy : List Nat) (m : Nat) (hm : m < wy.length) : wy.reverse.drop (wy.length - 1 - m) ++ wy.reverse.take (wy.length - 1 - m) = turn wy m := by
  apply List.ext_getElem
  · simp [turn]; omega
  · intro i h1 h2
    have hi : i < wy.length := by simpa [turn] using h2
    have e2 : (turn wy m)[i] = wy.getD ((m + wy.length - i) % wy.length) 0 := by simp [turn]
    rw [e2]
    have hget : ∀ j, (hj : j < wy.length) → wy.getD j 0 = wy[j] := fun j hj => by simp [List.getD, hj]
    by_cases him : i ≤ m
    · have : (m + wy.length - i) % wy.length = m - i := by
        rw [show m + wy.length - i = m - i + wy.length by omega, Nat.add_mod_right, Nat.mod_eq_of_lt (by omega)]
      rw [this, hget _ (by omega), List.getElem_append_left (by simp; omega), List.getElem_drop, List.getElem_reverse]
      congr 1
      omega
    · have : (m + wy.length - i) % wy.length = m + wy.length - i := Nat.mod_eq_of_lt (by omega)
      rw [this, hget _ (by omega), List.getElem_append_right (by simp; omega), List.getElem_take, List.getElem_reverse]
      congr 1
      simp
      omega

/-- the vertices of the cycle, backwards -/
def ring (V : Nat) (es : Ed) (a : Nat) : List Nat := (walkF V es (V + 1) [] a).1.drop ((walkF V es (V + 1) [] a).1.findIdx (· == (walkF V es (V + 1) [] a).2))
/-- the least of them stands at m -/
def LeastAt (l : List Nat) (m : Nat) : Prop := m < l.length ∧ ∀ j, j < l.length → l.getD m 0 ≤ l.getD j 0
theorem LeastAt.only {l : List Nat} (hn : l.Nodup) {m k : Nat} (h : LeastAt l m) (h' : LeastAt l k) : m = k := by
  have h1 := h.2 k h'.1
  have h2 := h'.2 m h.1
  have e : l.getD m 0 = l.getD k 0 := by omega
  have hm := h.1
  have hk := h'.1
  simp only [List.getD, List.getElem?_eq_getElem hm, List.getElem?_eq_getElem hk, Option.getD_some] at e
  rcases Nat.lt_trichotomy m k with hlt | heq | hgt
  · exact absurd e (List.pairwise_iff_getElem.1 hn m k hm hk hlt)
  · exact heq
  · exact absurd e.symm (List.pairwise_iff_getElem.1 hn k m hk hm hgt)
end Go.Proofs.Ytdkchihomllokaa.Pl

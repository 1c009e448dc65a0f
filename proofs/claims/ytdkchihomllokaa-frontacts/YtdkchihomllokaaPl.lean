/-
  Plain mathematics of graphs as lists of pairs: edges by their ends, the order, what is left. No conditions beyond each theorem's own.
-/
import Derived.WalkKit
namespace Go.Proofs.Ytdkchihomllokaa.Pl
set_option linter.unusedVariables false

abbrev Ed := List (Nat × Nat)
/-- the edge with a number -/
def at' (es : Ed) (i : Nat) : Nat × Nat := es.getD i (0, 0)
/-- of the first k edges the numbers of those for which p holds -/
def sel (es : Ed) (p : Nat × Nat → Bool) (k : Nat) : List Nat := (List.range k).filter fun i => p (at' es i)
theorem sel_zero (es : Ed) (p : Nat × Nat → Bool) : sel es p 0 = [] := rfl
theorem sel_succ (es : Ed) (p : Nat × Nat → Bool) (k : Nat) : sel es p (k + 1) = sel es p k ++ if p (at' es k) then [k] else [] := by
  unfold sel
  rw [List.range_succ, List.filter_append]
  cases h : p (at' es k) <;> simp [h]
theorem mem_sel {es : Ed} {p : Nat × Nat → Bool} {k i : Nat} : i ∈ sel es p k ↔ i < k ∧ p (at' es i) = true := by
  simp [sel]
theorem sel_len (es : Ed) (p : Nat × Nat → Bool) (k : Nat) : (sel es p k).length ≤ k := by
  have := List.length_filter_le (fun i => p (at' es i)) (List.range k)
  simpa [sel] using this
def outs (es : Ed) (x : Nat) : List Nat := sel es (fun e => e.1 == x) es.length
def ins (es : Ed) (x : Nat) : List Nat := sel es (fun e => e.2 == x) es.length
theorem at_mem {es : Ed} {i : Nat} (h : i < es.length) : at' es i ∈ es := by
  unfold at'
  simp [List.getD, h]
theorem mem_at {es : Ed} {e : Nat × Nat} (h : e ∈ es) : ∃ i, i < es.length ∧ at' es i = e := by
  obtain ⟨i, hi, rfl⟩ := List.mem_iff_getElem.1 h
  exact ⟨i, hi, by simp [at', List.getD, hi]⟩

/-- a vertex that isn't there yet, all tails of edges to which are -/
def ready (es : Ed) (l : List Nat) (x : Nat) : Bool := decide (x ∉ l) && es.all fun e => e.2 != x || decide (e.1 ∈ l)
theorem ready_iff {es : Ed} {l : List Nat} {x : Nat} : ready es l x = true ↔ x ∉ l ∧ ∀ e ∈ es, e.2 = x → e.1 ∈ l := by
  simp only [ready, Bool.and_eq_true, decide_eq_true_eq, List.all_eq_true, Bool.or_eq_true, bne_iff_ne]
  constructor
  · rintro ⟨h1, h2⟩
    exact ⟨h1, fun e he hx => (h2 e he).resolve_left (fun h => h hx)⟩
  · rintro ⟨h1, h2⟩
    exact ⟨h1, fun e he => by by_cases hx : e.2 = x; exact .inr (h2 e he hx); exact .inl hx⟩
def next (V : Nat) (es : Ed) (l : List Nat) : Option Nat := (List.range V).find? (ready es l)
theorem next_some {V : Nat} {es : Ed} {l : List Nat} {x : Nat} (h : next V es l = some x) : ready es l x = true ∧ x < V ∧ ∀ y, y < x → ready es l y = false := by
  obtain ⟨h1, h2, h3⟩ := List.find?_range_eq_some.1 h
  exact ⟨h1, by simpa using h2, fun y hy => by simpa using h3 y hy⟩
theorem next_none {V : Nat} {es : Ed} {l : List Nat} (h : next V es l = none) : ∀ y, y < V → ready es l y = false := by
  intro y hy
  have := List.find?_eq_none.1 h y (List.mem_range.2 hy)
  simpa using this
theorem next_is {V : Nat} {es : Ed} {l : List Nat} {x : Nat} (h1 : ready es l x = true) (h2 : x < V) (h3 : ∀ y, y < x → ready es l y = false) : next V es l = some x :=
  List.find?_range_eq_some.2 ⟨h1, by simpa using h2, fun y hy => by simp [h3 y hy]⟩
theorem next_isNone {V : Nat} {es : Ed} {l : List Nat} (h : ∀ y, y < V → ready es l y = false) : next V es l = none :=
  List.find?_eq_none.2 fun y hy => by simp [h y (List.mem_range.1 hy)]

def peelF (V : Nat) (es : Ed) : Nat → List Nat → List Nat
  | 0, l => l
  | f + 1, l => match next V es l with
    | none => l
    | some x => peelF V es f (l ++ [x])
def order (V : Nat) (es : Ed) : List Nat := peelF V es V []

theorem nodup_le : ∀ (V : Nat) (l : List Nat), l.Nodup → (∀ x ∈ l, x < V) → l.length ≤ V := by
  intro V
  induction V with
  | zero =>
    intro l _ h
    cases l with
    | nil => simp
    | cons a l => exact absurd (h a (by simp)) (by omega)
  | succ V ih =>
    intro l hn h
    have h1 : (l.erase V).Nodup := hn.erase V
    have h2 : ∀ x ∈ l.erase V, x < V := by
      intro x hx
      have hx2 := (hn.mem_erase_iff).1 hx
      have := h x hx2.2
      have hne := hx2.1
      omega
    have h3 := ih _ h1 h2
    have h4 := List.length_erase (a := V) (l := l)
    split at h4 <;> omega
theorem nodup_snoc {l : List Nat} {x : Nat} (h : l.Nodup) (hx : x ∉ l) : (l ++ [x]).Nodup := by
  rw [List.nodup_append]
  refine ⟨h, by simp, ?_⟩
  intro a ha b hb
  simp at hb
  subst hb
  exact fun e => hx (e ▸ ha)

/-- what has been placed, one by one, always the least that is ready -/
structure Run (V : Nat) (es : Ed) (l : List Nat) : Prop where
  nodup : l.Nodup
  lt : ∀ x ∈ l, x < V
  step : ∀ k, k < l.length → next V es (l.take k) = some (l.getD k 0)
theorem Run.nil (V : Nat) (es : Ed) : Run V es [] := ⟨by simp, by simp, by simp⟩
theorem Run.snoc {V : Nat} {es : Ed} {l : List Nat} {x : Nat} (h : Run V es l) (hx : next V es l = some x) : Run V es (l ++ [x]) := by
  obtain ⟨h1, h2, h3⟩ := next_some hx
  refine ⟨nodup_snoc h.nodup (ready_iff.1 h1).1, ?_, ?_⟩
  · intro y hy
    simp at hy
    rcases hy with hy | rfl
    · exact h.lt y hy
    · exact h2
  · intro k hk
    simp at hk
    by_cases hkl : k < l.length
    · rw [List.take_append_of_le_length (by omega)]
      rw [h.step k hkl]
      simp [List.getD, List.getElem?_append, hkl]
    · obtain rfl : k = l.length := by omega
      rw [List.take_left' rfl, hx]
      simp
theorem Run.le {V : Nat} {es : Ed} {l : List Nat} (h : Run V es l) : l.length ≤ V := nodup_le V l h.nodup h.lt
theorem Run.room {V : Nat} {es : Ed} {l : List Nat} {x : Nat} (h : Run V es l) (hx : next V es l = some x) : l.length < V := by
  have := (h.snoc hx).le
  simp at this
  omega
theorem Run.peel {V : Nat} {es : Ed} : ∀ (f : Nat) (l : List Nat), Run V es l → V ≤ f + l.length → Run V es (peelF V es f l) ∧ next V es (peelF V es f l) = none := by
  intro f
  induction f with
  | zero =>
    intro l h hl
    refine ⟨h, ?_⟩
    show next V es l = none
    cases hn : next V es l with
    | none => rfl
    | some x => have := h.room hn; omega
  | succ f ih =>
    intro l h hl
    unfold peelF
    cases hn : next V es l with
    | none => exact ⟨h, hn⟩
    | some x => exact ih _ (h.snoc hn) (by simp; omega)
theorem order_run (V : Nat) (es : Ed) : Run V es (order V es) ∧ next V es (order V es) = none := Run.peel V [] (Run.nil V es) (by simp)
/-- the order is what any run comes to -/
theorem peelF_step {V : Nat} {es : Ed} {l : List Nat} {x : Nat} (h : Run V es l) (hx : next V es l = some x) : peelF V es (V - l.length) l = peelF V es (V - (l ++ [x]).length) (l ++ [x]) := by
  have := h.room hx
  rw [show V - l.length = (V - (l ++ [x]).length) + 1 by simp; omega]
  conv => lhs; unfold peelF
  rw [hx]
theorem peelF_stop {V : Nat} {es : Ed} {l : List Nat} (f : Nat) (hx : next V es l = none) : peelF V es f l = l := by
  cases f with
  | zero => rfl
  | succ f => unfold peelF; rw [hx]

/-- what is placed brings its tails -/
def Closed (es : Ed) (l : List Nat) : Prop := ∀ e ∈ es, e.2 ∈ l → e.1 ∈ l
theorem Closed.snoc {es : Ed} {l : List Nat} {x : Nat} (h : Closed es l) (hx : ready es l x = true) : Closed es (l ++ [x]) := by
  intro e he h2
  simp at h2 ⊢
  rcases h2 with h2 | h2
  · exact .inl (h e he h2)
  · exact .inl ((ready_iff.1 hx).2 e he h2)

/-- edges to y from what isn't placed -/
def cnt (es : Ed) (l : List Nat) (y : Nat) : Nat := (sel es (fun e => e.2 == y && decide (e.1 ∉ l)) es.length).length
def wt (es : Ed) (l : List Nat) (y : Nat) : Int := if y ∈ l then -1 else (cnt es l y : Int)
theorem cnt_le (es : Ed) (l : List Nat) (y : Nat) : cnt es l y ≤ es.length := sel_len _ _ _
theorem cnt_nil (es : Ed) (y : Nat) : cnt es [] y = (ins es y).length := by
  unfold cnt ins
  congr 2
  funext e
  simp
theorem wt_zero {es : Ed} {l : List Nat} {x : Nat} : wt es l x = 0 ↔ ready es l x = true := by
  unfold wt
  rw [ready_iff]
  by_cases hx : x ∈ l
  · simp [hx]
  · simp only [hx, if_false, not_false_eq_true, true_and]
    have : (cnt es l x : Int) = 0 ↔ cnt es l x = 0 := by omega
    rw [this]
    unfold cnt
    rw [List.length_eq_zero_iff, List.eq_nil_iff_forall_not_mem]
    constructor
    · intro h e he hex
      obtain ⟨i, hi, rfl⟩ := mem_at he
      cases Decidable.em ((at' es i).1 ∈ l) with
      | inl h' => exact h'
      | inr h' => exact absurd (mem_sel.2 ⟨hi, by simp [hex, h']⟩) (h i)
    · intro h i hi
      obtain ⟨hi, h2⟩ := mem_sel.1 hi
      simp at h2
      exact h2.2 (h _ (at_mem hi) h2.1)

/-- of the first j edges from x those to y -/
def hit (es : Ed) (x : Nat) (j : Nat) (y : Nat) : Nat := (((outs es x).take j).filter fun i => (at' es i).2 == y).length
theorem hit_zero (es : Ed) (x y : Nat) : hit es x 0 y = 0 := by simp [hit]
theorem hit_succ (es : Ed) (x j y : Nat) (hj : j < (outs es x).length) : hit es x (j + 1) y = hit es x j y + if (at' es ((outs es x).getD j 0)).2 = y then 1 else 0 := by
  unfold hit
  rw [List.take_succ_eq_append_getElem hj, List.filter_append, List.length_append]
  congr 1
  have : (outs es x).getD j 0 = (outs es x)[j] := by simp [List.getD, hj]
  rw [this]
  by_cases h : (at' es (outs es x)[j]).2 = y
  · simp [h]
  · simp [h]
theorem hit_le (es : Ed) (x j y : Nat) : hit es x j y ≤ es.length := by
  have h1 := List.length_filter_le (fun i => (at' es i).2 == y) ((outs es x).take j)
  have h2 : ((outs es x).take j).length ≤ (outs es x).length := by simp; omega
  have h3 : (outs es x).length ≤ es.length := sel_len _ _ _
  unfold hit
  omega
theorem cnt_split (es : Ed) (l : List Nat) (x y : Nat) (hx : x ∉ l) : cnt es l y = cnt es (l ++ [x]) y + hit es x (outs es x).length y := by
  unfold cnt hit
  rw [List.take_length]
  unfold outs
  generalize es.length = k
  induction k with
  | zero => simp [sel_zero]
  | succ k ih =>
    rw [sel_succ, sel_succ, sel_succ, List.filter_append, List.length_append, List.length_append, List.length_append, ih]
    obtain ⟨a, b, he⟩ : ∃ a b, at' es k = (a, b) := ⟨_, _, rfl⟩
    by_cases hb : b = y
    · subst hb
      by_cases ha : a = x
      · subst ha
        simp [hx, he]
        omega
      · by_cases hal : a ∈ l
        · simp [ha, hal, he]
        · simp [ha, hal, he]
          omega
    · by_cases ha : a = x
      · subst ha
        simp [hb, he]
      · simp [ha, hb, he]

/-- no edge from x goes to what is placed, x among it -/
theorem head_new {es : Ed} {l : List Nat} {x i : Nat} (hc : Closed es l) (hx : ready es l x = true) (hi : i ∈ outs es x) : (at' es i).2 ∉ l ++ [x] := by
  obtain ⟨h1, h2⟩ := mem_sel.1 hi
  have h3 : (at' es i).1 = x := by simpa using h2
  obtain ⟨r1, r2⟩ := ready_iff.1 hx
  intro h
  simp at h
  rcases h with h | h
  · exact r1 (h3 ▸ hc _ (at_mem h1) h)
  · exact r1 (h3 ▸ r2 _ (at_mem h1) h)

/-- while the edges from x are gone through -/
def wtj (es : Ed) (l : List Nat) (x j y : Nat) : Int := if y ∈ l ++ [x] then -1 else (cnt es l y : Int) - hit es x j y
theorem wtj_zero (es : Ed) (l : List Nat) (x y : Nat) : wtj es l x 0 y = if y = x then -1 else wt es l y := by
  unfold wtj wt
  rw [hit_zero]
  by_cases h1 : y = x
  · simp [h1]
  · by_cases h2 : y ∈ l
    · simp [h1, h2]
    · simp [h1, h2]
theorem wtj_succ {es : Ed} {l : List Nat} {x j y : Nat} (hc : Closed es l) (hx : ready es l x = true) (hj : j < (outs es x).length) :
    wtj es l x (j + 1) y = if y = (at' es ((outs es x).getD j 0)).2 then wtj es l x j y - 1 else wtj es l x j y := by
  have hmem : (outs es x).getD j 0 ∈ outs es x := by simp [List.getD, hj]
  have hnew := head_new hc hx hmem
  unfold wtj
  rw [hit_succ es x j y hj]
  by_cases h1 : y = (at' es ((outs es x).getD j 0)).2
  · rw [if_pos h1]
    rw [← h1] at hnew
    rw [if_neg hnew, if_neg hnew, if_pos h1.symm]
    omega
  · rw [if_neg h1]
    rw [if_neg (show ¬ (at' es ((outs es x).getD j 0)).2 = y from fun h => h1 h.symm), Nat.add_zero]
theorem wtj_end {es : Ed} {l : List Nat} {x y : Nat} (hx : ready es l x = true) : wtj es l x (outs es x).length y = wt es (l ++ [x]) y := by
  have := cnt_split es l x y (ready_iff.1 hx).1
  unfold wtj wt
  by_cases h : y ∈ l ++ [x]
  · rw [if_pos h, if_pos h]
  · rw [if_neg h, if_neg h]
    omega
theorem wtj_bd (es : Ed) (l : List Nat) (x j y : Nat) : -(es.length : Int) - 1 ≤ wtj es l x j y ∧ wtj es l x j y ≤ es.length := by
  have h1 := cnt_le es l y
  have h2 := hit_le es x j y
  unfold wtj
  split <;> omega
theorem wt_bd (es : Ed) (l : List Nat) (y : Nat) : -1 ≤ wt es l y ∧ wt es l y ≤ es.length := by
  have h1 := cnt_le es l y
  unfold wt
  split <;> omega
end Go.Proofs.Ytdkchihomllokaa.Pl

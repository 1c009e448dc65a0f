/-
  The contracts of slices.Index and slices.Contains at ints, and of the document's has: the first place of a number in a row, or -1. Conditions: the row lies in memory as told.
-/
import Derived.Test.YtefagplbpbkpgaaDoorJ1
import Derived.WalkKit
import Derived.WalkLawsBesides
import Derived.OwnWalk
import Derived.Test.YtefagplbpbkpgaaDoorJ3
import Derived.Laws.AppendOwnNone
import Derived.Test.YtefagplbpbkpgaaDoorJ2
import Derived.Deep.RegionHeldLaw
namespace Go.Proofs.YtefagplbpbkpgaaDoor
open Go.RowKit
set_option linter.unusedVariables false
set_option maxRecDepth 20000

/-- the first place of a number, or -1 -/
def ix (xs : List Int) (x : Int) : Int := match xs.findIdx? (· == x) with | some i => (i : Int) | none => -1
theorem ix_hit {xs : List Int} {x : Int} (m : Nat) (hm : m < xs.length) (h : xs.getD m 0 = x) (hb : ∀ j, j < m → xs.getD j 0 ≠ x) : ix xs x = (m : Int) := by
  have : xs.findIdx? (· == x) = some m := by
    rw [List.findIdx?_eq_some_iff_getElem]
    refine ⟨hm, by simp [List.getD, hm] at h; simp [h], fun j hj => ?_⟩
    have := hb j hj
    simp [List.getD, show j < xs.length by omega] at this
    simpa using this
  simp [ix, this]
theorem ix_miss {xs : List Int} {x : Int} (hb : ∀ j, j < xs.length → xs.getD j 0 ≠ x) : ix xs x = -1 := by
  have : xs.findIdx? (· == x) = none := by
    rw [List.findIdx?_eq_none_iff]
    intro y hy
    obtain ⟨j, hj, rfl⟩ := List.mem_iff_getElem.1 hy
    have := hb j hj
    simp [List.getD, hj] at this
    simpa using this
  simp [ix, this]
theorem ix_cases (xs : List Int) (x : Int) : (ix xs x = -1 ∧ x ∉ xs) ∨ ∃ m : Nat, ix xs x = m ∧ m < xs.length ∧ xs.getD m 0 = x ∧ ∀ j, j < m → xs.getD j 0 ≠ x := by
  cases h : xs.findIdx? (· == x) with
  | none =>
    left
    refine ⟨by simp [ix, h], fun hx => ?_⟩
    have := List.findIdx?_eq_none_iff.1 h x hx
    simp at this
  | some m =>
    right
    obtain ⟨hm, h1, h2⟩ := List.findIdx?_eq_some_iff_getElem.1 h
    refine ⟨m, by simp [ix, h], hm, by simp [List.getD, hm]; simpa using h1, fun j hj => ?_⟩
    have := h2 j hj
    simp [List.getD, show j < xs.length by omega]
    simpa using this
theorem ix_nonneg (xs : List Int) (x : Int) : 0 ≤ ix xs x ↔ x ∈ xs := by
  rcases ix_cases xs x with ⟨h, hx⟩ | ⟨m, h, hm, h1, h2⟩
  · rw [h]; constructor
    · intro h; omega
    · intro h; exact absurd h hx
  · rw [h]; constructor
    · intro _; rw [← h1]; simp [List.getD, hm]
    · intro _; omega
theorem ix_lo (xs : List Int) (x : Int) : -1 ≤ ix xs x ∧ ix xs x < xs.length ∨ ix xs x = -1 := by
  rcases ix_cases xs x with ⟨h, hx⟩ | ⟨m, h, hm, h1, h2⟩
  · exact .inr h
  · left; omega

set_option maxHeartbeats 1000000 in
theorem index_any (w : World) (a : Option Addr) (n c : Nat) (xs : List Int) (x : Int) (h : Ns w a n xs) :
    Calls Tryd.prog 70 #[.slice a n c, .int .i64 x] w fun e w' => e = .returned (.int .i64 (ix xs x)) ∧ w' = w := by
  obtain ⟨hl, hn, hc⟩ := h
  have HC := hide hc
  have HL := hide hl
  clear hc hl
  go_enter Tryd.func70, Tryd.ntmps70
  go_wp2
  go_loop [8] (fun i => ∃ k : Nat, i = .int .i64 k ∧ k ≤ n ∧ Hid (∀ j, j < k → xs.getD j 0 ≠ x)) (fun i => n - (intOf i).toNat)
  case atStart => exact ⟨0, rfl, by omega, fun j hj => by omega⟩
  case round =>
    obtain ⟨k, rfl, hk, HA⟩ := hrel
    by_cases hlt : k < n
    · obtain ⟨g, off, ha, hg, d0⟩ := unhide HC k hlt
      subst ha
      obtain ⟨y, hy⟩ : ∃ y, xs.getD k 0 = y := ⟨_, rfl⟩
      rw [hy] at d0
      have HY := hide hy
      clear hy
      have hlt2 : (k : Int) < (n : Int) := by omega
      by_cases hxy : x = y
      · have hb : (x == y) = true := by simp [hxy]
        have HX := hide hxy
        clear hxy
        go_wp2
        go_ret
        exact ⟨ret_i (ix_hit k (by rw [unhide HL]; exact hlt) (by rw [unhide HY, unhide HX]) (unhide HA)).symm, rfl⟩
      · have hb : (x == y) = false := by simp [hxy]
        have HX := hide hxy
        clear hxy
        go_wp2
        go_round
        case rel =>
          refine ⟨k + 1, by go_num, by omega, fun j hj => ?_⟩
          by_cases hjk : j < k
          · exact unhide HA j hjk
          · obtain rfl : j = k := by omega
            rw [unhide HY]
            exact fun h => unhide HX h.symm
        case measure => simp [intOf]; omega
    · go_wp2
      go_ret
      exact ⟨ret_i (ix_miss (fun j hj => unhide HA j (by rw [unhide HL] at hj; omega))).symm, rfl⟩

set_option maxHeartbeats 1000000 in
theorem contains_any (w : World) (a : Option Addr) (n c : Nat) (xs : List Int) (x : Int) (h : Ns w a n xs) :
    Calls Tryd.prog 56 #[.slice a n c, .int .i64 x] w fun e w' => e = .returned (.bool (decide (x ∈ xs))) ∧ w' = w := by
  have hx : decide (0 ≤ ix xs x) = decide (x ∈ xs) := by simp [ix_nonneg]
  have HX := hide hx
  clear hx
  go_enter Tryd.func56, Tryd.ntmps56
  go_wp2_with fail
  refine (index_any w a n c xs x h).mono ?_
  rintro e w' ⟨rfl, rfl⟩
  generalize ix xs x = r at *
  go_wp2
  go_ret
  exact ⟨ret_b (unhide HX), rfl⟩

set_option maxHeartbeats 1000000 in
theorem has_any (w : World) (a : Option Addr) (n c : Nat) (xs : List Int) (x : Int) (h : Ns w a n xs) :
    Calls Tryd.prog 41 #[.slice a n c, .int .i64 x] w fun e w' => e = .returned (.int .i64 (ix xs x)) ∧ w' = w := by
  obtain ⟨hl, hn, hc⟩ := h
  have HC := hide hc
  have HL := hide hl
  clear hc hl
  go_enter Tryd.func41, Tryd.ntmps41
  go_wp2
  go_loop [5] (fun i => ∃ k : Nat, i = .int .i64 k ∧ k ≤ n ∧ Hid (∀ j, j < k → xs.getD j 0 ≠ x)) (fun i => n - (intOf i).toNat)
  case atStart => exact ⟨0, rfl, by omega, fun j hj => by omega⟩
  case round =>
    obtain ⟨k, rfl, hk, HA⟩ := hrel
    by_cases hlt : k < n
    · obtain ⟨g, off, ha, hg, d0⟩ := unhide HC k hlt
      subst ha
      obtain ⟨y, hy⟩ : ∃ y, xs.getD k 0 = y := ⟨_, rfl⟩
      rw [hy] at d0
      have HY := hide hy
      clear hy
      have hlt2 : (k : Int) < (n : Int) := by omega
      by_cases hxy : y = x
      · have hb : (y == x) = true := by simp [hxy]
        have HX := hide hxy
        clear hxy
        go_wp2
        go_ret
        exact ⟨ret_i (ix_hit k (by rw [unhide HL]; exact hlt) (by rw [unhide HY, unhide HX]) (unhide HA)).symm, rfl⟩
      · have hb : (y == x) = false := by simp [hxy]
        have HX := hide hxy
        clear hxy
        go_wp2
        go_round
        case rel =>
          refine ⟨k + 1, by go_num, by omega, fun j hj => ?_⟩
          by_cases hjk : j < k
          · exact unhide HA j hjk
          · obtain rfl : j = k := by omega
            rw [unhide HY]
            exact unhide HX
        case measure => simp [intOf]; omega
    · go_wp2
      go_ret
      exact ⟨ret_i (ix_miss (fun j hj => unhide HA j (by rw [unhide HL] at hj; omega))).symm, rfl⟩
end Go.Proofs.YtefagplbpbkpgaaDoor
/-
  Plain mathematics of graphs as lists of pairs: edges by their ends, the order, what is left. No conditions beyond each theorem's own.
-/
namespace Go.Proofs.YtefagplbpbkpgaaDoor.Pl
set_option linter.unusedVariables false

abbrev Ed := List (Nat × Nat)
/-- the edge with a number -/
def at' (es : Ed) (i : Nat) : Nat × Nat := es.getD i (0, 0)
/-- of the first k edges the numbers of those for which p holds -/
def sel (es : Ed) (p : Nat × Nat → Bool) (k : Nat) : List Nat := (List.range k).filter fun i => p (at' es i)
theorem sel_zero (es : Ed) (p : Nat × Nat → Bool) : sel es p 0 = [] := rfl
theorem sel_succ (es : Ed) (p : Nat × Nat → Bool) (k : Nat) : sel es p (k + 1) = sel es p k ++ if p (at' es k) then [k] else [] := by
  unfold sel
  rw [List.range_succ, List.filter_append]
  cases h : p (at' es k) <;> simp [h]
theorem mem_sel {es : Ed} {p : Nat × Nat → Bool} {k i : Nat} : i ∈ sel es p k ↔ i < k ∧ p (at' es i) = true := by
  simp [sel]
theorem sel_len (es : Ed) (p : Nat × Nat → Bool) (k : Nat) : (sel es p k).length ≤ k := by
  have := List.length_filter_le (fun i => p (at' es i)) (List.range k)
  simpa [sel] using this
def outs (es : Ed) (x : Nat) : List Nat := sel es (fun e => e.1 == x) es.length
def ins (es : Ed) (x : Nat) : List Nat := sel es (fun e => e.2 == x) es.length
theorem at_mem {es : Ed} {i : Nat} (h : i < es.length) : at' es i ∈ es := by
  unfold at'
  simp [List.getD, h]
theorem mem_at {es : Ed} {e : Nat × Nat} (h : e ∈ es) : ∃ i, i < es.length ∧ at' es i = e := by
  obtain ⟨i, hi, rfl⟩ := List.mem_iff_getElem.1 h
  exact ⟨i, hi, by simp [at', List.getD, hi]⟩

/-- a vertex that isn't there yet, all tails of edges to which are -/
def ready (es : Ed) (l : List Nat) (x : Nat) : Bool := decide (x ∉ l) && es.all fun e => e.2 != x || decide (e.1 ∈ l)
theorem ready_iff {es : Ed} {l : List Nat} {x : Nat} : ready es l x = true ↔ x ∉ l ∧ ∀ e ∈ es, e.2 = x → e.1 ∈ l := by
  simp only [ready, Bool.and_eq_true, decide_eq_true_eq, List.all_eq_true, Bool.or_eq_true, bne_iff_ne]
  constructor
  · rintro ⟨h1, h2⟩
    exact ⟨h1, fun e he hx => (h2 e he).resolve_left (fun h => h hx)⟩
  · rintro ⟨h1, h2⟩
    exact ⟨h1, fun e he => by by_cases hx : e.2 = x; exact .inr (h2 e he hx); exact .inl hx⟩
def next (V : Nat) (es : Ed) (l : List Nat) : Option Nat := (List.range V).find? (ready es l)
theorem next_some {V : Nat} {es : Ed} {l : List Nat} {x : Nat} (h : next V es l = some x) : ready es l x = true ∧ x < V ∧ ∀ y, y < x → ready es l y = false := by
  obtain ⟨h1, h2, h3⟩ := List.find?_range_eq_some.1 h
  exact ⟨h1, by simpa using h2, fun y hy => by simpa using h3 y hy⟩
theorem next_none {V : Nat} {es : Ed} {l : List Nat} (h : next V es l = none) : ∀ y, y < V → ready es l y = false := by
  intro y hy
  have := List.find?_eq_none.1 h y (List.mem_range.2 hy)
  simpa using this
theorem next_is {V : Nat} {es : Ed} {l : List Nat} {x : Nat} (h1 : ready es l x = true) (h2 : x < V) (h3 : ∀ y, y < x → ready es l y = false) : next V es l = some x :=
  List.find?_range_eq_some.2 ⟨h1, by simpa using h2, fun y hy => by simp [h3 y hy]⟩
theorem next_isNone {V : Nat} {es : Ed} {l : List Nat} (h : ∀ y, y < V → ready es l y = false) : next V es l = none :=
  List.find?_eq_none.2 fun y hy => by simp [h y (List.mem_range.1 hy)]

def peelF (V : Nat) (es : Ed) : Nat → List Nat → List Nat
  | 0, l => l
  | f + 1, l => match next V es l with
    | none => l
    | some x => peelF V es f (l ++ [x])
def order (V : Nat) (es : Ed) : List Nat := peelF V es V []

theorem nodup_le : ∀ (V : Nat) (l : List Nat), l.Nodup → (∀ x ∈ l, x < V) → l.length ≤ V := by
  intro V
  induction V with
  | zero =>
    intro l _ h
    cases l with
    | nil => simp
    | cons a l => exact absurd (h a (by simp)) (by omega)
  | succ V ih =>
    intro l hn h
    have h1 : (l.erase V).Nodup := hn.erase V
    have h2 : ∀ x ∈ l.erase V, x < V := by
      intro x hx
      have hx2 := (hn.mem_erase_iff).1 hx
      have := h x hx2.2
      have hne := hx2.1
      omega
    have h3 := ih _ h1 h2
    have h4 := List.length_erase (a := V) (l := l)
    split at h4 <;> omega
theorem nodup_snoc {l : List Nat} {x : Nat} (h : l.Nodup) (hx : x ∉ l) : (l ++ [x]).Nodup := by
  rw [List.nodup_append]
  refine ⟨h, by simp, ?_⟩
  intro a ha b hb
  simp at hb
  subst hb
  exact fun e => hx (e ▸ ha)

/-- what has been placed, one by one, always the least that is ready -/
structure Run (V : Nat) (es : Ed) (l : List Nat) : Prop where
  nodup : l.Nodup
  lt : ∀ x ∈ l, x < V
  step : ∀ k, k < l.length → next V es (l.take k) = some (l.getD k 0)
theorem Run.nil (V : Nat) (es : Ed) : Run V es [] := ⟨by simp, by simp, by simp⟩
theorem Run.snoc {V : Nat} {es : Ed} {l : List Nat} {x : Nat} (h : Run V es l) (hx : next V es l = some x) : Run V es (l ++ [x]) := by
  obtain ⟨h1, h2, h3⟩ := next_some hx
  refine ⟨nodup_snoc h.nodup (ready_iff.1 h1).1, ?_, ?_⟩
  · intro y hy
    simp at hy
    rcases hy with hy | rfl
    · exact h.lt y hy
    · exact h2
  · intro k hk
    simp at hk
    by_cases hkl : k < l.length
    · rw [List.take_append_of_le_length (by omega)]
      rw [h.step k hkl]
      simp [List.getD, List.getElem?_append, hkl]
    · obtain rfl : k = l.length := by omega
      rw [List.take_left' rfl, hx]
      simp
theorem Run.le {V : Nat} {es : Ed} {l : List Nat} (h : Run V es l) : l.length ≤ V := nodup_le V l h.nodup h.lt
theorem Run.room {V : Nat} {es : Ed} {l : List Nat} {x : Nat} (h : Run V es l) (hx : next V es l = some x) : l.length < V := by
  have := (h.snoc hx).le
  simp at this
  omega
theorem Run.peel {V : Nat} {es : Ed} : ∀ (f : Nat) (l : List Nat), Run V es l → V ≤ f + l.length → Run V es (peelF V es f l) ∧ next V es (peelF V es f l) = none := by
  intro f
  induction f with
  | zero =>
    intro l h hl
    refine ⟨h, ?_⟩
    show next V es l = none
    cases hn : next V es l with
    | none => rfl
    | some x => have := h.room hn; omega
  | succ f ih =>
    intro l h hl
    unfold peelF
    cases hn : next V es l with
    | none => exact ⟨h, hn⟩
    | some x => exact ih _ (h.snoc hn) (by simp; omega)
theorem order_run (V : Nat) (es : Ed) : Run V es (order V es) ∧ next V es (order V es) = none := Run.peel V [] (Run.nil V es) (by simp)
/-- the order is what any run comes to -/
theorem peelF_step {V : Nat} {es : Ed} {l : List Nat} {x : Nat} (h : Run V es l) (hx : next V es l = some x) : peelF V es (V - l.length) l = peelF V es (V - (l ++ [x]).length) (l ++ [x]) := by
  have := h.room hx
  rw [show V - l.length = (V - (l ++ [x]).length) + 1 by simp; omega]
  conv => lhs; unfold peelF
  rw [hx]
theorem peelF_stop {V : Nat} {es : Ed} {l : List Nat} (f : Nat) (hx : next V es l = none) : peelF V es f l = l := by
  cases f with
  | zero => rfl
  | succ f => unfold peelF; rw [hx]

/-- what is placed brings its tails -/
def Closed (es : Ed) (l : List Nat) : Prop := ∀ e ∈ es, e.2 ∈ l → e.1 ∈ l
theorem Closed.snoc {es : Ed} {l : List Nat} {x : Nat} (h : Closed es l) (hx : ready es l x = true) : Closed es (l ++ [x]) := by
  intro e he h2
  simp at h2 ⊢
  rcases h2 with h2 | h2
  · exact .inl (h e he h2)
  · exact .inl ((ready_iff.1 hx).2 e he h2)

/-- edges to y from what isn't placed -/
def cnt (es : Ed) (l : List Nat) (y : Nat) : Nat := (sel es (fun e => e.2 == y && decide (e.1 ∉ l)) es.length).length
def wt (es : Ed) (l : List Nat) (y : Nat) : Int := if y ∈ l then -1 else (cnt es l y : Int)
theorem cnt_le (es : Ed) (l : List Nat) (y : Nat) : cnt es l y ≤ es.length := sel_len _ _ _
theorem cnt_nil (es : Ed) (y : Nat) : cnt es [] y = (ins es y).length := by
  unfold cnt ins
  congr 2
  funext e
  simp
theorem wt_zero {es : Ed} {l : List Nat} {x : Nat} : wt es l x = 0 ↔ ready es l x = true := by
  unfold wt
  rw [ready_iff]
  by_cases hx : x ∈ l
  · simp [hx]
  · simp only [hx, if_false, not_false_eq_true, true_and]
    have : (cnt es l x : Int) = 0 ↔ cnt es l x = 0 := by omega
    rw [this]
    unfold cnt
    rw [List.length_eq_zero_iff, List.eq_nil_iff_forall_not_mem]
    constructor
    · intro h e he hex
      obtain ⟨i, hi, rfl⟩ := mem_at he
      cases Decidable.em ((at' es i).1 ∈ l) with
      | inl h' => exact h'
      | inr h' => exact absurd (mem_sel.2 ⟨hi, by simp [hex, h']⟩) (h i)
    · intro h i hi
      obtain ⟨hi, h2⟩ := mem_sel.1 hi
      simp at h2
      exact h2.2 (h _ (at_mem hi) h2.1)

/-- of the first j edges from x those to y -/
def hit (es : Ed) (x : Nat) (j : Nat) (y : Nat) : Nat := (((outs es x).take j).filter fun i => (at' es i).2 == y).length
theorem hit_zero (es : Ed) (x y : Nat) : hit es x 0 y = 0 := by simp [hit]
theorem hit_succ (es : Ed) (x j y : Nat) (hj : j < (outs es x).length) : hit es x (j + 1) y = hit es x j y + if (at' es ((outs es x).getD j 0)).2 = y then 1 else 0 := by
  unfold hit
  rw [List.take_succ_eq_append_getElem hj, List.filter_append, List.length_append]
  congr 1
  have : (outs es x).getD j 0 = (outs es x)[j] := by simp [List.getD, hj]
  rw [this]
  by_cases h : (at' es (outs es x)[j]).2 = y
  · simp [h]
  · simp [h]
theorem hit_le (es : Ed) (x j y : Nat) : hit es x j y ≤ es.length := by
  have h1 := List.length_filter_le (fun i => (at' es i).2 == y) ((outs es x).take j)
  have h2 : ((outs es x).take j).length ≤ (outs es x).length := by simp; omega
  have h3 : (outs es x).length ≤ es.length := sel_len _ _ _
  unfold hit
  omega
theorem cnt_split (es : Ed) (l : List Nat) (x y : Nat) (hx : x ∉ l) : cnt es l y = cnt es (l ++ [x]) y + hit es x (outs es x).length y := by
  unfold cnt hit
  rw [List.take_length]
  unfold outs
  generalize es.length = k
  induction k with
  | zero => simp [sel_zero]
  | succ k ih =>
    rw [sel_succ, sel_succ, sel_succ, List.filter_append, List.length_append, List.length_append, List.length_append, ih]
    obtain ⟨a, b, he⟩ : ∃ a b, at' es k = (a, b) := ⟨_, _, rfl⟩
    by_cases hb : b = y
    · subst hb
      by_cases ha : a = x
      · subst ha
        simp [hx, he]
        omega
      · by_cases hal : a ∈ l
        · simp [ha, hal, he]
        · simp [ha, hal, he]
          omega
    · by_cases ha : a = x
      · subst ha
        simp [hb, he]
      · simp [ha, hb, he]

/-- no edge from x goes to what is placed, x among it -/
theorem head_new {es : Ed} {l : List Nat} {x i : Nat} (hc : Closed es l) (hx : ready es l x = true) (hi : i ∈ outs es x) : (at' es i).2 ∉ l ++ [x] := by
  obtain ⟨h1, h2⟩ := mem_sel.1 hi
  have h3 : (at' es i).1 = x := by simpa using h2
  obtain ⟨r1, r2⟩ := ready_iff.1 hx
  intro h
  simp at h
  rcases h with h | h
  · exact r1 (h3 ▸ hc _ (at_mem h1) h)
  · exact r1 (h3 ▸ r2 _ (at_mem h1) h)

/-- while the edges from x are gone through -/
def wtj (es : Ed) (l : List Nat) (x j y : Nat) : Int := if y ∈ l ++ [x] then -1 else (cnt es l y : Int) - hit es x j y
theorem wtj_zero (es : Ed) (l : List Nat) (x y : Nat) : wtj es l x 0 y = if y = x then -1 else wt es l y := by
  unfold wtj wt
  rw [hit_zero]
  by_cases h1 : y = x
  · simp [h1]
  · by_cases h2 : y ∈ l
    · simp [h1, h2]
    · simp [h1, h2]
theorem wtj_succ {es : Ed} {l : List Nat} {x j y : Nat} (hc : Closed es l) (hx : ready es l x = true) (hj : j < (outs es x).length) :
    wtj es l x (j + 1) y = if y = (at' es ((outs es x).getD j 0)).2 then wtj es l x j y - 1 else wtj es l x j y := by
  have hmem : (outs es x).getD j 0 ∈ outs es x := by simp [List.getD, hj]
  have hnew := head_new hc hx hmem
  unfold wtj
  rw [hit_succ es x j y hj]
  by_cases h1 : y = (at' es ((outs es x).getD j 0)).2
  · rw [if_pos h1]
    rw [← h1] at hnew
    rw [if_neg hnew, if_neg hnew, if_pos h1.symm]
    omega
  · rw [if_neg h1]
    rw [if_neg (show ¬ (at' es ((outs es x).getD j 0)).2 = y from fun h => h1 h.symm), Nat.add_zero]
theorem wtj_end {es : Ed} {l : List Nat} {x y : Nat} (hx : ready es l x = true) : wtj es l x (outs es x).length y = wt es (l ++ [x]) y := by
  have := cnt_split es l x y (ready_iff.1 hx).1
  unfold wtj wt
  by_cases h : y ∈ l ++ [x]
  · rw [if_pos h, if_pos h]
  · rw [if_neg h, if_neg h]
    omega
theorem wtj_bd (es : Ed) (l : List Nat) (x j y : Nat) : -(es.length : Int) - 1 ≤ wtj es l x j y ∧ wtj es l x j y ≤ es.length := by
  have h1 := cnt_le es l y
  have h2 := hit_le es x j y
  unfold wtj
  split <;> omega
theorem wt_bd (es : Ed) (l : List Nat) (y : Nat) : -1 ≤ wt es l y ∧ wt es l y ≤ es.length := by
  have h1 := cnt_le es l y
  unfold wt
  split <;> omega
end Go.Proofs.YtefagplbpbkpgaaDoor.Pl
/-
  The contracts of slices.Min and slices.Reverse at ints. Conditions: the rows lie in memory as told; the one that is reversed is a row of cells that may be written.
-/
namespace Go.Proofs.YtefagplbpbkpgaaDoor
open Go.RowKit
set_option linter.unusedVariables false
set_option maxRecDepth 20000

/-- the least of the first k -/
def IsMin (xs : List Int) (k : Nat) (m : Int) : Prop := (∃ j, j < k ∧ xs.getD j 0 = m) ∧ ∀ j, j < k → m ≤ xs.getD j 0
theorem IsMin.one {xs : List Int} {y : Int} (h : xs.getD 0 0 = y) : IsMin xs 1 y := by
  refine ⟨⟨0, by omega, h⟩, fun j hj => ?_⟩
  obtain rfl : j = 0 := by omega
  rw [h]
  exact Int.le_refl _
theorem IsMin.step {xs : List Int} {k : Nat} {m : Int} (h : IsMin xs k m) : IsMin xs (k + 1) (min m (xs.getD k 0)) := by
  obtain ⟨⟨j, hj, hm⟩, h2⟩ := h
  by_cases hc : m ≤ xs.getD k 0
  · rw [Int.min_eq_left hc]
    refine ⟨⟨j, by omega, hm⟩, fun i hi => ?_⟩
    by_cases hik : i < k
    · exact h2 i hik
    · obtain rfl : i = k := by omega
      exact hc
  · rw [Int.min_eq_right (by omega)]
    refine ⟨⟨k, by omega, rfl⟩, fun i hi => ?_⟩
    by_cases hik : i < k
    · have := h2 i hik; omega
    · obtain rfl : i = k := by omega
      exact Int.le_refl _

/-- a row of ints that may be written: at g, from off on -/
def RowAt (w : World) (g off n : Nat) (f : Nat → Int) : Prop := ∃ cur, w.heap[g]? = some (.cells cur 3 (0, 0)) ∧ ∀ t, t < n → cur[off + t]? = some (.int .i64 (f t))
theorem RowAt.cell {w : World} {g off n : Nat} {f : Nat → Int} (h : RowAt w g off n f) {t : Nat} (ht : t < n) : w.cell? ⟨g, off + t, none⟩ = some (.int .i64 (f t)) := by
  obtain ⟨cur, h1, h2⟩ := h
  simp [World.cell?, h1, h2 t ht]
theorem RowAt.fz {w : World} {g off n : Nat} {f : Nat → Int} (h : RowAt w g off n f) (o : Nat) : w.frozen? ⟨g, o, none⟩ = false := by
  obtain ⟨cur, h1, h2⟩ := h
  simp [World.frozen?, h1]
theorem RowAt.set {w : World} {g off n : Nat} {f : Nat → Int} (h : RowAt w g off n f) (p : Nat) (v : Int) : RowAt (w.setCell ⟨g, off + p, none⟩ (.int .i64 v)) g off n (fun t => if t = p then v else f t) := by
  obtain ⟨cur, h1, h2⟩ := h
  refine ⟨cur.setIfInBounds (off + p) (.int .i64 v), by simp [World.setCell, Array.getElem?_modify, h1], fun t ht => ?_⟩
  rw [Array.getElem?_setIfInBounds]
  have hb := (Array.getElem?_eq_some_iff.1 (h2 t ht)).1
  by_cases htp : t = p
  · subst htp
    simp [hb]
  · rw [if_neg (by omega)]
    simp [htp, h2 t ht]
theorem RowAt.drewN {w : World} {g off n : Nat} {f : Nat → Int} (h : RowAt w g off n f) (m : Nat) : RowAt (w.drewN m) g off n f := h
theorem RowAt.lt {w : World} {g off n : Nat} {f : Nat → Int} (h : RowAt w g off n f) : g < w.heap.size := by
  obtain ⟨cur, h1, h2⟩ := h
  exact (Array.getElem?_eq_some_iff.1 h1).1

/-- Nothing but block b has turned. -/
structure Adv (b : Nat) (w w' : World) : Prop where
  os : w'.os = w.os
  tape : w'.tape = w.tape
  output : w'.output = w.output
  size : w'.heap.size = w.heap.size
  block : ∀ k, k ≠ b → w'.heap[k]? = w.heap[k]?
theorem Adv.refl (b : Nat) (w : World) : Adv b w w := ⟨rfl, rfl, rfl, rfl, fun _ _ => rfl⟩
theorem Adv.trans {b : Nat} {u v w : World} (h : Adv b u v) (k : Adv b v w) : Adv b u w :=
  ⟨k.os.trans h.os, k.tape.trans h.tape, k.output.trans h.output, k.size.trans h.size, fun i hi => (k.block i hi).trans (h.block i hi)⟩
theorem Adv.drewN {b : Nat} {u w : World} (h : Adv b u w) (n : Nat) : Adv b u (w.drewN n) := ⟨h.os, h.tape, h.output, h.size, h.block⟩
theorem Adv.drew {b : Nat} {u w : World} (h : Adv b u w) : Adv b u w.drew := ⟨h.os, h.tape, h.output, h.size, h.block⟩
theorem Adv.setCell {b : Nat} {u w : World} (h : Adv b u w) (o : Nat) (v : Value) : Adv b u (w.setCell ⟨b, o, none⟩ v) :=
  h.trans ⟨rfl, rfl, rfl, by simp [World.setCell], fun k hk => Below.heap_setCell _ _ _ _ hk⟩
theorem Adv.below {b B : Nat} {u w : World} (h : Adv b u w) (hB : B ≤ b) : Below B u w :=
  ⟨h.os, h.tape, h.output, Nat.le_of_eq h.size.symm, fun k hk => h.block k (by omega)⟩

/-- the first k and the last k have changed places -/
def revTo (n k : Nat) (f : Nat → Int) (t : Nat) : Int := if t < k ∨ n - k ≤ t then f (n - 1 - t) else f t

theorem revTo_step {n k : Nat} (f : Nat → Int) (hk : k + k + 1 < n) (t : Nat) (ht : t < n) :
    (if t = n - 1 - k then revTo n k f k else if t = k then revTo n k f (n - 1 - k) else revTo n k f t) = revTo n (k + 1) f t := by
  unfold revTo
  by_cases h1 : t = n - 1 - k
  · subst h1
    rw [if_pos rfl, if_neg (by omega), if_pos (by omega)]
    congr 1
    omega
  · rw [if_neg h1]
    by_cases h2 : t = k
    · subst h2
      rw [if_pos rfl, if_neg (by omega), if_pos (by omega)]
    · rw [if_neg h2]
      by_cases h3 : t < k ∨ n - k ≤ t
      · rw [if_pos h3, if_pos (by omega)]
      · rw [if_neg h3, if_neg (by omega)]
theorem revTo_end {n k : Nat} (f : Nat → Int) (hk : n ≤ k + k + 1) (t : Nat) (ht : t < n) : revTo n k f t = f (n - 1 - t) := by
  unfold revTo
  by_cases h3 : t < k ∨ n - k ≤ t
  · rw [if_pos h3]
  · rw [if_neg h3]
    congr 1
    omega
theorem RowAt.congr {w : World} {g off n : Nat} {f f' : Nat → Int} (h : RowAt w g off n f) (he : ∀ t, t < n → f t = f' t) : RowAt w g off n f' := by
  obtain ⟨cur, h1, h2⟩ := h
  exact ⟨cur, h1, fun t ht => by rw [h2 t ht, he t ht]⟩

end Go.Proofs.YtefagplbpbkpgaaDoor
/-
  A view in memory: what its cells hold. No conditions.
-/
namespace Go.Proofs.YtefagplbpbkpgaaDoor
open Go.RowKit
set_option linter.unusedVariables false
set_option maxRecDepth 20000

/-- a slice of slices of ints: the k-th holds L k -/
def Rs (w : World) (a : Option Addr) (n : Nat) (L : Nat → List Nat) : Prop :=
  ∀ k, k < n → ∃ g off ak ck, a = some ⟨g, off, none⟩ ∧ g < w.heap.size ∧ w.cell? ⟨g, off + k, none⟩ = some (.slice ak (L k).length ck) ∧ (L k).length ≤ ck ∧ (ak = none → ck = 0) ∧ Ns w ak (L k).length (toIs (L k))
theorem Rs.below {w w' : World} {a : Option Addr} {n : Nat} {L : Nat → List Nat} (h : Rs w a n L) (hb : Below w.heap.size w w') : Rs w' a n L := by
  intro k hk
  obtain ⟨g, off, ak, ck, ha, hg, c0, hl, hno, hN⟩ := h k hk
  exact ⟨g, off, ak, ck, ha, Nat.lt_of_lt_of_le hg hb.size, by rw [hb.cell (p := ⟨g, off + k, none⟩) hg]; exact c0, hl, hno, hN.below hb⟩

/-- a graph of plain numbers -/
structure Plain (V : Nat) (es : List (Nat × Nat)) : Prop where
  v1 : 1 ≤ V
  v64 : V ≤ 64
  n128 : es.length ≤ 128
  ends : ∀ e ∈ es, e.1 < V ∧ e.2 < V
theorem Plain.at {V : Nat} {es : List (Nat × Nat)} (h : Plain V es) {i : Nat} (hi : i < es.length) : (Pl.at' es i).1 < V ∧ (Pl.at' es i).2 < V := h.ends _ (Pl.at_mem hi)

/-- a view at block b: of these edges, with this order -/
structure Vw (w : World) (b V : Nat) (es : List (Nat × Nat)) (ea : Option Addr) (ec : Nat) (oa : Option Addr) (oc : Nat) (ia : Option Addr) (ic : Nat) (ra : Option Addr) (rc : Nat) (ord : List Nat) : Prop where
  c0 : w.cell? ⟨b, 0, none⟩ = some (.int .i64 V)
  c1 : w.cell? ⟨b, 1, none⟩ = some (.slice ea es.length ec)
  c2 : w.cell? ⟨b, 2, none⟩ = some (.slice oa V oc)
  c3 : w.cell? ⟨b, 3, none⟩ = some (.slice ia V ic)
  c4 : w.cell? ⟨b, 4, none⟩ = some (.slice ra ord.length rc)
  rcap : ord.length ≤ rc ∧ (ra = none → rc = 0)
  edges : Es 0 w ea es.length (toI es)
  outs : Rs w oa V (Pl.outs es)
  ins : Rs w ia V (Pl.ins es)
  order : Ns w ra ord.length (toIs ord)
theorem Vw.lt {w : World} {b V : Nat} {es : List (Nat × Nat)} {ea : Option Addr} {ec : Nat} {oa : Option Addr} {oc : Nat} {ia : Option Addr} {ic : Nat} {ra : Option Addr} {rc : Nat} {ord : List Nat} (h : Vw w b V es ea ec oa oc ia ic ra rc ord) : b < w.heap.size :=
  World.block_lt_of_cell? w ⟨b, 0, none⟩ h.c0
theorem Vw.below {w w' : World} {b V : Nat} {es : List (Nat × Nat)} {ea : Option Addr} {ec : Nat} {oa : Option Addr} {oc : Nat} {ia : Option Addr} {ic : Nat} {ra : Option Addr} {rc : Nat} {ord : List Nat} (h : Vw w b V es ea ec oa oc ia ic ra rc ord) (hb : Below w.heap.size w w') : Vw w' b V es ea ec oa oc ia ic ra rc ord := by
  have hl := h.lt
  exact ⟨by rw [hb.cell (p := ⟨b, 0, none⟩) hl]; exact h.c0, by rw [hb.cell (p := ⟨b, 1, none⟩) hl]; exact h.c1, by rw [hb.cell (p := ⟨b, 2, none⟩) hl]; exact h.c2, by rw [hb.cell (p := ⟨b, 3, none⟩) hl]; exact h.c3, by rw [hb.cell (p := ⟨b, 4, none⟩) hl]; exact h.c4,
    h.rcap, h.edges.below hb, h.outs.below hb, h.ins.below hb, h.order.below hb⟩

/-- an edge's cells, by its number -/
theorem es_at {B : Nat} {w : World} {a : Option Addr} {es : List (Nat × Nat)} (h : Es B w a es.length (toI es)) {i : Nat} (hi : i < es.length) :
    ∃ g off, a = some ⟨g, off, none⟩ ∧ g < w.heap.size ∧ w.cell? ⟨g, off + i * 2, none⟩ = some (.int .i64 ((Pl.at' es i).1 : Nat)) ∧ w.cell? ⟨g, off + i * 2 + 1, none⟩ = some (.int .i64 ((Pl.at' es i).2 : Nat)) := by
  obtain ⟨_, _, h3⟩ := h
  obtain ⟨g, off, ha, _, hg, c0, c1⟩ := h3 i hi
  rw [toI_getD] at c0 c1
  exact ⟨g, off, ha, hg, c0, c1⟩
/-- a number's cell -/
theorem ns_at {w : World} {a : Option Addr} {xs : List Nat} (h : Ns w a xs.length (toIs xs)) {i : Nat} (hi : i < xs.length) :
    ∃ g off, a = some ⟨g, off, none⟩ ∧ g < w.heap.size ∧ w.cell? ⟨g, off + i, none⟩ = some (.int .i64 ((xs.getD i 0 : Nat))) := by
  obtain ⟨_, _, h3⟩ := h
  obtain ⟨g, off, ha, hg, c0⟩ := h3 i hi
  rw [toIs_getD] at c0
  exact ⟨g, off, ha, hg, c0⟩
end Go.Proofs.YtefagplbpbkpgaaDoor
/-
  Plain lemmas that the walk of peel wants: the first 0 among what vertices wait for. No conditions beyond each theorem's own.
-/
namespace Go.Proofs.YtefagplbpbkpgaaDoor
open Go.RowKit
set_option linter.unusedVariables false
set_option maxRecDepth 20000

def lenV : Value → Nat
  | .slice _ n _ => n
  | _ => 0
def listOf (V : Nat) (f : Nat → Int) : List Int := (List.range V).map f
theorem listOf_length (V : Nat) (f : Nat → Int) : (listOf V f).length = V := by simp [listOf]
theorem listOf_getD (V : Nat) (f : Nat → Int) {t : Nat} (ht : t < V) : (listOf V f).getD t 0 = f t := by simp [listOf, List.getD, ht]
theorem RowAt.ns {w : World} {g n : Nat} {f : Nat → Int} (h : RowAt w g 0 n f) (hn : n ≤ 100000) : Ns w (some ⟨g, 0, none⟩) n (listOf n f) := by
  refine ⟨listOf_length n f, by omega, fun k hk => ⟨g, 0, rfl, h.lt, ?_⟩⟩
  rw [h.cell hk, listOf_getD n f hk]
theorem RowAt.of_owns {w : World} {base g n cap : Nat} {xs : List Int} (h : w.ownsRow base 3 1 (.slice (some ⟨g, 0, none⟩) n cap) n (zcells xs)) : RowAt w g 0 n (fun t => xs.getD t 0) := by
  have hl : xs.length = n := by have := h.1; simpa [zcells] using this
  rcases h.2 with ⟨hv, _⟩ | ⟨g', cap', cur, hv, hb, hg, h1, h2, h3, h4⟩
  · cases hv
  · cases hv
    refine ⟨cur, hg, fun t ht => ?_⟩
    have : (cur.toList.take (n * 1))[t]? = (zcells xs)[t]? := by rw [h4]
    rw [List.getElem?_take] at this
    simp [ht] at this
    rw [Nat.zero_add, this]
    simp [zcells, show t < xs.length by omega, List.getD]

theorem ix_next {V : Nat} {es : List (Nat × Nat)} {l : List Nat} {f : Nat → Int} (hf : ∀ y, y < V → f y = Pl.wt es l y) :
    (∀ x, Pl.next V es l = some x → ix (listOf V f) 0 = (x : Int)) ∧ (Pl.next V es l = none → ix (listOf V f) 0 = -1) := by
  constructor
  · intro x hx
    obtain ⟨h1, h2, h3⟩ := Pl.next_some hx
    refine ix_hit x (by rw [listOf_length]; exact h2) ?_ fun j hj => ?_
    · rw [listOf_getD V f h2, hf x h2, Pl.wt_zero]
      exact h1
    · rw [listOf_getD V f (by omega), hf j (by omega)]
      intro h
      rw [Pl.wt_zero, h3 j hj] at h
      cases h
  · intro hx
    refine ix_miss fun j hj => ?_
    rw [listOf_length] at hj
    rw [listOf_getD V f hj, hf j hj]
    intro h
    rw [Pl.wt_zero, Pl.next_none hx j hj] at h
    cases h

theorem RowAt.keep {w w' : World} {g off n : Nat} {f : Nat → Int} (h : RowAt w g off n f) (he : w'.heap[g]? = w.heap[g]?) : RowAt w' g off n f := by
  obtain ⟨cur, h1, h2⟩ := h
  exact ⟨cur, by rw [he]; exact h1, h2⟩
theorem owns_adv {w w' : World} {b base : Nat} {e : TypeId} {size : Nat} {v : Value} {n : Nat} {xs : List Value} (h : w.ownsRow base e size v n xs) (ha : Adv b w w') (hb : b < base) : w'.ownsRow base e size v n xs := by
  refine h.kept (row := some b) ⟨ha.os, ha.tape, ha.output, Nat.le_of_eq ha.size.symm, fun k hk hne => ha.block k (fun he => hne (by rw [he]))⟩ ?_
  cases hv : v.ownBlock with
  | none => exact .inl rfl
  | some g => exact .inr (fun he => by have := (h.lt g hv).1; cases he; omega)
end Go.Proofs.YtefagplbpbkpgaaDoor
/-
  The contract of peel: the order of a graph, as far as it goes. Conditions: the view lies in memory as told, its edges' ends are vertices.
-/
namespace Go.Proofs.YtefagplbpbkpgaaDoor
open Go.RowKit
set_option linter.unusedVariables false
set_option maxRecDepth 20000

/-- what holds at an outer round's head -/
structure PRel (w wr : World) (V : Nat) (es : List (Nat × Nat)) (l : List Nat) (v : Value) (f : Nat → Int) : Prop where
  run : Pl.Run V es l
  closed : Pl.Closed es l
  ends : Pl.peelF V es (V - l.length) l = Pl.order V es
  own : wr.ownsRow (w.heap.size + 1) 3 1 v l.length (zcells (toIs l))
  row : RowAt wr w.heap.size 0 V f
  vals : ∀ y, y < V → f y = Pl.wt es l y
  bel : Below w.heap.size w wr

theorem PRel.ns {w wr : World} {V : Nat} {es : List (Nat × Nat)} {l : List Nat} {v : Value} {f : Nat → Int} (h : PRel w wr V es l v f) (hV : V ≤ 64) : Ns wr (some ⟨w.heap.size, 0, none⟩) V (listOf V f) := h.row.ns (by omega)

theorem PRel.mid {w w' w4 : World} {V : Nat} {es : List (Nat × Nat)} {l : List Nat} {v : Value} {f : Nat → Int} {x : Nat} (h : PRel w w' V es l v f) (hx : Pl.next V es l = some x)
    (hg : ((w'.setCell ⟨w.heap.size, x, none⟩ (.int .i64 (-1))).alloc (.cells #[.int .i64 x] 3)).grownBy w4 v.ownBlock) :
    RowAt w4 w.heap.size 0 V (fun y => Pl.wtj es l x 0 y) ∧ Below w.heap.size w w4 := by
  have hsz := h.row.lt
  have hlt : ∀ g, v.ownBlock = some g → w.heap.size + 1 ≤ g := fun g hv => (h.own.lt g hv).1
  constructor
  · have h1 := h.row.set x (-1)
    rw [Nat.zero_add] at h1
    have h2 : RowAt w4 w.heap.size 0 V (fun t => if t = x then -1 else f t) := by
      refine h1.keep ?_
      rw [hg.block _ (by simp [World.setCell]; omega) (fun he => by have := hlt _ he.symm; omega)]
      exact Below.heap_alloc _ _ _ (by simpa [World.setCell] using hsz)
    refine h2.congr fun t ht => ?_
    rw [Pl.wtj_zero, h.vals t ht]
  · have h1 : Below w.heap.size w (w'.setCell ⟨w.heap.size, x, none⟩ (.int .i64 (-1))) := h.bel.setCell (p := ⟨w.heap.size, x, none⟩) (Nat.le_refl _) _
    exact (h1.alloc (by simp [World.setCell]; omega) _).grown hg (by simp [World.setCell]; omega) fun k hk => by have := hlt k hk; omega

theorem PRel.next {w w' w4 w5 : World} {V : Nat} {es : List (Nat × Nat)} {l : List Nat} {v v2 : Value} {f : Nat → Int} {x : Nat} (h : PRel w w' V es l v f) (hx : Pl.next V es l = some x)
    (ho : w4.ownsRow (w.heap.size + 1) 3 1 v2 (l.length + 1) (zcells (toIs (l ++ [x])))) (hb : Below w.heap.size w w4) (ha : Adv w.heap.size w4 w5) (hr : RowAt w5 w.heap.size 0 V (Pl.wtj es l x (Pl.outs es x).length)) :
    PRel w w5 V es (l ++ [x]) v2 (Pl.wtj es l x (Pl.outs es x).length) := by
  have hrd := (Pl.next_some hx).1
  refine ⟨h.run.snoc hx, h.closed.snoc hrd, ?_, ?_, hr, fun y hy => Pl.wtj_end hrd, hb.trans (ha.below (Nat.le_refl _))⟩
  · rw [← h.ends, Pl.peelF_step h.run hx]
  · rw [List.length_append]
    exact owns_adv ho ha (by omega)

theorem lenV_owns {w : World} {base : Nat} {e : TypeId} {v : Value} {n : Nat} {xs : List Value} (h : w.ownsRow base e 1 v n xs) : lenV v = n := by
  rcases h.2 with ⟨rfl, rfl⟩ | ⟨g, cap, cur, rfl, _⟩
  · rfl
  · rfl

set_option maxHeartbeats 4000000 in
theorem peel_any (w : World) (b V : Nat) (es : List (Nat × Nat)) (ea : Option Addr) (ec : Nat) (oa : Option Addr) (oc : Nat) (ia : Option Addr) (ic : Nat) (ra : Option Addr) (rc : Nat) (ord : List Nat)
    (hp : Plain V es) (h : Vw w b V es ea ec oa oc ia ic ra rc ord) :
    Calls Tryd.prog 66 #[.pointer (some ⟨b, 0, none⟩)] w fun e w' => (∃ v, e = .returned v ∧ w'.ownsRow w.heap.size 3 1 v (Pl.order V es).length (zcells (toIs (Pl.order V es)))) ∧ Below w.heap.size w w' := by
  have hv64 := hp.v64
  have hv1 := hp.v1
  have hn128 := hp.n128
  have HP := hide hp
  have HV := hide h
  have c0 := h.c0
  have c3 := h.c3
  have hbl := h.lt
  obtain ⟨i0, hi0, hz0, hz1, hz2⟩ := info_parts info3
  have HI := hide hi0
  have HZ0 := hide hz0
  have HZ1 := hide hz1
  have HZ2 := hide hz2
  have hzb : i0.bytes * V ≤ 281474976710656 := by rw [hz2]; omega
  clear hi0 hz0 hz1 hz2 h hp
  go_enter Tryd.func66, Tryd.ntmps66
  go_wp2_with (refine wpList_make_full _ rfl (.tmp 14) (.tmp 14) 37 rfl w.heap.size 3 i0 (.int .i64 0) 1 Tryd.underlying37 (unhide HI) (unhide HZ0) (unhide HZ1) .i64 .i64 _ _ V rfl rfl rfl rfl hzb ?m1 ?m2 ?_)
  case m1 => unfold maxLen; omega
  case m2 => exact Nat.le_refl _
  intro w1 hown1 hg1
  have hrow1 : RowAt w1 w.heap.size 0 V (fun t => 0) := by
    have : (madeCells #[Value.int IntKind.i64 0] V).toList = zcells (List.replicate V 0) := by
      rw [toList_madeCells_one]
      simp [zcells]
    rw [this] at hown1
    refine (RowAt.of_owns hown1).congr (fun t ht => ?_)
    simp [List.getD, ht]
  have HR1 := hide hrow1
  have hb1 : Below w.heap.size w w1 := (Below.refl _ _).grown hg1 (Nat.le_refl _) (fun k hk => by cases hk)
  have HB1 := hide hb1
  have d3 : w1.cell? ⟨b, 3, none⟩ = some (.slice ia V ic) := by rw [hb1.cell (p := ⟨b, 3, none⟩) hbl]; exact c3
  have hsz1 : w.heap.size < w1.heap.size := hrow1.lt
  clear hown1 hg1 hrow1 hb1
  go_wp2_with fail
  go_loopw [21] (fun i wr => ∃ (k : Nat) (f : Nat → Int), i = .int .i64 k ∧ k ≤ V ∧ Hid (RowAt wr w.heap.size 0 V f) ∧ Hid (∀ y, y < k → f y = (Pl.ins es y).length) ∧ Adv w.heap.size w1 wr) (fun i wr => V - (intOf i).toNat)
  case atStart => exact ⟨0, _, rfl, by omega, unhide HR1, fun y hy => by omega, Adv.refl _ _⟩
  case round =>
    obtain ⟨k, f, rfl, hk, HF, HK, hadv⟩ := hrel
    by_cases hlt : k < V
    · have hbr : Below w.heap.size w wr := (unhide HB1).trans (hadv.below (Nat.le_refl _))
      obtain ⟨g, off, ak, ck, ha, hg, cc, _, _, hN⟩ := (unhide HV).ins k hlt
      subst ha
      have r0 : wr.cell? ⟨g, off + k, none⟩ = some (.slice ak (Pl.ins es k).length ck) := by rw [hbr.cell (p := ⟨g, off + k, none⟩) hg]; exact cc
      have s0 := (unhide HF).cell (t := k) hlt
      have s1 := (unhide HF).fz (0 + k)
      rw [Nat.zero_add] at s0 s1
      obtain ⟨m, hm⟩ : ∃ m, (Pl.ins es k).length = m := ⟨_, rfl⟩
      rw [hm] at r0
      have HM := hide hm
      have HADV := hide hadv
      have hlt2 : (k : Int) < (V : Int) := by omega
      clear hm cc hN hbr hadv
      go_wp2_with fail
      go_roundw
      case rel =>
        refine ⟨k + 1, _, by go_num, by omega, by have := (unhide HF).set k (m : Int); rw [Nat.zero_add] at this; exact this, fun y hy => ?_, (unhide HADV).setCell _ _⟩
        by_cases hyk : y = k
        · subst hyk
          simp [unhide HM]
        · simp only [hyk, if_false]
          exact unhide HK y (by omega)
      case measure => simp [intOf]; omega
    · obtain rfl : k = V := by omega
      have hbr : Below w.heap.size w wr := (unhide HB1).trans (hadv.below (Nat.le_refl _))
      have hP0 : PRel w wr k es [] (.slice none 0 0) f := ⟨Pl.Run.nil _ _, fun e he h => by simp at h, rfl, World.ownsRow_nil _ _ _ _, unhide HF, fun y hy => by rw [unhide HK y hy, Pl.wt, if_neg (by simp), Pl.cnt_nil], hbr⟩
      have HP0 := hide hP0
      clear hP0 hbr hadv HF HK HR1
      go_wp2_with fail
      go_loopw [3] (fun v wx => ∃ (l : List Nat) (f : Nat → Int), Hid (PRel w wx k es l v f)) (fun v wx => k + 1 - lenV v)
      case atStart => exact ⟨[], _, HP0⟩
      case round =>
        obtain ⟨l, f2, HR⟩ := hrel
        have hlen := lenV_owns (unhide HR).own
        have HLEN := hide hlen
        have hbx := (unhide HR).bel
        have hnsx := (unhide HR).ns (by omega)
        have HNX := hide hnsx
        clear hlen hnsx
        cases hnx : Pl.next k es l with
        | none =>
          have hix := (ix_next (unhide HR).vals).2 hnx
          have HNE := hide hnx
          have HIX := hide hix
          have HBX := hide hbx
          clear hnx hix hbx
          go_wp2_with fail
          refine (index_any _ _ k k _ 0 (unhide HNX)).mono ?_
          rintro e w' ⟨rfl, rfl⟩
          rw [unhide HIX]
          go_wp2_with fail
          go_ret
          have he := (unhide HR).ends
          rw [Pl.peelF_stop _ (unhide HNE)] at he
          rw [← he]
          exact ⟨⟨_, rfl, owns_mono (unhide HR).own (by omega)⟩, unhide HBX⟩
        | some x =>
          have hix := (ix_next (unhide HR).vals).1 x hnx
          have HNE := hide hnx
          have HIX := hide hix
          obtain ⟨hrdy, hxV, _⟩ := Pl.next_some hnx
          have HRDY := hide hrdy
          have s0 := (unhide HR).row.cell (t := x) hxV
          have s1 := (unhide HR).row.fz (0 + x)
          rw [Nat.zero_add] at s0 s1
          have hroom := (unhide HR).run.room hnx
          have hszx : w.heap.size < wr.heap.size := (unhide HR).row.lt
          have HBX := hide hbx
          have hxV2 : (x : Int) < (k : Int) := by omega
          have hown : (wr.setCell ⟨w.heap.size, x, none⟩ (.int .i64 (-1))).ownsRow (w.heap.size + 1) 3 1 u3 l.length (zcells (toIs l)) := ownsRow_setCell_below (unhide HR).own (by simp) _
          have HOWN := hide hown
          clear hnx hix hbx hrdy hown
          go_wp2_with fail
          refine (index_any _ _ k k _ 0 (unhide HNX)).mono ?_
          rintro e w' ⟨rfl, rfl⟩
          rw [unhide HIX]
          go_wp2_with (at_builtin; refine wpList_append_own _ rfl (.tmp 40) (.tmp 42) 37 rfl (w.heap.size + 1) 3 i0 (.int .i64 0) 1 8 Tryd.underlying37 (unhide HI) (unhide HZ0) (unhide HZ1) (unhide HZ2) rfl (by decide) u3 l.length (zcells (toIs l)) rfl ((unhide HOWN).alloc _) ⟨w'.heap.size, 0, none⟩ 1 1 [.int .i64 x] rfl rfl ?a1 ?a2 ?a3 ?a4 ?a5 ?_)
          case a1 =>
            have hone := cell_one_new (w'.setCell ⟨w.heap.size, x, none⟩ (.int .i64 (-1))) (.int .i64 (x : Int)) 3
            rw [show (w'.setCell ⟨w.heap.size, x, none⟩ (.int .i64 (-1))).heap.size = w'.heap.size by simp [World.setCell]] at hone
            exact hone
          case a2 => intro u hu; simp at hu; subst hu; rfl
          case a3 => unfold maxLen; omega
          case a4 => omega
          case a5 => simp; omega
          intro v2 w4 hown4 hg4 _
          have hmid := PRel.mid (unhide HR) (unhide HNE) hg4
          rw [zcells_snoc, toIs_snoc] at hown4
          obtain ⟨hrow4, hb4⟩ := hmid
          have HROW4 := hide hrow4
          have HB4 := hide hb4
          have HO4 := hide hown4
          obtain ⟨g, off, ak, ck, ha, hg, cc, _, _, hN⟩ := (unhide HV).outs x hxV
          subst ha
          have q2 : w4.cell? ⟨b, 2, none⟩ = some (.slice (some ⟨g, off, none⟩) k oc) := by rw [hb4.cell (p := ⟨b, 2, none⟩) hbl]; exact (unhide HV).c2
          have q0 : w4.cell? ⟨g, off + x, none⟩ = some (.slice ak (Pl.outs es x).length ck) := by rw [hb4.cell (p := ⟨g, off + x, none⟩) hg]; exact cc
          have HNS := hide hN
          have hol : (Pl.outs es x).length ≤ es.length := Pl.sel_len _ _ _
          obtain ⟨m, hm⟩ : ∃ m, (Pl.outs es x).length = m := ⟨_, rfl⟩
          rw [hm] at q0
          rw [hm] at hol
          have HM := hide hm
          clear hown4 hg4 hb4 hrow4 s0 s1 hN cc hm
          go_wp2_with fail
          go_loopw [52] (fun i wx => ∃ j : Nat, i = .int .i64 j ∧ j ≤ m ∧ Hid (RowAt wx w.heap.size 0 k (Pl.wtj es l x j)) ∧ Adv w.heap.size w4 wx) (fun i wx => m - (intOf i).toNat)
          case atStart => exact ⟨0, rfl, by omega, HROW4, Adv.refl _ _⟩
          case round =>
            obtain ⟨j, rfl, hj, HX, hadv⟩ := hrel
            have HADV := hide hadv
            by_cases hjm : j < m
            · have hbr : Below w.heap.size w wr := (unhide HB4).trans (hadv.below (Nat.le_refl _))
              obtain ⟨ga, offa, haa, hga, e0⟩ := ns_at (unhide HNS) (i := j) (by rw [unhide HM]; exact hjm)
              obtain ⟨ed, hed⟩ : ∃ ed, (Pl.outs es x).getD j 0 = ed := ⟨_, rfl⟩
              rw [hed] at e0
              have hedm : ed ∈ Pl.outs es x := by
                rw [← hed]
                have hjj : j < (Pl.outs es x).length := by rw [unhide HM]; exact hjm
                simp [List.getD, hjj]
              have hedl : ed < es.length := (Pl.mem_sel.1 hedm).1
              obtain ⟨ge, offe, hae, hge, f0, f1⟩ := es_at (unhide HV).edges hedl
              have hyV := ((unhide HP).at hedl).2
              obtain ⟨y, hy⟩ : ∃ y, (Pl.at' es ed).2 = y := ⟨_, rfl⟩
              rw [hy] at f1 hyV
              subst haa
              subst hae
              have r0 : wr.cell? ⟨ga, offa + j, none⟩ = some (.int .i64 (ed : Nat)) := by rw [hbr.cell (p := ⟨ga, offa + j, none⟩) hga]; exact e0
              have r1 : wr.cell? ⟨b, 1, none⟩ = some (.slice (some ⟨ge, offe, none⟩) es.length ec) := by rw [hbr.cell (p := ⟨b, 1, none⟩) hbl]; exact (unhide HV).c1
              have r2 : wr.cell? ⟨ge, offe + ed * 2 + 1, none⟩ = some (.int .i64 (y : Nat)) := by rw [hbr.cell (p := ⟨ge, offe + ed * 2 + 1, none⟩) hge]; exact f1
              have s0 := (unhide HX).cell (t := y) hyV
              have s1 := (unhide HX).fz (0 + y)
              rw [Nat.zero_add] at s0 s1
              have hwb := Pl.wtj_bd es l x j y
              have hstep : ∀ t, t < k → (if t = y then Pl.wtj es l x j y - 1 else Pl.wtj es l x j t) = Pl.wtj es l x (j + 1) t := by
                intro t ht
                rw [Pl.wtj_succ (unhide HR).closed (unhide HRDY) (by rw [unhide HM]; exact hjm), hed, hy]
                by_cases hty : t = y
                · subst hty; rfl
                · rw [if_neg hty, if_neg hty]
              have HSTEP := hide hstep
              obtain ⟨z, hz⟩ : ∃ z, Pl.wtj es l x j y = z := ⟨_, rfl⟩
              rw [hz] at s0 hwb
              have HZ := hide hz
              have hjm2 : (j : Int) < (m : Int) := by omega
              have hed2 : (ed : Int) < (es.length : Int) := by omega
              have hyV2 : (y : Int) < (k : Int) := by omega
              obtain ⟨hz1, hz2⟩ := hwb
              clear hbr e0 f0 f1 hed hy hstep hz hedm hadv
              go_wp2_with fail
              go_roundw
              case rel =>
                refine ⟨j + 1, by go_num, by omega, ?_, (unhide HADV).setCell _ _⟩
                have := (unhide HX).set y (z - 1)
                rw [Nat.zero_add] at this
                refine this.congr fun t ht => ?_
                rw [← unhide HSTEP t ht, unhide HZ]
              case measure => simp [intOf]; omega
            · obtain rfl : j = m := by omega
              clear hadv
              go_wp2_with fail
              go_roundw
              case rel => exact ⟨l ++ [x], _, PRel.next (unhide HR) (unhide HNE) (unhide HO4) (unhide HB4) (unhide HADV) (by have := unhide HX; rw [← unhide HM] at this; exact this)⟩
              case measure =>
                rw [lenV_owns (unhide HO4), unhide HLEN]
                simp
                omega
end Go.Proofs.YtefagplbpbkpgaaDoor
/-
  The contracts of slices.Clone at ints and at edges, and of slices.Min. Conditions: the rows lie in memory as told.
-/
namespace Go.Proofs.YtefagplbpbkpgaaDoor
open Go.RowKit
set_option linter.unusedVariables false

theorem Ns.cells {w : World} {p : Addr} {n : Nat} {xs : List Int} (h : Ns w (some p) n xs) : ∀ j u, (zcells xs)[j]? = some u → w.cell? (p.add j) = some u := by
  obtain ⟨h1, h2, h3⟩ := h
  intro j u hj
  have hlt : j < n := by have := (List.getElem?_eq_some_iff.1 hj).1; rw [zcells_length] at this; omega
  obtain ⟨g, off, ha, hg, c⟩ := h3 j hlt
  obtain rfl := Option.some.inj ha
  rw [Addr.add_lit, c, ← hj]
  simp [zcells, show j < xs.length by omega]
theorem zcells_one (xs : List Int) : ∀ u ∈ zcells xs, u.oneCell' = true := by
  intro u hu
  obtain ⟨x, _, rfl⟩ := List.mem_map.1 hu
  rfl
theorem ecells_one (xs : List (Int × Int)) : ∀ u ∈ ecells xs, u.oneCell' = true := by
  intro u hu
  obtain ⟨x, _, hx⟩ := List.mem_flatMap.1 hu
  simp at hx
  rcases hx with rfl | rfl <;> rfl
theorem Es.cells {B : Nat} {w : World} {p : Addr} {n : Nat} {es : List (Int × Int)} (h : Es B w (some p) n es) : ∀ j u, (ecells es)[j]? = some u → w.cell? (p.add j) = some u := by
  obtain ⟨h1, h2, h3⟩ := h
  intro j u hj
  have hlt : j < n * 2 := by have := (List.getElem?_eq_some_iff.1 hj).1; rw [ecells_length] at this; omega
  obtain ⟨g, off, ha, _, hg, c0, c1⟩ := h3 (j / 2) (by omega)
  obtain rfl := Option.some.inj ha
  have he := ecells_at es (j / 2) (by omega)
  rw [Addr.add_lit]
  by_cases hp : j % 2 = 0
  · rw [show j = j / 2 * 2 by omega] at hj ⊢
    rw [he.1] at hj
    rw [c0, hj]
  · rw [show j = j / 2 * 2 + 1 by omega] at hj ⊢
    rw [he.2] at hj
    rw [← Nat.add_assoc, c1, hj]


set_option maxHeartbeats 1000000 in
theorem clone_nil (w : World) : Calls Tryd.prog 35 #[.slice none 0 0] w fun e w' => e = .returned (.slice none 0 0) ∧ w' = w := by
  have q28 : ∀ (w : World) (a : Option Addr) (n c n' c' : Nat), (binOp .eql 37 (.slice a n c) (.slice none n' c')).run Tryd.prog w = .ok (.bool a.isNone) w := fun w a n c n' c' => Lib.run_eql_slice_nil w _ _ a n c n' c' Tryd.underlying37
  go_enter Tryd.func35, Tryd.ntmps35
  go_wp2
  go_ret
  exact ⟨rfl, rfl⟩

set_option maxHeartbeats 1000000 in
theorem clone_some (w : World) (p : Addr) (n c : Nat) (xs : List Int) (h : Ns w (some p) n xs) (hn : n ≤ 1000000) :
    Calls Tryd.prog 35 #[.slice (some p) n c] w fun e w' => (∃ v, e = .returned v ∧ w'.ownsRow w.heap.size 3 1 v n (zcells xs) ∧ v ≠ .slice none 0 0) ∧ Below w.heap.size w w' := by
  obtain ⟨i0, hi0, hz0, hz1, hz2⟩ := info_parts info3
  have HI := hide hi0
  have HZ0 := hide hz0
  have HZ1 := hide hz1
  have HZ2 := hide hz2
  have HN := hide h
  have hxl : xs.length = n := h.1
  have HXL := hide hxl
  clear hi0 hz0 hz1 hz2 h hxl
  have q28 : ∀ (w : World) (a : Option Addr) (n c n' c' : Nat), (binOp .eql 37 (.slice a n c) (.slice none n' c')).run Tryd.prog w = .ok (.bool a.isNone) w := fun w a n c n' c' => Lib.run_eql_slice_nil w _ _ a n c n' c' Tryd.underlying37
  go_enter Tryd.func35, Tryd.ntmps35
  go_wp2_with (at_builtin; refine wpList_append_own _ rfl (.tmp 5) (.tmp 6) 37 rfl w.heap.size 3 i0 (.int .i64 0) 1 8 Tryd.underlying37 (unhide HI) (unhide HZ0) (unhide HZ1) (unhide HZ2) rfl (by decide) _ 0 [] rfl (owns_lit_empty w 3 1 w.heap.size (Nat.le_refl _)) p n c (zcells xs) rfl ?c1 ?c2 ?c3 ?c4 ?c5 ?c6 ?_)
  case c1 => rw [zcells_length, unhide HXL]; omega
  case c2 => exact ((unhide HN).below ((Below.refl _ _).alloc (Nat.le_refl _) _)).cells
  case c3 => exact zcells_one xs
  case c4 => unfold maxLen; omega
  case c5 => omega
  case c6 => simp
  intro v2 w4 hown4 hg4 hnil
  have HO := hide hown4
  have HG := hide hg4
  have HV := hide hnil
  clear hown4 hg4 hnil
  go_wp2
  go_ret
  refine ⟨⟨v2, rfl, ?_, ?_⟩, ?_⟩
  · have := unhide HO
    simpa using this
  · intro hv
    exact unhide HV hv
  · exact ((Below.refl _ _).alloc (Nat.le_refl _) _).grown (unhide HG) (by simp) (fun k hk => by simp [Value.ownBlock] at hk; omega)

set_option maxHeartbeats 1000000 in
theorem cloneE_nil (w : World) : Calls Tryd.prog 65 #[.slice none 0 0] w fun e w' => e = .returned (.slice none 0 0) ∧ w' = w := by
  have q22 : ∀ (w : World) (a : Option Addr) (n c n' c' : Nat), (binOp .eql 22 (.slice a n c) (.slice none n' c')).run Tryd.prog w = .ok (.bool a.isNone) w := fun w a n c n' c' => Lib.run_eql_slice_nil w _ _ a n c n' c' Tryd.underlying22
  go_enter Tryd.func65, Tryd.ntmps65
  go_wp2
  go_ret
  exact ⟨rfl, rfl⟩

set_option maxHeartbeats 1000000 in
theorem cloneE_some (w : World) (p : Addr) (n c : Nat) (xs : List (Int × Int)) {B : Nat} (h : Es B w (some p) n xs) (hn : n ≤ 1000000) :
    Calls Tryd.prog 65 #[.slice (some p) n c] w fun e w' => (∃ v, e = .returned v ∧ w'.ownsRow w.heap.size 47 2 v n (ecells xs) ∧ v ≠ .slice none 0 0) ∧ Below w.heap.size w w' := by
  obtain ⟨i0, hi0, hz0, hz1, hz2⟩ := info_parts info54
  have HI := hide hi0
  have HZ0 := hide hz0
  have HZ1 := hide hz1
  have HZ2 := hide hz2
  have HN := hide h
  have hxl : xs.length = n := h.1
  have HXL := hide hxl
  clear hi0 hz0 hz1 hz2 h hxl
  have q22 : ∀ (w : World) (a : Option Addr) (n c n' c' : Nat), (binOp .eql 22 (.slice a n c) (.slice none n' c')).run Tryd.prog w = .ok (.bool a.isNone) w := fun w a n c n' c' => Lib.run_eql_slice_nil w _ _ a n c n' c' Tryd.underlying22
  go_enter Tryd.func65, Tryd.ntmps65
  go_wp2_with (at_builtin; refine wpList_append_own _ rfl (.tmp 5) (.tmp 6) 22 rfl w.heap.size 47 i0 (.agg #[.int .i64 0, .int .i64 0]) 2 16 Tryd.underlying22 (unhide HI) (unhide HZ0) (unhide HZ1) (unhide HZ2) rfl (by decide) _ 0 [] rfl (owns_lit_empty w 47 2 w.heap.size (Nat.le_refl _)) p n c (ecells xs) rfl ?c1 ?c2 ?c3 ?c4 ?c5 ?c6 ?_)
  case c1 => rw [ecells_length, unhide HXL]
  case c2 => exact ((unhide HN).below ((Below.refl _ _).alloc (Nat.le_refl _) _)).cells
  case c3 => exact ecells_one xs
  case c4 => unfold maxLen; omega
  case c5 => omega
  case c6 => simp
  intro v2 w4 hown4 hg4 hnil
  have HO := hide hown4
  have HG := hide hg4
  have HV := hide hnil
  clear hown4 hg4 hnil
  go_wp2
  go_ret
  refine ⟨⟨v2, rfl, ?_, ?_⟩, ?_⟩
  · have := unhide HO
    simpa using this
  · intro hv
    exact unhide HV hv
  · exact ((Below.refl _ _).alloc (Nat.le_refl _) _).grown (unhide HG) (by simp) (fun k hk => by simp [Value.ownBlock] at hk; omega)
end Go.Proofs.YtefagplbpbkpgaaDoor
/-
  What a round of Of leaves of memory: rows that grow, each in a block of its own; lemmas outside the walk. No conditions beyond each theorem's own.
-/
namespace Go.Proofs.YtefagplbpbkpgaaDoor
open Go.RowKit
set_option linter.unusedVariables false
set_option maxRecDepth 20000


/-- rows of numbers, no two in one block -/
structure Rows (w : World) (base N : Nat) (R : Nat → Value) (L : Nat → List Nat) : Prop where
  own : ∀ j, j < N → w.ownsRow base 3 1 (R j) (L j).length (zcells (toIs (L j)))
  apart : ∀ i j, i < N → j < N → i ≠ j → ∀ g, (R i).ownBlock = some g → (R j).ownBlock ≠ some g

theorem owns_block {w : World} {base : Nat} {e : TypeId} {size : Nat} {v : Value} {n : Nat} {xs : List Value} (h : w.ownsRow base e size v n xs) {g : Nat} (hg : v.ownBlock = some g) : ∃ cur, w.heap[g]? = some (.cells cur e (0, 0)) := by
  rcases h.2 with ⟨rfl, _⟩ | ⟨g', cap, cur, rfl, hb, hgg, _⟩
  · simp [Value.ownBlock] at hg
  · simp [Value.ownBlock] at hg
    subst hg
    exact ⟨cur, hgg⟩
/-- a block of another element type is no owned row's -/
theorem owns_ne {w : World} {base : Nat} {e : TypeId} {size : Nat} {v : Value} {n : Nat} {xs : List Value} (h : w.ownsRow base e size v n xs) {b : Nat} {cur : Array Value} {t : TypeId} {fz : Nat × Nat} (hb : w.heap[b]? = some (.cells cur t fz)) (hne : e ≠ t) : v.ownBlock ≠ some b := by
  intro hv
  obtain ⟨cur', h'⟩ := owns_block h hv
  rw [hb] at h'
  cases h'
  exact hne rfl

theorem Rows.keep {w w' : World} {base N : Nat} {R : Nat → Value} {L : Nat → List Nat} (h : Rows w base N R L) (hk : ∀ j g, j < N → (R j).ownBlock = some g → w'.heap[g]? = w.heap[g]?) : Rows w' base N R L :=
  ⟨fun j hj => owns_keep (h.own j hj) (fun g hg => hk j g hj hg), h.apart⟩

theorem Rows.append {w W w4 : World} {base N : Nat} {R : Nat → Value} {L : Nat → List Nat} {j : Nat} {v' : Value} {k : Nat} (h : Rows w base N R L) (hj : j < N) (hW : ∀ i, i < w.heap.size → W.heap[i]? = w.heap[i]?) (hs : w.heap.size ≤ W.heap.size)
    (hg : W.grownBy w4 (R j).ownBlock) (ho : w4.ownsRow base 3 1 v' ((L j).length + 1) (zcells (toIs (L j ++ [k])))) (hat : v'.ownBlock = (R j).ownBlock ∨ v'.ownBlock = some W.heap.size) :
    Rows w4 base N (upd R j v') (upd L j (L j ++ [k])) := by
  constructor
  · intro i hi
    by_cases hij : i = j
    · subst hij
      rw [upd_same, upd_same, List.length_append]
      exact ho
    · rw [upd_other _ _ hij, upd_other _ _ hij]
      refine owns_keep (h.own i hi) fun g hgi => ?_
      have hlt := ((h.own i hi).lt g hgi).2
      rw [hg.block g (by omega) (fun he => h.apart i j hi hj hij g hgi he.symm), hW g hlt]
  · intro a b ha hb hab g hga
    by_cases haj : a = j
    · subst haj
      rw [upd_same] at hga
      rw [upd_other _ _ (Ne.symm hab)]
      intro hgb
      rcases hat with he | he
      · rw [he] at hga
        exact h.apart a b ha hb hab g hga hgb
      · rw [he] at hga
        have := ((h.own b hb).lt g hgb).2
        simp only [Option.some.injEq] at hga
        omega
    · rw [upd_other _ _ haj] at hga
      by_cases hbj : b = j
      · subst hbj
        rw [upd_same]
        intro hgb
        rcases hat with he | he
        · rw [he] at hgb
          exact h.apart a b ha hb hab g hga hgb
        · rw [he] at hgb
          have := ((h.own a ha).lt g hga).2
          simp only [Option.some.injEq] at hgb
          omega
      · rw [upd_other _ _ hbj]
        exact h.apart a b ha hb hab g hga

/-- a table: a block of so many slices -/
def Tab (w : World) (tg V : Nat) (R : Nat → Value) : Prop := ∃ arr, w.heap[tg]? = some (.cells arr 37 (0, 0)) ∧ arr.size = V ∧ ∀ x, x < V → arr[x]? = some (R x)
theorem Tab.cell {w : World} {tg V : Nat} {R : Nat → Value} (h : Tab w tg V R) {x : Nat} (hx : x < V) : w.cell? ⟨tg, x, none⟩ = some (R x) := by
  obtain ⟨arr, h1, h2, h3⟩ := h
  simp [World.cell?, h1, h3 x hx]
theorem Tab.fz {w : World} {tg V : Nat} {R : Nat → Value} (h : Tab w tg V R) (x : Nat) : w.frozen? ⟨tg, x, none⟩ = false := by
  obtain ⟨arr, h1, h2, h3⟩ := h
  simp [World.frozen?, h1]
theorem Tab.keep {w w' : World} {tg V : Nat} {R : Nat → Value} (h : Tab w tg V R) (he : w'.heap[tg]? = w.heap[tg]?) : Tab w' tg V R := by
  obtain ⟨arr, h1, h2, h3⟩ := h
  exact ⟨arr, by rw [he]; exact h1, h2, h3⟩
theorem Tab.set {w : World} {tg V : Nat} {R : Nat → Value} (h : Tab w tg V R) (x : Nat) (v : Value) : Tab (w.setCell ⟨tg, x, none⟩ v) tg V (upd R x v) := by
  obtain ⟨arr, h1, h2, h3⟩ := h
  refine ⟨arr.setIfInBounds x v, by simp [World.setCell, Array.getElem?_modify, h1], by simp [h2], fun y hy => ?_⟩
  rw [Array.getElem?_setIfInBounds]
  by_cases hxy : y = x
  · subst hxy
    rw [upd_same, if_pos rfl]
    simp [h2, hy]
  · rw [upd_other _ _ hxy, if_neg (fun h => hxy h.symm)]
    exact h3 y hy
theorem Tab.lt {w : World} {tg V : Nat} {R : Nat → Value} (h : Tab w tg V R) : tg < w.heap.size := by
  obtain ⟨arr, h1, h2, h3⟩ := h
  exact (Array.getElem?_eq_some_iff.1 h1).1
theorem Tab.ne {w : World} {tg V : Nat} {R : Nat → Value} (h : Tab w tg V R) {base : Nat} {e : TypeId} {size : Nat} {v : Value} {n : Nat} {xs : List Value} (ho : w.ownsRow base e size v n xs) (hne : e ≠ 37) : v.ownBlock ≠ some tg := by
  obtain ⟨arr, h1, h2, h3⟩ := h
  exact owns_ne ho h1 hne

/-- of the first k edges those from x, and, behind the V-th, those to x - V -/
def half (V : Nat) (es : List (Nat × Nat)) (ko ki : Nat) (j : Nat) : List Nat := if j < V then Pl.sel es (fun e => e.1 == j) ko else Pl.sel es (fun e => e.2 == j - V) ki

/-- what holds at a round's head, and between its two halves -/
structure ORel (w wr : World) (b og ig V : Nat) (es : List (Nat × Nat)) (ev : Value) (R : Nat → Value) (ko ki : Nat) : Prop where
  bel : Below w.heap.size w wr
  blo : w.heap.size ≤ b
  olo : w.heap.size ≤ og
  ilo : w.heap.size ≤ ig
  vb : wr.heap[b]? = some (.cells #[.int .i64 V, ev, .slice (some ⟨og, 0, none⟩) V V, .slice (some ⟨ig, 0, none⟩) V V, .slice none 0 0] 95 (0, 0))
  ed : wr.ownsRow w.heap.size 47 2 ev es.length (ecells (toI es))
  ot : Tab wr og V R
  it : Tab wr ig V (fun x => R (V + x))
  ne : og ≠ ig
  rows : Rows wr w.heap.size (V + V) R (half V es ko ki)

theorem half_out {V : Nat} {es : List (Nat × Nat)} {k x y : Nat} (h : Pl.at' es k = (x, y)) (hx : x < V) : upd (half V es k k) x (half V es k k x ++ [k]) = half V es (k + 1) k := by
  funext j
  unfold upd half
  by_cases hj : j < V
  · simp only [hj, hx, if_true]
    rw [Pl.sel_succ, h]
    by_cases hjx : j = x
    · subst hjx
      simp
    · simp [hjx, Ne.symm hjx]
  · rw [if_neg (by omega), if_neg hj, if_neg hj]
theorem half_in {V : Nat} {es : List (Nat × Nat)} {k x y : Nat} (h : Pl.at' es k = (x, y)) (hy : y < V) : upd (half V es (k + 1) k) (V + y) (half V es (k + 1) k (V + y) ++ [k]) = half V es (k + 1) (k + 1) := by
  funext j
  unfold upd half
  by_cases hj : j < V
  · rw [if_neg (by omega), if_pos hj, if_pos hj]
  · by_cases hjx : j = V + y
    · subst hjx
      rw [if_pos rfl, if_neg (by omega), if_neg (by omega), Pl.sel_succ, h]
      simp
    · rw [if_neg hjx, if_neg hj, if_neg hj, Pl.sel_succ, h, if_neg (by simp; omega), List.append_nil]

theorem heap_set_other (w : World) (p : Addr) (v : Value) {i : Nat} (h : i ≠ p.block) : (w.setCell p v).heap[i]? = w.heap[i]? := Below.heap_setCell _ _ _ _ h

theorem ORel.block_b {w wr : World} {b og ig V : Nat} {es : List (Nat × Nat)} {ev : Value} {R : Nat → Value} {ko ki : Nat} (h : ORel w wr b og ig V es ev R ko ki) {j : Nat} (hj : j < V + V) : (R j).ownBlock ≠ some b :=
  owns_ne (h.rows.own j hj) h.vb (by decide)
theorem ORel.block_og {w wr : World} {b og ig V : Nat} {es : List (Nat × Nat)} {ev : Value} {R : Nat → Value} {ko ki : Nat} (h : ORel w wr b og ig V es ev R ko ki) {j : Nat} (hj : j < V + V) : (R j).ownBlock ≠ some og :=
  h.ot.ne (h.rows.own j hj) (by decide)
theorem ORel.block_ig {w wr : World} {b og ig V : Nat} {es : List (Nat × Nat)} {ev : Value} {R : Nat → Value} {ko ki : Nat} (h : ORel w wr b og ig V es ev R ko ki) {j : Nat} (hj : j < V + V) : (R j).ownBlock ≠ some ig :=
  h.it.ne (h.rows.own j hj) (by decide)
theorem ORel.b_lt {w wr : World} {b og ig V : Nat} {es : List (Nat × Nat)} {ev : Value} {R : Nat → Value} {ko ki : Nat} (h : ORel w wr b og ig V es ev R ko ki) : b < wr.heap.size := (Array.getElem?_eq_some_iff.1 h.vb).1
theorem ORel.b_og {w wr : World} {b og ig V : Nat} {es : List (Nat × Nat)} {ev : Value} {R : Nat → Value} {ko ki : Nat} (h : ORel w wr b og ig V es ev R ko ki) : b ≠ og ∧ b ≠ ig := by
  obtain ⟨arr, h1, _⟩ := h.ot
  obtain ⟨arr2, h2, _⟩ := h.it
  have hv := h.vb
  constructor
  · intro e
    rw [← e, hv] at h1
    cases h1
  · intro e
    rw [← e, hv] at h2
    cases h2

/-- a row has grown: all else is as it was -/
theorem ORel.grown {w wr W w4 : World} {b og ig V : Nat} {es : List (Nat × Nat)} {ev : Value} {R : Nat → Value} {ko ki : Nat} (h : ORel w wr b og ig V es ev R ko ki) {j : Nat} (hj : j < V + V) {v' : Value} {k : Nat}
    (hW : Below wr.heap.size wr W) (hg : W.grownBy w4 (R j).ownBlock) (ho : w4.ownsRow w.heap.size 3 1 v' ((half V es ko ki j).length + 1) (zcells (toIs (half V es ko ki j ++ [k])))) (hat : v'.ownBlock = (R j).ownBlock ∨ v'.ownBlock = some W.heap.size) :
    Below w.heap.size w w4 ∧ w4.heap[b]? = wr.heap[b]? ∧ w4.ownsRow w.heap.size 47 2 ev es.length (ecells (toI es)) ∧ Tab w4 og V R ∧ Tab w4 ig V (fun x => R (V + x)) ∧ Rows w4 w.heap.size (V + V) (upd R j v') (upd (half V es ko ki) j (half V es ko ki j ++ [k])) := by
  have hblk : ∀ i, i < wr.heap.size → (R j).ownBlock ≠ some i → w4.heap[i]? = wr.heap[i]? := fun i hi hne => by
    rw [hg.block i (Nat.lt_of_lt_of_le hi hW.size) (fun he => hne he.symm), hW.block i hi]
  refine ⟨?_, hblk b h.b_lt (h.block_b hj), ?_, h.ot.keep (hblk og h.ot.lt (h.block_og hj)), h.it.keep (hblk ig h.it.lt (h.block_ig hj)), h.rows.append hj (fun i hi => hW.block i hi) hW.size hg ho hat⟩
  · exact (h.bel.trans (hW.mono h.bel.size)).grown hg (Nat.le_trans h.bel.size hW.size) fun k hk => ((h.rows.own j hj).lt k hk).1
  · refine owns_keep h.ed fun g hge => ?_
    refine hblk g (h.ed.lt g hge).2 fun he => ?_
    obtain ⟨c1, h1⟩ := owns_block h.ed hge
    obtain ⟨c2, h2⟩ := owns_block (h.rows.own j hj) he
    rw [h1] at h2
    cases h2

theorem ORel.stepOut {w wr W w4 : World} {b og ig V : Nat} {es : List (Nat × Nat)} {ev : Value} {R : Nat → Value} {k x y : Nat} (h : ORel w wr b og ig V es ev R k k) (hxy : Pl.at' es k = (x, y)) (hx : x < V) {v' : Value}
    (hW : Below wr.heap.size wr W) (hg : W.grownBy w4 (R x).ownBlock) (ho : w4.ownsRow w.heap.size 3 1 v' ((half V es k k x).length + 1) (zcells (toIs (half V es k k x ++ [k])))) (hat : v'.ownBlock = (R x).ownBlock ∨ v'.ownBlock = some W.heap.size) :
    ORel w (w4.setCell ⟨og, x, none⟩ v') b og ig V es ev (upd R x v') (k + 1) k := by
  obtain ⟨h1, h2, h3, h4, h5, h6⟩ := h.grown (j := x) (by omega) hW hg ho hat
  rw [half_out hxy hx] at h6
  refine ⟨h1.setCell (p := ⟨og, x, none⟩) h.olo _, h.blo, h.olo, h.ilo, ?_, ?_, h4.set x v', ?_, h.ne, ?_⟩
  · rw [heap_set_other _ _ _ h.b_og.1, h2]
    exact h.vb
  · exact owns_keep h3 fun g hge => heap_set_other _ _ _ (fun e => h4.ne h3 (by decide) (by rw [hge]; exact congrArg some e))
  · have hf : (fun t => upd R x v' (V + t)) = fun t => R (V + t) := by
      funext t
      exact upd_other _ _ (by omega)
    rw [hf]
    exact h5.keep (heap_set_other _ _ _ (Ne.symm h.ne))
  · exact h6.keep fun j g hj hgj => heap_set_other _ _ _ (fun e => h4.ne (h6.own j hj) (by decide) (by rw [hgj]; exact congrArg some e))

theorem ORel.stepIn {w wr W w4 : World} {b og ig V : Nat} {es : List (Nat × Nat)} {ev : Value} {R : Nat → Value} {k x y : Nat} (h : ORel w wr b og ig V es ev R (k + 1) k) (hxy : Pl.at' es k = (x, y)) (hy : y < V) {v' : Value}
    (hW : Below wr.heap.size wr W) (hg : W.grownBy w4 (R (V + y)).ownBlock) (ho : w4.ownsRow w.heap.size 3 1 v' ((half V es (k + 1) k (V + y)).length + 1) (zcells (toIs (half V es (k + 1) k (V + y) ++ [k])))) (hat : v'.ownBlock = (R (V + y)).ownBlock ∨ v'.ownBlock = some W.heap.size) :
    ORel w (w4.setCell ⟨ig, y, none⟩ v') b og ig V es ev (upd R (V + y) v') (k + 1) (k + 1) := by
  obtain ⟨h1, h2, h3, h4, h5, h6⟩ := h.grown (j := V + y) (by omega) hW hg ho hat
  rw [half_in hxy hy] at h6
  refine ⟨h1.setCell (p := ⟨ig, y, none⟩) h.ilo _, h.blo, h.olo, h.ilo, ?_, ?_, ?_, ?_, h.ne, ?_⟩
  · rw [heap_set_other _ _ _ h.b_og.2, h2]
    exact h.vb
  · exact owns_keep h3 fun g hge => heap_set_other _ _ _ (fun e => h5.ne h3 (by decide) (by rw [hge]; exact congrArg some e))
  · have h7 : Tab (w4.setCell ⟨ig, y, none⟩ v') og V R := h4.keep (heap_set_other _ _ _ h.ne)
    obtain ⟨arr, a1, a2, a3⟩ := h7
    exact ⟨arr, a1, a2, fun t ht => by rw [a3 t ht, upd_other _ _ (by omega)]⟩
  · obtain ⟨arr, a1, a2, a3⟩ := h5.set y v'
    refine ⟨arr, a1, a2, fun t ht => ?_⟩
    rw [a3 t ht]
    show _ = some (upd R (V + y) v' (V + t))
    by_cases hty : t = y
    · subst hty
      rw [upd_same, upd_same]
    · rw [upd_other _ _ hty, upd_other _ _ (by omega)]
  · exact h6.keep fun j g hj hgj => heap_set_other _ _ _ (fun e => h5.ne (h6.own j hj) (by decide) (by rw [hgj]; exact congrArg some e))

/-- a block more, or a draw: nothing has turned -/
theorem ORel.more {w wr W : World} {b og ig V : Nat} {es : List (Nat × Nat)} {ev : Value} {R : Nat → Value} {ko ki : Nat} (h : ORel w wr b og ig V es ev R ko ki) (hW : Below wr.heap.size wr W) : ORel w W b og ig V es ev R ko ki :=
  ⟨h.bel.trans (hW.mono h.bel.size), h.blo, h.olo, h.ilo, by rw [hW.block b h.b_lt]; exact h.vb, owns_keep h.ed fun g hg => hW.block g (h.ed.lt g hg).2, h.ot.keep (hW.block og h.ot.lt), h.it.keep (hW.block ig h.it.lt), h.ne,
    h.rows.keep fun j g hj hg => hW.block g ((h.rows.own j hj).lt g hg).2⟩

theorem ORel.cells {w wr : World} {b og ig V : Nat} {es : List (Nat × Nat)} {ev : Value} {R : Nat → Value} {ko ki : Nat} (h : ORel w wr b og ig V es ev R ko ki) :
    wr.cell? ⟨b, 0, none⟩ = some (.int .i64 V) ∧ wr.cell? ⟨b, 1, none⟩ = some ev ∧ wr.cell? ⟨b, 2, none⟩ = some (.slice (some ⟨og, 0, none⟩) V V) ∧ wr.cell? ⟨b, 3, none⟩ = some (.slice (some ⟨ig, 0, none⟩) V V) ∧ wr.cell? ⟨b, 4, none⟩ = some (.slice none 0 0) ∧ wr.frozen? ⟨b, 4, none⟩ = false := by
  have h1 := h.vb
  simp [World.cell?, World.frozen?, h1]
end Go.Proofs.YtefagplbpbkpgaaDoor

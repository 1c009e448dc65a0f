/-
  Plain mathematics of rows: bunches, what stands while vertices are placed, who is ready. No conditions beyond each theorem's own.
-/
import Derived.Test.YtdkchihomllokaaFro
import Derived.Test.YtdkchihomllokaaAb9
namespace Go.Proofs.Ytdkchihomllokaa
open Go.RowKit
set_option linter.unusedVariables false
set_option maxRecDepth 20000

def i0t : It := (0, 0, 0)
/-- at a place of a row stands an edge; to which vertex -/
def isE (row : List It) (j : Nat) : Bool := (row.getD j (0, 0, 0)).1 != -1
def hdE (row : List It) (j : Nat) : Int := (row.getD j (0, 0, 0)).2.2
theorem isE_iff {row : List It} {j : Nat} : isE row j = true ↔ (row.getD j (0, 0, 0)).1 ≠ -1 := by simp [isE]
/-- how many edges stand from lo to hi -/
def cntR (row : List It) (k lo hi : Nat) : Nat := ((List.range k).filter fun j => decide (lo ≤ j) && decide (j < hi) && isE row j).length

/-- a bunch of the first k items -/
structure B1 (row : List It) (k : Nat) (b : Bn) : Prop where
  lt : b.lo < b.hi
  le : b.hi ≤ k
  e1 : isE row b.lo = true
  h1 : hdE row b.lo = b.head
  e2 : isE row (b.hi - 1) = true
  h2 : hdE row (b.hi - 1) = b.head
  mid : ∀ j, b.lo ≤ j → j < b.hi → isE row j = true → hdE row j = b.head
  cnt : b.count = cntR row k b.lo b.hi
/-- bunches of the first k items -/
structure BO (row : List It) (k : Nat) (bs : List Bn) : Prop where
  one : ∀ i, i < bs.length → B1 row k (bs.getD i b0)
  all : ∀ j, j < k → isE row j = true → ∃ i, i < bs.length ∧ (bs.getD i b0).lo ≤ j ∧ j < (bs.getD i b0).hi
  ord : ∀ i i', i < i' → i' < bs.length → (bs.getD i b0).hi ≤ (bs.getD i' b0).lo
  dif : ∀ i, i + 1 < bs.length → (bs.getD i b0).head ≠ (bs.getD (i + 1) b0).head

theorem cntR_succ (row : List It) (k lo hi : Nat) : cntR row (k + 1) lo hi = cntR row k lo hi + if lo ≤ k ∧ k < hi ∧ isE row k = true then 1 else 0 := by
  unfold cntR
  rw [List.range_succ, List.filter_append, List.length_append]
  congr 1
  by_cases h : lo ≤ k ∧ k < hi ∧ isE row k = true
  · rw [if_pos h]; simp [h.1, h.2.1, h.2.2]
  · rw [if_neg h]
    by_cases h1 : lo ≤ k
    · by_cases h2 : k < hi
      · have h3 : isE row k = false := by cases hh : isE row k with | false => rfl | true => exact absurd ⟨h1, h2, hh⟩ h
        simp [h3]
      · simp [h2]
    · simp [h1]
theorem cntR_hi (row : List It) (k lo hi : Nat) (hk : k ≤ hi) : cntR row k lo hi = cntR row k lo k := by
  unfold cntR
  congr 1
  apply List.filter_congr
  intro j hj
  have := List.mem_range.1 hj
  simp [this, show j < hi by omega]
theorem getD_app {l m : List Bn} {i : Nat} (h : i < l.length) : (l ++ m).getD i b0 = l.getD i b0 := by
  simp [List.getD_eq_getElem?_getD, List.getElem?_append_left h]
theorem getD_last {l : List Bn} {b : Bn} : (l ++ [b]).getD l.length b0 = b := by
  simp [List.getD_eq_getElem?_getD]

theorem B1.up {row : List It} {k : Nat} {b : Bn} (h : B1 row k b) : B1 row (k + 1) b :=
  ⟨h.lt, by have := h.le; omega, h.e1, h.h1, h.e2, h.h2, h.mid, by rw [cntR_succ, if_neg (by have := h.le; omega), h.cnt, Nat.add_zero]⟩
theorem BO.zero (row : List It) : BO row 0 [] := ⟨fun i hi => by simp at hi, fun j hj => by omega, fun i i' h hi => by simp at hi, fun i hi => by simp at hi⟩
theorem BO.step {row : List It} {k : Nat} {bs : List Bn} (h : BO row k bs) : BO row (k + 1) (bnStep bs k (row.getD k (0, 0, 0))) := by
  unfold bnStep
  by_cases he : (row.getD k (0, 0, 0)).1 = -1
  · rw [if_pos he]
    refine ⟨fun i hi => (h.one i hi).up, fun j hj hE => ?_, h.ord, h.dif⟩
    rcases Nat.lt_or_ge j k with hjk | hjk
    · exact h.all j hjk hE
    · obtain rfl : j = k := by omega
      exact absurd he (isE_iff.1 hE)
  rw [if_neg he]
  have hEk : isE row k = true := isE_iff.2 he
  have new : (bs.length = 0 ∨ (bs.getD (bs.length - 1) b0).head ≠ (row.getD k (0, 0, 0)).2.2) → BO row (k + 1) (bs ++ [⟨(row.getD k (0, 0, 0)).2.2, 1, k, k + 1⟩]) := by
    intro hl
    refine ⟨fun i hi => ?_, fun j hj hE => ?_, fun i i' hii hi => ?_, fun i hi => ?_⟩
    · rw [List.length_append, List.length_singleton] at hi
      rcases Nat.lt_or_ge i bs.length with h1 | h1
      · rw [getD_app h1]; exact (h.one i h1).up
      · obtain rfl : i = bs.length := by omega
        rw [getD_last]
        refine ⟨by show k < k + 1; omega, Nat.le_refl _, hEk, rfl, ?_, ?_, fun j h1 h2 _ => ?_, ?_⟩
        · show isE row (k + 1 - 1) = true; rw [Nat.add_sub_cancel]; exact hEk
        · show hdE row (k + 1 - 1) = _; rw [Nat.add_sub_cancel]; rfl
        · have h1' : k ≤ j := h1
          have h2' : j < k + 1 := h2
          obtain rfl : j = k := by omega
          rfl
        · show 1 = cntR row (k + 1) k (k + 1)
          rw [cntR_succ, if_pos ⟨Nat.le_refl _, Nat.lt_succ_self _, hEk⟩]
          have : cntR row k k (k + 1) = 0 := by
            unfold cntR
            rw [List.length_eq_zero_iff, List.filter_eq_nil_iff]
            intro j hj
            have := List.mem_range.1 hj
            simp [show ¬ k ≤ j by omega]
          omega
    · rcases Nat.lt_or_ge j k with hjk | hjk
      · obtain ⟨i, h1, h2, h3⟩ := h.all j hjk hE
        exact ⟨i, by simp; omega, by rw [getD_app h1]; exact h2, by rw [getD_app h1]; exact h3⟩
      · obtain rfl : j = k := by omega
        exact ⟨bs.length, by simp, by rw [getD_last]; exact Nat.le_refl _, by rw [getD_last]; exact Nat.lt_succ_self _⟩
    · rw [List.length_append, List.length_singleton] at hi
      rw [getD_app (show i < bs.length by omega)]
      rcases Nat.lt_or_ge i' bs.length with h1 | h1
      · rw [getD_app h1]; exact h.ord i i' hii h1
      · obtain rfl : i' = bs.length := by omega
        rw [getD_last]
        exact (h.one i (by omega)).le
    · rw [List.length_append, List.length_singleton] at hi
      rw [getD_app (show i < bs.length by omega)]
      rcases Nat.lt_or_ge (i + 1) bs.length with h1 | h1
      · rw [getD_app h1]; exact h.dif i h1
      · have hi1 : i + 1 = bs.length := by omega
        rw [hi1, getD_last]
        rcases hl with hl | hl
        · omega
        · rw [show bs.length - 1 = i by omega] at hl; exact hl
  rcases List.eq_nil_or_concat bs with rfl | ⟨pre, b, rfl⟩
  · exact new (.inl rfl)
  · rw [List.concat_eq_append] at h new ⊢
    rw [List.getLast?_concat]
    show BO row (k + 1) (if b.head = _ then _ else _)
    by_cases hh : b.head = (row.getD k (0, 0, 0)).2.2
    · rw [if_pos hh, List.dropLast_concat]
      have hlen : (pre ++ [b]).length = pre.length + 1 := by simp
      have hb1 := h.one pre.length (by omega)
      rw [getD_last] at hb1
      have hgap : ∀ j, b.hi ≤ j → j < k → isE row j = false := by
        intro j h1 h2
        cases hE : isE row j with
        | false => rfl
        | true =>
          obtain ⟨i, i1, i2, i3⟩ := h.all j h2 hE
          rcases Nat.lt_or_ge i pre.length with h3 | h3
          · have := h.ord i pre.length h3 (by omega)
            rw [getD_last] at this
            have := hb1.lt
            omega
          · obtain rfl : i = pre.length := by omega
            rw [getD_last] at i3
            omega
      refine ⟨fun i hi => ?_, fun j hj hE => ?_, fun i i' hii hi => ?_, fun i hi => ?_⟩
      · rw [List.length_append, List.length_singleton] at hi
        rcases Nat.lt_or_ge i pre.length with h1 | h1
        · rw [getD_app h1]
          have := (h.one i (by omega)).up
          rw [getD_app h1] at this
          exact this
        · obtain rfl : i = pre.length := by omega
          rw [getD_last]
          have hle := hb1.le
          have hlt := hb1.lt
          refine ⟨by show b.lo < k + 1; omega, Nat.le_refl _, hb1.e1, hb1.h1, ?_, ?_, fun j h1 h2 hE => ?_, ?_⟩
          · show isE row (k + 1 - 1) = true; rw [Nat.add_sub_cancel]; exact hEk
          · show hdE row (k + 1 - 1) = _; rw [Nat.add_sub_cancel]; exact hh.symm
          · have h1' : b.lo ≤ j := h1
            have h2' : j < k + 1 := h2
            rcases Nat.lt_or_ge j b.hi with h3 | h3
            · exact hb1.mid j h1' h3 hE
            · rcases Nat.lt_or_ge j k with h4 | h4
              · rw [hgap j h3 h4] at hE; cases hE
              · obtain rfl : j = k := by omega
                exact hh.symm
          · show b.count + 1 = cntR row (k + 1) b.lo (k + 1)
            rw [cntR_succ, if_pos ⟨by omega, Nat.lt_succ_self _, hEk⟩, hb1.cnt]
            congr 1
            unfold cntR
            congr 1
            apply List.filter_congr
            intro j hj
            have hjk := List.mem_range.1 hj
            by_cases h3 : j < b.hi
            · simp [h3, show j < k + 1 by omega]
            · rw [hgap j (by omega) hjk]; simp
      · rcases Nat.lt_or_ge j k with hjk | hjk
        · obtain ⟨i, h1, h2, h3⟩ := h.all j hjk hE
          rcases Nat.lt_or_ge i pre.length with h4 | h4
          · rw [getD_app h4] at h2 h3
            exact ⟨i, by simp; omega, by rw [getD_app h4]; exact h2, by rw [getD_app h4]; exact h3⟩
          · obtain rfl : i = pre.length := by omega
            rw [getD_last] at h2 h3
            exact ⟨pre.length, by simp, by rw [getD_last]; exact h2, by rw [getD_last]; show j < k + 1; omega⟩
        · obtain rfl : j = k := by omega
          have := hb1.le
          have := hb1.lt
          exact ⟨pre.length, by simp, by rw [getD_last]; show b.lo ≤ j; omega, by rw [getD_last]; show j < j + 1; omega⟩
      · rw [List.length_append, List.length_singleton] at hi
        rw [getD_app (show i < pre.length by omega)]
        rcases Nat.lt_or_ge i' pre.length with h1 | h1
        · rw [getD_app h1]
          have := h.ord i i' hii (by omega)
          rw [getD_app (show i < pre.length by omega), getD_app h1] at this
          exact this
        · obtain rfl : i' = pre.length := by omega
          have := h.ord i pre.length hii (by omega)
          rw [getD_app (show i < pre.length by omega), getD_last] at this
          rw [getD_last]
          exact this
      · rw [List.length_append, List.length_singleton] at hi
        rw [getD_app (show i < pre.length by omega)]
        have := h.dif i (by omega)
        rw [getD_app (show i < pre.length by omega)] at this
        rcases Nat.lt_or_ge (i + 1) pre.length with h1 | h1
        · rw [getD_app h1] at this ⊢; exact this
        · have hi1 : i + 1 = pre.length := by omega
          rw [hi1, getD_last] at this ⊢
          exact this
    · rw [if_neg hh]
      exact new (.inr (by rw [show (pre ++ [b]).length - 1 = pre.length by simp, getD_last]; exact hh))
theorem BO.of (row : List It) : ∀ k, BO row k (bnK row k)
  | 0 => BO.zero row
  | k + 1 => (BO.of row k).step
end Go.Proofs.Ytdkchihomllokaa

namespace Go.Proofs.Ytdkchihomllokaa
open Go.RowKit
set_option linter.unusedVariables false
set_option maxRecDepth 20000

def isEt (t : It) : Bool := t.1 != -1
/-- an edge to y -/
def pE (y : Nat) (t : It) : Bool := t.1 != -1 && t.2.2 == (y : Int)
theorem pE_iff {y : Nat} {t : It} : pE y t = true ↔ t.1 ≠ -1 ∧ t.2.2 = (y : Int) := by simp [pE]
/-- all edges to y stand together: what is left of them, they, what is right of them -/
structure Rdy (V : Nat) (es : List (Nat × Nat)) (row : List It) (y : Nat) (A Y C : List It) : Prop where
  eq : row = A ++ (Y ++ C)
  outA : ∀ t ∈ A, pE y t = false
  outC : ∀ t ∈ C, pE y t = false
  mid : ∀ t ∈ Y, t.1 = -1 ∨ t.2.2 = (y : Int)
  fst : ∃ t Y', Y = t :: Y' ∧ pE y t = true
  lst : ∃ t Y', Y = Y' ++ [t] ∧ pE y t = true
  cnt : Y.countP (pE y) = (Pl.ins es y).length
  lt : y < V

theorem nodup_sub {α : Type} [DecidableEq α] : ∀ (l m : List α), l.Nodup → (∀ x ∈ l, x ∈ m) → l.length ≤ m.length
  | [], _, _, _ => by simp
  | x :: l, m, hn, hs => by
    have hx := hs x (by simp)
    rw [List.nodup_cons] at hn
    have := nodup_sub l (m.erase x) hn.2 fun z hz => by
      have hne : z ≠ x := fun e => hn.1 (e ▸ hz)
      exact (List.mem_erase_of_ne hne).2 (hs z (by simp [hz]))
    rw [List.length_erase_of_mem hx] at this
    have := List.length_pos_of_mem hx
    simp
    omega
theorem nodup_full {α : Type} [DecidableEq α] {l m : List α} (hn : l.Nodup) (hs : ∀ x ∈ l, x ∈ m) (hl : m.length ≤ l.length) : ∀ x ∈ m, x ∈ l := by
  intro x hx
  by_cases h : x ∈ l
  · exact h
  · have := nodup_sub l (m.erase x) hn fun z hz => by
      have hne : z ≠ x := fun e => h (e ▸ hz)
      exact (List.mem_erase_of_ne hne).2 (hs z hz)
    rw [List.length_erase_of_mem hx] at this
    have := List.length_pos_of_mem hx
    omega
theorem sel_nodup (es : List (Nat × Nat)) (p : Nat × Nat → Bool) (k : Nat) : (Pl.sel es p k).Nodup := List.filter_sublist.nodup List.nodup_range
theorem mem_ins {es : List (Nat × Nat)} {y i : Nat} : i ∈ Pl.ins es y ↔ i < es.length ∧ (Pl.at' es i).2 = y := by
  unfold Pl.ins; rw [Pl.mem_sel]; simp
theorem mem_outs {es : List (Nat × Nat)} {y i : Nat} : i ∈ Pl.outs es y ↔ i < es.length ∧ (Pl.at' es i).1 = y := by
  unfold Pl.outs; rw [Pl.mem_sel]; simp

/-- what stands while vertices are placed -/
structure Inv (V : Nat) (es : List (Nat × Nat)) (src : Nat) (row : List It) (pl : List Nat) : Prop where
  nd : pl.Nodup
  lt : ∀ x ∈ pl, x < V
  item : ∀ t ∈ row, (t.1 = -1 ∧ t.2.2 = -1) ∨ ∃ i, i < es.length ∧ t = itemAt es (Pl.at' es i).1 i ∧ (Pl.at' es i).1 ∈ pl ∧ (Pl.at' es i).2 ∉ pl
  once : ((row.filter isEt).map fun t => t.1).Nodup
  all : ∀ i, i < es.length → (Pl.at' es i).1 ∈ pl → (Pl.at' es i).2 ∉ pl → itemAt es (Pl.at' es i).1 i ∈ row
  closed : ∀ i, i < es.length → (Pl.at' es i).2 ∈ pl → (Pl.at' es i).1 ∈ pl
  loose : row.countP (fun t => !isEt t) ≤ pl.length
  e0 : pl = [] → row = []
  e1 : pl ≠ [] → row ≠ [] ∧ src ∈ pl

theorem Inv.start (V : Nat) (es : List (Nat × Nat)) (src : Nat) : Inv V es src [] [] :=
  ⟨List.nodup_nil, by simp, by simp, by simp, by simp, by simp, by simp, fun _ => rfl, fun h => absurd rfl h⟩
theorem item_e (es : List (Nat × Nat)) (x i : Nat) : isEt (itemAt es x i) = true := by
  unfold isEt itemAt; first | (simp; done) | (simp; omega)
theorem Inv.rowOk {V : Nat} {es : List (Nat × Nat)} {src : Nat} {row : List It} {pl : List Nat} (h : Inv V es src row pl) (hp : Plain V es) : RowOk V row := by
  intro t ht hne
  rcases h.item t ht with h1 | ⟨i, hi, rfl, _⟩
  · exact absurd h1.1 hne
  · have := (hp.at hi).2
    unfold itemAt
    simp
    omega
theorem Inv.plen {V : Nat} {es : List (Nat × Nat)} {src : Nat} {row : List It} {pl : List Nat} (h : Inv V es src row pl) : pl.length ≤ V := Pl.nodup_le V pl h.nd h.lt
theorem count_split (l : List It) : l.length = (l.filter isEt).length + l.countP fun t => !isEt t := by
  rw [← List.countP_eq_length_filter]
  induction l with
  | nil => rfl
  | cons t l ih =>
    rw [List.countP_cons, List.countP_cons, List.length_cons, ih]
    cases isEt t <;> simp <;> omega
/-- the numbers of the edges that stand in a row -/
def idsE (l : List It) : List Int := (l.filter isEt).map fun t => t.1
theorem Inv.ids {V : Nat} {es : List (Nat × Nat)} {src : Nat} {row : List It} {pl : List Nat} (h : Inv V es src row pl) : ∀ z ∈ idsE row, z ∈ toIs (List.range es.length) := by
  intro z hz
  obtain ⟨t, ht, rfl⟩ := List.mem_map.1 hz
  obtain ⟨ht, he⟩ := List.mem_filter.1 ht
  rcases h.item t ht with h1 | ⟨i, hi, rfl, _⟩
  · unfold isEt at he; simp [h1.1] at he
  · unfold itemAt toIs
    exact List.mem_map.2 ⟨i, List.mem_range.2 hi, rfl⟩
theorem Inv.rlen {V : Nat} {es : List (Nat × Nat)} {src : Nat} {row : List It} {pl : List Nat} (h : Inv V es src row pl) : row.length ≤ es.length + pl.length := by
  have h1 := nodup_sub _ _ h.once h.ids
  rw [List.length_map, toIs_length, List.length_range] at h1
  rw [count_split row]
  have := h.loose
  omega

/-- in a row there aren't more edges to y than there are -/
theorem Inv.few {V : Nat} {es : List (Nat × Nat)} {src : Nat} {row : List It} {pl : List Nat} (h : Inv V es src row pl) (y : Nat) :
    ((row.filter (pE y)).map fun t => t.1).Nodup ∧ ∀ z ∈ (row.filter (pE y)).map fun t => t.1, z ∈ toIs (Pl.ins es y) := by
  have hsub : row.filter (pE y) = (row.filter isEt).filter (pE y) := by
    rw [List.filter_filter]
    apply List.filter_congr
    intro t _
    cases hh : pE y t with
    | false => simp
    | true => simp [isEt, (pE_iff.1 hh).1]
  constructor
  · rw [hsub]
    exact (List.Sublist.map _ List.filter_sublist).nodup h.once
  · intro z hz
    obtain ⟨t, ht, rfl⟩ := List.mem_map.1 hz
    obtain ⟨ht, he⟩ := List.mem_filter.1 ht
    obtain ⟨e1, e2⟩ := pE_iff.1 he
    rcases h.item t ht with h1 | ⟨i, hi, rfl, _⟩
    · exact absurd h1.1 e1
    · refine List.mem_map.2 ⟨i, mem_ins.2 ⟨hi, ?_⟩, rfl⟩
      unfold itemAt at e2
      simp at e2
      omega
theorem Inv.cap {V : Nat} {es : List (Nat × Nat)} {src : Nat} {row : List It} {pl : List Nat} (h : Inv V es src row pl) (y : Nat) : row.countP (pE y) ≤ (Pl.ins es y).length := by
  have := nodup_sub _ _ (h.few y).1 (h.few y).2
  rw [List.length_map, toIs_length, ← List.countP_eq_length_filter] at this
  exact this
theorem cnt0 {l : List It} {y : Nat} (h : ∀ t ∈ l, pE y t = false) : l.countP (pE y) = 0 := List.countP_eq_zero.2 fun t ht => by simp [h t ht]
/-- of a vertex that is ready all edges to it come from what is placed -/
theorem Inv.tails {V : Nat} {es : List (Nat × Nat)} {src : Nat} {row : List It} {pl : List Nat} (h : Inv V es src row pl) {y : Nat} {A Y C : List It} (hr : Rdy V es row y A Y C) : (∀ i, i < es.length → (Pl.at' es i).2 = y → (Pl.at' es i).1 ∈ pl ∧ itemAt es (Pl.at' es i).1 i ∈ Y) ∧ y ∉ pl := by
  have hcount : (row.filter (pE y)).length = (Pl.ins es y).length := by
    rw [← List.countP_eq_length_filter, hr.eq, List.countP_append, List.countP_append, cnt0 hr.outA, cnt0 hr.outC, hr.cnt]
    omega
  have hfull := nodup_full (h.few y).1 (h.few y).2 (by rw [List.length_map, toIs_length, hcount]; exact Nat.le_refl _)
  have main : ∀ i, i < es.length → (Pl.at' es i).2 = y → ∃ t ∈ row, pE y t = true ∧ t.1 = (i : Int) := by
    intro i hi hy
    obtain ⟨t, ht, he⟩ := List.mem_map.1 (hfull (i : Int) (List.mem_map.2 ⟨i, mem_ins.2 ⟨hi, hy⟩, rfl⟩))
    obtain ⟨ht1, ht2⟩ := List.mem_filter.1 ht
    exact ⟨t, ht1, ht2, he⟩
  have key : ∀ t ∈ row, pE y t = true → ∃ i, i < es.length ∧ t = itemAt es (Pl.at' es i).1 i ∧ (Pl.at' es i).1 ∈ pl ∧ (Pl.at' es i).2 ∉ pl ∧ (Pl.at' es i).2 = y := by
    intro t ht he
    obtain ⟨e1, e2⟩ := pE_iff.1 he
    rcases h.item t ht with h1 | ⟨i, hi, rfl, h2, h3⟩
    · exact absurd h1.1 e1
    · refine ⟨i, hi, rfl, h2, h3, ?_⟩
      unfold itemAt at e2
      simp at e2
      omega
  constructor
  · intro i hi hy
    obtain ⟨t, ht, he, hti⟩ := main i hi hy
    obtain ⟨i', hi', rfl, h2, h3, h4⟩ := key t ht he
    have : i' = i := by unfold itemAt at hti; simp at hti; omega
    subst this
    refine ⟨h2, ?_⟩
    rw [hr.eq] at ht
    rcases List.mem_append.1 ht with ht | ht
    · rw [hr.outA _ ht] at he; cases he
    rcases List.mem_append.1 ht with ht | ht
    · exact ht
    · rw [hr.outC _ ht] at he; cases he
  · obtain ⟨t, Y', rfl, he⟩ := hr.fst
    obtain ⟨i, _, _, _, h3, h4⟩ := key t (by rw [hr.eq]; simp) he
    rw [← h4]
    exact h3

theorem above_ids (es : List (Nat × Nat)) (y : Nat) (o : List Nat) : idsE (aboveF es y o) = toIs o := by
  unfold aboveF idsE
  split
  · rename_i h
    have : o = [] := List.length_eq_zero_iff.1 h
    subst this
    simp [isEt, toIs]
  · rw [List.filter_eq_self.2 (fun t ht => by obtain ⟨i, _, rfl⟩ := List.mem_map.1 ht; exact item_e es y i), List.map_map]
    unfold toIs
    rfl
theorem above_loose (es : List (Nat × Nat)) (y : Nat) (o : List Nat) : (aboveF es y o).countP (fun t => !isEt t) ≤ 1 := by
  unfold aboveF
  split
  · simp [isEt]
  · rw [List.countP_eq_zero.2 (fun t ht => by obtain ⟨i, _, rfl⟩ := List.mem_map.1 ht; simp [item_e es y i])]
    omega
theorem above_ne (es : List (Nat × Nat)) (y : Nat) (o : List Nat) : aboveF es y o ≠ [] := by
  unfold aboveF
  split
  · simp
  · rename_i h; intro e; exact h (by simpa using e)
theorem above_len (es : List (Nat × Nat)) (y : Nat) (o : List Nat) : (aboveF es y o).length ≤ o.length + 1 := by
  unfold aboveF; split <;> simp
theorem idsE_append (l m : List It) : idsE (l ++ m) = idsE l ++ idsE m := by unfold idsE; rw [List.filter_append, List.map_append]
theorem above_item {es : List (Nat × Nat)} {y : Nat} {o : List Nat} {t : It} (h : t ∈ aboveF es y o) : (t = (-1, (y : Int), -1) ∧ o = []) ∨ ∃ i ∈ o, t = itemAt es y i := by
  unfold aboveF at h
  split at h
  · rename_i hl
    exact .inl ⟨by simpa using h, List.length_eq_zero_iff.1 hl⟩
  · obtain ⟨i, hi, rfl⟩ := List.mem_map.1 h
    exact .inr ⟨i, hi, rfl⟩

/-- a vertex more is placed -/
theorem Inv.place {V : Nat} {es : List (Nat × Nat)} {src : Nat} {row : List It} {pl : List Nat} (h : Inv V es src row pl) (hp : Plain V es) (hpl : pl ≠ []) {y : Nat} {A Y C : List It} (hr : Rdy V es row y A Y C) {o : List Nat} (ho : o.Perm (Pl.outs es y)) : Inv V es src (A ++ (aboveF es y o ++ C)) (pl ++ [y]) := by
  obtain ⟨ht, hy⟩ := h.tails hr
  have mo : ∀ i, i ∈ o ↔ i < es.length ∧ (Pl.at' es i).1 = y := fun i => by rw [ho.mem_iff, mem_outs]
  have hsub : ∀ t, t ∈ A ∨ t ∈ C → t ∈ row := fun t h => by rw [hr.eq]; rcases h with h | h <;> simp [h]
  have hids : idsE row = idsE A ++ (idsE Y ++ idsE C) := by rw [hr.eq, idsE_append, idsE_append]
  have honce : (idsE A ++ (idsE Y ++ idsE C)).Nodup := by rw [← hids]; exact h.once
  have hold : ∀ z ∈ idsE A ++ idsE C, z ∉ toIs o := by
    intro z hz hzo
    obtain ⟨i, hi, rfl⟩ := List.mem_map.1 hzo
    have hir : ∃ t, (t ∈ A ∨ t ∈ C) ∧ isEt t = true ∧ t.1 = (i : Int) := by
      rcases List.mem_append.1 hz with hz | hz
      · obtain ⟨t, ht', he⟩ := List.mem_map.1 hz
        exact ⟨t, .inl (List.mem_filter.1 ht').1, (List.mem_filter.1 ht').2, he⟩
      · obtain ⟨t, ht', he⟩ := List.mem_map.1 hz
        exact ⟨t, .inr (List.mem_filter.1 ht').1, (List.mem_filter.1 ht').2, he⟩
    obtain ⟨t, htm, hte, hti⟩ := hir
    rcases h.item t (hsub t htm) with h1 | ⟨i', hi', rfl, h2, h3⟩
    · unfold isEt at hte; simp [h1.1] at hte
    · have : i' = i := by unfold itemAt at hti; simp at hti; omega
      subst this
      rw [((mo i').1 hi).2] at h2
      exact hy h2
  refine ⟨?_, ?_, ?_, ?_, ?_, ?_, ?_, fun e => by simp at e, fun _ => ⟨?_, List.mem_append_left _ (h.e1 hpl).2⟩⟩
  · exact Pl.nodup_snoc h.nd hy
  · intro x hx
    rcases List.mem_append.1 hx with hx | hx
    · exact h.lt x hx
    · rw [List.mem_singleton.1 hx]; exact hr.lt
  · intro t htm
    have old : (t ∈ A ∨ t ∈ C) → pE y t = false → (t.1 = -1 ∧ t.2.2 = -1) ∨ ∃ i, i < es.length ∧ t = itemAt es (Pl.at' es i).1 i ∧ (Pl.at' es i).1 ∈ pl ++ [y] ∧ (Pl.at' es i).2 ∉ pl ++ [y] := by
      intro hm hne
      rcases h.item t (hsub t hm) with h1 | ⟨i, hi, rfl, h2, h3⟩
      · exact .inl h1
      · refine .inr ⟨i, hi, rfl, List.mem_append_left _ h2, fun h4 => ?_⟩
        rcases List.mem_append.1 h4 with h4 | h4
        · exact h3 h4
        · have hq := List.mem_singleton.1 h4
          have : pE y (itemAt es (Pl.at' es i).1 i) = true := pE_iff.2 ⟨by have := item_e es (Pl.at' es i).1 i; unfold isEt at this; simpa using this, by unfold itemAt; simp [hq]⟩
          rw [this] at hne
          cases hne
    rcases List.mem_append.1 htm with htm | htm
    · exact old (.inl htm) (hr.outA t htm)
    rcases List.mem_append.1 htm with htm | htm
    · rcases above_item htm with ⟨rfl, _⟩ | ⟨i, hi, rfl⟩
      · exact .inl ⟨rfl, rfl⟩
      · obtain ⟨hil, hiy⟩ := (mo i).1 hi
        refine .inr ⟨i, hil, by rw [hiy], by rw [hiy]; simp, fun h4 => ?_⟩
        rcases List.mem_append.1 h4 with h4 | h4
        · have := h.closed i hil h4
          rw [hiy] at this
          exact hy this
        · have := (ht i hil (List.mem_singleton.1 h4)).1
          rw [hiy] at this
          exact hy this
    · exact old (.inr htm) (hr.outC t htm)
  · show (idsE (A ++ (aboveF es y o ++ C))).Nodup
    rw [idsE_append, idsE_append, above_ids]
    have hAC : (idsE A ++ idsE C).Nodup := by
      refine List.Sublist.nodup ?_ honce
      exact List.Sublist.append (List.Sublist.refl _) (List.sublist_append_right _ _)
    have hperm : (idsE A ++ (toIs o ++ idsE C)).Perm (toIs o ++ (idsE A ++ idsE C)) := by
      rw [← List.append_assoc, ← List.append_assoc]
      exact List.Perm.append_right _ List.perm_append_comm
    rw [hperm.nodup_iff, List.nodup_append]
    refine ⟨?_, hAC, fun a ha b hb e => ?_⟩
    · have : o.Nodup := ho.nodup_iff.2 (sel_nodup _ _ _)
      unfold toIs
      rw [List.nodup_iff_pairwise_ne, List.pairwise_map]
      exact (List.nodup_iff_pairwise_ne.1 this).imp fun h e => h (by omega)
    · subst e
      exact hold a hb ha
  · intro i hi h1 h2
    have h2' : (Pl.at' es i).2 ∉ pl := fun h => h2 (List.mem_append_left _ h)
    rcases List.mem_append.1 h1 with h1 | h1
    · have hm := h.all i hi h1 h2'
      rw [hr.eq] at hm
      rcases List.mem_append.1 hm with hm | hm
      · simp [hm]
      rcases List.mem_append.1 hm with hm | hm
      · exfalso
        rcases hr.mid _ hm with h5 | h5
        · have := item_e es (Pl.at' es i).1 i
          unfold isEt at this
          rw [h5] at this
          simp at this
        · apply h2
          unfold itemAt at h5
          simp at h5
          have h6 : (Pl.at' es i).2 = y := by omega
          rw [h6]
          simp
      · simp [hm]
    · have hq := List.mem_singleton.1 h1
      have hio : i ∈ o := (mo i).2 ⟨hi, hq⟩
      have : itemAt es (Pl.at' es i).1 i ∈ aboveF es y o := by
        unfold aboveF
        rw [if_neg (by have := List.length_pos_of_mem hio; omega), hq]
        exact List.mem_map.2 ⟨i, hio, rfl⟩
      simp [this]
  · intro i hi h1
    rcases List.mem_append.1 h1 with h1 | h1
    · exact List.mem_append_left _ (h.closed i hi h1)
    · exact List.mem_append_left _ (ht i hi (List.mem_singleton.1 h1)).1
  · have hl := h.loose
    rw [hr.eq, List.countP_append, List.countP_append] at hl
    rw [List.countP_append, List.countP_append, List.length_append]
    have := above_loose es y o
    simp
    omega
  · intro e
    have := above_ne es y o
    simp at e
    exact this e.2.1

/-- the source is placed -/
theorem Inv.first {V : Nat} {es : List (Nat × Nat)} {src : Nat} (hp : Plain V es) (hs : src < V) (hi0 : Pl.ins es src = []) {o : List Nat} (ho : o.Perm (Pl.outs es src)) : Inv V es src (aboveF es src o) [src] := by
  have mo : ∀ i, i ∈ o ↔ i < es.length ∧ (Pl.at' es i).1 = src := fun i => by rw [ho.mem_iff, mem_outs]
  have hni : ∀ i, i < es.length → (Pl.at' es i).2 ≠ src := fun i hi h => by
    have := mem_ins.2 ⟨hi, h⟩
    rw [hi0] at this
    simp at this
  refine ⟨by simp, by simp [hs], ?_, ?_, ?_, ?_, ?_, fun e => by simp at e, fun _ => ⟨above_ne es src o, by simp⟩⟩
  · intro t htm
    rcases above_item htm with ⟨rfl, _⟩ | ⟨i, hi, rfl⟩
    · exact .inl ⟨rfl, rfl⟩
    · obtain ⟨hil, hiy⟩ := (mo i).1 hi
      exact .inr ⟨i, hil, by rw [hiy], by simp [hiy], by simp [hni i hil]⟩
  · show (idsE (aboveF es src o)).Nodup
    rw [above_ids]
    have : o.Nodup := ho.nodup_iff.2 (sel_nodup _ _ _)
    unfold toIs
    rw [List.nodup_iff_pairwise_ne, List.pairwise_map]
    exact (List.nodup_iff_pairwise_ne.1 this).imp fun h e => h (by omega)
  · intro i hi h1 h2
    have hq : (Pl.at' es i).1 = src := by simpa using h1
    have hio : i ∈ o := (mo i).2 ⟨hi, hq⟩
    unfold aboveF
    rw [if_neg (by have := List.length_pos_of_mem hio; omega), hq]
    exact List.mem_map.2 ⟨i, hio, rfl⟩
  · intro i hi h1
    exact absurd (by simpa using h1) (hni i hi)
  · have := above_loose es src o
    simp
    omega
end Go.Proofs.Ytdkchihomllokaa

namespace Go.Proofs.Ytdkchihomllokaa
open Go.RowKit
set_option linter.unusedVariables false
set_option maxRecDepth 20000

theorem gd {row : List It} {j : Nat} (h : j < row.length) : row.getD j (0, 0, 0) = row[j] := by
  rw [List.getD_eq_getElem?_getD, List.getElem?_eq_getElem h]; rfl
theorem isE_at {row : List It} {j : Nat} : isE row j = isEt (row.getD j (0, 0, 0)) := rfl
theorem gd_mem {l : List It} {j : Nat} (h : j < l.length) : l.getD j (0, 0, 0) ∈ l := by rw [gd h]; exact List.getElem_mem _
theorem gd_left {A B : List It} {j : Nat} (h : j < A.length) : (A ++ B).getD j (0, 0, 0) = A.getD j (0, 0, 0) := by
  rw [List.getD_eq_getElem?_getD, List.getD_eq_getElem?_getD, List.getElem?_append_left h]
theorem gd_right {A B : List It} {j : Nat} (h : A.length ≤ j) : (A ++ B).getD j (0, 0, 0) = B.getD (j - A.length) (0, 0, 0) := by
  rw [List.getD_eq_getElem?_getD, List.getD_eq_getElem?_getD, List.getElem?_append_right h]
theorem cntR_seg (row : List It) : ∀ (d lo : Nat), lo + d ≤ row.length → cntR row (lo + d) lo (lo + d) = ((row.take (lo + d)).drop lo).countP isEt
  | 0, lo, h => by
    have h1 : cntR row lo lo lo = 0 := by
      unfold cntR
      rw [List.length_eq_zero_iff, List.filter_eq_nil_iff]
      intro j hj
      have := List.mem_range.1 hj
      simp [show ¬ lo ≤ j by omega]
    have h2 : (row.take lo).drop lo = [] := List.drop_eq_nil_of_le (by rw [List.length_take]; omega)
    rw [Nat.add_zero, h1, h2]
    rfl
  | d + 1, lo, h => by
    rw [← Nat.add_assoc, cntR_succ, cntR_hi row (lo + d) lo (lo + d + 1) (by omega), cntR_seg row d lo (by omega), List.take_add_one, List.getElem?_eq_getElem (show lo + d < row.length by omega),
      List.drop_append_of_le_length (by rw [List.length_take]; omega), List.countP_append]
    congr 1
    have : isE row (lo + d) = isEt row[lo + d] := by rw [isE_at, gd (by omega)]
    rw [this]
    simp only [Option.toList, List.countP_cons, List.countP_nil]
    cases isEt row[lo + d] <;> simp
theorem cntR_up (row : List It) (lo hi : Nat) : ∀ d, cntR row (hi + d) lo hi = cntR row hi lo hi
  | 0 => rfl
  | d + 1 => by rw [← Nat.add_assoc, cntR_succ, if_neg (by omega), Nat.add_zero, cntR_up row lo hi d]
theorem cntR_all (row : List It) {lo hi : Nat} (h1 : lo ≤ hi) (h2 : hi ≤ row.length) : cntR row row.length lo hi = ((row.take hi).drop lo).countP isEt := by
  have := cntR_up row lo hi (row.length - hi)
  rw [show hi + (row.length - hi) = row.length by omega] at this
  rw [this]
  have := cntR_seg row (hi - lo) lo (by omega)
  rw [show lo + (hi - lo) = hi by omega] at this
  exact this
theorem cut3 (row : List It) {lo hi : Nat} (h1 : lo ≤ hi) : row = row.take lo ++ ((row.take hi).drop lo ++ row.drop hi) := by
  have e1 : row.take lo = (row.take hi).take lo := by rw [List.take_take, Nat.min_eq_left h1]
  rw [← List.append_assoc, e1, List.take_append_drop, List.take_append_drop]
theorem seg_at {row : List It} {lo hi j : Nat} (h1 : lo ≤ j) (h2 : j < hi) (h3 : hi ≤ row.length) : ((row.take hi).drop lo).getD (j - lo) (0, 0, 0) = row.getD j (0, 0, 0) := by
  rw [List.getD_eq_getElem?_getD, List.getD_eq_getElem?_getD, List.getElem?_drop, show lo + (j - lo) = j by omega, List.getElem?_take_of_lt h2]
theorem mem_seg {row : List It} {lo hi : Nat} (h3 : hi ≤ row.length) {t : It} (h : t ∈ (row.take hi).drop lo) : ∃ j, lo ≤ j ∧ j < hi ∧ t = row.getD j (0, 0, 0) := by
  obtain ⟨i, hi', rfl⟩ := List.mem_iff_getElem.1 h
  rw [List.length_drop, List.length_take] at hi'
  refine ⟨lo + i, by omega, by omega, ?_⟩
  rw [gd (by omega)]
  simp
theorem pE_of {row : List It} {j y : Nat} (h1 : isE row j = true) (h2 : hdE row j = (y : Int)) : pE y (row.getD j (0, 0, 0)) = true := pE_iff.2 ⟨isE_iff.1 h1, h2⟩
theorem pE_isE {t : It} {y : Nat} (h : pE y t = true) : isEt t = true := by unfold isEt; simp [(pE_iff.1 h).1]

/-- a bunch that is whole -/
theorem Rdy.of_bunch {V : Nat} {es : List (Nat × Nat)} {src : Nat} {row : List It} {pl : List Nat} (h : Inv V es src row pl) {b : Bn} (hb : B1 row row.length b) {y : Nat} (hy : b.head = (y : Int)) (hV : y < V) (hc : (Pl.ins es y).length ≤ b.count) :
    Rdy V es row y (row.take b.lo) ((row.take b.hi).drop b.lo) (row.drop b.hi) := by
  have hlt := hb.lt
  have hle := hb.le
  have heq := cut3 row (lo := b.lo) (hi := b.hi) (by omega)
  have hmid : ∀ t ∈ (row.take b.hi).drop b.lo, t.1 = -1 ∨ t.2.2 = (y : Int) := by
    intro t ht
    obtain ⟨j, h1, h2, rfl⟩ := mem_seg hle ht
    by_cases he : (row.getD j (0, 0, 0)).1 = -1
    · exact .inl he
    · exact .inr ((hb.mid j h1 h2 (isE_iff.2 he)).trans hy)
  have hcy : ((row.take b.hi).drop b.lo).countP (pE y) = ((row.take b.hi).drop b.lo).countP isEt := by
    apply List.countP_congr
    intro t ht
    constructor
    · exact pE_isE
    · intro he
      rcases hmid t ht with h1 | h1
      · unfold isEt at he; simp [h1] at he
      · exact pE_iff.2 ⟨by unfold isEt at he; simpa using he, h1⟩
  have hcnt : ((row.take b.hi).drop b.lo).countP (pE y) = b.count := by rw [hcy, hb.cnt, cntR_all row (by omega) hle]
  have hcap := h.cap y
  have hsum : row.countP (pE y) = (row.take b.lo).countP (pE y) + (((row.take b.hi).drop b.lo).countP (pE y) + (row.drop b.hi).countP (pE y)) := by
    have := congrArg (List.countP (pE y)) heq
    rw [List.countP_append, List.countP_append] at this
    exact this
  have z1 : (row.take b.lo).countP (pE y) = 0 := by omega
  have z2 : (row.drop b.hi).countP (pE y) = 0 := by omega
  refine ⟨heq, fun t ht => ?_, fun t ht => ?_, hmid, ?_, ?_, by omega, hV⟩
  · have := List.countP_eq_zero.1 z1 t ht; simpa using this
  · have := List.countP_eq_zero.1 z2 t ht; simpa using this
  · have h0 : 0 < ((row.take b.hi).drop b.lo).length := by rw [List.length_drop, List.length_take]; omega
    obtain ⟨t, Y', hY⟩ := List.exists_cons_of_length_pos h0
    refine ⟨t, Y', hY, ?_⟩
    have : ((row.take b.hi).drop b.lo).getD (b.lo - b.lo) (0, 0, 0) = row.getD b.lo (0, 0, 0) := seg_at (Nat.le_refl _) hlt hle
    rw [Nat.sub_self, hY] at this
    have h2 : t = row.getD b.lo (0, 0, 0) := this
    rw [h2]
    exact pE_of hb.e1 (hb.h1.trans hy)
  · rcases List.eq_nil_or_concat ((row.take b.hi).drop b.lo) with hY | ⟨Y', t, hY⟩
    · have := congrArg List.length hY
      rw [List.length_drop, List.length_take] at this
      simp at this
      omega
    · rw [List.concat_eq_append] at hY
      refine ⟨t, Y', hY, ?_⟩
      have hl := congrArg List.length hY
      rw [List.length_drop, List.length_take, List.length_append, List.length_singleton] at hl
      have : ((row.take b.hi).drop b.lo).getD (b.hi - 1 - b.lo) (0, 0, 0) = row.getD (b.hi - 1) (0, 0, 0) := seg_at (by omega) (by omega) hle
      rw [hY, show b.hi - 1 - b.lo = Y'.length by omega, gd_right (Nat.le_refl _), Nat.sub_self] at this
      have h2 : t = row.getD (b.hi - 1) (0, 0, 0) := this
      rw [h2]
      exact pE_of hb.e2 (hb.h2.trans hy)

/-- the other way round: it is a bunch -/
theorem Rdy.bunch {V : Nat} {es : List (Nat × Nat)} {row : List It} {bs : List Bn} (h : BO row row.length bs) {y : Nat} {A Y C : List It} (hr : Rdy V es row y A Y C) :
    ∃ i, i < bs.length ∧ (bs.getD i b0).head = (y : Int) ∧ (bs.getD i b0).lo = A.length ∧ (bs.getD i b0).hi = A.length + Y.length ∧ (bs.getD i b0).count = (Pl.ins es y).length := by
  have hn : row.length = A.length + (Y.length + C.length) := by rw [hr.eq]; simp
  obtain ⟨tf, Yf, hYf, hpf⟩ := hr.fst
  obtain ⟨tl, Yl, hYl, hpl⟩ := hr.lst
  have hm : 1 ≤ Y.length := by rw [hYf]; simp
  have inA : ∀ j, j < A.length → row.getD j (0, 0, 0) ∈ A := fun j hj => by rw [hr.eq, gd_left hj]; exact gd_mem hj
  have inY : ∀ j, A.length ≤ j → j < A.length + Y.length → row.getD j (0, 0, 0) ∈ Y := fun j h1 h2 => by rw [hr.eq, gd_right h1, gd_left (by omega)]; exact gd_mem (by omega)
  have inC : ∀ j, A.length + Y.length ≤ j → j < row.length → row.getD j (0, 0, 0) ∈ C := fun j h1 h2 => by rw [hr.eq, gd_right (by omega), gd_right (by omega)]; exact gd_mem (by omega)
  have hfst : row.getD A.length (0, 0, 0) = tf := by rw [hr.eq, gd_right (Nat.le_refl _), Nat.sub_self, hYf]; rfl
  have hlst : row.getD (A.length + Y.length - 1) (0, 0, 0) = tl := by
    have hl : Y.length = Yl.length + 1 := by rw [hYl]; simp
    rw [hr.eq, gd_right (by omega), gd_left (by omega), hYl, gd_right (by rw [← hYl]; omega)]
    rw [← hYl, show A.length + Y.length - 1 - A.length - Yl.length = 0 by omega]
    rfl
  have eA : isE row A.length = true := by rw [isE_at, hfst]; exact pE_isE hpf
  have hA : hdE row A.length = (y : Int) := by unfold hdE; rw [hfst]; exact (pE_iff.1 hpf).2
  have eL : isE row (A.length + Y.length - 1) = true := by rw [isE_at, hlst]; exact pE_isE hpl
  have hL : hdE row (A.length + Y.length - 1) = (y : Int) := by unfold hdE; rw [hlst]; exact (pE_iff.1 hpl).2
  have inside : ∀ j, j < row.length → isE row j = true → hdE row j = (y : Int) → A.length ≤ j ∧ j < A.length + Y.length := by
    intro j h1 h2 h3
    have hp := pE_of h2 h3
    constructor
    · rcases Nat.lt_or_ge j A.length with h | h
      · rw [hr.outA _ (inA j h)] at hp; cases hp
      · exact h
    · rcases Nat.lt_or_ge j (A.length + Y.length) with h | h
      · exact h
      · rw [hr.outC _ (inC j h h1)] at hp; cases hp
  obtain ⟨i, i1, i2, i3⟩ := h.all A.length (by omega) eA
  have b1 := h.one i i1
  have hle := b1.le
  have hlt := b1.lt
  have hhead : (bs.getD i b0).head = (y : Int) := by rw [← b1.mid A.length i2 i3 eA, hA]
  have hlo : (bs.getD i b0).lo = A.length := by
    have := (inside (bs.getD i b0).lo (by omega) b1.e1 (b1.h1.trans hhead)).1
    omega
  have hhi1 : (bs.getD i b0).hi ≤ A.length + Y.length := by
    have := (inside ((bs.getD i b0).hi - 1) (by omega) b1.e2 (b1.h2.trans hhead)).2
    omega
  have hhi : (bs.getD i b0).hi = A.length + Y.length := by
    rcases Nat.lt_or_ge (bs.getD i b0).hi (A.length + Y.length) with hc | hc
    · exfalso
      obtain ⟨k, k1, k2, k3⟩ := h.all (A.length + Y.length - 1) (by omega) eL
      rcases Nat.lt_trichotomy k i with hki | hki | hki
      · have := h.ord k i hki i1; omega
      · subst hki; omega
      · have b2 := h.one (i + 1) (by omega)
        have hd := h.dif i (by omega)
        have ho := h.ord i (i + 1) (by omega) (by omega)
        have hb2 := b2.lt
        have hlo2 : (bs.getD (i + 1) b0).lo ≤ A.length + Y.length - 1 := by
          rcases Nat.lt_or_ge (i + 1) k with h5 | h5
          · have := h.ord (i + 1) k h5 k1; omega
          · obtain rfl : i + 1 = k := by omega
            exact k2
        apply hd
        rw [hhead, ← b2.h1]
        rcases hr.mid _ (inY (bs.getD (i + 1) b0).lo (by omega) (by omega)) with h6 | h6
        · exact absurd h6 (isE_iff.1 b2.e1)
        · exact h6.symm
    · omega
  refine ⟨i, i1, hhead, hlo, hhi, ?_⟩
  rw [b1.cnt, cntR_all row (by omega) hle, hlo, hhi]
  have hseg : (row.take (A.length + Y.length)).drop A.length = Y := by
    rw [hr.eq, ← List.append_assoc, List.take_append_of_le_length (by simp), List.take_of_length_le (by simp), List.drop_left]
  rw [hseg, ← hr.cnt]
  apply List.countP_congr
  intro t ht
  constructor
  · intro he
    rcases hr.mid t ht with h1 | h1
    · unfold isEt at he; simp [h1] at he
    · exact pE_iff.2 ⟨by unfold isEt at he; simpa using he, h1⟩
  · exact pE_isE

theorem Rdy.len_only {V : Nat} {es : List (Nat × Nat)} {row : List It} {y : Nat} {A Y C A' Y' C' : List It} (h : Rdy V es row y A Y C) (h' : Rdy V es row y A' Y' C') : A.length ≤ A'.length ∧ C.length ≤ C'.length := by
  constructor
  · rcases Nat.lt_or_ge A'.length A.length with hc | hc
    · obtain ⟨t, Z, hZ, hp⟩ := h'.fst
      have h1 : row.getD A'.length (0, 0, 0) = t := by rw [h'.eq, gd_right (Nat.le_refl _), Nat.sub_self, hZ]; rfl
      have h2 : row.getD A'.length (0, 0, 0) ∈ A := by rw [h.eq, gd_left hc]; exact gd_mem hc
      rw [h1] at h2
      rw [h.outA t h2] at hp
      cases hp
    · exact hc
  · rcases Nat.lt_or_ge C'.length C.length with hc | hc
    · obtain ⟨t, Z, hZ, hp⟩ := h'.lst
      have hn : A.length + (Y.length + C.length) = A'.length + (Y'.length + C'.length) := by
        have e1 := congrArg List.length h.eq
        have e2 := congrArg List.length h'.eq
        simp at e1 e2
        omega
      have hl : Y'.length = Z.length + 1 := by rw [hZ]; simp
      have h1 : row.getD (A'.length + Y'.length - 1) (0, 0, 0) = t := by
        rw [h'.eq, gd_right (by omega), gd_left (by omega), hZ, gd_right (by rw [← hZ]; omega)]
        rw [← hZ, show A'.length + Y'.length - 1 - A'.length - Z.length = 0 by omega]
        rfl
      have h2 : row.getD (A'.length + Y'.length - 1) (0, 0, 0) ∈ C := by rw [h.eq, gd_right (by omega), gd_right (by omega)]; exact gd_mem (by omega)
      rw [h1] at h2
      rw [h.outC t h2] at hp
      cases hp
    · exact hc
/-- there is just one way to cut a row so -/
theorem Rdy.only {V : Nat} {es : List (Nat × Nat)} {row : List It} {y : Nat} {A Y C A' Y' C' : List It} (h : Rdy V es row y A Y C) (h' : Rdy V es row y A' Y' C') : A = A' ∧ Y = Y' ∧ C = C' := by
  have h1 := h.len_only h'
  have h2 := h'.len_only h
  have e : A ++ (Y ++ C) = A' ++ (Y' ++ C') := by rw [← h.eq, ← h'.eq]
  obtain ⟨rfl, e2⟩ := List.append_inj e (by omega)
  have hl := congrArg List.length e2
  simp at hl
  obtain ⟨rfl, rfl⟩ := List.append_inj e2 (by omega)
  exact ⟨rfl, rfl, rfl⟩

/-- a vertex is ready -/
def ReadyAt (V : Nat) (es : List (Nat × Nat)) (src : Nat) (row : List It) (pl : List Nat) (y : Nat) : Prop := (pl = [] ∧ y = src) ∨ (pl ≠ [] ∧ ∃ A Y C, Rdy V es row y A Y C)

theorem whole_ready {V : Nat} {es : List (Nat × Nat)} {src : Nat} {row : List It} {pl : List Nat} (h : Inv V es src row pl) (hp : Plain V es) {b : Bn} (hb : b ∈ wholeF V es src row pl) (hpl : pl ≠ []) :
    ∃ y, b.head = (y : Nat) ∧ Rdy V es row y (row.take b.lo) ((row.take b.hi).drop b.lo) (row.drop b.hi) ∧ b.lo < b.hi ∧ b.hi ≤ row.length := by
  unfold wholeF at hb
  rw [if_neg (by intro e; exact hpl (List.length_eq_zero_iff.1 e))] at hb
  obtain ⟨hb1, hf⟩ := List.mem_filter.1 hb
  have hh := bnK_heads (h.rowOk hp) row.length (Nat.le_refl _) b hb1
  obtain ⟨y, hy⟩ : ∃ y : Nat, b.head = (y : Int) := ⟨b.head.toNat, by omega⟩
  obtain ⟨i, hi, he⟩ := List.mem_iff_getElem.1 hb1
  have hB := (BO.of row row.length).one i hi
  have hgi : (bnK row row.length).getD i b0 = b := by rw [List.getD_eq_getElem?_getD, List.getElem?_eq_getElem (show i < (bnK row row.length).length from hi)]; exact he
  rw [hgi] at hB
  refine ⟨y, hy, Rdy.of_bunch h hB hy (by omega) ?_, hB.lt, hB.le⟩
  simp only [few, Bool.not_eq_true', decide_eq_false_iff_not] at hf
  rw [hy, Int.toNat_natCast, insL_at V es (by omega)] at hf
  omega
theorem ready_whole {V : Nat} {es : List (Nat × Nat)} {src : Nat} {row : List It} {pl : List Nat} (hpl : pl ≠ []) {y : Nat} {A Y C : List It} (hr : Rdy V es row y A Y C) : ∃ b ∈ wholeF V es src row pl, b.head = (y : Nat) ∧ b.lo = A.length ∧ b.hi = A.length + Y.length := by
  obtain ⟨i, hi, h1, h2, h3, h4⟩ := Rdy.bunch (BO.of row row.length) hr
  refine ⟨(bnK row row.length).getD i b0, ?_, h1, h2, h3⟩
  unfold wholeF
  rw [if_neg (by intro e; exact hpl (List.length_eq_zero_iff.1 e))]
  refine List.mem_filter.2 ⟨?_, ?_⟩
  · rw [List.getD_eq_getElem?_getD, List.getElem?_eq_getElem hi]; exact List.getElem_mem _
  · simp only [few, Bool.not_eq_true', decide_eq_false_iff_not]
    rw [h1, Int.toNat_natCast, insL_at V es hr.lt, h4]
    omega
end Go.Proofs.Ytdkchihomllokaa


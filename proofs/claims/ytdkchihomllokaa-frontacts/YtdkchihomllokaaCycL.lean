/-
  Lemmas that the walk of cycle wants: a row's end, turned round. No conditions beyond each theorem's own.
-/
import Derived.Test.YtdkchihomllokaaLft
import Derived.Test.YtdkchihomllokaaPlL
import Derived.Test.YtdkchihomllokaaCc
namespace Go.Proofs.Ytdkchihomllokaa
open Go.RowKit
set_option linter.unusedVariables false
set_option maxRecDepth 20000

theorem row_of_owns {w : World} {base g n cap : Nat} {l : List Nat} (h : w.ownsRow base 3 1 (.slice (some ⟨g, 0, none⟩) n cap) n (zcells (toIs l))) (m : Nat) : RowAt w g m (n - m) (fun t => ((l.drop m).getD t 0 : Nat)) := by
  have hl : l.length = n := by have := h.1; simpa [zcells, toIs] using this
  obtain ⟨cur, h1, h2⟩ := RowAt.of_owns h
  refine ⟨cur, h1, fun t ht => ?_⟩
  have := h2 (m + t) (by omega)
  rw [Nat.zero_add] at this
  rw [this]
  show some (Value.int .i64 ((toIs l).getD (m + t) 0)) = some (Value.int .i64 (((l.drop m).getD t 0 : Nat) : Int))
  rw [toIs_getD]
  simp [List.getD]
theorem ns_of_row {w : World} {g m k : Nat} {l : List Nat} (hl : l.length = k) (hk : k ≤ 100000) {f : Nat → Int} (h : RowAt w g m k f) (hf : ∀ t, t < k → f t = (l.getD t 0 : Nat)) : Ns w (some ⟨g, m, none⟩) k (toIs l) := by
  refine ⟨by rw [toIs_length, hl], by omega, fun t ht => ⟨g, m, rfl, h.lt, ?_⟩⟩
  rw [h.cell ht, hf t ht, toIs_getD]
theorem ns_drop {w : World} {g m k p : Nat} {xs : List Int} (h : Ns w (some ⟨g, m, none⟩) k xs) (hp : p ≤ k) : Ns w (some ⟨g, m + p, none⟩) (k - p) (xs.drop p) := by
  obtain ⟨h1, h2, h3⟩ := h
  refine ⟨by simp [h1], by omega, fun t ht => ?_⟩
  obtain ⟨g', off, ha, hg, c⟩ := h3 (p + t) (by omega)
  obtain ⟨rfl, rfl⟩ : g = g' ∧ m = off := by simpa using ha
  refine ⟨g, m + p, rfl, hg, ?_⟩
  rw [Nat.add_assoc, c]
  simp [List.getD]
theorem ns_take {w : World} {a : Option Addr} {k p : Nat} {xs : List Int} (h : Ns w a k xs) (hp : p ≤ k) : Ns w a p (xs.take p) := by
  obtain ⟨h1, h2, h3⟩ := h
  refine ⟨by simp [h1]; omega, by omega, fun t ht => ?_⟩
  obtain ⟨g', off, ha, hg, c⟩ := h3 t (by omega)
  refine ⟨g', off, ha, hg, ?_⟩
  rw [c]
  simp [List.getD, ht]

/-- the least of the row that is turned round -/
theorem least_rev {wy : List Nat} {mn : Int} (h1 : 1 ≤ wy.length) (h : IsMin (toIs wy.reverse) wy.length mn) :
    ∃ p, ix (toIs wy.reverse) mn = (p : Nat) ∧ p < wy.length ∧ Pl.LeastAt wy (wy.length - 1 - p) := by
  obtain ⟨⟨j, hj, hm⟩, hall⟩ := h
  have hmem : mn ∈ toIs wy.reverse := by
    rw [← hm]
    have : j < (toIs wy.reverse).length := by simpa [toIs] using hj
    simp [List.getD, this]
  rcases ix_cases (toIs wy.reverse) mn with ⟨_, hn⟩ | ⟨p, hp, hpl, hpv, _⟩
  · exact absurd hmem hn
  · have hpl2 : p < wy.length := by simpa [toIs] using hpl
    refine ⟨p, hp, hpl2, by omega, fun j hj => ?_⟩
    have h2 := hall (wy.length - 1 - j) (by omega)
    rw [← hpv, toIs_getD, toIs_getD] at h2
    have e : ∀ q, q < wy.length → wy.reverse.getD (wy.length - 1 - q) 0 = wy.getD q 0 := by
      intro q hq
      simp only [List.getD]
      rw [List.getElem?_reverse (by omega), show wy.length - 1 - (wy.length - 1 - q) = q by omega]
    have e2 : wy.reverse.getD p 0 = wy.getD (wy.length - 1 - p) 0 := by
      have := e (wy.length - 1 - p) (by omega)
      rw [show wy.length - 1 - (wy.length - 1 - p) = p by omega] at this
      exact this
    rw [e j hj, e2] at h2
    omega
theorem turn_cells {wy : List Nat} {p : Nat} (hp : p < wy.length) : (toIs wy.reverse).drop p ++ (toIs wy.reverse).take p = toIs (Pl.turn wy (wy.length - 1 - p)) := by
  rw [← Pl.turn_rev wy (wy.length - 1 - p) (by omega), show wy.length - 1 - (wy.length - 1 - p) = p by omega]
  unfold toIs
  rw [List.map_append, List.map_drop, List.map_take]

/-- what cycle tells -/
def CycTold (w w' : World) (V : Nat) (es : List (Nat × Nat)) (e : Ending) : Prop :=
  (Pl.start V es = none ∧ e = .returned (.slice none 0 0)) ∨
  ∃ a0 m g cap, Pl.start V es = some a0 ∧ Pl.LeastAt (Pl.ring V es a0) m ∧ e = .returned (.slice (some ⟨g, 0, none⟩) (Pl.ring V es a0).length cap) ∧ w'.ownsRow w.heap.size 3 1 (.slice (some ⟨g, 0, none⟩) (Pl.ring V es a0).length cap) (Pl.ring V es a0).length (zcells (toIs (Pl.turn (Pl.ring V es a0) m)))

/-- what holds at a round's head of the way back -/
structure WRel (w wr : World) (V : Nat) (es : List (Nat × Nat)) (a0 : Nat) (l : List Nat) (x : Nat) (v : Value) : Prop where
  way : Pl.Way V es l x
  ends : Pl.walkF V es (V + 1 - l.length) l x = Pl.walkF V es (V + 1) [] a0
  own : wr.ownsRow w.heap.size 3 1 v l.length (zcells (toIs l))
  bel : Below w.heap.size w wr
theorem WRel.step {w wr w4 : World} {V : Nat} {es : List (Nat × Nat)} {a0 : Nat} {l : List Nat} {x : Nat} {v v2 : Value} (h : WRel w wr V es a0 l x v) (he : ∀ e ∈ es, e.1 < V ∧ e.2 < V) (hx : x ∉ l)
    (hg : (wr.alloc (.cells #[.int .i64 x] 3)).grownBy w4 v.ownBlock) (ho : w4.ownsRow w.heap.size 3 1 v2 (l.length + 1) (zcells (toIs l) ++ [.int .i64 x])) : WRel w w4 V es a0 (l ++ [x]) (Pl.bk V es x) v2 := by
  refine ⟨h.way.step he hx, ?_, ?_, ?_⟩
  · rw [← h.way.fuel hx]
    exact h.ends
  · rw [zcells_snoc, toIs_snoc] at ho
    rw [List.length_append]
    exact ho
  · exact (h.bel.alloc h.bel.size _).grown hg (by have := h.bel.size; simp; omega) fun k hk => (h.own.lt k hk).1
theorem WRel.stop {w wr : World} {V : Nat} {es : List (Nat × Nat)} {a0 : Nat} {l : List Nat} {x : Nat} {v : Value} (h : WRel w wr V es a0 l x v) (hx : x ∈ l) :
    ∃ m, ix (toIs l) x = (m : Nat) ∧ m < l.length ∧ Pl.ring V es a0 = l.drop m := by
  have he := h.ends
  rw [Pl.walkF_stop _ hx] at he
  rcases ix_cases (toIs l) (x : Int) with ⟨_, hn⟩ | ⟨m, hm, hml, hmv, hb⟩
  · exact absurd (mem_toIs.2 hx) hn
  · have hml2 : m < l.length := by simpa [toIs] using hml
    refine ⟨m, hm, hml2, ?_⟩
    unfold Pl.ring
    rw [← he]
    have : l.findIdx (· == x) = m := by
      rw [List.findIdx_eq hml2]
      rw [toIs_getD] at hmv
      refine ⟨?_, fun j hj => ?_⟩
      · have : l.getD m 0 = l[m] := by simp [List.getD, hml2]
        rw [this] at hmv
        simp
        omega
      · have h2 := hb j hj
        rw [toIs_getD] at h2
        have hjl : j < l.length := by omega
        have : l.getD j 0 = l[j] := by simp [List.getD, hjl]
        rw [this] at h2
        simp
        omega
    simp only [this]
end Go.Proofs.Ytdkchihomllokaa

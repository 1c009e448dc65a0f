/-
  What the walk of the document's Block needs: rows of numbers that may be written, their sum; parts without one vertex. No conditions beyond each theorem's own.
-/
import Derived.Test.YtbecmaandhadhaaRefPt
import Derived.Test.YtbecmaandhadhaaRl
namespace Go.Proofs.Ytbecmaandhadhaa.pt
open Go.RowKit
set_option linter.unusedVariables false
set_option maxRecDepth 20000

abbrev RowN (w : World) (g n : Nat) (f : Nat → Nat) : Prop := Row w g 3 n fun t => .int .i64 (f t : Nat)
abbrev RowZ (w : World) (g n : Nat) (f : Nat → Int) : Prop := Row w g 3 n fun t => .int .i64 (f t)
theorem RowN.set {w : World} {g n : Nat} {f : Nat → Nat} (h : RowN w g n f) (p v : Nat) : RowN (w.setCell ⟨g, p, none⟩ (.int .i64 (v : Nat))) g n (Df.upd f p v) :=
  (Row.set h p (.int .i64 (v : Nat))).congr fun t ht => by unfold upd Df.upd; split <;> rfl
theorem rowZ_of_owns {w : World} {base : Nat} {v : Value} {n : Nat} {L : Nat → Int} (h : w.ownsRow base 3 1 v n (zcells ((List.range n).map L))) (hn : 0 < n) : ∃ g cap, v = .slice (some ⟨g, 0, none⟩) n cap ∧ base ≤ g ∧ RowZ w g n L := by
  rcases h.2 with ⟨hv, hn0, _⟩ | ⟨g', cap', cur, hv, hb, hg, h1, h2, h3, h4⟩
  · omega
  · refine ⟨g', cap', hv, hb, cur, hg, fun t ht => ?_⟩
    have : (cur.toList.take (n * 1))[t]? = (zcells ((List.range n).map L))[t]? := by rw [h4]
    rw [List.getElem?_take] at this
    simp [ht, zcells] at this
    simpa using this
/-- the sum of a row's first cells -/
def numOf : Option Value → Nat
  | some (.int _ z) => z.toNat
  | _ => 0
def sumR (w : World) (g m : Nat) : Nat := ((List.range m).map fun t => numOf (w.cell? ⟨g, t, none⟩)).sum
theorem RowN.sum {w : World} {g m : Nat} {f : Nat → Nat} (h : RowN w g m f) : sumR w g m = Df.sm m f := by
  unfold sumR Df.sm
  congr 1
  refine List.map_congr_left fun t ht => ?_
  rw [Row.cell h (by simpa using ht)]
  simp [numOf]
theorem bd_en {es : List (Nat × Nat)} {x u v : Nat} : Bd es (fun t => decide (t = x)) u v ↔ ∃ e, Df.En es e u v ∧ u ≠ x ∧ v ≠ x := by
  constructor
  · rintro ⟨e, he, h1, h2, h3⟩
    obtain ⟨t, ht, rfl⟩ := List.mem_iff_getElem.1 he
    have hg : Pl.at' es t = es[t] := by simp [Pl.at', List.getD, ht]
    simp at h1 h2
    refine ⟨t, ⟨ht, ?_⟩, ?_⟩
    · rw [hg]; exact h3
    · rcases h3 with h3 | h3 <;> rw [h3] at h1 h2
      · exact ⟨h1, h2⟩
      · exact ⟨h2, h1⟩
  · rintro ⟨t, ⟨ht, h3⟩, h1, h2⟩
    refine ⟨_, getD_mem ht, ?_, ?_, h3⟩
    · rcases h3 with h3 | h3
      · rw [show es.getD t (0, 0) = (u, v) from h3]; simpa using h1
      · rw [show es.getD t (0, 0) = (v, u) from h3]; simpa using h2
    · rcases h3 with h3 | h3
      · rw [show es.getD t (0, 0) = (u, v) from h3]; simpa using h2
      · rw [show es.getD t (0, 0) = (v, u) from h3]; simpa using h1
theorem star_cn {es : List (Nat × Nat)} {x a b : Nat} : Star (Bd es fun t => decide (t = x)) a b ↔ Df.Cn es x a b := by
  constructor
  · intro h R h0 hs
    exact h R h0 fun u v hu hr => by
      obtain ⟨e, h1, h2, h3⟩ := bd_en.1 hr
      exact hs e u v h1 h2 h3 hu
  · intro h
    exact h (fun y => Star (Bd es fun t => decide (t = x)) a y) .refl fun e u v h1 h2 h3 hu => hu.step (bd_en.2 ⟨e, h1, h2, h3⟩)
theorem isL_iff {V : Nat} {es : List (Nat × Nat)} {x : Nat} {L : Nat → Int} (h : IsL V es (fun t => decide (t = x)) L) {a b : Nat} (ha : a < V) (hb : b < V) (hax : a ≠ x) (hbx : b ≠ x) : L a = L b ↔ Df.Cn es x a b := by
  obtain ⟨y, h1, h2, h3, h4⟩ := (h a ha).2 (by simpa using hax)
  obtain ⟨z, k1, k2, k3, k4⟩ := (h b hb).2 (by simpa using hbx)
  rw [h1, k1]
  constructor
  · intro e
    have : y = z := by omega
    subst this
    exact star_cn.1 (h3.trans (Conn.symm k3))
  · intro hc
    have := h4.only k4 ((Conn.symm h3).trans ((star_cn.2 hc).trans k3))
    rw [this]
/-- an edge at x, its other end -/
theorem en_end {es : List (Nat × Nat)} {i x p q o : Nat} (hi : i < es.length) (he : es.getD i (0, 0) = (p, q)) (hx : p = x ∨ q = x) (ho : p + q - x = o) : Df.En es i x o := by
  refine ⟨hi, ?_⟩
  rw [show Pl.at' es i = (p, q) from he]
  rcases hx with rfl | rfl
  · left; rw [← ho]; congr 1; omega
  · right; rw [← ho]; congr 1; omega
theorem en_at {es : List (Nat × Nat)} {i x p q a : Nat} (he : es.getD i (0, 0) = (p, q)) (h : Df.En es i x a) : p = x ∨ q = x := by
  rcases h.2 with h | h <;> rw [show Pl.at' es i = (p, q) from he] at h <;> simp at h
  · exact .inl h.1
  · exact .inr h.2
theorem sx_iff {V : Nat} {es : List (Nat × Nat)} {x i k a b : Nat} {L : Nat → Int} (h : IsL V es (fun t => decide (t = x)) L) (ha : a < V) (hb : b < V) (hax : a ≠ x) (hbx : b ≠ x) (h1 : Df.En es i x a) (h2 : Df.En es k x b) : Df.Sx es x i k ↔ L a = L b := by
  rw [isL_iff h ha hb hax hbx]
  constructor
  · rintro ⟨a', b', k1, k2, k3⟩
    rw [Df.En.other h1 k1, Df.En.other h2 k2]
    exact k3
  · exact fun hc => ⟨a, b, h1, h2, hc⟩
end Go.Proofs.Ytbecmaandhadhaa.pt


/-
  What stands in memory behind the two faults of the statement GraphKinds; which kinds tell a list. No conditions.
-/
import Derived.Test.YtgbdnpmpkilcoaaKindsM
import Derived.Test.YtgbdnpmpkilcoaaKindsP
import Derived.Test.YtgbdnpmpkilcoaaFaultAny
import Derived.Test.YtgbdnpmpkilcoaaEdge28
namespace Go.Proofs.Ytgbdnpmpkilcoaa
open Go.RowKit
set_option linter.unusedVariables false

/-- the two graphs' boxes stand -/
structure Kx (w u : World) (xb V : Nat) (a : Option Addr) (n cap : Nat) (xa : Option Addr) (xc : Nat) (es : List (Nat × Nat)) : Prop where
  bel : Below w.heap.size w u
  gb : u.heap[w.heap.size]? = some (.cells #[.int .i64 V, .slice a n cap] 24 (0, 0))
  xbk : u.heap[xb]? = some (.cells #[.int .i64 V, .slice xa n xc] 24 (0, 0))
  xes : Es 0 u xa n (toI es)
theorem Kx.step {w u u' : World} {xb V : Nat} {a : Option Addr} {n cap : Nat} {xa : Option Addr} {xc : Nat} {es : List (Nat × Nat)} (h : Kx w u xb V a n cap xa xc es) (hb : Below u.heap.size u u') : Kx w u' xb V a n cap xa xc es := by
  have h1 := (Array.getElem?_eq_some_iff.1 h.gb).1
  have h2 := (Array.getElem?_eq_some_iff.1 h.xbk).1
  exact ⟨h.bel.trans (hb.mono h.bel.size), by rw [hb.block _ h1]; exact h.gb, by rw [hb.block _ h2]; exact h.xbk, h.xes.below hb⟩
theorem Kx.cells {w u : World} {xb V : Nat} {a : Option Addr} {n cap : Nat} {xa : Option Addr} {xc : Nat} {es : List (Nat × Nat)} (h : Kx w u xb V a n cap xa xc es) :
    u.cell? ⟨w.heap.size, 0, none⟩ = some (.int .i64 V) ∧ u.cell? ⟨w.heap.size, 1, none⟩ = some (.slice a n cap) ∧ u.cell? ⟨xb, 0, none⟩ = some (.int .i64 V) ∧ u.cell? ⟨xb, 1, none⟩ = some (.slice xa n xc) := by
  have h1 := h.gb
  have h2 := h.xbk
  simp [World.cell?, h1, h2]
theorem es_zero {B : Nat} {w : World} {a : Option Addr} {n : Nat} {zs : List (Int × Int)} (h : Es B w a n zs) : Es 0 w a n zs := by
  obtain ⟨h1, h2, h3⟩ := h
  refine ⟨h1, h2, fun k hk => ?_⟩
  obtain ⟨g, off, ha, _, hg, c⟩ := h3 k hk
  exact ⟨g, off, ha, by omega, hg, c⟩

/-- the faults' boxes stand too -/
structure Kw (w u : World) (xb fb hb V : Nat) (a : Option Addr) (n cap : Nat) (xa : Option Addr) (xc : Nat) (es : List (Nat × Nat)) (c p1 p2 : Int) (fv : Value) (ha : Option Addr) (q hc : Nat) (l : List Nat) : Prop where
  x : Kx w u xb V a n cap xa xc es
  f : u.heap[fb]? = some (faultO (.int .i64 c) (.int .i64 p1) fv)
  h : u.heap[hb]? = some (faultO (.int .i64 c) (.int .i64 p2) (.slice ha q hc))
  n : Ns u ha q (toIs l)
section
variable {w u u' : World} {xb fb hb V : Nat} {a : Option Addr} {n cap : Nat} {xa : Option Addr} {xc : Nat} {es : List (Nat × Nat)} {c p1 p2 : Int} {fv : Value} {ha : Option Addr} {q hc : Nat} {l : List Nat}
theorem Kw.step (k : Kw w u xb fb hb V a n cap xa xc es c p1 p2 fv ha q hc l) (hb' : Below u.heap.size u u') : Kw w u' xb fb hb V a n cap xa xc es c p1 p2 fv ha q hc l :=
  ⟨k.x.step hb', by rw [hb'.block _ (lt_of_at k.f)]; exact k.f, by rw [hb'.block _ (lt_of_at k.h)]; exact k.h, k.n.below hb'⟩
theorem Kw.cells (k : Kw w u xb fb hb V a n cap xa xc es c p1 p2 fv ha q hc l) :
    u.cell? ⟨fb, 0, none⟩ = some (.int .i64 c) ∧ u.cell? ⟨hb, 0, none⟩ = some (.int .i64 c) ∧ u.cell? ⟨hb, 2, none⟩ = some (.slice ha q hc) ∧ u.cell? ⟨xb, 0, none⟩ = some (.int .i64 V) ∧ u.cell? ⟨xb, 1, none⟩ = some (.slice xa n xc) := by
  have h1 := k.f
  have h2 := k.h
  have h3 := k.x.xbk
  unfold faultO at h1 h2
  simp [World.cell?, h1, h2, h3]
theorem Kw.edge (k : Kw w u xb fb hb V a n cap xa xc es c p1 p2 fv ha q hc l) (hn : es.length = n) (x y : Int) : Calls Try.prog 28 #[.int .i64 x, .int .i64 y, .pointer (some ⟨xb, 0, none⟩)] u fun e w' => Told (Edge es x y) e ∧ Below u.heap.size u w' :=
  edge_any u xb V xa xc es (B := 0) (by rw [hn]; exact k.x.xes) (by rw [hn]; exact k.x.xbk) x y
/-- a number of the list, in a cell -/
theorem Kw.at (k : Kw w u xb fb hb V a n cap xa xc es c p1 p2 fv ha q hc l) (hq : l.length = q) {i : Nat} (hi : i < q) : ∃ g off, ha = some ⟨g, off, none⟩ ∧ g < u.heap.size ∧ u.cell? ⟨g, off + i, none⟩ = some (.int .i64 (l.getD i 0 : Nat)) := by
  have := k.n
  rw [← hq] at this
  exact ns_at this (by omega)
end
theorem kind_list {V : Nat} {es : List (Nat × Nat)} {c a : Int} {l : List Nat} (h : IsFault V es c a l) (hl : 0 < l.length) : c = 15 ∨ c = 16 := by
  rcases h with ⟨h1, rfl, _, rfl⟩ | ⟨h1, h2, rfl, _, rfl⟩ | ⟨h1, h2, rfl, _⟩ | ⟨h1, h2, hs, rfl, _⟩ | ⟨h1, h2, hs, rfl, _, _, rfl⟩
  · simp at hl
  · simp at hl
  · exact .inl rfl
  · exact .inr rfl
  · simp at hl
theorem edge_yes {es : List (Nat × Nat)} {x y : Nat} (h : (x, y) ∈ es) : Edge es x y := ⟨(x, y), h, rfl, rfl⟩
theorem edge_no {es : List (Nat × Nat)} {y : Nat} (h : ∀ e ∈ es, e.2 ≠ y) (x : Int) : ¬ Edge es x y := by
  rintro ⟨e, he, _, h2⟩
  exact h e he (by omega)
end Go.Proofs.Ytgbdnpmpkilcoaa

/-
  Rows in memory: such as may be written, such as are only read; graphs whose edges' ends are vertices; a box that a function lays first. No conditions.
-/
import Derived.Test.YtmklngabfdnclaaDoorQOf
import Derived.OwnWalk
namespace Go.Proofs.YtmklngabfdnclaaDoor.pt
open Go.RowKit
set_option linter.unusedVariables false

/-- a block of cells that may be written: what the first n of them hold -/
def Row (w : World) (g : Nat) (ty : TypeId) (n : Nat) (f : Nat → Value) : Prop := ∃ cur, w.heap[g]? = some (.cells cur ty (0, 0)) ∧ ∀ t, t < n → cur[t]? = some (f t)
def upd {α : Type} (f : Nat → α) (j : Nat) (v : α) (i : Nat) : α := if i = j then v else f i
theorem upd_same {α : Type} (f : Nat → α) (j : Nat) (v : α) : upd f j v j = v := if_pos rfl
theorem upd_other {α : Type} (f : Nat → α) {j i : Nat} (v : α) (h : i ≠ j) : upd f j v i = f i := if_neg h
theorem Row.cell {w : World} {g n : Nat} {ty : TypeId} {f : Nat → Value} (h : Row w g ty n f) {t : Nat} (ht : t < n) : w.cell? ⟨g, t, none⟩ = some (f t) := by
  obtain ⟨cur, h1, h2⟩ := h
  simp [World.cell?, h1, h2 t ht]
theorem Row.fz {w : World} {g n : Nat} {ty : TypeId} {f : Nat → Value} (h : Row w g ty n f) (o : Nat) : w.frozen? ⟨g, o, none⟩ = false := by
  obtain ⟨cur, h1, h2⟩ := h
  simp [World.frozen?, h1]
theorem Row.set {w : World} {g n : Nat} {ty : TypeId} {f : Nat → Value} (h : Row w g ty n f) (p : Nat) (v : Value) : Row (w.setCell ⟨g, p, none⟩ v) g ty n (upd f p v) := by
  obtain ⟨cur, h1, h2⟩ := h
  refine ⟨cur.setIfInBounds p v, by simp [World.setCell, Array.getElem?_modify, h1], fun t ht => ?_⟩
  rw [Array.getElem?_setIfInBounds]
  have hb := (Array.getElem?_eq_some_iff.1 (h2 t ht)).1
  by_cases htp : t = p
  · subst htp
    simp [hb, upd]
  · rw [if_neg (fun e => htp e.symm)]
    simp [upd, htp, h2 t ht]
theorem Row.lt {w : World} {g n : Nat} {ty : TypeId} {f : Nat → Value} (h : Row w g ty n f) : g < w.heap.size := by
  obtain ⟨cur, h1, h2⟩ := h
  exact (Array.getElem?_eq_some_iff.1 h1).1
theorem Row.keep {w w' : World} {g n : Nat} {ty : TypeId} {f : Nat → Value} (h : Row w g ty n f) (he : w'.heap[g]? = w.heap[g]?) : Row w' g ty n f := by
  obtain ⟨cur, h1, h2⟩ := h
  exact ⟨cur, by rw [he]; exact h1, h2⟩
theorem Row.below {w w' : World} {g n : Nat} {ty : TypeId} {f : Nat → Value} (h : Row w g ty n f) (hb : Below w.heap.size w w') : Row w' g ty n f :=
  h.keep (hb.block g h.lt)
theorem Row.congr {w : World} {g n : Nat} {ty : TypeId} {f f' : Nat → Value} (h : Row w g ty n f) (he : ∀ t, t < n → f t = f' t) : Row w g ty n f' := by
  obtain ⟨cur, h1, h2⟩ := h
  exact ⟨cur, h1, fun t ht => by rw [h2 t ht, he t ht]⟩
theorem Row.of_owns {w : World} {base g n cap : Nat} {ty : TypeId} {z : Value} (h : w.ownsRow base ty 1 (.slice (some ⟨g, 0, none⟩) n cap) n (List.replicate n z)) : Row w g ty n (fun _ => z) := by
  rcases h.2 with ⟨hv, _⟩ | ⟨g', cap', cur, hv, hb, hg, h1, h2, h3, h4⟩
  · cases hv
  · cases hv
    refine ⟨cur, hg, fun t ht => ?_⟩
    have : (cur.toList.take (n * 1))[t]? = (List.replicate n z)[t]? := by rw [h4]
    rw [List.getElem?_take] at this
    simpa [ht] using this
/-- sets, bools that may be written -/
abbrev RowU (w : World) (g n : Nat) (f : Nat → Nat) : Prop := Row w g 50 n fun t => .int .u64 (f t : Nat)
abbrev RowB (w : World) (g n : Nat) (f : Nat → Bool) : Prop := Row w g 4 n fun t => .bool (f t)
theorem RowU.set {w : World} {g n : Nat} {f : Nat → Nat} (h : RowU w g n f) (p v : Nat) : RowU (w.setCell ⟨g, p, none⟩ (.int .u64 (v : Nat))) g n (upd f p v) :=
  (Row.set h p (.int .u64 (v : Nat))).congr fun t ht => by unfold upd; split <;> rfl
theorem RowB.set {w : World} {g n : Nat} {f : Nat → Bool} (h : RowB w g n f) (p : Nat) (v : Bool) : RowB (w.setCell ⟨g, p, none⟩ (.bool v)) g n (upd f p v) :=
  (Row.set h p (.bool v)).congr fun t ht => by unfold upd; split <;> rfl

/-- sets, bools that are only read -/
def Us (w : World) (a : Option Addr) (n : Nat) (f : Nat → Nat) : Prop :=
  n ≤ 1000000 ∧ ∀ k, k < n → ∃ g off, a = some ⟨g, off, none⟩ ∧ g < w.heap.size ∧ w.cell? ⟨g, off + k, none⟩ = some (.int .u64 (f k : Nat))
def Bs (w : World) (a : Option Addr) (n : Nat) (f : Nat → Bool) : Prop :=
  n ≤ 1000000 ∧ ∀ k, k < n → ∃ g off, a = some ⟨g, off, none⟩ ∧ g < w.heap.size ∧ w.cell? ⟨g, off + k, none⟩ = some (.bool (f k))
theorem Us.below {w w' : World} {a : Option Addr} {n : Nat} {f : Nat → Nat} (h : Us w a n f) (hb : Below w.heap.size w w') : Us w' a n f := by
  refine ⟨h.1, fun k hk => ?_⟩
  obtain ⟨g, off, ha, hg, c0⟩ := h.2 k hk
  exact ⟨g, off, ha, Nat.lt_of_lt_of_le hg hb.size, by rw [hb.cell (p := ⟨g, off + k, none⟩) hg]; exact c0⟩
theorem Bs.below {w w' : World} {a : Option Addr} {n : Nat} {f : Nat → Bool} (h : Bs w a n f) (hb : Below w.heap.size w w') : Bs w' a n f := by
  refine ⟨h.1, fun k hk => ?_⟩
  obtain ⟨g, off, ha, hg, c0⟩ := h.2 k hk
  exact ⟨g, off, ha, Nat.lt_of_lt_of_le hg hb.size, by rw [hb.cell (p := ⟨g, off + k, none⟩) hg]; exact c0⟩
theorem RowU.read {w : World} {g n : Nat} {f : Nat → Nat} (h : RowU w g n f) (hn : n ≤ 1000000) : Us w (some ⟨g, 0, none⟩) n f :=
  ⟨hn, fun k hk => ⟨g, 0, rfl, h.lt, by rw [Nat.zero_add]; exact h.cell hk⟩⟩
theorem RowB.read {w : World} {g n : Nat} {f : Nat → Bool} (h : RowB w g n f) (hn : n ≤ 1000000) : Bs w (some ⟨g, 0, none⟩) n f :=
  ⟨hn, fun k hk => ⟨g, 0, rfl, h.lt, by rw [Nat.zero_add]; exact h.cell hk⟩⟩

/-- a graph that may be, its edges' ends as plain numbers -/
structure Plain (V : Nat) (es : List (Nat × Nat)) : Prop where
  v1 : 1 ≤ V
  v64 : V ≤ 64
  n128 : es.length ≤ 128
  ends : ∀ e ∈ es, e.1 < V ∧ e.2 < V
theorem getD_mem {es : List (Nat × Nat)} {i : Nat} (hi : i < es.length) : es.getD i (0, 0) ∈ es := by
  simp [List.getD, hi]
theorem Plain.at {V : Nat} {es : List (Nat × Nat)} (h : Plain V es) {i : Nat} (hi : i < es.length) : (es.getD i (0, 0)).1 < V ∧ (es.getD i (0, 0)).2 < V := h.ends _ (getD_mem hi)
theorem es_at {B : Nat} {w : World} {a : Option Addr} {es : List (Nat × Nat)} (h : Es B w a es.length (toI es)) {i : Nat} (hi : i < es.length) :
    ∃ g off, a = some ⟨g, off, none⟩ ∧ g < w.heap.size ∧ w.cell? ⟨g, off + i * 2, none⟩ = some (.int .i64 ((es.getD i (0, 0)).1 : Nat)) ∧ w.cell? ⟨g, off + i * 2 + 1, none⟩ = some (.int .i64 ((es.getD i (0, 0)).2 : Nat)) := by
  obtain ⟨g, off, ha, _, hg, c0, c1⟩ := h.2.2 i hi
  rw [toI_getD] at c0 c1
  exact ⟨g, off, ha, hg, c0, c1⟩

/-- a box of a graph, laid first: it stands while others make memory -/
structure Bg (w wk : World) (x y : Value) : Prop where
  bel : Below w.heap.size w wk
  gb : wk.heap[w.heap.size]? = some (.cells #[x, y] 24 (0, 0))
theorem Bg.start (w : World) (x y : Value) : Bg w (w.alloc (.cells #[x, y] 24)) x y := ⟨(Below.refl _ _).alloc (Nat.le_refl _) _, (MapKept.heap_alloc w _).1⟩
theorem Bg.lt {w wk : World} {x y : Value} (h : Bg w wk x y) : w.heap.size < wk.heap.size := (Array.getElem?_eq_some_iff.1 h.gb).1
theorem Bg.step {w wk wk' : World} {x y : Value} (h : Bg w wk x y) (hb : Below wk.heap.size wk wk') : Bg w wk' x y :=
  ⟨h.bel.trans (hb.mono h.bel.size), by rw [hb.block _ h.lt]; exact h.gb⟩
theorem Bg.stepB {w wk wk' : World} {x y : Value} {B : Nat} (h : Bg w wk x y) (hB : w.heap.size < B) (hb : Below B wk wk') : Bg w wk' x y :=
  ⟨h.bel.trans (hb.mono (by omega)), by rw [hb.block _ hB]; exact h.gb⟩
theorem Bg.cells {w wk : World} {x y : Value} (h : Bg w wk x y) : wk.cell? ⟨w.heap.size, 0, none⟩ = some x ∧ wk.cell? ⟨w.heap.size, 1, none⟩ = some y := by
  simp [World.cell?, h.gb]

theorem info25 : (Tryd.prog.info? 50).map (fun i => (i.zero, i.size, i.bytes)) = some (some (.int .u64 0), 1, 8) := by kernel_rfl
end Go.Proofs.YtmklngabfdnclaaDoor.pt

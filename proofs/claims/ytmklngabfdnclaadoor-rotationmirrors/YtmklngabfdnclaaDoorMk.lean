/-
  Memory: rows that may be written, boxes of graphs that stand, own rows that are kept. No conditions.
-/
import Derived.Test.YtmklngabfdnclaaDoorRs4
import Derived.Laws.AppendOwnNone
import Derived.OwnWalk
import Derived.Deep.RegionHeld3
namespace Go.Proofs.YtmklngabfdnclaaDoor
open Go.RowKit
set_option linter.unusedVariables false
set_option maxRecDepth 20000

/-- a block of cells that may be written: what the first n of them hold -/
def Row (w : World) (g : Nat) (ty : TypeId) (n : Nat) (f : Nat → Value) : Prop := ∃ cur, w.heap[g]? = some (.cells cur ty (0, 0)) ∧ ∀ t, t < n → cur[t]? = some (f t)
def upd {α : Type} (f : Nat → α) (j : Nat) (v : α) (i : Nat) : α := if i = j then v else f i
theorem upd_same {α : Type} (f : Nat → α) (j : Nat) (v : α) : upd f j v j = v := if_pos rfl
theorem upd_other {α : Type} (f : Nat → α) {j i : Nat} (v : α) (h : i ≠ j) : upd f j v i = f i := if_neg h
theorem Row.cell {w : World} {g n : Nat} {ty : TypeId} {f : Nat → Value} (h : Row w g ty n f) {t : Nat} (ht : t < n) : w.cell? ⟨g, t, none⟩ = some (f t) := by
  obtain ⟨cur, h1, h2⟩ := h
  simp [World.cell?, h1, h2 t ht]
theorem Row.fz {w : World} {g n : Nat} {ty : TypeId} {f : Nat → Value} (h : Row w g ty n f) (o : Nat) : w.frozen? ⟨g, o, none⟩ = false := by
  obtain ⟨cur, h1, h2⟩ := h
  simp [World.frozen?, h1]
theorem Row.set {w : World} {g n : Nat} {ty : TypeId} {f : Nat → Value} (h : Row w g ty n f) (p : Nat) (v : Value) : Row (w.setCell ⟨g, p, none⟩ v) g ty n (upd f p v) := by
  obtain ⟨cur, h1, h2⟩ := h
  refine ⟨cur.setIfInBounds p v, by simp [World.setCell, Array.getElem?_modify, h1], fun t ht => ?_⟩
  rw [Array.getElem?_setIfInBounds]
  have hb := (Array.getElem?_eq_some_iff.1 (h2 t ht)).1
  by_cases htp : t = p
  · subst htp
    simp [hb, upd]
  · rw [if_neg (fun e => htp e.symm)]
    simp [upd, htp, h2 t ht]
theorem Row.lt {w : World} {g n : Nat} {ty : TypeId} {f : Nat → Value} (h : Row w g ty n f) : g < w.heap.size := by
  obtain ⟨cur, h1, h2⟩ := h
  exact (Array.getElem?_eq_some_iff.1 h1).1
theorem Row.keep {w w' : World} {g n : Nat} {ty : TypeId} {f : Nat → Value} (h : Row w g ty n f) (he : w'.heap[g]? = w.heap[g]?) : Row w' g ty n f := by
  obtain ⟨cur, h1, h2⟩ := h
  exact ⟨cur, by rw [he]; exact h1, h2⟩
theorem Row.below {w w' : World} {g n : Nat} {ty : TypeId} {f : Nat → Value} (h : Row w g ty n f) (hb : Below w.heap.size w w') : Row w' g ty n f :=
  h.keep (hb.block g h.lt)
theorem Row.congr {w : World} {g n : Nat} {ty : TypeId} {f f' : Nat → Value} (h : Row w g ty n f) (he : ∀ t, t < n → f t = f' t) : Row w g ty n f' := by
  obtain ⟨cur, h1, h2⟩ := h
  exact ⟨cur, h1, fun t ht => by rw [h2 t ht, he t ht]⟩
theorem Row.of_owns {w : World} {base g n cap : Nat} {ty : TypeId} {z : Value} (h : w.ownsRow base ty 1 (.slice (some ⟨g, 0, none⟩) n cap) n (List.replicate n z)) : Row w g ty n (fun _ => z) := by
  rcases h.2 with ⟨hv, _⟩ | ⟨g', cap', cur, hv, hb, hg, h1, h2, h3, h4⟩
  · cases hv
  · cases hv
    refine ⟨cur, hg, fun t ht => ?_⟩
    have : (cur.toList.take (n * 1))[t]? = (List.replicate n z)[t]? := by rw [h4]
    rw [List.getElem?_take] at this
    simpa [ht] using this
abbrev RowN (w : World) (g n : Nat) (f : Nat → Nat) : Prop := Row w g 3 n fun t => .int .i64 (f t : Nat)
abbrev RowZ (w : World) (g n : Nat) (f : Nat → Int) : Prop := Row w g 3 n fun t => .int .i64 (f t)
theorem RowZ.set {w : World} {g n : Nat} {f : Nat → Int} (h : RowZ w g n f) (p : Nat) (v : Int) : RowZ (w.setCell ⟨g, p, none⟩ (.int .i64 v)) g n (upd f p v) :=
  (Row.set h p (.int .i64 v)).congr fun t ht => by unfold upd; split <;> rfl
theorem rowZ_of_owns {w : World} {base : Nat} {v : Value} {n : Nat} {L : Nat → Int} (h : w.ownsRow base 3 1 v n (zcells ((List.range n).map L))) (hn : 0 < n) : ∃ g cap, v = .slice (some ⟨g, 0, none⟩) n cap ∧ base ≤ g ∧ RowZ w g n L := by
  rcases h.2 with ⟨hv, hn0, _⟩ | ⟨g', cap', cur, hv, hb, hg, h1, h2, h3, h4⟩
  · omega
  · refine ⟨g', cap', hv, hb, cur, hg, fun t ht => ?_⟩
    have : (cur.toList.take (n * 1))[t]? = (zcells ((List.range n).map L))[t]? := by rw [h4]
    rw [List.getElem?_take] at this
    simp [ht, zcells] at this
    simpa using this
theorem owns_keep {w w' : World} {base : Nat} {e : TypeId} {size : Nat} {v : Value} {n : Nat} {xs : List Value} (h : w.ownsRow base e size v n xs) (hk : ∀ g, v.ownBlock = some g → w'.heap[g]? = w.heap[g]?) : w'.ownsRow base e size v n xs := by
  refine ⟨h.1, ?_⟩
  rcases h.2 with hn | ⟨g, cap, cur, rfl, hb, hgg, rest⟩
  · exact .inl hn
  · exact .inr ⟨g, cap, cur, rfl, hb, by rw [hk g rfl]; exact hgg, rest⟩

theorem owns_below {w w' : World} {base : Nat} {e : TypeId} {size : Nat} {v : Value} {n : Nat} {xs : List Value} (h : w.ownsRow base e size v n xs) (hb : Below w.heap.size w w') : w'.ownsRow base e size v n xs :=
  owns_keep h fun g hg => hb.block g (h.lt g hg).2
/-- a box of a graph, laid first: it stands while others make memory -/
structure Bg (w wk : World) (x y : Value) : Prop where
  bel : Below w.heap.size w wk
  gb : wk.heap[w.heap.size]? = some (.cells #[x, y] 24 (0, 0))
theorem Bg.start (w : World) (x y : Value) : Bg w (w.alloc (.cells #[x, y] 24)) x y := ⟨(Below.refl _ _).alloc (Nat.le_refl _) _, (MapKept.heap_alloc w _).1⟩
theorem Bg.lt {w wk : World} {x y : Value} (h : Bg w wk x y) : w.heap.size < wk.heap.size := (Array.getElem?_eq_some_iff.1 h.gb).1
theorem Bg.step {w wk wk' : World} {x y : Value} (h : Bg w wk x y) (hb : Below wk.heap.size wk wk') : Bg w wk' x y :=
  ⟨h.bel.trans (hb.mono h.bel.size), by rw [hb.block _ h.lt]; exact h.gb⟩
theorem Bg.stepB {w wk wk' : World} {x y : Value} {B : Nat} (h : Bg w wk x y) (hB : w.heap.size < B) (hb : Below B wk wk') : Bg w wk' x y :=
  ⟨h.bel.trans (hb.mono (by omega)), by rw [hb.block _ hB]; exact h.gb⟩
theorem Bg.cells {w wk : World} {x y : Value} (h : Bg w wk x y) : wk.cell? ⟨w.heap.size, 0, none⟩ = some x ∧ wk.cell? ⟨w.heap.size, 1, none⟩ = some y := by
  simp [World.cell?, h.gb]
theorem owns_lit_empty (w : World) (e : TypeId) (size : Nat) (base : Nat) (hb : base ≤ w.heap.size) : (w.alloc (.cells #[] e)).ownsRow base e size (.slice (some ⟨w.heap.size, 0, none⟩) 0 0) 0 [] :=
  World.ownsRow_made w #[] 0 hb (by unfold maxLen; omega) (by simp)

theorem b_al {w : World} (o : Obj) : Below w.heap.size w (w.alloc o) := (Below.refl _ _).alloc (Nat.le_refl _) _
theorem b_dr {w : World} : Below w.heap.size w w.drew := (Below.refl _ _).drew
theorem bto {w u v : World} (h : Below w.heap.size w u) (k : Below u.heap.size u v) : Below w.heap.size w v := h.trans (k.mono h.size)
theorem one_i (z : Int) : ∀ u ∈ [Value.int .i64 z], u.oneCell' = true := by
  intro u hu
  simp only [List.mem_singleton] at hu
  subst hu
  rfl
theorem two_i (x y : Int) : ∀ u ∈ [Value.int .i64 x, Value.int .i64 y], u.oneCell' = true := by
  intro u hu
  simp only [List.mem_cons, List.not_mem_nil, or_false] at hu
  rcases hu with rfl | rfl <;> rfl
theorem cell_two_new (w : World) (x y : Value) (t : TypeId) : ∀ j u, [x, y][j]? = some u → (w.alloc (.cells #[x, y] t)).cell? ((⟨w.heap.size, 0, none⟩ : Addr).add j) = some u := by
  intro j u hj
  match j, hj with
  | 0, hj => simp at hj; subst hj; simp [Addr.add]
  | 1, hj => simp at hj; subst hj; simp [Addr.add]
end Go.Proofs.YtmklngabfdnclaaDoor


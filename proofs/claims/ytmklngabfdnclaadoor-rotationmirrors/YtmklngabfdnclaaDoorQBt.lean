/-
  A box that is laid and stands while others make memory; rows that stand while others make memory. No conditions.
-/
import Derived.Test.YtmklngabfdnclaaDoorQMem
namespace Go.Proofs.YtmklngabfdnclaaDoor.pt
open Go.RowKit
set_option linter.unusedVariables false

theorem owns_keep {w w' : World} {base : Nat} {e : TypeId} {size : Nat} {v : Value} {n : Nat} {xs : List Value} (h : w.ownsRow base e size v n xs) (hk : ∀ g, v.ownBlock = some g → w'.heap[g]? = w.heap[g]?) : w'.ownsRow base e size v n xs := by
  refine ⟨h.1, ?_⟩
  rcases h.2 with hn | ⟨g, cap, cur, rfl, hb, hg, h1, h2, h3, h4⟩
  · exact .inl hn
  · exact .inr ⟨g, cap, cur, rfl, hb, by rw [hk g rfl]; exact hg, h1, h2, h3, h4⟩
theorem owns_below {w w' : World} {base : Nat} {e : TypeId} {size : Nat} {v : Value} {n : Nat} {xs : List Value} (h : w.ownsRow base e size v n xs) (hb : Below w.heap.size w w') : w'.ownsRow base e size v n xs :=
  owns_keep h fun g hg => hb.block g (h.lt g hg).2

/-- a box of any cells, laid behind u: it stands while others make memory -/
structure Bt (ty : TypeId) (cs : Array Value) (u wk : World) : Prop where
  bel : Below u.heap.size u wk
  gb : wk.heap[u.heap.size]? = some (.cells cs ty (0, 0))
theorem Bt.start (ty : TypeId) (cs : Array Value) (u : World) : Bt ty cs u (u.alloc (.cells cs ty)) := ⟨(Below.refl _ _).alloc (Nat.le_refl _) _, (MapKept.heap_alloc u _).1⟩
theorem Bt.lt {ty : TypeId} {cs : Array Value} {u wk : World} (h : Bt ty cs u wk) : u.heap.size < wk.heap.size := (Array.getElem?_eq_some_iff.1 h.gb).1
theorem Bt.step {ty : TypeId} {cs : Array Value} {u wk wk' : World} (h : Bt ty cs u wk) (hb : Below wk.heap.size wk wk') : Bt ty cs u wk' :=
  ⟨h.bel.trans (hb.mono h.bel.size), by rw [hb.block _ h.lt]; exact h.gb⟩
theorem Bt.stepB {ty : TypeId} {cs : Array Value} {u wk wk' : World} {B : Nat} (h : Bt ty cs u wk) (hB : u.heap.size < B) (hb : Below B wk wk') : Bt ty cs u wk' :=
  ⟨h.bel.trans (hb.mono (by omega)), by rw [hb.block _ hB]; exact h.gb⟩
theorem Bt.drew {ty : TypeId} {cs : Array Value} {u wk : World} (h : Bt ty cs u wk) : Bt ty cs u wk.drew := h.step (Below.refl _ _).drew
theorem Bt.cell {ty : TypeId} {cs : Array Value} {u wk : World} (h : Bt ty cs u wk) (k : Nat) {v : Value} (hk : cs[k]? = some v) : wk.cell? ⟨u.heap.size, k, none⟩ = some v := by
  simp [World.cell?, h.gb, hk]
theorem Bt.fz {ty : TypeId} {cs : Array Value} {u wk : World} (h : Bt ty cs u wk) (k : Nat) : wk.frozen? ⟨u.heap.size, k, none⟩ = false := by
  simp [World.frozen?, h.gb]
theorem Bt.set {ty : TypeId} {cs : Array Value} {u wk : World} (h : Bt ty cs u wk) (k : Nat) (v : Value) : Bt ty (cs.setIfInBounds k v) u (wk.setCell ⟨u.heap.size, k, none⟩ v) :=
  ⟨h.bel.setCell (Nat.le_refl _) _, by simp [World.setCell, Array.getElem?_modify, h.gb]⟩
theorem ns_of_bt {x : Int} {u wk : World} (h : Bt 3 #[.int .i64 x] u wk) : Ns wk (some ⟨u.heap.size, 0, none⟩) 1 [x] := by
  refine ⟨rfl, by decide, fun k hk => ⟨u.heap.size, 0, rfl, h.lt, ?_⟩⟩
  obtain rfl : k = 0 := by omega
  exact h.cell 0 rfl
theorem b_al {w : World} (o : Obj) : Below w.heap.size w (w.alloc o) := (Below.refl _ _).alloc (Nat.le_refl _) _
theorem b_dr {w : World} : Below w.heap.size w w.drew := (Below.refl _ _).drew
theorem b_dal {w : World} (o : Obj) : Below w.heap.size w (w.alloc o).drew := (b_al o).drew
theorem bto {w u v : World} (h : Below w.heap.size w u) (k : Below u.heap.size u v) : Below w.heap.size w v := h.trans (k.mono h.size)
end Go.Proofs.YtmklngabfdnclaaDoor.pt


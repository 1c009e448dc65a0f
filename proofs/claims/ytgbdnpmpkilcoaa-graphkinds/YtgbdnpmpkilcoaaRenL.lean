/-
  The contracts of graph.Rename and of the document's Rename: a graph under new names, its edges in another order. Conditions: the graph, the names and the order lie in memory as told.
-/
import Derived.Test.YtgbdnpmpkilcoaaEach
import Derived.Test.YtgbdnpmpkilcoaaOf
namespace Go.Proofs.Ytgbdnpmpkilcoaa
open Go.RowKit
set_option linter.unusedVariables false
set_option linter.unusedSimpArgs false

/-- the edge with number i, under new names -/
def renE (ns : List Nat) (es : List (Nat × Nat)) (i : Nat) : Nat × Nat := (ns.getD (Pl.at' es i).1 0, ns.getD (Pl.at' es i).2 0)
def ren (ns : List Nat) (es : List (Nat × Nat)) (os : List Nat) : List (Nat × Nat) := os.map (renE ns es)
theorem ren_length (ns : List Nat) (es : List (Nat × Nat)) (os : List Nat) : (ren ns es os).length = os.length := by simp [ren]
theorem ren_take (ns : List Nat) (es : List (Nat × Nat)) (os : List Nat) (k : Nat) (hk : k < os.length) : toI (ren ns es (os.take (k + 1))) = toI (ren ns es (os.take k)) ++ [(((renE ns es (os.getD k 0)).1 : Int), ((renE ns es (os.getD k 0)).2 : Int))] := by
  have e : os.getD k 0 = os[k] := by simp [List.getD, hk]
  rw [List.take_succ_eq_append_getElem hk, e]
  unfold ren toI
  rw [List.map_append, List.map_append]
  rfl

theorem perm_nat {n : Nat} {xs : List Int} (h : IsPerm n xs) : ∃ ns : List Nat, xs = toIs ns ∧ ns.length = n ∧ ns.Nodup ∧ ∀ x ∈ ns, x < n := by
  obtain ⟨h1, h2, h3⟩ := h
  have e : xs = toIs (xs.map Int.toNat) := by
    unfold toIs
    rw [List.map_map]
    conv => lhs; rw [← List.map_id xs]
    apply List.map_congr_left
    intro y hy
    have := (h3 y hy).1
    simp
    omega
  refine ⟨xs.map Int.toNat, e, by simp [h1], ?_, ?_⟩
  · rw [e] at h2
    unfold toIs at h2
    rw [List.Nodup, List.pairwise_map] at h2
    exact h2.imp (fun h e => h (by rw [e]))
  · intro x hx
    obtain ⟨y, hy, rfl⟩ := List.mem_map.1 hx
    have := h3 y hy
    omega

/-- what holds at a round's head -/
structure RRel (w wr : World) (rb V : Nat) (k : Nat) (v : Value) (xs : List (Int × Int)) : Prop where
  bel : Below w.heap.size w wr
  lo : w.heap.size < rb
  gb : wr.heap[w.heap.size]? = w.heap[w.heap.size]? ∨ True
  rblk : wr.heap[rb]? = some (.cells #[.int .i64 V, v] 24 (0, 0))
  own : wr.ownsRow (rb + 1) 54 2 v k (ecells xs)
theorem RRel.lt {w wr : World} {rb V k : Nat} {v : Value} {xs : List (Int × Int)} (h : RRel w wr rb V k v xs) : rb < wr.heap.size := (Array.getElem?_eq_some_iff.1 h.rblk).1
theorem RRel.cells {w wr : World} {rb V k : Nat} {v : Value} {xs : List (Int × Int)} (h : RRel w wr rb V k v xs) : wr.cell? ⟨rb, 0, none⟩ = some (.int .i64 V) ∧ wr.cell? ⟨rb, 1, none⟩ = some v ∧ wr.frozen? ⟨rb, 1, none⟩ = false := by
  have := h.rblk
  simp [World.cell?, World.frozen?, this]
/-- behind the append, ahead of the store; lo is a bound below the row and above what was there -/
theorem RRel.facts {w wr W w4 : World} {rb V k g2 cap2 : Nat} {v : Value} {xs : List (Int × Int)} {x y : Int} (h : RRel w wr rb V k v xs) (hW : Below wr.heap.size wr W)
    (ho : w4.ownsRow (rb + 1) 54 2 (.slice (some ⟨g2, 0, none⟩) (k + 1) cap2) (k + 1) (ecells xs ++ [.int .i64 x, .int .i64 y])) (hg : W.grownBy w4 v.ownBlock) :
    w4.cell? ⟨rb, 1, none⟩ = some v ∧ w4.frozen? ⟨rb, 1, none⟩ = false ∧ (∀ i, i ≤ rb → w4.heap[i]? = wr.heap[i]?) ∧ (∀ p u, p.block = wr.heap.size → W.cell? p = some u → w4.cell? p = some u) ∧
    RRel w (w4.setCell ⟨rb, 1, none⟩ (.slice (some ⟨g2, 0, none⟩) (k + 1) cap2)) rb V (k + 1) (.slice (some ⟨g2, 0, none⟩) (k + 1) cap2) (xs ++ [(x, y)]) := by
  have hl := h.lt
  have hlo : ∀ g, v.ownBlock = some g → rb + 1 ≤ g ∧ g < wr.heap.size := fun g hv => h.own.lt g hv
  have hblk : ∀ i, i ≤ rb → w4.heap[i]? = wr.heap[i]? := fun i hi => by
    rw [hg.block i (Nat.lt_of_lt_of_le (by omega) hW.size) (fun e => by have := (hlo i e.symm).1; omega), hW.block i (by omega)]
  have hrb : w4.heap[rb]? = some (.cells #[.int .i64 V, v] 24 (0, 0)) := by rw [hblk rb (Nat.le_refl _)]; exact h.rblk
  refine ⟨by simp [World.cell?, hrb], by simp [World.frozen?, hrb], hblk, fun p u hp hc => hg.cell hc (fun e => by rw [hp] at e; have := (hlo _ e.symm).2; omega), ?_, h.lo, .inr trivial, ?_, ?_⟩
  · have h1 : Below w.heap.size w w4 := (h.bel.trans (hW.mono h.bel.size)).grown hg (Nat.le_trans h.bel.size hW.size) fun g hv => by have := (hlo g hv).1; have := h.lo; omega
    exact h1.setCell (p := ⟨rb, 1, none⟩) (Nat.le_of_lt h.lo) _
  · simp [World.setCell, Array.getElem?_modify, hrb]
  · rw [ecells_snoc]
    exact ownsRow_setCell_below ho (by show rb < rb + 1; omega) _
theorem news_two (w : World) (x y : Value) (t : TypeId) (H : Nat) (hH : w.heap.size = H) : ∀ j u, [x, y][j]? = some u → (w.alloc (.cells #[x, y] t)).drew.cell? ((⟨H, 0, none⟩ : Addr).add j) = some u := by
  subst hH
  intro j u hj
  match j, hj with
  | 0, hj => simp at hj; subst hj; simp [Addr.add]
  | 1, hj => simp at hj; subst hj; simp [Addr.add]
theorem one_two (x y : Int) : ∀ u ∈ [Value.int .i64 x, Value.int .i64 y], u.oneCell' = true := by
  intro u hu
  simp at hu
  rcases hu with rfl | rfl <;> rfl
end Go.Proofs.Ytgbdnpmpkilcoaa

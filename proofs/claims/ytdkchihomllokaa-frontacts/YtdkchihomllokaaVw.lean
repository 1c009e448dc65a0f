/-
  A view in memory: what its cells hold. No conditions.
-/
import Derived.Test.YtdkchihomllokaaIx
import Derived.Test.YtdkchihomllokaaPl
import Derived.Test.YtdkchihomllokaaMn
namespace Go.Proofs.Ytdkchihomllokaa
open Go.RowKit
set_option linter.unusedVariables false
set_option maxRecDepth 20000

/-- a slice of slices of ints: the k-th holds L k -/
def Rs (w : World) (a : Option Addr) (n : Nat) (L : Nat → List Nat) : Prop :=
  ∀ k, k < n → ∃ g off ak ck, a = some ⟨g, off, none⟩ ∧ g < w.heap.size ∧ w.cell? ⟨g, off + k, none⟩ = some (.slice ak (L k).length ck) ∧ (L k).length ≤ ck ∧ (ak = none → ck = 0) ∧ Ns w ak (L k).length (toIs (L k))
theorem Rs.below {w w' : World} {a : Option Addr} {n : Nat} {L : Nat → List Nat} (h : Rs w a n L) (hb : Below w.heap.size w w') : Rs w' a n L := by
  intro k hk
  obtain ⟨g, off, ak, ck, ha, hg, c0, hl, hno, hN⟩ := h k hk
  exact ⟨g, off, ak, ck, ha, Nat.lt_of_lt_of_le hg hb.size, by rw [hb.cell (p := ⟨g, off + k, none⟩) hg]; exact c0, hl, hno, hN.below hb⟩

/-- a graph of plain numbers -/
structure Plain (V : Nat) (es : List (Nat × Nat)) : Prop where
  v1 : 1 ≤ V
  v64 : V ≤ 64
  n128 : es.length ≤ 128
  ends : ∀ e ∈ es, e.1 < V ∧ e.2 < V
theorem Plain.at {V : Nat} {es : List (Nat × Nat)} (h : Plain V es) {i : Nat} (hi : i < es.length) : (Pl.at' es i).1 < V ∧ (Pl.at' es i).2 < V := h.ends _ (Pl.at_mem hi)

/-- a view at block b: of these edges, with this order -/
structure Vw (w : World) (b V : Nat) (es : List (Nat × Nat)) (ea : Option Addr) (ec : Nat) (oa : Option Addr) (oc : Nat) (ia : Option Addr) (ic : Nat) (ra : Option Addr) (rc : Nat) (ord : List Nat) : Prop where
  c0 : w.cell? ⟨b, 0, none⟩ = some (.int .i64 V)
  c1 : w.cell? ⟨b, 1, none⟩ = some (.slice ea es.length ec)
  c2 : w.cell? ⟨b, 2, none⟩ = some (.slice oa V oc)
  c3 : w.cell? ⟨b, 3, none⟩ = some (.slice ia V ic)
  c4 : w.cell? ⟨b, 4, none⟩ = some (.slice ra ord.length rc)
  rcap : ord.length ≤ rc ∧ (ra = none → rc = 0)
  edges : Es 0 w ea es.length (toI es)
  outs : Rs w oa V (Pl.outs es)
  ins : Rs w ia V (Pl.ins es)
  order : Ns w ra ord.length (toIs ord)
theorem Vw.lt {w : World} {b V : Nat} {es : List (Nat × Nat)} {ea : Option Addr} {ec : Nat} {oa : Option Addr} {oc : Nat} {ia : Option Addr} {ic : Nat} {ra : Option Addr} {rc : Nat} {ord : List Nat} (h : Vw w b V es ea ec oa oc ia ic ra rc ord) : b < w.heap.size :=
  World.block_lt_of_cell? w ⟨b, 0, none⟩ h.c0
theorem Vw.below {w w' : World} {b V : Nat} {es : List (Nat × Nat)} {ea : Option Addr} {ec : Nat} {oa : Option Addr} {oc : Nat} {ia : Option Addr} {ic : Nat} {ra : Option Addr} {rc : Nat} {ord : List Nat} (h : Vw w b V es ea ec oa oc ia ic ra rc ord) (hb : Below w.heap.size w w') : Vw w' b V es ea ec oa oc ia ic ra rc ord := by
  have hl := h.lt
  exact ⟨by rw [hb.cell (p := ⟨b, 0, none⟩) hl]; exact h.c0, by rw [hb.cell (p := ⟨b, 1, none⟩) hl]; exact h.c1, by rw [hb.cell (p := ⟨b, 2, none⟩) hl]; exact h.c2, by rw [hb.cell (p := ⟨b, 3, none⟩) hl]; exact h.c3, by rw [hb.cell (p := ⟨b, 4, none⟩) hl]; exact h.c4,
    h.rcap, h.edges.below hb, h.outs.below hb, h.ins.below hb, h.order.below hb⟩

/-- an edge's cells, by its number -/
theorem es_at {B : Nat} {w : World} {a : Option Addr} {es : List (Nat × Nat)} (h : Es B w a es.length (toI es)) {i : Nat} (hi : i < es.length) :
    ∃ g off, a = some ⟨g, off, none⟩ ∧ g < w.heap.size ∧ w.cell? ⟨g, off + i * 2, none⟩ = some (.int .i64 ((Pl.at' es i).1 : Nat)) ∧ w.cell? ⟨g, off + i * 2 + 1, none⟩ = some (.int .i64 ((Pl.at' es i).2 : Nat)) := by
  obtain ⟨_, _, h3⟩ := h
  obtain ⟨g, off, ha, _, hg, c0, c1⟩ := h3 i hi
  rw [toI_getD] at c0 c1
  exact ⟨g, off, ha, hg, c0, c1⟩
/-- a number's cell -/
theorem ns_at {w : World} {a : Option Addr} {xs : List Nat} (h : Ns w a xs.length (toIs xs)) {i : Nat} (hi : i < xs.length) :
    ∃ g off, a = some ⟨g, off, none⟩ ∧ g < w.heap.size ∧ w.cell? ⟨g, off + i, none⟩ = some (.int .i64 ((xs.getD i 0 : Nat))) := by
  obtain ⟨_, _, h3⟩ := h
  obtain ⟨g, off, ha, hg, c0⟩ := h3 i hi
  rw [toIs_getD] at c0
  exact ⟨g, off, ha, hg, c0⟩
end Go.Proofs.Ytdkchihomllokaa

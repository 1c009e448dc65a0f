/-
  What a round of the reader's method graph leaves of memory: lemmas outside the walk.
-/
import Derived.Test.YtdcfhdpbpfgohaaDoorSmall
namespace Go.Proofs.YtdcfhdpbpfgohaaDoor
open Go.RowKit
set_option linter.unusedVariables false

/-- Below B nothing but the block b has turned. -/
structure Nb (b B : Nat) (w w' : World) : Prop where
  os : w'.os = w.os
  tape : w'.tape = w.tape
  output : w'.output = w.output
  size : w.heap.size ≤ w'.heap.size
  block : ∀ k, k < B → k ≠ b → w'.heap[k]? = w.heap[k]?
theorem Nb.refl (b B : Nat) (w : World) : Nb b B w w := ⟨rfl, rfl, rfl, Nat.le_refl _, fun _ _ _ => rfl⟩
theorem Nb.trans {b B : Nat} {u v w : World} (h : Nb b B u v) (k : Nb b B v w) : Nb b B u w :=
  ⟨k.os.trans h.os, k.tape.trans h.tape, k.output.trans h.output, Nat.le_trans h.size k.size, fun i hi hb => (k.block i hi hb).trans (h.block i hi hb)⟩
theorem Nb.adv {b B : Nat} {u v w : World} (h : Nb b B u v) (k : Adv b v w) : Nb b B u w :=
  h.trans ⟨k.os, k.tape, k.output, Nat.le_of_eq k.size.symm, fun i _ hb => k.block i hb⟩
theorem Nb.ofBelow {b B : Nat} {u v w : World} (h : Nb b B u v) (k : Below B v w) : Nb b B u w :=
  h.trans ⟨k.os, k.tape, k.output, k.size, fun i hi _ => k.block i hi⟩
theorem Nb.below {b B B' : Nat} {u w : World} (h : Nb b B u w) (hB : B' ≤ B) (hb : B' ≤ b) : Below B' u w :=
  ⟨h.os, h.tape, h.output, h.size, fun k hk => h.block k (by omega) (by omega)⟩
theorem Nb.mono {b B B' : Nat} {u w : World} (h : Nb b B u w) (hB : B' ≤ B) : Nb b B' u w :=
  ⟨h.os, h.tape, h.output, h.size, fun k hk => h.block k (by omega)⟩

/-- edges as cells -/
def ecells (es : List (Nat × Nat)) : List Value := es.flatMap fun e => [.int .i64 e.1, .int .i64 e.2]
theorem ecells_snoc (es : List (Nat × Nat)) (x y : Nat) : ecells (es ++ [(x, y)]) = ecells es ++ [.int .i64 x, .int .i64 y] := by
  simp [ecells]
theorem ecells_length (es : List (Nat × Nat)) : (ecells es).length = es.length * 2 := by
  induction es with
  | nil => rfl
  | cons e es ih =>
    have : ecells (e :: es) = [Value.int .i64 e.1, Value.int .i64 e.2] ++ ecells es := by simp [ecells]
    rw [this, List.length_append, ih]
    simp
    omega
theorem ecells_at (es : List (Nat × Nat)) : ∀ k, k < es.length → (ecells es)[k * 2]? = some (.int .i64 (es.getD k (0, 0)).1) ∧ (ecells es)[k * 2 + 1]? = some (.int .i64 (es.getD k (0, 0)).2) := by
  induction es with
  | nil => intro k hk; simp at hk
  | cons e es ih =>
    intro k hk
    have h2 : ecells (e :: es) = Value.int .i64 e.1 :: Value.int .i64 e.2 :: ecells es := by simp [ecells]
    rw [h2]
    cases k with
    | zero => simp
    | succ k =>
      have := ih k (by simpa using hk)
      rw [show (k + 1) * 2 = k * 2 + 1 + 1 by omega]
      simpa using this

def toI (es : List (Nat × Nat)) : List (Int × Int) := es.map fun e => ((e.1 : Int), (e.2 : Int))
theorem toI_length (es : List (Nat × Nat)) : (toI es).length = es.length := by simp [toI]
theorem toI_getD (es : List (Nat × Nat)) (k : Nat) : (toI es).getD k (0, 0) = (((es.getD k (0, 0)).1 : Int), ((es.getD k (0, 0)).2 : Int)) := by
  simp only [toI, List.getD_eq_getElem?_getD, List.getElem?_map]
  cases es[k]? <;> simp

/-- a row that is owned holds these edges -/
theorem es_of_owns {w : World} {base : Nat} {v : Value} {n : Nat} {es : List (Nat × Nat)} (h : w.ownsRow base 38 2 v n (ecells es)) (hl : es.length = n) (hn : n ≤ 140737488355328) :
    ∃ a cap, v = .slice a n cap ∧ Es base w a n (toI es) := by
  rcases h.2 with ⟨rfl, rfl⟩ | ⟨g, cap, cur, rfl, hb, hg, h1, h2, h3, h4⟩
  · exact ⟨none, 0, rfl, by simp [toI, hl], by omega, fun k hk => by omega⟩
  · refine ⟨_, cap, rfl, by rw [toI_length, hl], hn, fun k hk => ⟨g, 0, rfl, hb, (Array.getElem?_eq_some_iff.1 hg).1, ?_, ?_⟩⟩
    · rw [Nat.zero_add, h.cellAt (k * 2) (by omega), (ecells_at es k (by omega)).1, toI_getD]
    · rw [Nat.zero_add, h.cellAt (k * 2 + 1) (by omega), (ecells_at es k (by omega)).2, toI_getD]

/-- what holds at a round's head -/
structure GRel (w wr : World) (b : Nat) (s : ByteArray) (j : Nat) (V : Int) (v' : Value) (k : Nat) (es : List (Nat × Nat)) : Prop where
  rd : Rd wr b s j
  nb : Nb b w.heap.size w wr
  sz : w.heap.size + 2 ≤ wr.heap.size
  rb : wr.heap[w.heap.size]? = some (.cells #[.int .i64 0, .slice none 0 0] 24)
  gb : wr.heap[w.heap.size + 1]? = some (.cells #[.int .i64 V, v'] 24)
  own : wr.ownsRow (w.heap.size + 2) 38 2 v' k (ecells es)
  len : es.length = k

theorem ownsRow_adv {w w' : World} {b base : Nat} {e : TypeId} {size : Nat} {v : Value} {n : Nat} {xs : List Value} (h : w.ownsRow base e size v n xs) (ha : Adv b w w') (hb : b < base) : w'.ownsRow base e size v n xs := by
  refine h.kept (row := some b) ⟨ha.os, ha.tape, ha.output, Nat.le_of_eq ha.size.symm, fun k hk hne => ha.block k (fun he => hne (by rw [he]))⟩ ?_
  cases hv : v.ownBlock with
  | none => exact .inl rfl
  | some g => exact .inr (fun he => by have := (h.lt g hv).1; cases he; omega)

theorem GRel.adv {w wr w2 : World} {b : Nat} {s : ByteArray} {j j2 : Nat} {V : Int} {v' : Value} {k : Nat} {es : List (Nat × Nat)} (h : GRel w wr b s j V v' k es) (hb : b < w.heap.size) (ha : Adv b wr w2) (hr : Rd w2 b s j2) :
    GRel w w2 b s j2 V v' k es :=
  ⟨hr, h.nb.adv ha, by rw [ha.size]; exact h.sz, by rw [ha.block _ (by omega)]; exact h.rb, by rw [ha.block _ (by omega)]; exact h.gb, ownsRow_adv h.own ha (by omega), h.len⟩

theorem GRel.cells {w wr : World} {b : Nat} {s : ByteArray} {j : Nat} {V : Int} {v' : Value} {k : Nat} {es : List (Nat × Nat)} (h : GRel w wr b s j V v' k es) :
    wr.cell? ⟨w.heap.size, 0, none⟩ = some (.int .i64 0) ∧ wr.cell? ⟨w.heap.size, 1, none⟩ = some (.slice none 0 0) ∧ wr.frozen? ⟨w.heap.size, 0, none⟩ = false ∧ wr.frozen? ⟨w.heap.size, 1, none⟩ = false ∧
    wr.cell? ⟨w.heap.size + 1, 0, none⟩ = some (.int .i64 V) ∧ wr.cell? ⟨w.heap.size + 1, 1, none⟩ = some v' ∧ wr.frozen? ⟨w.heap.size + 1, 1, none⟩ = false := by
  have h1 := h.rb
  have h2 := h.gb
  simp [World.cell?, World.frozen?, h1, h2]

theorem GRel.step {w wr w4 : World} {b : Nat} {s : ByteArray} {j : Nat} {V : Int} {v' v2 : Value} {k : Nat} {es : List (Nat × Nat)} (h : GRel w wr b s j V v' k es) (hb : b < w.heap.size) {x y : Nat}
    (hg : (wr.alloc (.cells #[.int .i64 x, .int .i64 y] 38)).grownBy w4 v'.ownBlock) (ho : w4.ownsRow (w.heap.size + 2) 38 2 v2 (k + 1) (ecells es ++ [.int .i64 x, .int .i64 y])) :
    GRel w (w4.setCell ⟨w.heap.size + 1, 1, none⟩ v2) b s j V v2 (k + 1) (es ++ [(x, y)]) := by
  have hsz := h.sz
  have hlt : ∀ g, v'.ownBlock = some g → w.heap.size + 2 ≤ g := fun g hv => (h.own.lt g hv).1
  have hblk : ∀ i, i < w.heap.size + 2 → w4.heap[i]? = wr.heap[i]? := by
    intro i hi
    rw [hg.block i (by simp; omega) (fun he => by have := hlt i he.symm; omega)]
    exact Below.heap_alloc _ _ _ (by omega)
  have hs2 : wr.heap.size + 1 ≤ w4.heap.size := by have := hg.size; simpa using this
  have hset : ∀ i, i ≠ w.heap.size + 1 → (w4.setCell ⟨w.heap.size + 1, 1, none⟩ v2).heap[i]? = w4.heap[i]? := fun i hi => Below.heap_setCell _ _ _ _ hi
  refine ⟨?_, ?_, ?_, ?_, ?_, ?_, ?_⟩
  · have := h.rd
    unfold Rd at this ⊢
    rw [hset b (by omega), hblk b (by omega)]
    exact this
  · refine h.nb.trans ⟨hg.os, hg.tape, hg.output, ?_, fun i hi _ => ?_⟩
    · simp [World.setCell]; omega
    · rw [hset i (by omega), hblk i (by omega)]
  · simp [World.setCell]; omega
  · rw [hset _ (by omega), hblk _ (by omega)]
    exact h.rb
  · have := h.gb
    rw [← hblk _ (by omega)] at this
    simp [World.setCell, Array.getElem?_modify, this]
  · rw [ecells_snoc]
    exact ownsRow_setCell_below ho (by simp) _
  · simp [h.len]

theorem GRel.start {w w1 : World} {b : Nat} {s : ByteArray} {j : Nat} {V : Int} (hb : b < w.heap.size) (ha : Adv b (w.alloc (.cells #[.int .i64 0, .slice none 0 0] 24)) w1) (hr : Rd w1 b s j) :
    GRel w (w1.alloc (.cells #[.int .i64 V, .slice none 0 0] 24)) b s j V (.slice none 0 0) 0 [] := by
  have hz : w1.heap.size = w.heap.size + 1 := by rw [ha.size]; simp
  refine ⟨?_, ?_, by simp; omega, ?_, ?_, World.ownsRow_nil _ _ _ _, rfl⟩
  · unfold Rd at hr ⊢
    rw [Below.heap_alloc _ _ _ (by omega)]
    exact hr
  · refine ⟨ha.os, ha.tape, ha.output, by simp; omega, fun i hi hne => ?_⟩
    rw [Below.heap_alloc _ _ _ (by omega), ha.block i hne, Below.heap_alloc _ _ _ hi]
  · rw [Below.heap_alloc _ _ _ (by omega), ha.block _ (by omega)]
    exact (MapKept.heap_alloc w _).1
  · rw [← hz]
    exact (MapKept.heap_alloc w1 _).1
end Go.Proofs.YtdcfhdpbpfgohaaDoor

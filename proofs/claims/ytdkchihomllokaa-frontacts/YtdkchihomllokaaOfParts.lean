/-
  What a round of Of leaves of memory: rows that grow, each in a block of its own; lemmas outside the walk. No conditions beyond each theorem's own.
-/
import Derived.Test.YtdkchihomllokaaPeel
import Derived.Test.YtdkchihomllokaaMay
import Derived.Test.YtdkchihomllokaaCl
import Derived.Deep.RegionHeldLaw
namespace Go.Proofs.Ytdkchihomllokaa
open Go.RowKit
set_option linter.unusedVariables false
set_option maxRecDepth 20000

def upd {α : Type} (f : Nat → α) (j : Nat) (v : α) (i : Nat) : α := if i = j then v else f i
theorem upd_same {α : Type} (f : Nat → α) (j : Nat) (v : α) : upd f j v j = v := if_pos rfl
theorem upd_other {α : Type} (f : Nat → α) {j i : Nat} (v : α) (h : i ≠ j) : upd f j v i = f i := if_neg h

/-- rows of numbers, no two in one block -/
structure Rows (w : World) (base N : Nat) (R : Nat → Value) (L : Nat → List Nat) : Prop where
  own : ∀ j, j < N → w.ownsRow base 3 1 (R j) (L j).length (zcells (toIs (L j)))
  apart : ∀ i j, i < N → j < N → i ≠ j → ∀ g, (R i).ownBlock = some g → (R j).ownBlock ≠ some g

theorem owns_block {w : World} {base : Nat} {e : TypeId} {size : Nat} {v : Value} {n : Nat} {xs : List Value} (h : w.ownsRow base e size v n xs) {g : Nat} (hg : v.ownBlock = some g) : ∃ cur, w.heap[g]? = some (.cells cur e (0, 0)) := by
  rcases h.2 with ⟨rfl, _⟩ | ⟨g', cap, cur, rfl, hb, hgg, _⟩
  · simp [Value.ownBlock] at hg
  · simp [Value.ownBlock] at hg
    subst hg
    exact ⟨cur, hgg⟩
/-- a block of another element type is no owned row's -/
theorem owns_ne {w : World} {base : Nat} {e : TypeId} {size : Nat} {v : Value} {n : Nat} {xs : List Value} (h : w.ownsRow base e size v n xs) {b : Nat} {cur : Array Value} {t : TypeId} {fz : Nat × Nat} (hb : w.heap[b]? = some (.cells cur t fz)) (hne : e ≠ t) : v.ownBlock ≠ some b := by
  intro hv
  obtain ⟨cur', h'⟩ := owns_block h hv
  rw [hb] at h'
  cases h'
  exact hne rfl
theorem owns_keep {w w' : World} {base : Nat} {e : TypeId} {size : Nat} {v : Value} {n : Nat} {xs : List Value} (h : w.ownsRow base e size v n xs) (hk : ∀ g, v.ownBlock = some g → w'.heap[g]? = w.heap[g]?) : w'.ownsRow base e size v n xs := by
  refine ⟨h.1, ?_⟩
  rcases h.2 with hn | ⟨g, cap, cur, rfl, hb, hgg, rest⟩
  · exact .inl hn
  · exact .inr ⟨g, cap, cur, rfl, hb, by rw [hk g rfl]; exact hgg, rest⟩

theorem Rows.keep {w w' : World} {base N : Nat} {R : Nat → Value} {L : Nat → List Nat} (h : Rows w base N R L) (hk : ∀ j g, j < N → (R j).ownBlock = some g → w'.heap[g]? = w.heap[g]?) : Rows w' base N R L :=
  ⟨fun j hj => owns_keep (h.own j hj) (fun g hg => hk j g hj hg), h.apart⟩

theorem Rows.append {w W w4 : World} {base N : Nat} {R : Nat → Value} {L : Nat → List Nat} {j : Nat} {v' : Value} {k : Nat} (h : Rows w base N R L) (hj : j < N) (hW : ∀ i, i < w.heap.size → W.heap[i]? = w.heap[i]?) (hs : w.heap.size ≤ W.heap.size)
    (hg : W.grownBy w4 (R j).ownBlock) (ho : w4.ownsRow base 3 1 v' ((L j).length + 1) (zcells (toIs (L j ++ [k])))) (hat : v'.ownBlock = (R j).ownBlock ∨ v'.ownBlock = some W.heap.size) :
    Rows w4 base N (upd R j v') (upd L j (L j ++ [k])) := by
  constructor
  · intro i hi
    by_cases hij : i = j
    · subst hij
      rw [upd_same, upd_same, List.length_append]
      exact ho
    · rw [upd_other _ _ hij, upd_other _ _ hij]
      refine owns_keep (h.own i hi) fun g hgi => ?_
      have hlt := ((h.own i hi).lt g hgi).2
      rw [hg.block g (by omega) (fun he => h.apart i j hi hj hij g hgi he.symm), hW g hlt]
  · intro a b ha hb hab g hga
    by_cases haj : a = j
    · subst haj
      rw [upd_same] at hga
      rw [upd_other _ _ (Ne.symm hab)]
      intro hgb
      rcases hat with he | he
      · rw [he] at hga
        exact h.apart a b ha hb hab g hga hgb
      · rw [he] at hga
        have := ((h.own b hb).lt g hgb).2
        simp only [Option.some.injEq] at hga
        omega
    · rw [upd_other _ _ haj] at hga
      by_cases hbj : b = j
      · subst hbj
        rw [upd_same]
        intro hgb
        rcases hat with he | he
        · rw [he] at hgb
          exact h.apart a b ha hb hab g hga hgb
        · rw [he] at hgb
          have := ((h.own a ha).lt g hga).2
          simp only [Option.some.injEq] at hgb
          omega
      · rw [upd_other _ _ hbj]
        exact h.apart a b ha hb hab g hga

/-- a table: a block of so many slices -/
def Tab (w : World) (tg V : Nat) (R : Nat → Value) : Prop := ∃ arr, w.heap[tg]? = some (.cells arr 34 (0, 0)) ∧ arr.size = V ∧ ∀ x, x < V → arr[x]? = some (R x)
theorem Tab.cell {w : World} {tg V : Nat} {R : Nat → Value} (h : Tab w tg V R) {x : Nat} (hx : x < V) : w.cell? ⟨tg, x, none⟩ = some (R x) := by
  obtain ⟨arr, h1, h2, h3⟩ := h
  simp [World.cell?, h1, h3 x hx]
theorem Tab.fz {w : World} {tg V : Nat} {R : Nat → Value} (h : Tab w tg V R) (x : Nat) : w.frozen? ⟨tg, x, none⟩ = false := by
  obtain ⟨arr, h1, h2, h3⟩ := h
  simp [World.frozen?, h1]
theorem Tab.keep {w w' : World} {tg V : Nat} {R : Nat → Value} (h : Tab w tg V R) (he : w'.heap[tg]? = w.heap[tg]?) : Tab w' tg V R := by
  obtain ⟨arr, h1, h2, h3⟩ := h
  exact ⟨arr, by rw [he]; exact h1, h2, h3⟩
theorem Tab.set {w : World} {tg V : Nat} {R : Nat → Value} (h : Tab w tg V R) (x : Nat) (v : Value) : Tab (w.setCell ⟨tg, x, none⟩ v) tg V (upd R x v) := by
  obtain ⟨arr, h1, h2, h3⟩ := h
  refine ⟨arr.setIfInBounds x v, by simp [World.setCell, Array.getElem?_modify, h1], by simp [h2], fun y hy => ?_⟩
  rw [Array.getElem?_setIfInBounds]
  by_cases hxy : y = x
  · subst hxy
    rw [upd_same, if_pos rfl]
    simp [h2, hy]
  · rw [upd_other _ _ hxy, if_neg (fun h => hxy h.symm)]
    exact h3 y hy
theorem Tab.lt {w : World} {tg V : Nat} {R : Nat → Value} (h : Tab w tg V R) : tg < w.heap.size := by
  obtain ⟨arr, h1, h2, h3⟩ := h
  exact (Array.getElem?_eq_some_iff.1 h1).1
theorem Tab.ne {w : World} {tg V : Nat} {R : Nat → Value} (h : Tab w tg V R) {base : Nat} {e : TypeId} {size : Nat} {v : Value} {n : Nat} {xs : List Value} (ho : w.ownsRow base e size v n xs) (hne : e ≠ 34) : v.ownBlock ≠ some tg := by
  obtain ⟨arr, h1, h2, h3⟩ := h
  exact owns_ne ho h1 hne

/-- of the first k edges those from x, and, behind the V-th, those to x - V -/
def half (V : Nat) (es : List (Nat × Nat)) (ko ki : Nat) (j : Nat) : List Nat := if j < V then Pl.sel es (fun e => e.1 == j) ko else Pl.sel es (fun e => e.2 == j - V) ki

/-- what holds at a round's head, and between its two halves -/
structure ORel (w wr : World) (b og ig V : Nat) (es : List (Nat × Nat)) (ev : Value) (R : Nat → Value) (ko ki : Nat) : Prop where
  bel : Below w.heap.size w wr
  blo : w.heap.size ≤ b
  olo : w.heap.size ≤ og
  ilo : w.heap.size ≤ ig
  vb : wr.heap[b]? = some (.cells #[.int .i64 V, ev, .slice (some ⟨og, 0, none⟩) V V, .slice (some ⟨ig, 0, none⟩) V V, .slice none 0 0] 90 (0, 0))
  ed : wr.ownsRow w.heap.size 62 2 ev es.length (ecells (toI es))
  ot : Tab wr og V R
  it : Tab wr ig V (fun x => R (V + x))
  ne : og ≠ ig
  rows : Rows wr w.heap.size (V + V) R (half V es ko ki)

theorem half_out {V : Nat} {es : List (Nat × Nat)} {k x y : Nat} (h : Pl.at' es k = (x, y)) (hx : x < V) : upd (half V es k k) x (half V es k k x ++ [k]) = half V es (k + 1) k := by
  funext j
  unfold upd half
  by_cases hj : j < V
  · simp only [hj, hx, if_true]
    rw [Pl.sel_succ, h]
    by_cases hjx : j = x
    · subst hjx
      simp
    · simp [hjx, Ne.symm hjx]
  · rw [if_neg (by omega), if_neg hj, if_neg hj]
theorem half_in {V : Nat} {es : List (Nat × Nat)} {k x y : Nat} (h : Pl.at' es k = (x, y)) (hy : y < V) : upd (half V es (k + 1) k) (V + y) (half V es (k + 1) k (V + y) ++ [k]) = half V es (k + 1) (k + 1) := by
  funext j
  unfold upd half
  by_cases hj : j < V
  · rw [if_neg (by omega), if_pos hj, if_pos hj]
  · by_cases hjx : j = V + y
    · subst hjx
      rw [if_pos rfl, if_neg (by omega), if_neg (by omega), Pl.sel_succ, h]
      simp
    · rw [if_neg hjx, if_neg hj, if_neg hj, Pl.sel_succ, h, if_neg (by simp; omega), List.append_nil]

theorem heap_set_other (w : World) (p : Addr) (v : Value) {i : Nat} (h : i ≠ p.block) : (w.setCell p v).heap[i]? = w.heap[i]? := Below.heap_setCell _ _ _ _ h

theorem ORel.block_b {w wr : World} {b og ig V : Nat} {es : List (Nat × Nat)} {ev : Value} {R : Nat → Value} {ko ki : Nat} (h : ORel w wr b og ig V es ev R ko ki) {j : Nat} (hj : j < V + V) : (R j).ownBlock ≠ some b :=
  owns_ne (h.rows.own j hj) h.vb (by decide)
theorem ORel.block_og {w wr : World} {b og ig V : Nat} {es : List (Nat × Nat)} {ev : Value} {R : Nat → Value} {ko ki : Nat} (h : ORel w wr b og ig V es ev R ko ki) {j : Nat} (hj : j < V + V) : (R j).ownBlock ≠ some og :=
  h.ot.ne (h.rows.own j hj) (by decide)
theorem ORel.block_ig {w wr : World} {b og ig V : Nat} {es : List (Nat × Nat)} {ev : Value} {R : Nat → Value} {ko ki : Nat} (h : ORel w wr b og ig V es ev R ko ki) {j : Nat} (hj : j < V + V) : (R j).ownBlock ≠ some ig :=
  h.it.ne (h.rows.own j hj) (by decide)
theorem ORel.b_lt {w wr : World} {b og ig V : Nat} {es : List (Nat × Nat)} {ev : Value} {R : Nat → Value} {ko ki : Nat} (h : ORel w wr b og ig V es ev R ko ki) : b < wr.heap.size := (Array.getElem?_eq_some_iff.1 h.vb).1
theorem ORel.b_og {w wr : World} {b og ig V : Nat} {es : List (Nat × Nat)} {ev : Value} {R : Nat → Value} {ko ki : Nat} (h : ORel w wr b og ig V es ev R ko ki) : b ≠ og ∧ b ≠ ig := by
  obtain ⟨arr, h1, _⟩ := h.ot
  obtain ⟨arr2, h2, _⟩ := h.it
  have hv := h.vb
  constructor
  · intro e
    rw [← e, hv] at h1
    cases h1
  · intro e
    rw [← e, hv] at h2
    cases h2

/-- a row has grown: all else is as it was -/
theorem ORel.grown {w wr W w4 : World} {b og ig V : Nat} {es : List (Nat × Nat)} {ev : Value} {R : Nat → Value} {ko ki : Nat} (h : ORel w wr b og ig V es ev R ko ki) {j : Nat} (hj : j < V + V) {v' : Value} {k : Nat}
    (hW : Below wr.heap.size wr W) (hg : W.grownBy w4 (R j).ownBlock) (ho : w4.ownsRow w.heap.size 3 1 v' ((half V es ko ki j).length + 1) (zcells (toIs (half V es ko ki j ++ [k])))) (hat : v'.ownBlock = (R j).ownBlock ∨ v'.ownBlock = some W.heap.size) :
    Below w.heap.size w w4 ∧ w4.heap[b]? = wr.heap[b]? ∧ w4.ownsRow w.heap.size 62 2 ev es.length (ecells (toI es)) ∧ Tab w4 og V R ∧ Tab w4 ig V (fun x => R (V + x)) ∧ Rows w4 w.heap.size (V + V) (upd R j v') (upd (half V es ko ki) j (half V es ko ki j ++ [k])) := by
  have hblk : ∀ i, i < wr.heap.size → (R j).ownBlock ≠ some i → w4.heap[i]? = wr.heap[i]? := fun i hi hne => by
    rw [hg.block i (Nat.lt_of_lt_of_le hi hW.size) (fun he => hne he.symm), hW.block i hi]
  refine ⟨?_, hblk b h.b_lt (h.block_b hj), ?_, h.ot.keep (hblk og h.ot.lt (h.block_og hj)), h.it.keep (hblk ig h.it.lt (h.block_ig hj)), h.rows.append hj (fun i hi => hW.block i hi) hW.size hg ho hat⟩
  · exact (h.bel.trans (hW.mono h.bel.size)).grown hg (Nat.le_trans h.bel.size hW.size) fun k hk => ((h.rows.own j hj).lt k hk).1
  · refine owns_keep h.ed fun g hge => ?_
    refine hblk g (h.ed.lt g hge).2 fun he => ?_
    obtain ⟨c1, h1⟩ := owns_block h.ed hge
    obtain ⟨c2, h2⟩ := owns_block (h.rows.own j hj) he
    rw [h1] at h2
    cases h2

theorem ORel.stepOut {w wr W w4 : World} {b og ig V : Nat} {es : List (Nat × Nat)} {ev : Value} {R : Nat → Value} {k x y : Nat} (h : ORel w wr b og ig V es ev R k k) (hxy : Pl.at' es k = (x, y)) (hx : x < V) {v' : Value}
    (hW : Below wr.heap.size wr W) (hg : W.grownBy w4 (R x).ownBlock) (ho : w4.ownsRow w.heap.size 3 1 v' ((half V es k k x).length + 1) (zcells (toIs (half V es k k x ++ [k])))) (hat : v'.ownBlock = (R x).ownBlock ∨ v'.ownBlock = some W.heap.size) :
    ORel w (w4.setCell ⟨og, x, none⟩ v') b og ig V es ev (upd R x v') (k + 1) k := by
  obtain ⟨h1, h2, h3, h4, h5, h6⟩ := h.grown (j := x) (by omega) hW hg ho hat
  rw [half_out hxy hx] at h6
  refine ⟨h1.setCell (p := ⟨og, x, none⟩) h.olo _, h.blo, h.olo, h.ilo, ?_, ?_, h4.set x v', ?_, h.ne, ?_⟩
  · rw [heap_set_other _ _ _ h.b_og.1, h2]
    exact h.vb
  · exact owns_keep h3 fun g hge => heap_set_other _ _ _ (fun e => h4.ne h3 (by decide) (by rw [hge]; exact congrArg some e))
  · have hf : (fun t => upd R x v' (V + t)) = fun t => R (V + t) := by
      funext t
      exact upd_other _ _ (by omega)
    rw [hf]
    exact h5.keep (heap_set_other _ _ _ (Ne.symm h.ne))
  · exact h6.keep fun j g hj hgj => heap_set_other _ _ _ (fun e => h4.ne (h6.own j hj) (by decide) (by rw [hgj]; exact congrArg some e))

theorem ORel.stepIn {w wr W w4 : World} {b og ig V : Nat} {es : List (Nat × Nat)} {ev : Value} {R : Nat → Value} {k x y : Nat} (h : ORel w wr b og ig V es ev R (k + 1) k) (hxy : Pl.at' es k = (x, y)) (hy : y < V) {v' : Value}
    (hW : Below wr.heap.size wr W) (hg : W.grownBy w4 (R (V + y)).ownBlock) (ho : w4.ownsRow w.heap.size 3 1 v' ((half V es (k + 1) k (V + y)).length + 1) (zcells (toIs (half V es (k + 1) k (V + y) ++ [k])))) (hat : v'.ownBlock = (R (V + y)).ownBlock ∨ v'.ownBlock = some W.heap.size) :
    ORel w (w4.setCell ⟨ig, y, none⟩ v') b og ig V es ev (upd R (V + y) v') (k + 1) (k + 1) := by
  obtain ⟨h1, h2, h3, h4, h5, h6⟩ := h.grown (j := V + y) (by omega) hW hg ho hat
  rw [half_in hxy hy] at h6
  refine ⟨h1.setCell (p := ⟨ig, y, none⟩) h.ilo _, h.blo, h.olo, h.ilo, ?_, ?_, ?_, ?_, h.ne, ?_⟩
  · rw [heap_set_other _ _ _ h.b_og.2, h2]
    exact h.vb
  · exact owns_keep h3 fun g hge => heap_set_other _ _ _ (fun e => h5.ne h3 (by decide) (by rw [hge]; exact congrArg some e))
  · have h7 : Tab (w4.setCell ⟨ig, y, none⟩ v') og V R := h4.keep (heap_set_other _ _ _ h.ne)
    obtain ⟨arr, a1, a2, a3⟩ := h7
    exact ⟨arr, a1, a2, fun t ht => by rw [a3 t ht, upd_other _ _ (by omega)]⟩
  · obtain ⟨arr, a1, a2, a3⟩ := h5.set y v'
    refine ⟨arr, a1, a2, fun t ht => ?_⟩
    rw [a3 t ht]
    show _ = some (upd R (V + y) v' (V + t))
    by_cases hty : t = y
    · subst hty
      rw [upd_same, upd_same]
    · rw [upd_other _ _ hty, upd_other _ _ (by omega)]
  · exact h6.keep fun j g hj hgj => heap_set_other _ _ _ (fun e => h5.ne (h6.own j hj) (by decide) (by rw [hgj]; exact congrArg some e))

/-- a block more, or a draw: nothing has turned -/
theorem ORel.more {w wr W : World} {b og ig V : Nat} {es : List (Nat × Nat)} {ev : Value} {R : Nat → Value} {ko ki : Nat} (h : ORel w wr b og ig V es ev R ko ki) (hW : Below wr.heap.size wr W) : ORel w W b og ig V es ev R ko ki :=
  ⟨h.bel.trans (hW.mono h.bel.size), h.blo, h.olo, h.ilo, by rw [hW.block b h.b_lt]; exact h.vb, owns_keep h.ed fun g hg => hW.block g (h.ed.lt g hg).2, h.ot.keep (hW.block og h.ot.lt), h.it.keep (hW.block ig h.it.lt), h.ne,
    h.rows.keep fun j g hj hg => hW.block g ((h.rows.own j hj).lt g hg).2⟩

theorem ORel.cells {w wr : World} {b og ig V : Nat} {es : List (Nat × Nat)} {ev : Value} {R : Nat → Value} {ko ki : Nat} (h : ORel w wr b og ig V es ev R ko ki) :
    wr.cell? ⟨b, 0, none⟩ = some (.int .i64 V) ∧ wr.cell? ⟨b, 1, none⟩ = some ev ∧ wr.cell? ⟨b, 2, none⟩ = some (.slice (some ⟨og, 0, none⟩) V V) ∧ wr.cell? ⟨b, 3, none⟩ = some (.slice (some ⟨ig, 0, none⟩) V V) ∧ wr.cell? ⟨b, 4, none⟩ = some (.slice none 0 0) ∧ wr.frozen? ⟨b, 4, none⟩ = false := by
  have h1 := h.vb
  simp [World.cell?, World.frozen?, h1]
end Go.Proofs.Ytdkchihomllokaa

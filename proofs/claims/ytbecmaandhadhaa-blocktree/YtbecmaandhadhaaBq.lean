/-
  A block's edges as a graph: without any one vertex the document's Part gives all that is left one number; which edges have been seen; memory of which one block alone is written. No conditions beyond each theorem's own.
-/
import Derived.Test.YtbecmaandhadhaaBp
import Derived.Test.YtbecmaandhadhaaRk0
namespace Go.Proofs.Ytbecmaandhadhaa.pt
open Go.RowKit
set_option linter.unusedVariables false
set_option maxRecDepth 20000

/-- a block's edges -/
def esOf (es : List (Nat × Nat)) (B : List Nat) : List (Nat × Nat) := B.map fun i => es.getD i (0, 0)
/-- which vertices are ends of these edges -/
def inF (es : List (Nat × Nat)) (B : List Nat) (v : Nat) : Bool := B.any fun i => decide (v = (es.getD i (0, 0)).1) || decide (v = (es.getD i (0, 0)).2)
theorem inF_snoc (es : List (Nat × Nat)) (B : List Nat) (i v : Nat) : inF es (B ++ [i]) v = (inF es B v || (decide (v = (es.getD i (0, 0)).1) || decide (v = (es.getD i (0, 0)).2))) := by
  unfold inF
  rw [List.any_append]
  simp
theorem inF_ex {es : List (Nat × Nat)} {B : List Nat} {v : Nat} (hB : ∀ i ∈ B, i < es.length) (h : inF es B v = true) : ∃ i, i ∈ B ∧ Df.Ew es i v := by
  unfold inF at h
  obtain ⟨i, hi, h⟩ := List.any_eq_true.1 h
  simp only [Bool.or_eq_true, decide_eq_true_eq] at h
  refine ⟨i, hi, ?_⟩
  rcases h with h | h
  · exact ⟨_, hB i hi, .inl (by rw [h]; rfl)⟩
  · exact ⟨_, hB i hi, .inr (by rw [h]; rfl)⟩
theorem inF_of {es : List (Nat × Nat)} {B : List Nat} {i u v : Nat} (hi : i ∈ B) (h : Df.En es i u v) : inF es B u = true := by
  unfold inF
  refine List.any_eq_true.2 ⟨i, hi, ?_⟩
  simp only [Bool.or_eq_true, decide_eq_true_eq]
  rcases h.2 with h | h
  · left; rw [show es.getD i (0, 0) = (u, v) from h]
  · right; rw [show es.getD i (0, 0) = (v, u) from h]
/-- which vertices are left out -/
def woF (es : List (Nat × Nat)) (B : List Nat) (gone : Int) (v : Nat) : Bool := !inF es B v || decide ((v : Int) = gone)
theorem wo_false {es : List (Nat × Nat)} {B : List Nat} {gone : Int} {v : Nat} : woF es B gone v = false ↔ inF es B v = true ∧ (v : Int) ≠ gone := by
  unfold woF
  simp
theorem parts_one {V : Nat} {es : List (Nat × Nat)} (hp : Plain V es) (hnl : Df.NoLoop es) {L : List (List Nat)} (hL : IsBl es L) {B : List Nat} (hB : B ∈ L) (gone : Int) {Lf : Nat → Int} (h : IsL V (esOf es B) (woF es B gone) Lf) {v v' : Nat} (hv : v < V) (hv' : v' < V) (h1 : woF es B gone v = false) (h2 : woF es B gone v' = false) : Lf v = Lf v' := by
  have hBm : ∀ i ∈ B, i < es.length := fun i hi => (hL.cls.mem i).1 (List.mem_flatten.2 ⟨B, hB, hi⟩)
  obtain ⟨a1, a2⟩ := wo_false.1 h1
  obtain ⟨b1, b2⟩ := wo_false.1 h2
  obtain ⟨i, hi, hei⟩ := inF_ex hBm a1
  obtain ⟨j, hj, hej⟩ := inF_ex hBm b1
  have hbk : Df.Bk es i j := (hL.cls.cls B hB i hi j (hBm j hj)).1 hj
  obtain ⟨z, hz⟩ : ∃ z : Nat, ∀ u : Nat, u < V → (u ≠ z ↔ (u : Int) ≠ gone) := by
    by_cases hg : 0 ≤ gone
    · exact ⟨gone.toNat, fun u _ => by omega⟩
    · exact ⟨V, fun u hu => by omega⟩
  have hc := Df.blk_conn hnl hbk (z := z) hei hej ((hz v hv).2 a2) ((hz v' hv').2 b2)
  have hst : Star (Bd (esOf es B) (woF es B gone)) v v' := hc (fun y => Star (Bd (esOf es B) (woF es B gone)) v y) .refl fun g u t hg hen hu ht hs => by
    have hgB : g ∈ B := (hL.cls.cls B hB i hi g hen.1).2 hg
    have hpl : (Pl.at' es g).1 < V ∧ (Pl.at' es g).2 < V := hp.at hen.1
    have hut : u < V ∧ t < V := by
      rcases hen.2 with e | e
      · rw [e] at hpl; exact hpl
      · rw [e] at hpl; exact hpl.symm
    have k1 : woF es B gone u = false := wo_false.2 ⟨inF_of hgB hen, (hz u hut.1).1 hu⟩
    have k2 : woF es B gone t = false := wo_false.2 ⟨inF_of hgB hen.symm, (hz t hut.2).1 ht⟩
    refine hs.step ⟨es.getD g (0, 0), List.mem_map.2 ⟨g, hgB, rfl⟩, ?_⟩
    rcases hen.2 with e | e
    · rw [show es.getD g (0, 0) = (u, t) from e]
      exact ⟨k1, k2, .inl rfl⟩
    · rw [show es.getD g (0, 0) = (t, u) from e]
      exact ⟨k2, k1, .inr rfl⟩
  obtain ⟨y, c1, c2, c3, c4⟩ := (h v hv).2 h1
  obtain ⟨y', d1, d2, d3, d4⟩ := (h v' hv').2 h2
  rw [c1, d1, c4.only d4 ((Conn.symm c3).trans (hst.trans d3))]
theorem esOf_plain {V : Nat} {es : List (Nat × Nat)} (hp : Plain V es) {B : List Nat} (hB : ∀ i ∈ B, i < es.length) (hl : B.length ≤ 128) : Plain V (esOf es B) := by
  refine ⟨hp.v1, hp.v64, by simpa [esOf] using hl, fun e he => ?_⟩
  obtain ⟨i, hi, rfl⟩ := List.mem_map.1 he
  exact hp.at (hB i hi)
theorem esOf_snoc (es : List (Nat × Nat)) (B : List Nat) (i : Nat) : esOf es (B ++ [i]) = esOf es B ++ [es.getD i (0, 0)] := by simp [esOf]

theorem take_snocN {B : List Nat} {t : Nat} (ht : t < B.length) : B.take (t + 1) = B.take t ++ [B.getD t 0] := by
  rw [List.take_succ_eq_append_getElem ht]
  congr 2
  simp [List.getD, ht]
theorem take_snocL {L : List (List Nat)} {t : Nat} (ht : t < L.length) : L.take (t + 1) = L.take t ++ [L.getD t []] := by
  rw [List.take_succ_eq_append_getElem ht]
  congr 2
  simp [List.getD, ht]
/-- which edges have been seen -/
def seenF (L : List (List Nat)) (k t i : Nat) : Bool := decide (i ∈ (L.take k).flatten ++ (L.getD k []).take t)
theorem seenF_start (L : List (List Nat)) (i : Nat) : seenF L 0 0 i = false := by simp [seenF]
theorem seenF_step {L : List (List Nat)} {k t : Nat} (ht : t < (L.getD k []).length) (i : Nat) : seenF L k (t + 1) i = if i = (L.getD k []).getD t 0 then true else seenF L k t i := by
  unfold seenF
  rw [take_snocN ht, ← List.append_assoc]
  by_cases e : i = (L.getD k []).getD t 0
  · rw [if_pos e]
    simp [e]
  · rw [if_neg e]
    refine decide_eq_decide.2 ?_
    rw [List.mem_append]
    constructor
    · rintro (h | h)
      · exact h
      · exact absurd (List.mem_singleton.1 h) e
    · exact .inl
theorem seenF_next {L : List (List Nat)} {k : Nat} (hk : k < L.length) (i : Nat) : seenF L k (L.getD k []).length i = seenF L (k + 1) 0 i := by
  unfold seenF
  rw [take_snocL hk, List.take_of_length_le (Nat.le_refl _), List.flatten_append]
  simp
theorem seenF_new {L : List (List Nat)} (hn : L.flatten.Nodup) {k t : Nat} (hk : k < L.length) (ht : t < (L.getD k []).length) : seenF L k t ((L.getD k []).getD t 0) = false := by
  unfold seenF
  refine decide_eq_false fun hm => ?_
  have h1 : (L.take (k + 1)).flatten.Nodup := by
    have e : L.flatten = (L.take (k + 1)).flatten ++ (L.drop (k + 1)).flatten := by rw [← List.flatten_append, List.take_append_drop]
    rw [e] at hn
    exact (List.nodup_append.1 hn).1
  rw [take_snocL hk, List.flatten_append, show [L.getD k []].flatten = L.getD k [] by simp] at h1
  generalize L.getD k [] = B at *
  have e2 : B = B.take t ++ (B.getD t 0 :: B.drop (t + 1)) := by
    rw [show B.getD t 0 = B[t] by simp [List.getD, ht], List.getElem_cons_drop, List.take_append_drop]
  rw [e2, ← List.append_assoc] at h1
  have h3 : B.getD t 0 ∉ (L.take k).flatten ++ B.take t := fun hm => (List.nodup_append.1 h1).2.2 _ hm _ List.mem_cons_self rfl
  exact h3 hm
theorem seenF_all {L : List (List Nat)} {i : Nat} (h : i ∈ L.flatten) : seenF L L.length 0 i = true := by
  unfold seenF
  rw [List.take_of_length_le (Nat.le_refl _)]
  simp only [List.take_zero, List.append_nil]
  exact decide_eq_true h

/-- of what there was, one block alone may have been written -/
structure Bu (gs : Nat) (u0 u : World) : Prop where
  bel : Below gs u0 u
  up : ∀ b, gs < b → b < u0.heap.size → u.heap[b]? = u0.heap[b]?
theorem Bu.refl (gs : Nat) (u : World) : Bu gs u u := ⟨Below.refl _ _, fun _ _ _ => rfl⟩
theorem Bu.of {gs : Nat} {u0 u : World} (hg : gs < u0.heap.size) (h : Below u0.heap.size u0 u) : Bu gs u0 u := ⟨h.mono (Nat.le_of_lt hg), fun b _ hb => h.block b hb⟩
theorem Bu.trans {gs : Nat} {u0 u1 u2 : World} (h1 : Bu gs u0 u1) (h2 : Bu gs u1 u2) : Bu gs u0 u2 := ⟨h1.bel.trans h2.bel, fun b hb hb' => (h2.up b hb (Nat.lt_of_lt_of_le hb' h1.bel.size)).trans (h1.up b hb hb')⟩
theorem Bu.set (gs p : Nat) (u : World) (v : Value) : Bu gs u (u.setCell ⟨gs, p, none⟩ v) := ⟨(Below.refl _ _).setCell (p := ⟨gs, p, none⟩) (Nat.le_refl _) _, fun b hb _ => Below.heap_setCell _ _ _ _ (by show b ≠ gs; omega)⟩
theorem Bu.kp {gs A : Nat} {u0 u : World} (h : Bu gs u0 u) (hA : gs < A) : Kp A u0 u := fun i h1 h2 => h.up i (by omega) h2
theorem Bu.row {gs g n : Nat} {ty : TypeId} {f : Nat → Value} {u0 u : World} (h : Bu gs u0 u) (hr : Row u0 g ty n f) (hg : gs < g) : Row u g ty n f := hr.keep (h.up g hg hr.lt)
theorem Bu.owns {gs base : Nat} {e : TypeId} {size : Nat} {v : Value} {n : Nat} {xs : List Value} {u0 u : World} (h : Bu gs u0 u) (ho : u0.ownsRow base e size v n xs) (hg : gs < base) : u.ownsRow base e size v n xs := by
  refine ⟨ho.1, ho.2.imp id ?_⟩
  rintro ⟨g, cap, cur, h1, h2, h3, h4⟩
  exact ⟨g, cap, cur, h1, h2, (h.up g (by omega) (Array.getElem?_eq_some_iff.1 h3).1).trans h3, h4⟩
/-- writes into memory that is new -/
theorem Bu.newer {gs B : Nat} {u0 u u' : World} (h : Bu gs u0 u) (hB : u0.heap.size ≤ B) (hg : gs < u0.heap.size) (hb : Below B u u') : Bu gs u0 u' := ⟨h.bel.trans (hb.mono (by omega)), fun b h1 h2 => (hb.block b (by omega)).trans (h.up b h1 h2)⟩

theorem owns_slice {w : World} {base : Nat} {v : Value} {n : Nat} {xs : List Value} {e : TypeId} {k : Nat} (h : w.ownsRow base e k v n xs) : ∃ a c, v = .slice a n c := by
  rcases h.2 with ⟨hv, h0⟩ | ⟨g, cap, cur, hv, _⟩
  · exact ⟨none, 0, by rw [hv, h0]⟩
  · exact ⟨_, cap, hv⟩
/-- what lies in memory while a block's edges are gone through: what has been seen, the block's graph in its box, its vertices -/
structure In (gs : Nat) (w5 u : World) (n V : Nat) (sf nf : Nat → Bool) (xs : List (Nat × Nat)) (bv ev : Value) : Prop where
  lt : gs < w5.heap.size
  bu : Bu gs w5 u
  seen : RowB u gs n sf
  bx : u.heap[w5.heap.size]? = some (.cells #[.int .i64 V, bv] 24 (0, 0))
  inn : RowB u (w5.heap.size + 1) V nf
  own : u.ownsRow (w5.heap.size + 2) 40 2 ev xs.length (ecells (toI xs))
  sz : w5.heap.size + 2 ≤ u.heap.size
theorem In.keep {gs : Nat} {w5 u u' : World} {n V : Nat} {sf nf : Nat → Bool} {xs xs' : List (Nat × Nat)} {bv ev ev' : Value} (h : In gs w5 u n V sf nf xs bv ev) (hb : Below (w5.heap.size + 2) u u') (ho : u'.ownsRow (w5.heap.size + 2) 40 2 ev' xs'.length (ecells (toI xs'))) : In gs w5 u' n V sf nf xs' bv ev' := by
  have hlt := h.lt
  exact ⟨h.lt, h.bu.newer (B := w5.heap.size + 2) (by omega) h.lt hb, h.seen.keep (hb.block gs (by omega)), (hb.block _ (by omega)).trans h.bx, h.inn.keep (hb.block _ (by omega)), ho, Nat.le_trans h.sz hb.size⟩
theorem In.step {gs : Nat} {w5 u u' : World} {n V : Nat} {sf nf : Nat → Bool} {xs : List (Nat × Nat)} {bv ev : Value} (h : In gs w5 u n V sf nf xs bv ev) (hb : Below u.heap.size u u') : In gs w5 u' n V sf nf xs bv ev :=
  h.keep (hb.mono h.sz) (owns_below h.own hb)
theorem In.setSeen {gs : Nat} {w5 u : World} {n V : Nat} {sf nf : Nat → Bool} {xs : List (Nat × Nat)} {bv ev : Value} (h : In gs w5 u n V sf nf xs bv ev) (p : Nat) : In gs w5 (u.setCell ⟨gs, p, none⟩ (.bool true)) n V (upd sf p true) nf xs bv ev := by
  have hlt := h.lt
  have hf : ∀ b, b ≠ gs → (u.setCell ⟨gs, p, none⟩ (.bool true)).heap[b]? = u.heap[b]? := fun b hb => Below.heap_setCell _ _ _ _ hb
  refine ⟨h.lt, h.bu.trans (Bu.set gs p u _), RowB.set h.seen p true, (hf _ (by omega)).trans h.bx, h.inn.keep (hf _ (by omega)), owns_keep h.own fun g hg => hf g ?_, by have := h.sz; simpa [World.setCell] using this⟩
  have := (h.own.lt g hg).1
  omega
theorem In.setIn {gs : Nat} {w5 u : World} {n V : Nat} {sf nf : Nat → Bool} {xs : List (Nat × Nat)} {bv ev : Value} (h : In gs w5 u n V sf nf xs bv ev) (p : Nat) : In gs w5 (u.setCell ⟨w5.heap.size + 1, p, none⟩ (.bool true)) n V sf (upd nf p true) xs bv ev := by
  have hlt := h.lt
  have hf : ∀ b, b ≠ w5.heap.size + 1 → (u.setCell ⟨w5.heap.size + 1, p, none⟩ (.bool true)).heap[b]? = u.heap[b]? := fun b hb => Below.heap_setCell _ _ _ _ hb
  have hb : Below (w5.heap.size + 1) u (u.setCell ⟨w5.heap.size + 1, p, none⟩ (.bool true)) := (Below.refl _ _).setCell (p := ⟨w5.heap.size + 1, p, none⟩) (Nat.le_refl _) _
  refine ⟨h.lt, h.bu.newer (B := w5.heap.size + 1) (by omega) h.lt hb, h.seen.keep (hf _ (by omega)), (hf _ (by omega)).trans h.bx, RowB.set h.inn p true, owns_keep h.own fun g hg => hf g ?_, by have := h.sz; simpa [World.setCell] using this⟩
  have := (h.own.lt g hg).1
  omega
theorem In.store {gs : Nat} {w5 u : World} {n V : Nat} {sf nf : Nat → Bool} {xs : List (Nat × Nat)} {bv ev : Value} (h : In gs w5 u n V sf nf xs bv ev) : In gs w5 (u.setCell ⟨w5.heap.size, 1, none⟩ ev) n V sf nf xs ev ev := by
  have hlt := h.lt
  have hf : ∀ b, b ≠ w5.heap.size → (u.setCell ⟨w5.heap.size, 1, none⟩ ev).heap[b]? = u.heap[b]? := fun b hb => Below.heap_setCell _ _ _ _ hb
  have hb : Below w5.heap.size u (u.setCell ⟨w5.heap.size, 1, none⟩ ev) := (Below.refl _ _).setCell (p := ⟨w5.heap.size, 1, none⟩) (Nat.le_refl _) _
  refine ⟨h.lt, h.bu.newer (B := w5.heap.size) (Nat.le_refl _) h.lt hb, h.seen.keep (hf _ (by omega)), by simp [World.setCell, Array.getElem?_modify, h.bx], h.inn.keep (hf _ (by omega)), owns_keep h.own fun g hg => hf g ?_, by have := h.sz; simpa [World.setCell] using this⟩
  have := (h.own.lt g hg).1
  omega
theorem In.congr {gs : Nat} {w5 u : World} {n V : Nat} {sf nf sf' nf' : Nat → Bool} {xs xs' : List (Nat × Nat)} {bv ev : Value} (h : In gs w5 u n V sf nf xs bv ev) (h1 : ∀ j, sf j = sf' j) (h2 : ∀ j, nf j = nf' j) (h3 : xs = xs') : In gs w5 u n V sf' nf' xs' bv ev := by
  rw [← funext h1, ← funext h2, ← h3]
  exact h
theorem In.cells {gs : Nat} {w5 u : World} {n V : Nat} {sf nf : Nat → Bool} {xs : List (Nat × Nat)} {bv ev : Value} (h : In gs w5 u n V sf nf xs bv ev) : u.cell? ⟨w5.heap.size, 0, none⟩ = some (.int .i64 V) ∧ u.cell? ⟨w5.heap.size, 1, none⟩ = some bv ∧ u.frozen? ⟨w5.heap.size, 1, none⟩ = false := by
  simp [World.cell?, World.frozen?, h.bx]
theorem In.app {gs : Nat} {w5 u : World} {n V : Nat} {sf nf : Nat → Bool} {xs : List (Nat × Nat)} {bv ev : Value} (h : In gs w5 u n V sf nf xs bv ev) {b p q : Nat} (he : u.heap[b]? = some (.cells #[.int .i64 (p : Int), .int .i64 (q : Int)] 40 (0, 0)))
    {o : Oper} {a : Act} {K : Act → World → Prop} {Q : Exit → Act → World → Prop} (s x : Operand) (ho : o.op = .call { callee := .builtin .append, args := #[s, x], argTypes := #[22, 22] }) (hs : a.eval s = ev)
    (c : Nat) (hx : a.eval x = .slice (some ⟨b, 0, none⟩) 1 c) (hl : xs.length ≤ 900)
    (hk : ∀ v' u', In gs w5 u' n V sf nf (xs ++ [(p, q)]) bv v' → Below (w5.heap.size + 2) u u' → K (a.put o.dst v') u') : o.wp Try.prog a u K Q := by
  obtain ⟨i0, hi0, hz0, hz1, hz2⟩ := info_parts info54
  refine wp_append_own u s x 22 ho (w5.heap.size + 2) 40 i0 (.agg #[.int .i64 0, .int .i64 0]) 2 16 Try.underlying22 hi0 hz0 hz1 hz2 rfl (by decide) ev xs.length (ecells (toI xs)) hs h.own ⟨b, 0, none⟩ 1 c (ecells [((p : Int), (q : Int))]) hx rfl (es_of_edge he).cells (ecells_one _) (by unfold maxLen; omega) (by omega) h.sz ?_
  intro v' u' ho' hg _
  have hb : Below (w5.heap.size + 2) u u' := (Below.refl _ _).grown hg h.sz fun k hk => (h.own.lt k hk).1
  refine hk v' u' (h.keep hb ?_) hb
  rw [List.length_append, show toI (xs ++ [(p, q)]) = toI xs ++ [((p : Int), (q : Int))] by simp [toI], show ecells (toI xs ++ [((p : Int), (q : Int))]) = ecells (toI xs) ++ ecells [((p : Int), (q : Int))] by simp [ecells]]
  exact ho'
end Go.Proofs.Ytbecmaandhadhaa.pt


/-
  Rows in memory that may be written, or are only read; what can be come to by steps; what hangs together without some vertices. No conditions.
-/
import Derived.Test.YtbecmaandhadhaaGm
import Derived.Test.YtbecmaandhadhaaOd
import Derived.OwnWalk
namespace Go.Proofs.Ytbecmaandhadhaa.pt
open Go.RowKit
set_option linter.unusedVariables false
set_option maxRecDepth 20000

/-- a block of cells that may be written: what the first n of them hold -/
def Row (w : World) (g : Nat) (ty : TypeId) (n : Nat) (f : Nat → Value) : Prop := ∃ cur, w.heap[g]? = some (.cells cur ty (0, 0)) ∧ ∀ t, t < n → cur[t]? = some (f t)
def upd {α : Type} (f : Nat → α) (j : Nat) (v : α) (i : Nat) : α := if i = j then v else f i
theorem upd_same {α : Type} (f : Nat → α) (j : Nat) (v : α) : upd f j v j = v := if_pos rfl
theorem upd_other {α : Type} (f : Nat → α) {j i : Nat} (v : α) (h : i ≠ j) : upd f j v i = f i := if_neg h
theorem Row.cell {w : World} {g n : Nat} {ty : TypeId} {f : Nat → Value} (h : Row w g ty n f) {t : Nat} (ht : t < n) : w.cell? ⟨g, t, none⟩ = some (f t) := by
  obtain ⟨cur, h1, h2⟩ := h
  simp [World.cell?, h1, h2 t ht]
theorem Row.fz {w : World} {g n : Nat} {ty : TypeId} {f : Nat → Value} (h : Row w g ty n f) (o : Nat) : w.frozen? ⟨g, o, none⟩ = false := by
  obtain ⟨cur, h1, h2⟩ := h
  simp [World.frozen?, h1]
theorem Row.set {w : World} {g n : Nat} {ty : TypeId} {f : Nat → Value} (h : Row w g ty n f) (p : Nat) (v : Value) : Row (w.setCell ⟨g, p, none⟩ v) g ty n (upd f p v) := by
  obtain ⟨cur, h1, h2⟩ := h
  refine ⟨cur.setIfInBounds p v, by simp [World.setCell, Array.getElem?_modify, h1], fun t ht => ?_⟩
  rw [Array.getElem?_setIfInBounds]
  have hb := (Array.getElem?_eq_some_iff.1 (h2 t ht)).1
  by_cases htp : t = p
  · subst htp
    simp [hb, upd]
  · rw [if_neg (fun e => htp e.symm)]
    simp [upd, htp, h2 t ht]
theorem Row.lt {w : World} {g n : Nat} {ty : TypeId} {f : Nat → Value} (h : Row w g ty n f) : g < w.heap.size := by
  obtain ⟨cur, h1, h2⟩ := h
  exact (Array.getElem?_eq_some_iff.1 h1).1
theorem Row.keep {w w' : World} {g n : Nat} {ty : TypeId} {f : Nat → Value} (h : Row w g ty n f) (he : w'.heap[g]? = w.heap[g]?) : Row w' g ty n f := by
  obtain ⟨cur, h1, h2⟩ := h
  exact ⟨cur, by rw [he]; exact h1, h2⟩
theorem Row.below {w w' : World} {g n : Nat} {ty : TypeId} {f : Nat → Value} (h : Row w g ty n f) (hb : Below w.heap.size w w') : Row w' g ty n f :=
  h.keep (hb.block g h.lt)
theorem Row.congr {w : World} {g n : Nat} {ty : TypeId} {f f' : Nat → Value} (h : Row w g ty n f) (he : ∀ t, t < n → f t = f' t) : Row w g ty n f' := by
  obtain ⟨cur, h1, h2⟩ := h
  exact ⟨cur, h1, fun t ht => by rw [h2 t ht, he t ht]⟩
theorem Row.of_owns {w : World} {base g n cap : Nat} {ty : TypeId} {z : Value} (h : w.ownsRow base ty 1 (.slice (some ⟨g, 0, none⟩) n cap) n (List.replicate n z)) : Row w g ty n (fun _ => z) := by
  rcases h.2 with ⟨hv, _⟩ | ⟨g', cap', cur, hv, hb, hg, h1, h2, h3, h4⟩
  · cases hv
  · cases hv
    refine ⟨cur, hg, fun t ht => ?_⟩
    have : (cur.toList.take (n * 1))[t]? = (List.replicate n z)[t]? := by rw [h4]
    rw [List.getElem?_take] at this
    simpa [ht] using this
abbrev RowB (w : World) (g n : Nat) (f : Nat → Bool) : Prop := Row w g 4 n fun t => .bool (f t)
theorem RowB.set {w : World} {g n : Nat} {f : Nat → Bool} (h : RowB w g n f) (p : Nat) (v : Bool) : RowB (w.setCell ⟨g, p, none⟩ (.bool v)) g n (upd f p v) :=
  (Row.set h p (.bool v)).congr fun t ht => by unfold upd; split <;> rfl
def Bs (w : World) (a : Option Addr) (n : Nat) (f : Nat → Bool) : Prop :=
  n ≤ 1000000 ∧ ∀ k, k < n → ∃ g off, a = some ⟨g, off, none⟩ ∧ g < w.heap.size ∧ w.cell? ⟨g, off + k, none⟩ = some (.bool (f k))
theorem Bs.below {w w' : World} {a : Option Addr} {n : Nat} {f : Nat → Bool} (h : Bs w a n f) (hb : Below w.heap.size w w') : Bs w' a n f := by
  refine ⟨h.1, fun k hk => ?_⟩
  obtain ⟨g, off, ha, hg, c0⟩ := h.2 k hk
  exact ⟨g, off, ha, Nat.lt_of_lt_of_le hg hb.size, by rw [hb.cell (p := ⟨g, off + k, none⟩) hg]; exact c0⟩
theorem RowB.read {w : World} {g n : Nat} {f : Nat → Bool} (h : RowB w g n f) (hn : n ≤ 1000000) : Bs w (some ⟨g, 0, none⟩) n f :=
  ⟨hn, fun k hk => ⟨g, 0, rfl, h.lt, by rw [Nat.zero_add]; exact h.cell hk⟩⟩
theorem getD_mem {es : List (Nat × Nat)} {i : Nat} (hi : i < es.length) : es.getD i (0, 0) ∈ es := by
  simp [List.getD, hi]
theorem plat {V : Nat} {es : List (Nat × Nat)} (h : Plain V es) {i : Nat} (hi : i < es.length) : (es.getD i (0, 0)).1 < V ∧ (es.getD i (0, 0)).2 < V := h.ends _ (getD_mem hi)
theorem es_at {B : Nat} {w : World} {a : Option Addr} {es : List (Nat × Nat)} (h : Es B w a es.length (toI es)) {i : Nat} (hi : i < es.length) :
    ∃ g off, a = some ⟨g, off, none⟩ ∧ g < w.heap.size ∧ w.cell? ⟨g, off + i * 2, none⟩ = some (.int .i64 ((es.getD i (0, 0)).1 : Nat)) ∧ w.cell? ⟨g, off + i * 2 + 1, none⟩ = some (.int .i64 ((es.getD i (0, 0)).2 : Nat)) := by
  obtain ⟨g, off, ha, _, hg, c0, c1⟩ := h.2.2 i hi
  rw [toI_getD] at c0 c1
  exact ⟨g, off, ha, hg, c0, c1⟩
/-- what can be come to by steps -/
def Star (R : Nat → Nat → Prop) (i k : Nat) : Prop := ∀ S : Nat → Prop, S i → (∀ a b, S a → R a b → S b) → S k
theorem Star.refl {R : Nat → Nat → Prop} {i : Nat} : Star R i i := fun _ h _ => h
theorem Star.step {R : Nat → Nat → Prop} {i j k : Nat} (h : Star R i j) (hr : R j k) : Star R i k := fun S h0 hs => hs j k (h S h0 hs) hr
theorem Star.ind {R : Nat → Nat → Prop} {i k : Nat} (h : Star R i k) {S : Nat → Prop} (h0 : S i) (hs : ∀ a b, Star R i a → S a → R a b → S b) : S k :=
  (h (fun x => Star R i x ∧ S x) ⟨.refl, h0⟩ fun a b ha hr => ⟨ha.1.step hr, hs a b ha.1 ha.2 hr⟩).2
theorem Star.trans {R : Nat → Nat → Prop} {i j k : Nat} (h : Star R i j) (h2 : Star R j k) : Star R i k := h2 (fun x => Star R i x) h fun _ _ ha hr => ha.step hr
theorem Star.mono {R R' : Nat → Nat → Prop} (hR : ∀ i j, R i j → R' i j) {i j : Nat} (h : Star R i j) : Star R' i j := h (fun x => Star R' i x) .refl fun _ _ ha hr => ha.step (hR _ _ hr)
theorem Star.head {R : Nat → Nat → Prop} {i j k : Nat} (h : R i j) (h2 : Star R j k) : Star R i k := (Star.refl.step h).trans h2
/-- an edge that counts, either way -/
def Bd (es : List (Nat × Nat)) (wo : Nat → Bool) (u v : Nat) : Prop := ∃ e, e ∈ es ∧ wo e.1 = false ∧ wo e.2 = false ∧ (e = (u, v) ∨ e = (v, u))
theorem Bd.symm {es : List (Nat × Nat)} {wo : Nat → Bool} {u v : Nat} (h : Bd es wo u v) : Bd es wo v u := by
  obtain ⟨e, h1, h2, h3, h4⟩ := h
  exact ⟨e, h1, h2, h3, h4.symm⟩
theorem Bd.free {es : List (Nat × Nat)} {wo : Nat → Bool} {u v : Nat} (h : Bd es wo u v) : wo u = false ∧ wo v = false := by
  obtain ⟨e, h1, h2, h3, rfl | rfl⟩ := h
  · exact ⟨h2, h3⟩
  · exact ⟨h3, h2⟩
theorem Bd.bnd {V : Nat} {es : List (Nat × Nat)} (hp : Plain V es) {wo : Nat → Bool} {u v : Nat} (h : Bd es wo u v) : u < V ∧ v < V := by
  obtain ⟨e, h1, h2, h3, rfl | rfl⟩ := h
  · exact hp.ends _ h1
  · exact (hp.ends _ h1).symm
theorem Star.symm' {R : Nat → Nat → Prop} (hR : ∀ u v, R u v → R v u) {i j : Nat} (h : Star R i j) : Star R j i :=
  h.ind (S := fun x => Star R x i) .refl fun a b _ ha hr => Star.head (hR a b hr) ha
abbrev Conn (es : List (Nat × Nat)) (wo : Nat → Bool) : Nat → Nat → Prop := Star (Bd es wo)
theorem Conn.symm {es : List (Nat × Nat)} {wo : Nat → Bool} {u v : Nat} (h : Star (Bd es wo) u v) : Star (Bd es wo) v u := Star.symm' (fun _ _ h => h.symm) h
theorem Conn.free {es : List (Nat × Nat)} {wo : Nat → Bool} {u v : Nat} (h : Star (Bd es wo) u v) (hu : wo u = false) : wo v = false :=
  h.ind (S := fun x => wo x = false) hu fun a b _ _ hr => hr.free.2
theorem Conn.bnd {V : Nat} {es : List (Nat × Nat)} (hp : Plain V es) {wo : Nat → Bool} {u v : Nat} (h : Star (Bd es wo) u v) (hu : u < V) : v < V :=
  h.ind (S := fun x => x < V) hu fun a b _ _ hr => (hr.bnd hp).2
/-- the least of its part -/
def Rep (es : List (Nat × Nat)) (wo : Nat → Bool) (x : Nat) : Prop := wo x = false ∧ ∀ y, y < x → ¬ Star (Bd es wo) x y
theorem rep_ex (es : List (Nat × Nat)) (wo : Nat → Bool) (x : Nat) (hx : wo x = false) : ∃ y, y ≤ x ∧ Star (Bd es wo) x y ∧ Rep es wo y := by
  induction x using Nat.strongRecOn with
  | ind x ih =>
    by_cases h : ∃ y, y < x ∧ Star (Bd es wo) x y
    · obtain ⟨y, hy, hs⟩ := h
      obtain ⟨z, hz, hs2, hr⟩ := ih y hy (Conn.free hs hx)
      exact ⟨z, by omega, hs.trans hs2, hr⟩
    · exact ⟨x, Nat.le_refl _, .refl, hx, fun y hy hs => h ⟨y, hy, hs⟩⟩
theorem Rep.only {es : List (Nat × Nat)} {wo : Nat → Bool} {x y : Nat} (hx : Rep es wo x) (hy : Rep es wo y) (h : Star (Bd es wo) x y) : x = y := by
  have h1 := hx.2 y
  have h2 := hy.2 x
  by_cases hlt : y < x
  · exact absurd h (h1 hlt)
  · by_cases hlt2 : x < y
    · exact absurd (Conn.symm h) (h2 hlt2)
    · omega
theorem rep_iff {es : List (Nat × Nat)} {wo : Nat → Bool} {x : Nat} (hx : wo x = false) : Rep es wo x ↔ ¬ ∃ r, r < x ∧ Rep es wo r ∧ Star (Bd es wo) r x := by
  constructor
  · rintro h ⟨r, hr, _, hs⟩
    exact h.2 r hr (Conn.symm hs)
  · intro h
    obtain ⟨y, hy, hs, hr⟩ := rep_ex es wo x hx
    by_cases hyx : y = x
    · subst hyx; exact hr
    · exact absurd ⟨y, by omega, hr, Conn.symm hs⟩ h

end Go.Proofs.Ytbecmaandhadhaa.pt


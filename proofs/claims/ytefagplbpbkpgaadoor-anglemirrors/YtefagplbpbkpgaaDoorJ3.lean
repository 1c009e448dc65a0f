/-
  Lists of numbers that are one, begun elsewhere perhaps; the contracts of slices.Equal and of the document's Same. Conditions: the lists lie in memory as told.
-/
import Derived.Test.YtefagplbpbkpgaaDoorJ2
import Derived.Laws.AppendOwnNone
import Derived.OwnWalk
import Derived.Deep.RegionHeld3
namespace Go.Proofs.YtefagplbpbkpgaaDoor
open Go.RowKit
set_option linter.unusedVariables false
set_option maxRecDepth 20000

/-- from place k on, around, the one is the other -/
def RotAt (a b : List Int) (k : Nat) : Prop := ∀ i, i < b.length → a.getD ((i + k) % b.length) 0 = b.getD i 0
/-- one list, begun elsewhere perhaps -/
def RotL (a b : List Int) : Prop := a.length = b.length ∧ (b.length = 0 ∨ ∃ k, k < b.length ∧ RotAt a b k)
def rotB (a b : List Int) : Bool := decide (a.length = b.length) && (decide (b.length = 0) || (List.range b.length).any fun k => (List.range b.length).all fun i => decide (a.getD ((i + k) % b.length) 0 = b.getD i 0))
theorem rotB_true {a b : List Int} : rotB a b = true ↔ RotL a b := by
  unfold rotB RotL RotAt
  simp only [Bool.and_eq_true, Bool.or_eq_true, decide_eq_true_eq, List.any_eq_true, List.all_eq_true, List.mem_range]
theorem rotB_yes {a b : List Int} (h : RotL a b) : rotB a b = true := rotB_true.2 h
theorem rotB_no {a b : List Int} (h : ¬ RotL a b) : rotB a b = false := by
  cases hb : rotB a b with
  | false => rfl
  | true => exact absurd (rotB_true.1 hb) h

/-- the way in which the program holds lists against each other -/
def CutAt (a b : List Int) (k : Nat) : Prop := a.take (b.length - k) = b.drop k ∧ a.drop (b.length - k) = b.take k
theorem getD_eq {xs : List Int} {i : Nat} (h : i < xs.length) : xs.getD i 0 = xs[i] := by simp [List.getD, h]
theorem ext_getD {xs ys : List Int} (hl : xs.length = ys.length) (h : ∀ i, i < ys.length → xs.getD i 0 = ys.getD i 0) : xs = ys := by
  apply List.ext_getElem hl
  intro i h1 h2
  have := h i h2
  rwa [getD_eq h1, getD_eq h2] at this
theorem getD_take {xs : List Int} {n i : Nat} (h : i < n) : (xs.take n).getD i 0 = xs.getD i 0 := by
  simp [List.getD, h]
theorem getD_drop {xs : List Int} {n i : Nat} : (xs.drop n).getD i 0 = xs.getD (n + i) 0 := by
  simp [List.getD, List.getElem?_drop]
theorem cut_rot {a b : List Int} (hl : a.length = b.length) {k : Nat} (hk : k < b.length) : CutAt a b k ↔ RotAt a b ((b.length - k) % b.length) := by
  have key : ∀ i, i < b.length → (i + (b.length - k) % b.length) % b.length = if k ≤ i then i - k else i + b.length - k := by
    intro i hi
    by_cases h0 : k = 0
    · subst h0
      simp [Nat.mod_self, Nat.mod_eq_of_lt hi]
    · rw [Nat.mod_eq_of_lt (show b.length - k < b.length by omega)]
      split
      · rw [show i + (b.length - k) = (i - k) + b.length by omega, Nat.add_mod_right, Nat.mod_eq_of_lt (by omega)]
      · rw [Nat.mod_eq_of_lt (by omega)]
        omega
  constructor
  · rintro ⟨h1, h2⟩ i hi
    rw [key i hi]
    split
    · rename_i hki
      have : (a.take (b.length - k)).getD (i - k) 0 = (b.drop k).getD (i - k) 0 := by rw [h1]
      rw [getD_take (by omega), getD_drop, show k + (i - k) = i by omega] at this
      exact this
    · rename_i hki
      have : (a.drop (b.length - k)).getD i 0 = (b.take k).getD i 0 := by rw [h2]
      rw [getD_take (by omega), getD_drop] at this
      rw [← this]
      congr 1
      omega
  · intro h
    constructor
    · refine ext_getD (by simp; omega) fun i hi => ?_
      simp at hi
      rw [getD_take (by omega), getD_drop]
      have := h (k + i) (by omega)
      rw [key (k + i) (by omega), if_pos (by omega), show k + i - k = i by omega] at this
      exact this
    · refine ext_getD (by simp; omega) fun i hi => ?_
      simp at hi
      rw [getD_take (by omega), getD_drop]
      have := h i (by omega)
      rw [key i (by omega), if_neg (by omega)] at this
      rw [← this]
      congr 1
      omega
theorem rotL_cut {a b : List Int} (hl : a.length = b.length) : RotL a b ↔ (b.length = 0 ∨ ∃ k, k < b.length ∧ CutAt a b k) := by
  constructor
  · rintro ⟨_, h | ⟨k, hk, h⟩⟩
    · exact .inl h
    · refine .inr ⟨(b.length - k) % b.length, Nat.mod_lt _ (by omega), ?_⟩
      rw [cut_rot hl (Nat.mod_lt _ (by omega))]
      have : (b.length - (b.length - k) % b.length) % b.length = k := by
        by_cases h0 : k = 0
        · subst h0
          simp
        · rw [Nat.mod_eq_of_lt (show b.length - k < b.length by omega), show b.length - (b.length - k) = k by omega, Nat.mod_eq_of_lt hk]
      rw [this]
      exact h
  · rintro (h | ⟨k, hk, h⟩)
    · exact ⟨hl, .inl h⟩
    · exact ⟨hl, .inr ⟨_, Nat.mod_lt _ (by omega), (cut_rot hl hk).1 h⟩⟩


theorem Ns.take {w : World} {a : Option Addr} {n k : Nat} {xs : List Int} (h : Ns w a n xs) (hk : k ≤ n) : Ns w a k (xs.take k) := by
  obtain ⟨hl, hn, hc⟩ := h
  refine ⟨by simp; omega, by omega, fun j hj => ?_⟩
  obtain ⟨g, off, ha, hg, c⟩ := hc j (by omega)
  exact ⟨g, off, ha, hg, by rw [getD_take hj]; exact c⟩
theorem Ns.drop {w : World} {g off n k : Nat} {xs : List Int} (h : Ns w (some ⟨g, off, none⟩) n xs) (hk : k ≤ n) : Ns w (some ⟨g, off + k, none⟩) (n - k) (xs.drop k) := by
  obtain ⟨hl, hn, hc⟩ := h
  refine ⟨by simp; omega, by omega, fun j hj => ?_⟩
  obtain ⟨g2, off2, ha, hg, c⟩ := hc (k + j) (by omega)
  simp only [Option.some.injEq, Addr.mk.injEq] at ha
  obtain ⟨rfl, rfl, _⟩ := ha
  exact ⟨g, off + k, rfl, hg, by rw [getD_drop, Nat.add_assoc]; exact c⟩


/-- a slice of slices of ints that is read: its address, its length, its lists -/
def Rr (w : World) (a : Option Addr) (n : Nat) (rs : List (List Int)) : Prop :=
  rs.length = n ∧ n ≤ 140737488355328 ∧ ∀ k, k < n → ∃ g off la lc, a = some ⟨g, off, none⟩ ∧ g < w.heap.size ∧ w.cell? ⟨g, off + k, none⟩ = some (.slice la (rs.getD k []).length lc) ∧ (rs.getD k []).length ≤ lc ∧ Ns w la (rs.getD k []).length (rs.getD k [])
theorem Rr.below {w w' : World} {a : Option Addr} {n : Nat} {rs : List (List Int)} (h : Rr w a n rs) (hb : Below w.heap.size w w') : Rr w' a n rs := by
  obtain ⟨h1, h2, h3⟩ := h
  refine ⟨h1, h2, fun k hk => ?_⟩
  obtain ⟨g, off, la, lc, ha, hg, c0, hc, hn⟩ := h3 k hk
  exact ⟨g, off, la, lc, ha, Nat.lt_of_lt_of_le hg hb.size, by rw [hb.cell (p := ⟨g, off + k, none⟩) hg]; exact c0, hc, hn.below hb⟩

/-- rotations that are one -/
def SameR (a b : List (List Int)) : Prop := a.length = b.length ∧ ∀ k, k < b.length → RotL (a.getD k []) (b.getD k [])
def sameB (a b : List (List Int)) : Bool := decide (a.length = b.length) && (List.range b.length).all fun k => rotB (a.getD k []) (b.getD k [])
theorem sameB_true {a b : List (List Int)} : sameB a b = true ↔ SameR a b := by
  unfold sameB SameR
  simp only [Bool.and_eq_true, decide_eq_true_eq, List.all_eq_true, List.mem_range, rotB_true]
theorem sameB_yes {a b : List (List Int)} (h : SameR a b) : sameB a b = true := sameB_true.2 h
theorem sameB_no {a b : List (List Int)} (h : ¬ SameR a b) : sameB a b = false := by
  cases hb : sameB a b with
  | false => rfl
  | true => exact absurd (sameB_true.1 hb) h


end Go.Proofs.YtefagplbpbkpgaaDoor
/-
  Memory: rows that may be written, boxes of graphs that stand, own rows that are kept. No conditions.
-/
namespace Go.Proofs.YtefagplbpbkpgaaDoor
open Go.RowKit
set_option linter.unusedVariables false
set_option maxRecDepth 20000

/-- a block of cells that may be written: what the first n of them hold -/
def Row (w : World) (g : Nat) (ty : TypeId) (n : Nat) (f : Nat → Value) : Prop := ∃ cur, w.heap[g]? = some (.cells cur ty (0, 0)) ∧ ∀ t, t < n → cur[t]? = some (f t)
def upd {α : Type} (f : Nat → α) (j : Nat) (v : α) (i : Nat) : α := if i = j then v else f i
theorem upd_same {α : Type} (f : Nat → α) (j : Nat) (v : α) : upd f j v j = v := if_pos rfl
theorem upd_other {α : Type} (f : Nat → α) {j i : Nat} (v : α) (h : i ≠ j) : upd f j v i = f i := if_neg h
theorem Row.cell {w : World} {g n : Nat} {ty : TypeId} {f : Nat → Value} (h : Row w g ty n f) {t : Nat} (ht : t < n) : w.cell? ⟨g, t, none⟩ = some (f t) := by
  obtain ⟨cur, h1, h2⟩ := h
  simp [World.cell?, h1, h2 t ht]
theorem Row.fz {w : World} {g n : Nat} {ty : TypeId} {f : Nat → Value} (h : Row w g ty n f) (o : Nat) : w.frozen? ⟨g, o, none⟩ = false := by
  obtain ⟨cur, h1, h2⟩ := h
  simp [World.frozen?, h1]
theorem Row.set {w : World} {g n : Nat} {ty : TypeId} {f : Nat → Value} (h : Row w g ty n f) (p : Nat) (v : Value) : Row (w.setCell ⟨g, p, none⟩ v) g ty n (upd f p v) := by
  obtain ⟨cur, h1, h2⟩ := h
  refine ⟨cur.setIfInBounds p v, by simp [World.setCell, Array.getElem?_modify, h1], fun t ht => ?_⟩
  rw [Array.getElem?_setIfInBounds]
  have hb := (Array.getElem?_eq_some_iff.1 (h2 t ht)).1
  by_cases htp : t = p
  · subst htp
    simp [hb, upd]
  · rw [if_neg (fun e => htp e.symm)]
    simp [upd, htp, h2 t ht]
theorem Row.lt {w : World} {g n : Nat} {ty : TypeId} {f : Nat → Value} (h : Row w g ty n f) : g < w.heap.size := by
  obtain ⟨cur, h1, h2⟩ := h
  exact (Array.getElem?_eq_some_iff.1 h1).1
theorem Row.keep {w w' : World} {g n : Nat} {ty : TypeId} {f : Nat → Value} (h : Row w g ty n f) (he : w'.heap[g]? = w.heap[g]?) : Row w' g ty n f := by
  obtain ⟨cur, h1, h2⟩ := h
  exact ⟨cur, by rw [he]; exact h1, h2⟩
theorem Row.below {w w' : World} {g n : Nat} {ty : TypeId} {f : Nat → Value} (h : Row w g ty n f) (hb : Below w.heap.size w w') : Row w' g ty n f :=
  h.keep (hb.block g h.lt)
theorem Row.congr {w : World} {g n : Nat} {ty : TypeId} {f f' : Nat → Value} (h : Row w g ty n f) (he : ∀ t, t < n → f t = f' t) : Row w g ty n f' := by
  obtain ⟨cur, h1, h2⟩ := h
  exact ⟨cur, h1, fun t ht => by rw [h2 t ht, he t ht]⟩
theorem Row.of_owns {w : World} {base g n cap : Nat} {ty : TypeId} {z : Value} (h : w.ownsRow base ty 1 (.slice (some ⟨g, 0, none⟩) n cap) n (List.replicate n z)) : Row w g ty n (fun _ => z) := by
  rcases h.2 with ⟨hv, _⟩ | ⟨g', cap', cur, hv, hb, hg, h1, h2, h3, h4⟩
  · cases hv
  · cases hv
    refine ⟨cur, hg, fun t ht => ?_⟩
    have : (cur.toList.take (n * 1))[t]? = (List.replicate n z)[t]? := by rw [h4]
    rw [List.getElem?_take] at this
    simpa [ht] using this
abbrev RowN (w : World) (g n : Nat) (f : Nat → Nat) : Prop := Row w g 3 n fun t => .int .i64 (f t : Nat)
abbrev RowZ (w : World) (g n : Nat) (f : Nat → Int) : Prop := Row w g 3 n fun t => .int .i64 (f t)
theorem RowZ.set {w : World} {g n : Nat} {f : Nat → Int} (h : RowZ w g n f) (p : Nat) (v : Int) : RowZ (w.setCell ⟨g, p, none⟩ (.int .i64 v)) g n (upd f p v) :=
  (Row.set h p (.int .i64 v)).congr fun t ht => by unfold upd; split <;> rfl
theorem rowZ_of_owns {w : World} {base : Nat} {v : Value} {n : Nat} {L : Nat → Int} (h : w.ownsRow base 3 1 v n (zcells ((List.range n).map L))) (hn : 0 < n) : ∃ g cap, v = .slice (some ⟨g, 0, none⟩) n cap ∧ base ≤ g ∧ RowZ w g n L := by
  rcases h.2 with ⟨hv, hn0, _⟩ | ⟨g', cap', cur, hv, hb, hg, h1, h2, h3, h4⟩
  · omega
  · refine ⟨g', cap', hv, hb, cur, hg, fun t ht => ?_⟩
    have : (cur.toList.take (n * 1))[t]? = (zcells ((List.range n).map L))[t]? := by rw [h4]
    rw [List.getElem?_take] at this
    simp [ht, zcells] at this
    simpa using this
theorem owns_keep {w w' : World} {base : Nat} {e : TypeId} {size : Nat} {v : Value} {n : Nat} {xs : List Value} (h : w.ownsRow base e size v n xs) (hk : ∀ g, v.ownBlock = some g → w'.heap[g]? = w.heap[g]?) : w'.ownsRow base e size v n xs := by
  refine ⟨h.1, ?_⟩
  rcases h.2 with hn | ⟨g, cap, cur, rfl, hb, hgg, rest⟩
  · exact .inl hn
  · exact .inr ⟨g, cap, cur, rfl, hb, by rw [hk g rfl]; exact hgg, rest⟩

theorem owns_below {w w' : World} {base : Nat} {e : TypeId} {size : Nat} {v : Value} {n : Nat} {xs : List Value} (h : w.ownsRow base e size v n xs) (hb : Below w.heap.size w w') : w'.ownsRow base e size v n xs :=
  owns_keep h fun g hg => hb.block g (h.lt g hg).2
/-- a box of a graph, laid first: it stands while others make memory -/
structure Bg (w wk : World) (x y : Value) : Prop where
  bel : Below w.heap.size w wk
  gb : wk.heap[w.heap.size]? = some (.cells #[x, y] 24 (0, 0))
theorem Bg.start (w : World) (x y : Value) : Bg w (w.alloc (.cells #[x, y] 24)) x y := ⟨(Below.refl _ _).alloc (Nat.le_refl _) _, (MapKept.heap_alloc w _).1⟩
theorem Bg.lt {w wk : World} {x y : Value} (h : Bg w wk x y) : w.heap.size < wk.heap.size := (Array.getElem?_eq_some_iff.1 h.gb).1
theorem Bg.step {w wk wk' : World} {x y : Value} (h : Bg w wk x y) (hb : Below wk.heap.size wk wk') : Bg w wk' x y :=
  ⟨h.bel.trans (hb.mono h.bel.size), by rw [hb.block _ h.lt]; exact h.gb⟩
theorem Bg.stepB {w wk wk' : World} {x y : Value} {B : Nat} (h : Bg w wk x y) (hB : w.heap.size < B) (hb : Below B wk wk') : Bg w wk' x y :=
  ⟨h.bel.trans (hb.mono (by omega)), by rw [hb.block _ hB]; exact h.gb⟩
theorem Bg.cells {w wk : World} {x y : Value} (h : Bg w wk x y) : wk.cell? ⟨w.heap.size, 0, none⟩ = some x ∧ wk.cell? ⟨w.heap.size, 1, none⟩ = some y := by
  simp [World.cell?, h.gb]
theorem owns_lit_empty (w : World) (e : TypeId) (size : Nat) (base : Nat) (hb : base ≤ w.heap.size) : (w.alloc (.cells #[] e)).ownsRow base e size (.slice (some ⟨w.heap.size, 0, none⟩) 0 0) 0 [] :=
  World.ownsRow_made w #[] 0 hb (by unfold maxLen; omega) (by simp)

theorem b_al {w : World} (o : Obj) : Below w.heap.size w (w.alloc o) := (Below.refl _ _).alloc (Nat.le_refl _) _
theorem b_dr {w : World} : Below w.heap.size w w.drew := (Below.refl _ _).drew
theorem bto {w u v : World} (h : Below w.heap.size w u) (k : Below u.heap.size u v) : Below w.heap.size w v := h.trans (k.mono h.size)
theorem one_i (z : Int) : ∀ u ∈ [Value.int .i64 z], u.oneCell' = true := by
  intro u hu
  simp only [List.mem_singleton] at hu
  subst hu
  rfl
theorem two_i (x y : Int) : ∀ u ∈ [Value.int .i64 x, Value.int .i64 y], u.oneCell' = true := by
  intro u hu
  simp only [List.mem_cons, List.not_mem_nil, or_false] at hu
  rcases hu with rfl | rfl <;> rfl
theorem cell_two_new (w : World) (x y : Value) (t : TypeId) : ∀ j u, [x, y][j]? = some u → (w.alloc (.cells #[x, y] t)).cell? ((⟨w.heap.size, 0, none⟩ : Addr).add j) = some u := by
  intro j u hj
  match j, hj with
  | 0, hj => simp at hj; subst hj; simp [Addr.add]
  | 1, hj => simp at hj; subst hj; simp [Addr.add]
end Go.Proofs.YtefagplbpbkpgaaDoor
/-
  Sources and sinks that take seats in faces, others moving: plain mathematics. No conditions beyond each theorem's own.
-/
namespace Go.Proofs.YtefagplbpbkpgaaDoor
set_option linter.unusedVariables false
set_option maxRecDepth 20000
/-- one that sits in the face -/
def ind (fa : Nat → Nat) (z : Int) (f : Nat) : Int := if z ≠ -1 ∧ fa z.toNat = f then 1 else 0
/-- how many sit in the face -/
def occ (fa : Nat → Nat) (gr : Nat → Int) (f : Nat) : Nat → Int
  | 0 => 0
  | V + 1 => occ fa gr f V + ind fa (gr V) f
theorem occ_far (fa : Nat → Nat) (gr : Nat → Int) (f x : Nat) (z : Int) : ∀ V, V ≤ x → occ fa (upd gr x z) f V = occ fa gr f V := by
  intro V
  induction V with
  | zero => intro _; rfl
  | succ V ih => intro h; unfold occ; rw [ih (by omega), upd_other _ _ (by omega)]
theorem occ_upd (fa : Nat → Nat) (gr : Nat → Int) (f x : Nat) (z : Int) : ∀ V, x < V → occ fa (upd gr x z) f V = occ fa gr f V - ind fa (gr x) f + ind fa z f := by
  intro V
  induction V with
  | zero => intro h; omega
  | succ V ih =>
    intro h
    by_cases hx : x = V
    · subst hx
      unfold occ
      rw [occ_far _ _ _ _ _ _ (Nat.le_refl _), upd_same]
      omega
    · unfold occ
      rw [ih (by omega), upd_other _ _ (by omega)]
      omega
theorem ind_some (fa : Nat → Nat) (h f : Nat) : ind fa (h : Int) f = if fa h = f then 1 else 0 := by
  unfold ind
  have : ((h : Int) ≠ -1) := by omega
  simp [this]
/-- faces that aren't tried yet -/
def un (T : Nat → Bool) : Nat → Nat
  | 0 => 0
  | K + 1 => un T K + if T K = true then 0 else 1
theorem un_far (T : Nat → Bool) (f : Nat) : ∀ K, K ≤ f → un (upd T f true) K = un T K := by
  intro K
  induction K with
  | zero => intro _; rfl
  | succ K ih => intro h; unfold un; rw [ih (by omega), upd_other _ _ (by omega)]
theorem un_upd (T : Nat → Bool) (f : Nat) (hf : T f = false) : ∀ K, f < K → un (upd T f true) K + 1 = un T K := by
  intro K
  induction K with
  | zero => intro h; omega
  | succ K ih =>
    intro h
    by_cases hx : f = K
    · subst hx
      unfold un
      rw [un_far _ _ _ (Nat.le_refl _), upd_same, hf]
      simp
    · unfold un
      have := ih (by omega)
      rw [upd_other _ _ (by omega)]
      omega
theorem un_mono {T T' : Nat → Bool} (h : ∀ f, T f = true → T' f = true) : ∀ K, un T' K ≤ un T K := by
  intro K
  induction K with
  | zero => exact Nat.le_refl _
  | succ K ih =>
    unfold un
    by_cases h1 : T K = true
    · rw [if_pos h1, if_pos (h K h1)]; exact ih
    · rw [if_neg h1]
      split <;> omega
section
variable {fa : Nat → Nat} {ch : Nat → List Nat} {V K : Nat}
def Cl (fa : Nat → Nat) (ch : Nat → List Nat) (V : Nat) (gr rm : Nat → Int) (T T' : Nat → Bool) : Prop := ∀ f, T' f = true → T f = false → rm f ≤ 0 ∧ ∀ y, y < V → gr y ≠ -1 → fa (gr y).toNat = f → ∀ h ∈ ch y, T' (fa h) = true
theorem Cl.refl (gr rm : Nat → Int) (T : Nat → Bool) : Cl fa ch V gr rm T T := fun f h1 h2 => by rw [h1] at h2; cases h2
theorem Cl.trans {gr rm : Nat → Int} {T T' T'' : Nat → Bool} (h : Cl fa ch V gr rm T T') (k : Cl fa ch V gr rm T' T'') (hm : ∀ f, T' f = true → T'' f = true) : Cl fa ch V gr rm T T'' := fun f h1 h2 => by
  cases hf : T' f with
  | true =>
    obtain ⟨a, b⟩ := h f hf h2
    exact ⟨a, fun y hy h3 h4 q hq => hm _ (b y hy h3 h4 q hq)⟩
  | false => exact k f h1 hf
structure SNo (fa : Nat → Nat) (ch : Nat → List Nat) (V x : Nat) (gr rm : Nat → Int) (T T' : Nat → Bool) : Prop where
  mono : ∀ f, T f = true → T' f = true
  all : ∀ h ∈ ch x, T' (fa h) = true
  cl : Cl fa ch V gr rm T T'
structure SYes (fa : Nat → Nat) (ch : Nat → List Nat) (V K x : Nat) (gr rm : Nat → Int) (T : Nat → Bool) (gr' rm' : Nat → Int) : Prop where
  keepr : ∀ f, T f = true → rm' f = rm f
  bd : ∀ f, f < K → 0 ≤ rm' f ∧ rm' f ≤ rm f
  none : ∀ y, y < V → y ≠ x → (gr' y = -1 ↔ gr y = -1)
  sits : gr' x ≠ -1
  keepg : ∀ y, y < V → y ≠ x → gr y ≠ -1 → T (fa (gr y).toNat) = true → gr' y = gr y
  bal : ∀ f, f < K → rm' f + occ fa gr' f V = rm f + occ fa gr f V - ind fa (gr x) f
  val : ∀ y, y < V → gr' y = -1 ∨ ∃ h ∈ ch y, gr' y = (h : Int)
structure MNo (fa : Nat → Nat) (ch : Nat → List Nat) (V face : Nat) (gr rm : Nat → Int) (T T' : Nat → Bool) : Prop where
  mono : ∀ f, T f = true → T' f = true
  all : ∀ y, y < V → gr y ≠ -1 → fa (gr y).toNat = face → ∀ h ∈ ch y, T' (fa h) = true
  cl : Cl fa ch V gr rm T T'
structure MYes (fa : Nat → Nat) (ch : Nat → List Nat) (V K face : Nat) (gr rm : Nat → Int) (T : Nat → Bool) (gr' rm' : Nat → Int) : Prop where
  up : rm' face = rm face + 1
  keepr : ∀ f, T f = true → f ≠ face → rm' f = rm f
  bd : ∀ f, f < K → f ≠ face → 0 ≤ rm' f ∧ rm' f ≤ rm f
  none : ∀ y, y < V → (gr' y = -1 ↔ gr y = -1)
  keepg : ∀ y, y < V → gr y ≠ -1 → T (fa (gr y).toNat) = true → fa (gr y).toNat ≠ face → gr' y = gr y
  bal : ∀ f, f < K → rm' f + occ fa gr' f V = rm f + occ fa gr f V
  val : ∀ y, y < V → gr' y = -1 ∨ ∃ h ∈ ch y, gr' y = (h : Int)
/-- the choices below j are tried -/
structure SL (fa : Nat → Nat) (ch : Nat → List Nat) (V x j : Nat) (gr rm : Nat → Int) (T Tj : Nat → Bool) : Prop where
  mono : ∀ f, T f = true → Tj f = true
  seen : ∀ i, i < j → Tj (fa ((ch x).getD i 0)) = true
  cl : Cl fa ch V gr rm T Tj
variable {x j face y : Nat} {gr rm gr' rm' : Nat → Int} {T Tj T' : Nat → Bool}
theorem SL.start (gr rm : Nat → Int) (T : Nat → Bool) : SL fa ch V x 0 gr rm T T := ⟨fun _ h => h, fun i h => by omega, Cl.refl _ _ _⟩
theorem SL.skip (h : SL fa ch V x j gr rm T Tj) (ht : Tj (fa ((ch x).getD j 0)) = true) : SL fa ch V x (j + 1) gr rm T Tj :=
  ⟨h.mono, fun i hi => by
    rcases Nat.lt_or_ge i j with h1 | h1
    · exact h.seen i h1
    · obtain rfl : i = j := by omega
      exact ht, h.cl⟩
theorem SL.done (h : SL fa ch V x (ch x).length gr rm T Tj) : SNo fa ch V x gr rm T Tj :=
  ⟨h.mono, fun a ha => by
    obtain ⟨i, hi, e⟩ := List.getElem_of_mem ha
    have := h.seen i hi
    rwa [show (ch x).getD i 0 = a by simp [List.getD, hi, e]] at this, h.cl⟩
theorem upd_mono (T : Nat → Bool) (f : Nat) : ∀ g, T g = true → upd T f true g = true := fun g h => by
  by_cases e : g = f
  · rw [e, upd_same]
  · rw [upd_other _ _ e]; exact h
theorem SL.next (h : SL fa ch V x j gr rm T Tj) {f : Nat} (hf : fa ((ch x).getD j 0) = f) (hr : rm f ≤ 0) (hm : MNo fa ch V f gr rm (upd Tj f true) T') : SL fa ch V x (j + 1) gr rm T T' := by
  have hmono : ∀ g, Tj g = true → T' g = true := fun g hg => hm.mono g (upd_mono _ _ g hg)
  refine ⟨fun g hg => hmono g (h.mono g hg), fun i hi => ?_, h.cl.trans (fun g h1 h2 => ?_) hmono⟩
  · rcases Nat.lt_or_ge i j with h1 | h1
    · exact hmono _ (h.seen i h1)
    · obtain rfl : i = j := by omega
      rw [hf]
      exact hm.mono f (upd_same _ _ _)
  · by_cases e : g = f
    · subst e
      exact ⟨hr, hm.all⟩
    · exact hm.cl g h1 (by rw [upd_other _ _ e]; exact h2)
theorem SL.take (h : SL fa ch V x j gr rm T Tj) (hx : x < V) (hj : j < (ch x).length) {a f : Nat} (ha : (ch x).getD j 0 = a) (hf : fa a = f) (ht : Tj f = false) (hr : 0 < rm f) (h0 : ∀ g, g < K → 0 ≤ rm g)
    (hv : ∀ y, y < V → gr y = -1 ∨ ∃ h ∈ ch y, gr y = (h : Int)) : SYes fa ch V K x gr rm T (upd gr x a) (upd rm f (rm f - 1)) := by
  have hT : T f = false := by
    cases hc : T f with
    | false => rfl
    | true => rw [h.mono f hc] at ht; cases ht
  refine ⟨fun g hg => upd_other _ _ (fun e => by rw [e, hT] at hg; cases hg), fun g hg => ?_, fun y hy hne => by rw [upd_other _ _ hne], by rw [upd_same]; omega, fun y hy hne _ _ => upd_other _ _ hne, fun g hg => ?_, fun y hy => ?_⟩
  · by_cases e : g = f
    · subst e; rw [upd_same]; omega
    · rw [upd_other _ _ e]; exact ⟨h0 g hg, Int.le_refl _⟩
  · rw [occ_upd _ _ _ _ _ _ hx, ind_some, hf]
    by_cases e : g = f
    · subst e; rw [upd_same, if_pos rfl]; omega
    · rw [upd_other _ _ e, if_neg (fun e' => e e'.symm)]; omega
  · by_cases e : y = x
    · subst e
      rw [upd_same]
      exact .inr ⟨a, by rw [← ha]; simp [List.getD, hj], rfl⟩
    · rw [upd_other _ _ e]; exact hv y hy
theorem SL.moved (h : SL fa ch V x j gr rm T Tj) (hx : x < V) (hj : j < (ch x).length) {a f : Nat} (ha : (ch x).getD j 0 = a) (hf : fa a = f) (ht : Tj f = false) (hr : rm f = 0) (h0 : ∀ g, g < K → 0 ≤ rm g)
    (hp : gr x = -1 ∨ T (fa (gr x).toNat) = true) (hm : MYes fa ch V K f gr rm (upd Tj f true) gr' rm') : SYes fa ch V K x gr rm T (upd gr' x a) (upd rm' f (rm' f - 1)) := by
  have hT : T f = false := by
    cases hc : T f with
    | false => rfl
    | true => rw [h.mono f hc] at ht; cases ht
  have hgx : gr' x = gr x := by
    by_cases e : gr x = -1
    · rw [e]; exact (hm.none x hx).2 e
    · have ht2 := hp.resolve_left e
      refine hm.keepg x hx e (upd_mono _ _ _ (h.mono _ ht2)) fun e2 => ?_
      rw [e2, hT] at ht2
      cases ht2
  refine ⟨fun g hg => ?_, fun g hg => ?_, fun y hy hne => by rw [upd_other _ _ hne]; exact hm.none y hy, by rw [upd_same]; omega, fun y hy hne h1 h2 => ?_, fun g hg => ?_, fun y hy => ?_⟩
  · have hgf : g ≠ f := fun e => by rw [e, hT] at hg; cases hg
    rw [upd_other _ _ hgf]
    exact hm.keepr g (upd_mono _ _ _ (h.mono _ hg)) hgf
  · by_cases e : g = f
    · subst e; rw [upd_same, hm.up]; omega
    · rw [upd_other _ _ e]; exact hm.bd g hg e
  · rw [upd_other _ _ hne]
    refine hm.keepg y hy h1 (upd_mono _ _ _ (h.mono _ h2)) fun e2 => ?_
    rw [e2, hT] at h2
    cases h2
  · have hb := hm.bal g hg
    rw [occ_upd _ _ _ _ _ _ hx, ind_some, hf, hgx]
    by_cases e : g = f
    · subst e; rw [upd_same, if_pos rfl]; omega
    · rw [upd_other _ _ e, if_neg (fun e' => e e'.symm)]; omega
  · by_cases e : y = x
    · subst e
      rw [upd_same]
      exact .inr ⟨a, by rw [← ha]; simp [List.getD, hj], rfl⟩
    · rw [upd_other _ _ e]; exact hm.val y hy
/-- those below y have been asked -/
structure ML (fa : Nat → Nat) (ch : Nat → List Nat) (V face y : Nat) (gr rm : Nat → Int) (T Ty : Nat → Bool) : Prop where
  mono : ∀ f, T f = true → Ty f = true
  seen : ∀ z, z < y → gr z ≠ -1 → fa (gr z).toNat = face → ∀ h ∈ ch z, Ty (fa h) = true
  cl : Cl fa ch V gr rm T Ty
theorem ML.start (gr rm : Nat → Int) (T : Nat → Bool) : ML fa ch V face 0 gr rm T T := ⟨fun _ h => h, fun z h => by omega, Cl.refl _ _ _⟩
theorem ML.skip (h : ML fa ch V face y gr rm T Tj) (hn : gr y = -1 ∨ fa (gr y).toNat ≠ face) : ML fa ch V face (y + 1) gr rm T Tj :=
  ⟨h.mono, fun z hz h1 h2 => by
    rcases Nat.lt_or_ge z y with h3 | h3
    · exact h.seen z h3 h1 h2
    · obtain rfl : z = y := by omega
      rcases hn with hn | hn
      · exact absurd hn h1
      · exact absurd h2 hn, h.cl⟩
theorem ML.next (h : ML fa ch V face y gr rm T Tj) (hs : SNo fa ch V y gr rm Tj T') : ML fa ch V face (y + 1) gr rm T T' :=
  ⟨fun g hg => hs.mono g (h.mono g hg), fun z hz h1 h2 q hq => by
    rcases Nat.lt_or_ge z y with h3 | h3
    · exact hs.mono _ (h.seen z h3 h1 h2 q hq)
    · obtain rfl : z = y := by omega
      exact hs.all q hq, h.cl.trans hs.cl hs.mono⟩
theorem ML.done (h : ML fa ch V face V gr rm T Tj) : MNo fa ch V face gr rm T Tj := ⟨h.mono, h.seen, h.cl⟩
theorem ML.yes (h : ML fa ch V face y gr rm T Tj) (hy : y < V) (hK : face < K) (hf : T face = true) (hg : gr y ≠ -1) (hfa : fa (gr y).toNat = face) (hs : SYes fa ch V K y gr rm Tj gr' rm') : MYes fa ch V K face gr rm T gr' (upd rm' face (rm' face + 1)) := by
  have hrf := hs.keepr face (h.mono face hf)
  refine ⟨by rw [upd_same, hrf], fun g h1 h2 => by rw [upd_other _ _ h2]; exact hs.keepr g (h.mono g h1), fun g h1 h2 => by rw [upd_other _ _ h2]; exact hs.bd g h1, fun z hz => ?_, fun z hz h1 h2 h3 => ?_, fun g h1 => ?_, hs.val⟩
  · by_cases e : z = y
    · subst e
      exact ⟨fun e => absurd e hs.sits, fun e => absurd e hg⟩
    · exact hs.none z hz e
  · refine hs.keepg z hz (fun e => ?_) h1 (h.mono _ h2)
    subst e
    exact h3 hfa
  · have hb := hs.bal g h1
    have hi : ind fa (gr y) g = if face = g then 1 else 0 := by
      unfold ind
      rw [hfa]
      simp [hg]
    rw [hi] at hb
    by_cases e : g = face
    · subst e; rw [upd_same]; rw [if_pos rfl] at hb; omega
    · rw [upd_other _ _ e]; rw [if_neg (fun e' => e e'.symm)] at hb; omega
end
end Go.Proofs.YtefagplbpbkpgaaDoor
/-
  Faces as plain lists: a function that is one to one on the numbers below H, its rounds, and the faces, each from its least number on. No conditions beyond each theorem's own.
-/
namespace Go.Proofs.YtefagplbpbkpgaaDoor
open Go.RowKit
set_option linter.unusedVariables false
set_option maxRecDepth 20000

theorem nodup_le : ∀ (V : Nat) (l : List Nat), l.Nodup → (∀ x ∈ l, x < V) → l.length ≤ V := by
  intro V
  induction V with
  | zero =>
    intro l _ h
    cases l with
    | nil => simp
    | cons a l => exact absurd (h a (by simp)) (by omega)
  | succ V ih =>
    intro l hn h
    have h1 : (l.erase V).Nodup := hn.erase V
    have h2 : ∀ x ∈ l.erase V, x < V := by
      intro x hx
      have hx2 := (hn.mem_erase_iff).1 hx
      have := h x hx2.2
      have hne := hx2.1
      omega
    have h3 := ih _ h1 h2
    have h4 := List.length_erase (a := V) (l := l)
    split at h4 <;> omega
theorem nodup_snoc {l : List Nat} {x : Nat} (h : l.Nodup) (hx : x ∉ l) : (l ++ [x]).Nodup := by
  rw [List.nodup_append]
  refine ⟨h, by simp, ?_⟩
  intro a ha b hb
  simp at hb
  subst hb
  exact fun e => hx (e ▸ ha)

/-- so many steps on -/
def it (N : Nat → Nat) : Nat → Nat → Nat
  | 0, h => h
  | t + 1, h => N (it N t h)
theorem it_add (N : Nat → Nat) (s t h : Nat) : it N (s + t) h = it N s (it N t h) := by
  induction s with
  | zero => simp [it]
  | succ s ih => rw [Nat.succ_add]; simp [it, ih]
/-- one to one on the numbers below H -/
structure Pm (N : Nat → Nat) (H : Nat) : Prop where
  lt : ∀ j, j < H → N j < H
  inj : ∀ i j, i < H → j < H → N i = N j → i = j
theorem Pm.it_lt {N : Nat → Nat} {H : Nat} (p : Pm N H) {h : Nat} (hh : h < H) : ∀ t, it N t h < H := by
  intro t
  induction t with
  | zero => exact hh
  | succ t ih => exact p.lt _ ih
theorem Pm.it_inj {N : Nat → Nat} {H : Nat} (p : Pm N H) {i j : Nat} (hi : i < H) (hj : j < H) : ∀ t, it N t i = it N t j → i = j := by
  intro t
  induction t with
  | zero => exact id
  | succ t ih => exact fun h => ih (p.inj _ _ (p.it_lt hi t) (p.it_lt hj t) h)
/-- where two steps come to one number, the steps between come back -/
theorem Pm.back {N : Nat → Nat} {H : Nat} (p : Pm N H) {h : Nat} (hh : h < H) {s t : Nat} (hst : s ≤ t) (he : it N s h = it N t h) : it N (t - s) h = h := by
  have : it N s h = it N s (it N (t - s) h) := by rw [← it_add, show s + (t - s) = t by omega, he]
  exact (p.it_inj hh (p.it_lt hh _) s this).symm
theorem Pm.ret {N : Nat → Nat} {H : Nat} (p : Pm N H) {h : Nat} (hh : h < H) : ∃ t, t < H ∧ it N (t + 1) h = h := by
  refine Classical.byContradiction fun hno => ?_
  have hno : ∀ t, t < H → it N (t + 1) h ≠ h := fun t ht e => hno ⟨t, ht, e⟩
  have hnd : ((List.range (H + 1)).map fun t => it N t h).Nodup := by
    rw [List.nodup_iff_pairwise_ne, List.pairwise_map]
    have : (List.range (H + 1)).Pairwise (· < ·) := List.pairwise_lt_range
    refine List.Pairwise.imp_of_mem ?_ this
    intro a b ha hb hab he
    simp at ha hb
    have := p.back hh (Nat.le_of_lt hab) he
    refine hno (b - a - 1) (by omega) ?_
    rw [show b - a - 1 + 1 = b - a by omega]
    exact this
  have := nodup_le H _ hnd (by simp; exact fun a _ => p.it_lt hh a)
  simp at this
  omega
/-- how many steps a round has, less one -/
def pr (N : Nat → Nat) (H h : Nat) : Nat := ((List.range H).find? fun t => it N (t + 1) h == h).getD 0
/-- a round, from h on -/
def orb (N : Nat → Nat) (H h : Nat) : List Nat := (List.range (pr N H h + 1)).map fun t => it N t h
theorem Pm.pr {N : Nat → Nat} {H : Nat} (p : Pm N H) {h : Nat} (hh : h < H) : pr N H h < H ∧ it N (pr N H h + 1) h = h ∧ ∀ t, t < pr N H h → it N (t + 1) h ≠ h := by
  obtain ⟨t, ht, he⟩ := p.ret hh
  cases hf : (List.range H).find? fun t => it N (t + 1) h == h with
  | none =>
    rw [List.find?_eq_none] at hf
    exact absurd (by simpa using he) (hf t (by simpa using ht))
  | some i =>
    have := List.find?_range_eq_some.1 hf
    simp only [Go.Proofs.YtefagplbpbkpgaaDoor.pr, hf, Option.getD_some]
    refine ⟨by simpa using this.2.1, by simpa using this.1, fun t ht => by simpa using this.2.2 t ht⟩
/-- it is what comes back first -/
theorem Pm.pr_is {N : Nat → Nat} {H : Nat} (p : Pm N H) {h : Nat} (hh : h < H) {t : Nat} (he : it N (t + 1) h = h) (hno : ∀ s, s < t → it N (s + 1) h ≠ h) : Go.Proofs.YtefagplbpbkpgaaDoor.pr N H h = t := by
  obtain ⟨h1, h2, h3⟩ := p.pr hh
  rcases Nat.lt_trichotomy (Go.Proofs.YtefagplbpbkpgaaDoor.pr N H h) t with hl | hl | hl
  · exact absurd h2 (hno _ hl)
  · exact hl
  · exact absurd he (h3 _ hl)
theorem mem_orb {N : Nat → Nat} {H h j : Nat} : j ∈ orb N H h ↔ ∃ t, t ≤ pr N H h ∧ it N t h = j := by
  unfold orb
  simp only [List.mem_map, List.mem_range]
  constructor
  · rintro ⟨t, ht, e⟩; exact ⟨t, by omega, e⟩
  · rintro ⟨t, ht, e⟩; exact ⟨t, by omega, e⟩
theorem it_mod {N : Nat → Nat} {h q : Nat} (he : it N q h = h) (hq : 0 < q) : ∀ t, it N t h = it N (t % q) h := by
  intro t
  induction t using Nat.strongRecOn with
  | ind t ih =>
    by_cases hlt : t < q
    · rw [Nat.mod_eq_of_lt hlt]
    · have h1 : it N ((t - q) + q) h = it N (t - q) h := by rw [it_add, he]
      rw [show t - q + q = t by omega] at h1
      rw [h1, ih (t - q) (by omega)]
      congr 1
      exact (Nat.mod_eq_sub_mod (by omega)).symm
theorem Pm.orb_it {N : Nat → Nat} {H : Nat} (p : Pm N H) {h : Nat} (hh : h < H) (t : Nat) : it N t h ∈ orb N H h := by
  obtain ⟨h1, h2, h3⟩ := p.pr hh
  rw [mem_orb]
  refine ⟨t % (Go.Proofs.YtefagplbpbkpgaaDoor.pr N H h + 1), ?_, (it_mod h2 (by omega) t).symm⟩
  have := Nat.mod_lt t (show 0 < Go.Proofs.YtefagplbpbkpgaaDoor.pr N H h + 1 by omega)
  omega
theorem Pm.orb_lt {N : Nat → Nat} {H : Nat} (p : Pm N H) {h : Nat} (hh : h < H) : ∀ j ∈ orb N H h, j < H := by
  intro j hj
  obtain ⟨t, _, rfl⟩ := mem_orb.1 hj
  exact p.it_lt hh t
theorem Pm.orb_nodup {N : Nat → Nat} {H : Nat} (p : Pm N H) {h : Nat} (hh : h < H) : (orb N H h).Nodup := by
  obtain ⟨h1, h2, h3⟩ := p.pr hh
  unfold orb
  rw [List.nodup_iff_pairwise_ne, List.pairwise_map]
  refine List.Pairwise.imp_of_mem ?_ List.pairwise_lt_range
  intro a b ha hb hab he
  simp at ha hb
  refine h3 (b - a - 1) (by omega) ?_
  rw [show b - a - 1 + 1 = b - a by omega]
  exact p.back hh (Nat.le_of_lt hab) he
/-- of one round -/
theorem Pm.sym {N : Nat → Nat} {H : Nat} (p : Pm N H) {h j : Nat} (hh : h < H) (hj : j ∈ orb N H h) : h ∈ orb N H j := by
  obtain ⟨h1, h2, h3⟩ := p.pr hh
  obtain ⟨t, ht, rfl⟩ := mem_orb.1 hj
  have : it N (Go.Proofs.YtefagplbpbkpgaaDoor.pr N H h + 1 - t) (it N t h) = h := by
    rw [← it_add, show Go.Proofs.YtefagplbpbkpgaaDoor.pr N H h + 1 - t + t = Go.Proofs.YtefagplbpbkpgaaDoor.pr N H h + 1 by omega]
    exact h2
  have h4 := p.orb_it (p.it_lt hh t) (Go.Proofs.YtefagplbpbkpgaaDoor.pr N H h + 1 - t)
  rw [this] at h4
  exact h4
theorem Pm.trans {N : Nat → Nat} {H : Nat} (p : Pm N H) {h j k : Nat} (hh : h < H) (hj : j ∈ orb N H h) (hk : k ∈ orb N H j) : k ∈ orb N H h := by
  obtain ⟨t, ht, rfl⟩ := mem_orb.1 hj
  obtain ⟨s, hs, rfl⟩ := mem_orb.1 hk
  rw [← it_add]
  exact p.orb_it hh _
/-- the least of its round -/
def isLeast (N : Nat → Nat) (H h : Nat) : Bool := (orb N H h).all fun j => decide (h ≤ j)
theorem isLeast_iff {N : Nat → Nat} {H h : Nat} : isLeast N H h = true ↔ ∀ j ∈ orb N H h, h ≤ j := by simp [isLeast]
/-- the faces from the numbers below k -/
def facesF (N : Nat → Nat) (H k : Nat) : List (List Nat) := ((List.range k).filter fun h => isLeast N H h).map fun h => orb N H h
theorem facesF_succ (N : Nat → Nat) (H k : Nat) : facesF N H (k + 1) = facesF N H k ++ if isLeast N H k then [orb N H k] else [] := by
  unfold facesF
  rw [List.range_succ, List.filter_append, List.map_append]
  congr 1
  cases h : isLeast N H k <;> simp [h]
/-- gone: in a round of a number below k -/
def gn (N : Nat → Nat) (H k j : Nat) : Prop := ∃ h, h < k ∧ j ∈ orb N H h
theorem Pm.gn_iff {N : Nat → Nat} {H : Nat} (p : Pm N H) {k : Nat} (hk : k < H) : gn N H k k ↔ isLeast N H k = false := by
  rw [← Bool.not_eq_true, isLeast_iff]
  constructor
  · rintro ⟨h, hh, hj⟩ hl
    have := hl h (p.sym (by omega) hj)
    omega
  · intro hno
    refine Classical.byContradiction fun hg => hno fun j hj => ?_
    refine Nat.le_of_not_lt fun hlt => hg ⟨j, hlt, p.sym hk hj⟩
theorem facesF_len (N : Nat → Nat) (H k : Nat) : (facesF N H k).length ≤ k := by
  unfold facesF
  rw [List.length_map]
  exact Nat.le_trans (List.length_filter_le _ _) (by simp)
end Go.Proofs.YtefagplbpbkpgaaDoor
/-
  The contracts of the program's other and along: the half edge that comes behind each along its face. Conditions: the lists lie in memory as told, and have numbers below H.
-/
namespace Go.Proofs.YtefagplbpbkpgaaDoor
open Go.RowKit
set_option linter.unusedVariables false
set_option maxRecDepth 20000
/-- the other half edge -/
def oth (h : Nat) : Nat := if h % 2 = 0 then h + 1 else h - 1
theorem oth_oth (h : Nat) : oth (oth h) = h := by unfold oth; split <;> split <;> omega
theorem oth_lt {h n : Nat} (hh : h < 2 * n) : oth h < 2 * n := by unfold oth; split <;> omega
theorem xor_oth : ∀ h : Nat, h < 256 → bits .xor .i64 (h : Int) 1 = ((oth h : Nat) : Int) := by
  have key : ∀ h : Nat, h < 256 → h ^^^ 1 = oth h := by decide
  intro h hh
  show IntKind.i64.wrap ((BitVec.ofInt 64 (h : Int) ^^^ BitVec.ofInt 64 1).toNat : Nat) = _
  have h1 : (BitVec.ofInt 64 (h : Int)).toNat = h := by rw [BitVec.toNat_ofInt]; omega
  have h2 : (BitVec.ofInt 64 1).toNat = 1 := by decide
  have h3 : oth h < 256 := oth_lt (n := 128) hh
  rw [BitVec.toNat_xor, h1, h2, key h hh, IntKind.wrap_i64]
  omega
theorem other_any (w : World) (h : Nat) (hh : h < 256) : Calls Tryd.prog 61 #[.int .i64 (h : Nat)] w fun e w' => e = .returned (.int .i64 (oth h : Nat)) ∧ w' = w := by
  have hx := hide (xor_oth h hh)
  go_enter Tryd.func61, Tryd.ntmps61
  go_wp2_with fail
  go_ret
  exact ⟨ret_i (unhide hx), rfl⟩

theorem cell_set_ne {w : World} {p q : Addr} {v : Value} (h : p.block ≠ q.block) : (w.setCell q v).cell? p = w.cell? p := World.cell?_of_block (w := w) (Below.heap_setCell _ _ _ _ h)
/-- what comes behind what: N of the other half edge of a list's number is the next one in the list -/
def Behind (q : List (List Nat)) (N : Nat → Nat) : Prop := ∀ x, x < q.length → ∀ i, i < (q.getD x []).length → N (oth ((q.getD x []).getD i 0)) = (q.getD x []).getD ((i + 1) % (q.getD x []).length) 0
/-- up to the place i in the list x -/
def BehindTo (q : List (List Nat)) (N f : Nat → Nat) (x i : Nat) : Prop :=
  ∀ y, y < q.length → ∀ j, j < (q.getD y []).length → (y < x ∨ y = x ∧ j < i) → f (oth ((q.getD y []).getD j 0)) = N (oth ((q.getD y []).getD j 0))
def rowsI (q : List (List Nat)) : List (List Int) := q.map toIs
theorem rowsI_length (q : List (List Nat)) : (rowsI q).length = q.length := by simp [rowsI]
theorem rowsI_getD (q : List (List Nat)) (k : Nat) : (rowsI q).getD k [] = toIs (q.getD k []) := by
  simp only [rowsI, List.getD_eq_getElem?_getD, List.getElem?_map]
  cases q[k]? <;> simp [toIs]

set_option maxHeartbeats 4000000 in
theorem along_any (w : World) (a : Option Addr) (m cap H : Nat) (q : List (List Nat)) (h : Rr w a m (rowsI q)) (hH : H ≤ 256) (hlt : ∀ x, x < q.length → ∀ i, i < (q.getD x []).length → (q.getD x []).getD i 0 < H) (hev : ∀ j, j < H → oth j < H)
    (N : Nat → Nat) (hN : Behind q N) (hcov : ∀ j, j < H → ∃ x i, x < q.length ∧ i < (q.getD x []).length ∧ oth ((q.getD x []).getD i 0) = j) :
    Calls Tryd.prog 38 #[.slice a m cap, .int .i64 (H : Nat)] w fun e w' => (∃ g, e = .returned (.slice (some ⟨g, 0, none⟩) H H) ∧ w.heap.size ≤ g ∧ RowN w' g H N) ∧ Below w.heap.size w w' := by
  have hq : q.length = m := by have := h.1; rwa [rowsI_length] at this
  have hm := h.2.1
  have HR := hide h
  have HLT := hide hlt
  have HEV := hide hev
  have HN := hide hN
  have HC := hide hcov
  have HQ := hide hq
  clear h hlt hev hN hcov hq
  obtain ⟨i0, hi0, hz0, hz1, hz2⟩ := info_parts info3
  have HI := hide hi0
  have HZ0 := hide hz0
  have HZ1 := hide hz1
  have hzb : i0.bytes * H ≤ 281474976710656 := by rw [hz2]; omega
  clear hi0 hz0 hz1 hz2
  go_enter Tryd.func38, Tryd.ntmps38
  go_wp2_with (refine wpList_make_full _ rfl (.tmp 10) (.tmp 10) 37 rfl w.heap.size 3 i0 (.int .i64 0) 1 Tryd.underlying37 (unhide HI) (unhide HZ0) (unhide HZ1) .i64 .i64 _ _ H rfl rfl rfl rfl hzb ?m1 ?m2 ?_)
  case m1 => unfold maxLen; omega
  case m2 => simp
  intro w1 hown1 hg1
  rw [toList_madeCells_one] at hown1
  have HB1 := hide (show Below w.heap.size w w1 from ⟨hg1.os, hg1.tape, hg1.output, hg1.size, fun k hk => hg1.block k hk (by simp)⟩)
  have HR1 := hide (show RowN w1 w.heap.size H (fun t => 0) from (Row.of_owns hown1).congr fun t ht => by simp)
  have HT1 := hide (show BehindTo q N (fun t => 0) 0 0 from fun y hy j hj hh => by omega)
  clear hown1 hg1
  go_wp2_with fail
  go_loopw [14] (fun i wr => ∃ (x : Nat) (f : Nat → Nat), i = .int .i64 x ∧ x ≤ m ∧ Hid (RowN wr w.heap.size H f) ∧ Hid (BehindTo q N f x 0) ∧ Hid (Below w.heap.size w wr)) (fun i wr => m - (intOf i).toNat)
  case atStart => exact ⟨0, _, rfl, by omega, HR1, HT1, HB1⟩
  case round =>
    clear HR1 HT1 HB1
    obtain ⟨x, f, rfl, hx, HRow, HT, HB⟩ := hrel
    by_cases hxm : x < m
    · have hxm2 : (x : Int) < (m : Int) := by omega
      obtain ⟨gr, or, la, lc, ha, hgr, c0, hlc, hls⟩ := (unhide HR).2.2 x hxm
      subst ha
      rw [rowsI_getD, toIs_length] at c0 hls
      obtain ⟨l, hl⟩ : ∃ l, q.getD x [] = l := ⟨_, rfl⟩
      rw [hl] at c0 hls
      obtain ⟨len, hlen⟩ : ∃ len, l.length = len := ⟨_, rfl⟩
      rw [hlen] at c0 hls
      have HLEN := hide hlen
      have d0 : wr.cell? ⟨gr, or + x, none⟩ = some (.slice la len lc) := by rw [(unhide HB).cell (p := ⟨gr, or + x, none⟩) hgr]; exact c0
      have hgr2 : gr < wr.heap.size := Nat.lt_of_lt_of_le hgr (unhide HB).size
      have HL := hide hl
      have HLS := hide hls
      have hln := hls.2.1
      clear hls hlc hl c0 hlen
      go_wp2_with fail
      go_loopw [20] (fun i wr => ∃ (k : Nat) (f : Nat → Nat), i = .int .i64 k ∧ k ≤ len ∧ Hid (RowN wr w.heap.size H f) ∧ Hid (BehindTo q N f x k) ∧ Hid (Below w.heap.size w wr)) (fun i wr => len - (intOf i).toNat)
      case atStart => exact ⟨0, _, rfl, by omega, HRow, HT, HB⟩
      case round =>
        clear d0 hgr2 HRow HT HB
        obtain ⟨k, f2, rfl, hk, HRow2, HT3, HB2⟩ := hrel
        by_cases hkl : k < len
        · have hkl2 : (k : Int) < (len : Int) := by omega
          have hp : (k + 1) % len < len := Nat.mod_lt _ (by omega)
          obtain ⟨gl, ol, hla, hgl, c1⟩ := (unhide HLS).2.2 k hkl
          obtain ⟨gl', ol', hla', _, c2⟩ := (unhide HLS).2.2 _ hp
          subst hla
          simp only [Option.some.injEq, Addr.mk.injEq] at hla'
          obtain ⟨rfl, rfl, _⟩ := hla'
          rw [toIs_getD] at c1 c2
          obtain ⟨hh, hhe⟩ : ∃ hh, l.getD k 0 = hh := ⟨_, rfl⟩
          obtain ⟨y, hye⟩ : ∃ y, l.getD ((k + 1) % len) 0 = y := ⟨_, rfl⟩
          rw [hhe] at c1
          rw [hye] at c2
          have d1 : wr.cell? ⟨gl, ol + k, none⟩ = some (.int .i64 (hh : Nat)) := by rw [(unhide HB2).cell (p := ⟨gl, ol + k, none⟩) hgl]; exact c1
          have d2 : wr.cell? ⟨gl, ol + (k + 1) % len, none⟩ = some (.int .i64 (y : Nat)) := by rw [(unhide HB2).cell (p := ⟨gl, ol + (k + 1) % len, none⟩) hgl]; exact c2
          have hhH : hh < H := by have := unhide HLT x (by rw [unhide HQ]; exact hxm) k (by rw [unhide HL, unhide HLEN]; exact hkl); rw [unhide HL, hhe] at this; exact this
          have hoH := unhide HEV hh hhH
          have r0 := (unhide HRow2).cell hoH
          have r1 := (unhide HRow2).fz (oth hh)
          have hNy : N (oth hh) = y := by have := unhide HN x (by rw [unhide HQ]; exact hxm) k (by rw [unhide HL, unhide HLEN]; exact hkl); rw [unhide HL, unhide HLEN, hhe, hye] at this; exact this
          have HNY := hide hNy
          have HHE := hide hhe
          have HO := hide (fun (u : World) => other_any u hh (by omega))
          have hoH2 : ((oth hh : Nat) : Int) < (H : Int) := by omega
          have hne : ¬ gl = w.heap.size := by omega
          have hsz := (unhide HB2).size
          have hW : IntKind.i64.wrap ((k : Int) + 1) = (k : Int) + 1 := by rw [IntKind.wrap_i64]; omega
          have hT : ((k : Int) + 1).tmod (len : Int) = (((k + 1) % len : Nat) : Int) := by rw [show ((k : Int) + 1) = ((k + 1 : Nat) : Int) by omega, Int.ofNat_tmod]
          have hW2 : IntKind.i64.wrap (((k + 1) % len : Nat) : Int) = (((k + 1) % len : Nat) : Int) := by rw [IntKind.wrap_i64]; omega
          have hN0 : ¬ len = 0 := by omega
          have hN1 : ((len : Int) == 0) = false := by rw [beq_eq_false_iff_ne]; omega
          have hp2 : (((k + 1) % len : Nat) : Int) < (len : Int) := by omega
          have HTB := hide (show BehindTo q N (upd f2 (oth hh) y) x (k + 1) from fun y' hy' j hj hh' => by
            by_cases heq : oth ((q.getD y' []).getD j 0) = oth hh
            · rw [heq, upd_same, hNy]
            · rw [upd_other _ _ heq]
              refine unhide HT3 y' hy' j hj ?_
              rcases hh' with h1 | ⟨h1, h2⟩
              · exact .inl h1
              · refine .inr ⟨h1, ?_⟩
                rcases Nat.lt_or_ge j k with h3 | h3
                · exact h3
                · obtain rfl : j = k := by omega
                  subst h1
                  rw [unhide HL, hhe] at heq
                  exact absurd rfl heq)
          generalize (k + 1) % len = pp at *
          generalize oth hh = oo at *
          clear hNy hhe hye c1 c2 hhH hoH
          go_wp2_with fail
          go_region_held3 (fun u => u.cell? ⟨gl, ol + pp, none⟩ = some (.int .i64 (y : Nat))) (first | exact d2 | exact (cell_set_ne (p := ⟨gl, ol + pp, none⟩) (show gl ≠ w.heap.size from hne)).trans d2 | go_keep) ((go_at_call 61; refine (unhide HO _).mono ?_; rintro e w' ⟨rfl, rfl⟩))
          have HB4 := hide (((unhide HB2).setCell (p := ⟨w.heap.size, oo, none⟩) (Nat.le_refl _) (.int .i64 (y : Nat))).trans (below_refl_draws _ 1))
          have HRow4 := hide (show RowN (wr.setCell ⟨w.heap.size, oo, none⟩ (.int .i64 (y : Nat))).drew w.heap.size H (upd f2 oo y) from
            (Row.congr (Row.set (unhide HRow2) oo (.int .i64 (y : Nat))) fun t ht => by unfold upd; split <;> rfl).keep rfl)
          go_wp2_with fail
          go_roundw
          case rel => exact ⟨k + 1, _, by go_num, by omega, HRow4, HTB, HB4⟩
          case measure => simp [intOf]; omega
        · obtain rfl : k = len := by omega
          have HT5 := hide (show BehindTo q N f2 (x + 1) 0 from fun y hy j hj hh => unhide HT3 y hy j hj (by
            by_cases hyx : y = x
            · subst hyx
              right
              rw [unhide HL, unhide HLEN] at hj
              exact ⟨rfl, hj⟩
            · left; omega))
          go_wp2_with fail
          go_roundw
          case rel => exact ⟨x + 1, f2, by go_num, by omega, HRow2, HT5, HB2⟩
          case measure => simp [intOf]; omega
    · obtain rfl : x = m := by omega
      have HRF := hide (show RowN wr w.heap.size H N from Row.congr (unhide HRow) fun t ht => by
        obtain ⟨y, j, hy, hj, e⟩ := unhide HC t ht
        have := unhide HT y hy j hj (.inl (by rw [← unhide HQ]; exact hy))
        rw [e] at this
        simp only [this])
      go_wp2_with fail
      go_ret
      exact ⟨⟨_, rfl, Nat.le_refl _, unhide HRF⟩, unhide HB⟩
end Go.Proofs.YtefagplbpbkpgaaDoor
/-
  The contract of the program's takeFace: a round of half edges, which are gone behind it. Conditions: the row of what comes behind what lies in memory as told, and may be written.
-/
namespace Go.Proofs.YtefagplbpbkpgaaDoor
open Go.RowKit
set_option linter.unusedVariables false
set_option maxRecDepth 20000

/-- the row of what comes behind what, without what is gone -/
def nz (N : Nat → Nat) (G : Nat → Bool) (j : Nat) : Int := if G j then -1 else (N j : Int)
theorem nz_gone {N : Nat → Nat} {G : Nat → Bool} {j : Nat} (h : G j) : nz N G j = -1 := if_pos h
theorem nz_here {N : Nat → Nat} {G : Nat → Bool} {j : Nat} (h : ¬ G j) : nz N G j = (N j : Int) := if_neg h
/-- gone before, or in a list -/
def gq (G : Nat → Bool) (l : List Nat) (j : Nat) : Bool := G j || l.contains j
theorem gq_iff {G : Nat → Bool} {l : List Nat} {j : Nat} : gq G l j = true ↔ (G j = true ∨ j ∈ l) := by simp [gq]
theorem nz_congr {N : Nat → Nat} {G G' : Nat → Bool} {j : Nat} (h : G j ↔ G' j) : nz N G j = nz N G' j := by
  by_cases hG : G j
  · rw [nz_gone hG, nz_gone (h.1 hG)]
  · rw [nz_here hG, nz_here (fun h' => hG (h.2 h'))]
def slen : Value → Nat
  | .slice _ n _ => n
  | _ => 0
theorem slen_owns {w : World} {base : Nat} {v : Value} {n : Nat} {xs : List Value} {e : TypeId} {k : Nat} (h : w.ownsRow base e k v n xs) : slen v = n := by
  rcases h.2 with ⟨rfl, h0⟩ | ⟨g, cap, cur, rfl, _⟩
  · simp [slen]; omega
  · rfl
def its (N : Nat → Nat) (h t : Nat) : List Nat := (List.range t).map fun s => it N s h
theorem its_succ (N : Nat → Nat) (h t : Nat) : its N h (t + 1) = its N h t ++ [it N t h] := by simp [its, List.range_succ]
theorem its_length (N : Nat → Nat) (h t : Nat) : (its N h t).length = t := by simp [its]
theorem mem_its {N : Nat → Nat} {h t j : Nat} : j ∈ its N h t ↔ ∃ s, s < t ∧ it N s h = j := by simp [its]
theorem orb_its (N : Nat → Nat) (H h : Nat) : orb N H h = its N h (pr N H h + 1) := rfl

/-- what is left as it was by one that writes into block g alone and lays new memory -/
structure But (g : Nat) (w w' : World) : Prop where
  bel : Below g w w'
  size : w.heap.size ≤ w'.heap.size
  far : ∀ i, i < w.heap.size → i ≠ g → w'.heap[i]? = w.heap[i]?
theorem But.refl (g : Nat) (w : World) : But g w w := ⟨Below.refl _ _, Nat.le_refl _, fun _ _ _ => rfl⟩
theorem But.trans {g : Nat} {a b c : World} (h : But g a b) (k : But g b c) : But g a c :=
  ⟨h.bel.trans k.bel, Nat.le_trans h.size k.size, fun i h1 h2 => by rw [k.far i (Nat.lt_of_lt_of_le h1 h.size) h2, h.far i h1 h2]⟩
theorem But.of {g : Nat} {w w' : World} (h : Below w.heap.size w w') (hg : g ≤ w.heap.size) : But g w w' := ⟨h.mono hg, h.size, fun i h1 _ => h.block i h1⟩
theorem But.set {g : Nat} {w : World} (o : Nat) (v : Value) : But g w (w.setCell ⟨g, o, none⟩ v) :=
  ⟨(Below.refl _ _).setCell (p := ⟨g, o, none⟩) (Nat.le_refl _) _, by simp [World.setCell], fun i _ h2 => Below.heap_setCell _ _ _ _ h2⟩

theorem but_grown {g : Nat} {w wr w7 : World} {o : Obj} {own : Option Nat} (hB : But g w wr) (hg : (wr.alloc o).grownBy w7 own) (hown : ∀ t, own = some t → w.heap.size ≤ t) (hgl : g < w.heap.size) : But g w w7 ∧ w7.heap[g]? = wr.heap[g]? := by
  have hs : (wr.alloc o).heap.size = wr.heap.size + 1 := by simp
  have hsz := hB.size
  have hs7 := hg.size
  have key : ∀ i, i < w.heap.size → w7.heap[i]? = wr.heap[i]? := fun i hi => by
    rw [hg.block i (by omega) (fun e => by have := hown i e.symm; omega)]
    exact Below.heap_alloc wr o i (by omega)
  refine ⟨⟨⟨hg.os.trans hB.bel.os, hg.tape.trans hB.bel.tape, hg.output.trans hB.bel.output, by omega, fun i hi => ?_⟩, by omega, fun i h1 h2 => by rw [key i h1, hB.far i h1 h2]⟩, key g hgl⟩
  rw [key i (by omega)]
  exact hB.bel.block i hi

set_option maxHeartbeats 4000000 in
theorem take_any (w : World) (g H cap : Nat) (N : Nat → Nat) (p : Pm N H) (hH : H ≤ 256) (G : Nat → Bool) (hr : RowZ w g H (nz N G)) (hG : ∀ j, j < H → (G (N j) ↔ G j)) (h : Nat) (hh : h < H) (hgh : ¬ G h) :
    Calls Tryd.prog 39 #[.slice (some ⟨g, 0, none⟩) H cap, .int .i64 (h : Nat)] w fun e w' => (∃ v, e = .returned v ∧ w'.ownsRow w.heap.size 3 1 v (orb N H h).length (zcells (toIs (orb N H h)))) ∧ RowZ w' g H (nz N (gq G (orb N H h))) ∧ But g w w' := by
  obtain ⟨hp1, hp2, hp3⟩ := p.pr hh
  have hnd := p.orb_nodup hh
  have hgl := hr.lt
  have hGt : ∀ t, ¬ G (it N t h) := by
    intro t
    induction t with
    | zero => exact hgh
    | succ t ih => exact fun hc => ih ((hG _ (p.it_lt hh t)).1 hc)
  have hdis : ∀ t, t ≤ pr N H h → it N t h ∉ its N h t := by
    intro t ht hc
    obtain ⟨s, hs, he⟩ := mem_its.1 hc
    refine hp3 (t - s - 1) (by omega) ?_
    rw [show t - s - 1 + 1 = t - s by omega]
    exact p.back hh (Nat.le_of_lt hs) he
  have hlt : ∀ t, it N t h < H := p.it_lt hh
  obtain ⟨P, hP⟩ : ∃ P, pr N H h = P := ⟨_, rfl⟩
  have horb : orb N H h = its N h (P + 1) := by rw [orb_its, hP]
  rw [hP] at hp1 hp2 hdis
  rw [horb]
  have HG := hide hGt
  have HD := hide hdis
  have HLT := hide hlt
  have HP2 := hide hp2
  have HR0 := hide (show RowZ w g H (nz N (gq G (its N h 0))) from Row.congr hr fun t ht => congrArg (Value.int .i64) (nz_congr (by rw [gq_iff]; simp [its])))
  have HO0 := hide (show w.ownsRow w.heap.size 3 1 (.slice none 0 0) 0 (zcells (toIs (its N h 0))) from World.ownsRow_nil _ _ _ _)
  have HB0 := hide (But.refl g w)
  obtain ⟨i0, hi0, hz0, hz1, hz2⟩ := info_parts info3
  have HI := hide hi0
  have HZ0 := hide hz0
  have HZ1 := hide hz1
  have HZ2 := hide hz2
  clear hi0 hz0 hz1 hz2 hr hG hGt hdis hlt hp2 hp3 horb hnd hgh p hP
  go_enter Tryd.func39, Tryd.ntmps39
  go_wp2_with fail
  go_loopw [1, 5] (fun v1 v5 wr => ∃ t : Nat, v1 = .int .i64 (it N t h : Nat) ∧ t ≤ P + 1 ∧ Hid (wr.ownsRow w.heap.size 3 1 v5 t (zcells (toIs (its N h t)))) ∧ Hid (RowZ wr g H (nz N (gq G (its N h t)))) ∧ Hid (But g w wr)) (fun v1 v5 wr => P + 1 - slen v5)
  case atStart => exact ⟨0, rfl, by omega, HO0, HR0, HB0⟩
  case round =>
    clear HO0 HR0 HB0
    obtain ⟨t, rfl, ht, HO, HR, HB⟩ := hrel
    have hx := unhide HLT t
    have r0 := (unhide HR).cell hx
    have r1 := (unhide HR).fz (it N t h)
    have hsl := slen_owns (unhide HO)
    have hsz := (unhide HB).size
    by_cases htP : t ≤ P
    · have hno : ¬ gq G (its N h t) (it N t h) = true := fun hc => (gq_iff.1 hc).elim (unhide HG t) (unhide HD t htP)
      rw [nz_here hno] at r0
      have HNO := hide hno
      obtain ⟨x, hxe⟩ : ∃ x, it N t h = x := ⟨_, rfl⟩
      obtain ⟨y, hye⟩ : ∃ y, N x = y := ⟨_, rfl⟩
      have HXE := hide hxe
      have HYE := hide hye
      rw [hxe] at hx r0 r1
      rw [hye] at r0
      have hx2 : (x : Int) < (H : Int) := by omega
      have t1 : ((y : Int) != (-1 : Int)) = true := by simp
      rw [hxe]
      clear hno hxe hye
      go_wp2_with (at_builtin; refine wpList_append_own _ rfl (.tmp 12) (.tmp 14) 37 rfl w.heap.size 3 i0 (.int .i64 0) 1 8 Tryd.underlying37 (unhide HI) (unhide HZ0) (unhide HZ1) (unhide HZ2) rfl (by decide) u5 t (zcells (toIs (its N h t))) rfl ((unhide HO).alloc _) ⟨wr.heap.size, 0, none⟩ 1 1 [.int .i64 (x : Int)] rfl rfl (cell_one_new _ _ _) (one_i (x : Int)) ?a3 ?a4 ?a5 ?_)
      case a3 => unfold maxLen; omega
      case a4 => omega
      case a5 => simp; omega
      intro v2 w7 hown7 hg7 _
      rw [zcells_snoc, toIs_snoc, ← unhide HXE, ← its_succ] at hown7
      obtain ⟨hb7, hgk⟩ := but_grown (unhide HB) hg7 (fun b hb => ((unhide HO).lt b hb).1) hgl
      have HR7 := hide ((unhide HR).keep hgk)
      have HO7 := hide hown7
      have HB7 := hide hb7
      have q0 := (unhide HR7).cell (unhide HLT t)
      have q1 := (unhide HR7).fz (it N t h)
      rw [nz_here (unhide HNO), unhide HXE, unhide HYE] at q0
      rw [unhide HXE] at q1
      have HS7 := hide (hb7.size)
      have hg7s : g < w7.heap.size := Nat.lt_of_lt_of_le hgl hb7.size
      have HO8 := hide (show (w7.setCell ⟨g, x, none⟩ (.int .i64 (-1))).ownsRow w.heap.size 3 1 v2 (t + 1) (zcells (toIs (its N h (t + 1)))) from owns_keep hown7 fun b hb => Below.heap_setCell _ _ _ _ (by have := (hown7.lt b hb).1; show b ≠ g; omega))
      have HR8 := hide (show RowZ (w7.setCell ⟨g, x, none⟩ (.int .i64 (-1))) g H (nz N (gq G (its N h (t + 1)))) from
        Row.congr (RowZ.set (unhide HR7) x (-1)) fun j hj => congrArg (Value.int .i64) (by
          unfold upd
          by_cases hjx : j = x
          · rw [if_pos hjx, nz_gone]
            rw [gq_iff]
            right
            rw [its_succ, hjx, ← unhide HXE]
            simp
          · rw [if_neg hjx]
            refine nz_congr ?_
            rw [gq_iff, gq_iff, its_succ, unhide HXE]
            simp [hjx]))
      have HB8 := hide (hb7.trans (But.set x (.int .i64 (-1))))
      have hitS : it N (t + 1) h = y := by show N (it N t h) = y; rw [unhide HXE, unhide HYE]
      have HIS := hide hitS
      have hsl2 := slen_owns hown7
      clear hown7 hg7 hb7 hgk hitS r0 r1
      go_wp2_with fail
      go_roundw
      case rel => exact ⟨t + 1, by rw [unhide HIS], by omega, HO8, HR8, HB8⟩
      case measure => omega
    · obtain rfl : t = P + 1 := by omega
      have hgone : gq G (its N h (P + 1)) (it N (P + 1) h) = true := gq_iff.2 (.inr (mem_its.2 ⟨0, by omega, by rw [unhide HP2]; rfl⟩))
      rw [nz_gone hgone, unhide HP2] at r0
      rw [unhide HP2] at r1 hx
      rw [unhide HP2]
      have hx2 : (h : Int) < (H : Int) := by omega
      have hlen := its_length N h (P + 1)
      have HLE := hide hlen
      clear hgone hlen
      go_wp2_with fail
      go_ret
      exact ⟨⟨_, rfl, by rw [unhide HLE]; exact unhide HO⟩, unhide HR, unhide HB⟩
end Go.Proofs.YtefagplbpbkpgaaDoor
/-
  The contracts of the program's standing and Right: whether lists are a rotation. Conditions: the graph and the lists lie in memory as told.
-/
namespace Go.Proofs.YtefagplbpbkpgaaDoor
open Go.RowKit
set_option linter.unusedVariables false
set_option maxRecDepth 20000

/-- at which vertex a half edge stands -/
def atI (es : List (Int × Int)) (h : Nat) : Int := if h % 2 = 0 then (es.getD (h / 2) (0, 0)).1 else (es.getD (h / 2) (0, 0)).2
def stL (es : List (Int × Int)) : List Int := es.flatMap fun e => [e.1, e.2]
theorem stL_snoc (es : List (Int × Int)) (x y : Int) : stL (es ++ [(x, y)]) = stL es ++ [x, y] := by simp [stL]
theorem stL_length (es : List (Int × Int)) : (stL es).length = 2 * es.length := by
  induction es with
  | nil => rfl
  | cons e es ih =>
    have : stL (e :: es) = e.1 :: e.2 :: stL es := by simp [stL]
    rw [this]
    simp [ih]
    omega
theorem stL_getD (es : List (Int × Int)) : ∀ h, h < 2 * es.length → (stL es).getD h 0 = atI es h := by
  induction es with
  | nil => intro h hh; simp at hh
  | cons e es ih =>
    intro h hh
    have e1 : stL (e :: es) = e.1 :: e.2 :: stL es := by simp [stL]
    rw [e1]
    match h with
    | 0 => simp [atI]
    | 1 => simp [atI]
    | h + 2 =>
      have := ih h (by simp at hh; omega)
      unfold atI at this ⊢
      rw [show (h + 2) / 2 = h / 2 + 1 by omega, show (h + 2) % 2 = h % 2 by omega]
      simpa using this
theorem stL_map (es : List (Int × Int)) {n : Nat} (hn : es.length = n) : stL es = (List.range (2 * n)).map (atI es) := by
  refine ext_getD (by rw [stL_length]; simp [hn]) fun i hi => ?_
  simp at hi
  rw [stL_getD es i (by omega)]
  simp [List.getD, hi]

set_option maxHeartbeats 4000000 in
theorem standing_any (w : World) (V : Int) (a : Option Addr) (n cap : Nat) (es : List (Int × Int)) {B : Nat} (h : Es B w a n es) (hn : n ≤ 128) :
    Calls Tryd.prog 60 #[.agg #[.int .i64 V, .slice a n cap]] w fun e w' => (∃ v, e = .returned v ∧ w'.ownsRow w.heap.size 3 1 v (2 * n) (zcells (stL es))) ∧ Below w.heap.size w w' := by
  have hl := h.1
  have HE := hide h
  have HB0 := hide (Bg.start w (.int .i64 V) (.slice a n cap))
  have HO0 := hide (show (w.alloc (.cells #[.int .i64 V, .slice a n cap] 24)).ownsRow w.heap.size 3 1 (.slice none 0 0) (2 * 0) (zcells (stL (es.take 0))) from World.ownsRow_nil _ _ _ _)
  have HLE := hide hl
  obtain ⟨i0, hi0, hz0, hz1, hz2⟩ := info_parts info3
  have HI := hide hi0
  have HZ0 := hide hz0
  have HZ1 := hide hz1
  have HZ2 := hide hz2
  clear hi0 hz0 hz1 hz2 h hl
  obtain ⟨g0, g1⟩ := (unhide HB0).cells
  go_enter Tryd.func60, Tryd.ntmps60
  go_wp2_with fail
  clear g0 g1
  go_loopw [3, 9] (fun v i wr => ∃ k : Nat, i = .int .i64 k ∧ k ≤ n ∧ Hid (wr.ownsRow w.heap.size 3 1 v (2 * k) (zcells (stL (es.take k)))) ∧ Hid (Below w.heap.size w wr)) (fun v i wr => n - (intOf i).toNat)
  case atStart => exact ⟨0, rfl, by omega, HO0, hide (unhide HB0).bel⟩
  case round =>
    clear HO0 HB0
    obtain ⟨k, rfl, hk, HO, HB⟩ := hrel
    by_cases hkn : k < n
    · have hkn2 : (k : Int) < (n : Int) := by omega
      obtain ⟨g, off, ha, _, hg, c0, c1⟩ := (unhide HE).2.2 k hkn
      subst ha
      obtain ⟨⟨x, y⟩, hxy⟩ : ∃ e, es.getD k (0, 0) = e := ⟨_, rfl⟩
      rw [hxy] at c0 c1
      simp only at c0 c1
      have d0 : wr.cell? ⟨g, off + k * 2, none⟩ = some (.int .i64 x) := by rw [(unhide HB).cell (p := ⟨g, off + k * 2, none⟩) hg]; exact c0
      have d1 : wr.cell? ⟨g, off + k * 2 + 1, none⟩ = some (.int .i64 y) := by rw [(unhide HB).cell (p := ⟨g, off + k * 2 + 1, none⟩) hg]; exact c1
      have hsz := (unhide HB).size
      have hgr : g < wr.heap.size := by omega
      have hst : stL (es.take (k + 1)) = stL (es.take k) ++ [x, y] := by
        rw [← stL_snoc]
        congr 1
        have hk' : k < es.length := by rw [unhide HLE]; exact hkn
        rw [List.take_succ_eq_append_getElem hk']
        congr 2
        simpa [List.getD, hk'] using hxy
      have HST := hide hst
      have HO1 := hide (((unhide HO).alloc (.cells #[.int .i64 x, .int .i64 y] 47)).alloc (.cells #[.int .i64 x, .int .i64 y] 3))
      have HB1 := hide ((((unhide HB).alloc hsz (.cells #[.int .i64 x, .int .i64 y] 47))).alloc (by simp; omega) (.cells #[.int .i64 x, .int .i64 y] 3))
      clear c0 c1 hxy hst
      go_wp2_with (at_builtin; refine wpList_append_own _ rfl (.tmp 13) (.tmp 18) 37 rfl w.heap.size 3 i0 (.int .i64 0) 1 8 Tryd.underlying37 (unhide HI) (unhide HZ0) (unhide HZ1) (unhide HZ2) rfl (by decide) u3 (2 * k) (zcells (stL (es.take k))) rfl (unhide HO1) ⟨wr.heap.size + 1, 0, none⟩ 2 2 [.int .i64 x, .int .i64 y] rfl rfl ?a2 (two_i x y) ?a3 ?a4 ?a5 ?_)
      case a2 => exact fun j u hj => by have := cell_two_new (wr.alloc (.cells #[.int .i64 x, .int .i64 y] 47)) (.int .i64 x) (.int .i64 y) 3 j u hj; simpa using this
      case a3 => unfold maxLen; omega
      case a4 => omega
      case a5 => simp; omega
      intro v2 w7 hown7 hg7 _
      rw [show zcells (stL (es.take k)) ++ [Value.int .i64 x, .int .i64 y] = zcells (stL (es.take (k + 1))) by rw [unhide HST]; simp [zcells]] at hown7
      rw [show 2 * k + 2 = 2 * (k + 1) by omega] at hown7
      have HO7 := hide hown7
      have HB7 := hide ((unhide HB1).grown hg7 (by simp; omega) fun t ht => ((unhide HO).lt t ht).1)
      clear hown7 hg7 HB1 HO1
      go_wp2_with fail
      go_roundw
      case rel => exact ⟨k + 1, by go_num, by omega, HO7, HB7⟩
      case measure => simp [intOf]; omega
    · obtain rfl : k = n := by omega
      have htk : es.take k = es := List.take_of_length_le (by rw [unhide HLE]; exact Nat.le_refl _)
      rw [htk] at HO
      go_wp2_with fail
      go_ret
      exact ⟨⟨_, rfl, unhide HO⟩, unhide HB⟩
end Go.Proofs.YtefagplbpbkpgaaDoor
/-
  The contract of the program's Right: whether lists are a rotation of a graph. Conditions: the graph and the lists lie in memory as told.
-/
namespace Go.Proofs.YtefagplbpbkpgaaDoor
open Go.RowKit
set_option linter.unusedVariables false
set_option maxRecDepth 20000

/-- lists that are a rotation of a graph -/
structure IsRot (V : Int) (n : Nat) (es : List (Int × Int)) (rs : List (List Int)) : Prop where
  good : Good V n es
  len : (rs.length : Int) = V
  each : ∀ x, x < rs.length → ∀ h ∈ rs.getD x [], 0 ≤ h ∧ h < 2 * (n : Int) ∧ atI es h.toNat = (x : Int)
  nodup : rs.flatten.Nodup
  all : rs.flatten.length = 2 * n
/-- the numbers of the first lists, and of the beginning of the next one -/
def upto (rs : List (List Int)) (x i : Nat) : List Int := (rs.take x).flatten ++ (rs.getD x []).take i
theorem upto_zero (rs : List (List Int)) : upto rs 0 0 = [] := by simp [upto]
theorem upto_next {rs : List (List Int)} {x : Nat} (hx : x < rs.length) : upto rs (x + 1) 0 = upto rs x (rs.getD x []).length := by
  unfold upto
  rw [List.take_succ_eq_append_getElem hx, List.flatten_append, List.take_length, List.take_zero, List.append_nil]
  congr 1
  simp [List.getD, hx]
theorem upto_step {rs : List (List Int)} {x i : Nat} (hi : i < (rs.getD x []).length) : upto rs x (i + 1) = upto rs x i ++ [(rs.getD x []).getD i 0] := by
  unfold upto
  rw [List.take_succ_eq_append_getElem hi, List.append_assoc, getD_eq hi]
theorem upto_all (rs : List (List Int)) : upto rs rs.length 0 = rs.flatten := by simp [upto]
theorem upto_sub {rs : List (List Int)} {x i : Nat} (hx : x < rs.length) : (upto rs x i).Sublist rs.flatten := by
  have h1 : rs.flatten = (rs.take x).flatten ++ (rs.drop x).flatten := by rw [← List.flatten_append, List.take_append_drop]
  have h2 : rs.drop x = rs.getD x [] :: rs.drop (x + 1) := by rw [List.drop_eq_getElem_cons hx]; simp [List.getD, hx]
  rw [h1, h2]
  unfold upto
  refine List.Sublist.append (List.Sublist.refl _) ?_
  rw [List.flatten_cons]
  exact (List.take_sublist _ _).trans (List.sublist_append_left _ _)
/-- all is as it should be, up to there -/
structure OkTo (n : Nat) (es : List (Int × Int)) (rs : List (List Int)) (x i : Nat) : Prop where
  each : ∀ y, y < x → ∀ h ∈ rs.getD y [], 0 ≤ h ∧ h < 2 * (n : Int) ∧ atI es h.toNat = (y : Int)
  here : ∀ h ∈ (rs.getD x []).take i, 0 ≤ h ∧ h < 2 * (n : Int) ∧ atI es h.toNat = (x : Int)
  nodup : (upto rs x i).Nodup
theorem OkTo.start (n : Nat) (es : List (Int × Int)) (rs : List (List Int)) : OkTo n es rs 0 0 := ⟨fun y hy => by omega, by simp, by simp [upto]⟩
theorem OkTo.next {n : Nat} {es : List (Int × Int)} {rs : List (List Int)} {x : Nat} (hx : x < rs.length) (h : OkTo n es rs x (rs.getD x []).length) : OkTo n es rs (x + 1) 0 := by
  refine ⟨fun y hy => ?_, by simp, by rw [upto_next hx]; exact h.nodup⟩
  by_cases hyx : y = x
  · subst hyx
    have := h.here
    rwa [List.take_length] at this
  · exact h.each y (by omega)
theorem mem_flat {rs : List (List Int)} {x : Nat} {l : List Int} : ∀ {h : Int}, h ∈ (rs.take x).flatten → ∃ y, y < x ∧ h ∈ rs.getD y [] := by
  intro h hh
  rw [List.mem_flatten] at hh
  obtain ⟨l, hl, hm⟩ := hh
  obtain ⟨y, hy, rfl⟩ := List.mem_iff_getElem.1 hl
  simp at hy
  refine ⟨y, by omega, ?_⟩
  have : (rs.take x)[y] = rs[y]'(by omega) := by simp
  rw [this] at hm
  simpa [List.getD, show y < rs.length by omega] using hm
theorem OkTo.mem {n : Nat} {es : List (Int × Int)} {rs : List (List Int)} {x i : Nat} (h : OkTo n es rs x i) : ∀ z ∈ upto rs x i, 0 ≤ z ∧ z < 2 * (n : Int) := by
  intro z hz
  unfold upto at hz
  rw [List.mem_append] at hz
  rcases hz with hz | hz
  · obtain ⟨y, hy, hm⟩ := mem_flat (l := []) hz
    exact ⟨(h.each y hy z hm).1, (h.each y hy z hm).2.1⟩
  · exact ⟨(h.here z hz).1, (h.here z hz).2.1⟩
theorem nodup_leI {H : Nat} {l : List Int} (h : l.Nodup) (hb : ∀ z ∈ l, 0 ≤ z ∧ z < (H : Int)) : l.length ≤ H := by
  have h1 : (l.map Int.toNat).Nodup := by
    rw [List.nodup_iff_pairwise_ne, List.pairwise_map]
    refine List.Pairwise.imp_of_mem ?_ h
    intro a b ha hb' hab e
    have := hb a ha
    have := hb b hb'
    omega
  have := nodup_le H _ h1 (by
    intro x hx
    obtain ⟨z, hz, rfl⟩ := List.mem_map.1 hx
    have := hb z hz
    omega)
  simpa using this
theorem OkTo.len {n : Nat} {es : List (Int × Int)} {rs : List (List Int)} {x i : Nat} (h : OkTo n es rs x i) : (upto rs x i).length ≤ 2 * n := nodup_leI h.nodup (fun z hz => by have := h.mem z hz; omega)
theorem OkTo.step {n : Nat} {es : List (Int × Int)} {rs : List (List Int)} {x i : Nat} (h : OkTo n es rs x i) (hi : i < (rs.getD x []).length) {j : Nat} (hj : (rs.getD x []).getD i 0 = (j : Int)) (hj2 : j < 2 * n) (ha : atI es j = (x : Int)) (hn : (j : Int) ∉ upto rs x i) : OkTo n es rs x (i + 1) := by
  refine ⟨h.each, fun z hz => ?_, ?_⟩
  · rw [List.take_succ_eq_append_getElem hi, List.mem_append] at hz
    rcases hz with hz | hz
    · exact h.here z hz
    · rw [List.mem_singleton] at hz
      have : z = (j : Int) := by rw [hz, ← getD_eq hi, hj]
      subst this
      exact ⟨by omega, by omega, by simpa using ha⟩
  · rw [upto_step hi, hj, List.nodup_append]
    refine ⟨h.nodup, by simp, ?_⟩
    intro a ha' b hb e
    simp at hb
    subst hb
    exact hn (e ▸ ha')
/-- a number that came before comes again: it is no rotation -/
theorem rot_dup {V : Int} {n : Nat} {es : List (Int × Int)} {rs : List (List Int)} {x i : Nat} (hx : x < rs.length) (hi : i < (rs.getD x []).length) (hm : (rs.getD x []).getD i 0 ∈ upto rs x i) : ¬ IsRot V n es rs := by
  intro h
  have hs := (upto_sub (rs := rs) (i := i + 1) hx)
  have hn := h.nodup.sublist hs
  rw [upto_step hi, List.nodup_append] at hn
  exact hn.2.2 _ hm _ (by simp) rfl
theorem rot_bad {V : Int} {n : Nat} {es : List (Int × Int)} {rs : List (List Int)} {x i : Nat} (hx : x < rs.length) (hi : i < (rs.getD x []).length) (hm : ¬ (0 ≤ (rs.getD x []).getD i 0 ∧ (rs.getD x []).getD i 0 < 2 * (n : Int) ∧ atI es ((rs.getD x []).getD i 0).toNat = (x : Int))) : ¬ IsRot V n es rs := by
  intro h
  refine hm (h.each x hx _ ?_)
  rw [getD_eq hi]
  exact List.getElem_mem hi
theorem OkTo.rot {V : Int} {n : Nat} {es : List (Int × Int)} {rs : List (List Int)} (h : OkTo n es rs rs.length 0) (hg : Good V n es) (hl : (rs.length : Int) = V) : IsRot V n es rs ↔ (upto rs rs.length 0).length = 2 * n := by
  rw [upto_all]
  constructor
  · exact fun h => h.all
  · intro ha
    refine ⟨hg, hl, fun x hx => h.each x hx, ?_, ha⟩
    have := h.nodup
    rwa [upto_all] at this
/-- the row of where half edges stand, without those that were met -/
def sz (es : List (Int × Int)) (F : List Int) (j : Nat) : Int := if (j : Int) ∈ F then -1 else atI es j
theorem sz_gone {es : List (Int × Int)} {F : List Int} {j : Nat} (h : (j : Int) ∈ F) : sz es F j = -1 := if_pos h
theorem sz_here {es : List (Int × Int)} {F : List Int} {j : Nat} (h : (j : Int) ∉ F) : sz es F j = atI es j := if_neg h

set_option maxHeartbeats 8000000 in
theorem right_any (w : World) (V : Int) (a : Option Addr) (n cap : Nat) (es : List (Int × Int)) {B : Nat} (h : Es B w a n es) (ra : Option Addr) (m rc : Nat) (rs : List (List Int)) (hr : Rr w ra m rs) :
    Calls Tryd.prog 37 #[.agg #[.int .i64 V, .slice a n cap], .slice ra m rc] w fun e w' => Told (IsRot V n es rs) e ∧ Below w.heap.size w w' := by
  have hrl := hr.1
  have hm47 := hr.2.1
  have HE := hide h
  have HR := hide hr
  have HRL := hide hrl
  have HB0 := hide (Bg.start w (.int .i64 V) (.slice a n cap))
  clear h hr hrl
  by_cases hg : Good V n es
  case neg =>
    have HG := hide hg
    clear hg
    obtain ⟨g0, g1⟩ := (unhide HB0).cells
    go_enter Tryd.func37, Tryd.ntmps37
    go_wp2_with fail
    refine (may_any _ V a n cap es ((unhide HE).below (unhide HB0).bel)).mono ?_
    rintro e w1 ⟨⟨r, rfl, hr⟩, hb1⟩
    have hrt : r = false := by
      cases r with
      | false => rfl
      | true => exact absurd (hr.1 rfl) (unhide HG)
    subst hrt
    have HB1 := hide ((unhide HB0).step hb1)
    clear hb1 HB0 g0 g1 hr
    go_wp2_with fail
    go_ret
    exact ⟨Told.no fun h => unhide HG h.good, (unhide HB1).bel⟩
  have hn := hg.2.2.1
  have HG := hide hg
  obtain ⟨g0, g1⟩ := (unhide HB0).cells
  by_cases hmV : (m : Int) = V
  case neg =>
    have t1 : ((m : Int) != V) = true := by simp [hmV]
    have HNV := hide (show ¬ IsRot V n es rs from fun h => hmV (by rw [← unhide HRL]; exact h.len))
    clear hg hmV
    go_enter Tryd.func37, Tryd.ntmps37
    go_wp2_with fail
    refine (may_any _ V a n cap es ((unhide HE).below (unhide HB0).bel)).mono ?_
    rintro e w1 ⟨⟨r, rfl, hr⟩, hb1⟩
    have hrt : r = true := hr.2 (unhide HG)
    subst hrt
    have HB1 := hide ((unhide HB0).step hb1)
    clear hb1 HB0 g0 g1 hr
    obtain ⟨g0, g1⟩ := (unhide HB1).cells
    go_wp2_with fail
    go_ret
    exact ⟨Told.no (unhide HNV), (unhide HB1).bel⟩
  have t1 : ((m : Int) != V) = false := by simp [hmV]
  have hm64 : m ≤ 64 := by have := hg.2.1; omega
  have HMV := hide hmV
  clear hg hmV
  go_enter Tryd.func37, Tryd.ntmps37
  go_wp2_with fail
  refine (may_any _ V a n cap es ((unhide HE).below (unhide HB0).bel)).mono ?_
  rintro e w1 ⟨⟨r, rfl, hr⟩, hb1⟩
  have hrt : r = true := hr.2 (unhide HG)
  subst hrt
  have HB1 := hide ((unhide HB0).step hb1)
  clear hb1 HB0 g0 g1 hr
  obtain ⟨g0, g1⟩ := (unhide HB1).cells
  go_wp2_with fail
  refine (standing_any _ V a n cap es ((unhide HE).below (unhide HB1).bel) hn).mono ?_
  rintro e w2 ⟨⟨v, rfl, hown⟩, hb2⟩
  have HB2 := hide ((unhide HB1).step hb2)
  have hs1 := (unhide HB1).lt
  clear HB1 g0 g1 hb2
  rw [stL_map es (unhide HE).1] at hown
  obtain ⟨H, hH⟩ : ∃ H, 2 * n = H := ⟨_, rfl⟩
  rw [hH] at hown
  have hv : ∃ sa sc gs, v = .slice sa H sc ∧ (0 < H → sa = some ⟨gs, 0, none⟩ ∧ w.heap.size < gs ∧ RowZ w2 gs H (sz es (upto rs 0 0))) := by
    by_cases h0 : 0 < H
    · obtain ⟨g, c, hv, hb, hrow⟩ := rowZ_of_owns hown h0
      exact ⟨_, c, g, hv, fun _ => ⟨rfl, by omega, Row.congr hrow fun t ht => by rw [upto_zero, sz_here (by simp)]⟩⟩
    · have : H = 0 := by omega
      subst this
      rcases hown.2 with ⟨hv, _⟩ | ⟨g, c, cur, hv, _⟩
      · exact ⟨none, 0, 0, hv, fun h => by omega⟩
      · exact ⟨_, c, g, hv, fun h => by omega⟩
  obtain ⟨sa, sc, gs, rfl, hsa⟩ := hv
  have HSA := hide (fun h0 => (hsa h0).1)
  have HGS := hide (fun h0 => (hsa h0).2.1)
  have HR2 := hide (fun h0 => (hsa h0).2.2)
  have HK0 := hide (OkTo.start n es rs)
  have HHN := hide hH
  have hH256 : H ≤ 256 := by omega
  have HB3 := hide (unhide HB2).bel
  clear hsa hown HB2 hH hs1
  go_wp2_with fail
  go_loopw [6, 25] (fun v6 i wr => ∃ x : Nat, i = .int .i64 x ∧ x ≤ m ∧ v6 = .int .i64 ((upto rs x 0).length : Nat) ∧ Hid (OkTo n es rs x 0) ∧ Hid (0 < H → RowZ wr gs H (sz es (upto rs x 0))) ∧ Hid (Below w.heap.size w wr)) (fun v6 i wr => m - (intOf i).toNat)
  case atStart => exact ⟨0, rfl, by omega, by rw [upto_zero]; rfl, HK0, HR2, HB3⟩
  case round =>
    clear HK0 HR2 HB3
    obtain ⟨x, rfl, hx, rfl, HK, HRw, HB⟩ := hrel
    by_cases hxm : x < m
    · have hxm2 : (x : Int) < (m : Int) := by omega
      obtain ⟨gr, or, la, lc, ha, hgr, c0, hlc, hls⟩ := (unhide HR).2.2 x hxm
      subst ha
      obtain ⟨l, hl⟩ : ∃ l, rs.getD x [] = l := ⟨_, rfl⟩
      rw [hl] at c0 hls
      obtain ⟨len, hlen⟩ : ∃ len, l.length = len := ⟨_, rfl⟩
      rw [hlen] at c0 hls
      have d0 : wr.cell? ⟨gr, or + x, none⟩ = some (.slice la len lc) := by rw [(unhide HB).cell (p := ⟨gr, or + x, none⟩) hgr]; exact c0
      have hgr2 : gr < wr.heap.size := Nat.lt_of_lt_of_le hgr (unhide HB).size
      have HL := hide hl
      have HLEN := hide hlen
      have HLS := hide hls
      have hln := hls.2.1
      have hxr : x < rs.length := by rw [unhide HRL]; exact hxm
      clear hls hlc hl c0 hlen
      go_wp2_with fail
      go_loopw [6, 32] (fun v6 i wr => ∃ k : Nat, i = .int .i64 k ∧ k ≤ len ∧ v6 = .int .i64 ((upto rs x k).length : Nat) ∧ Hid (OkTo n es rs x k) ∧ Hid (0 < H → RowZ wr gs H (sz es (upto rs x k))) ∧ Hid (Below w.heap.size w wr)) (fun v6 i wr => len - (intOf i).toNat)
      case atStart => exact ⟨0, rfl, by omega, rfl, HK, HRw, HB⟩
      case round =>
        clear d0 hgr2 HK HRw HB
        obtain ⟨k, rfl, hk, rfl, HK, HRw, HB⟩ := hrel
        by_cases hkl : k < len
        · have hkl2 : (k : Int) < (len : Int) := by omega
          have hi : k < (rs.getD x []).length := by rw [unhide HL, unhide HLEN]; exact hkl
          obtain ⟨gl, ol, hla, hgl, c1⟩ := (unhide HLS).2.2 k hkl
          subst hla
          obtain ⟨z, hz⟩ : ∃ z, l.getD k 0 = z := ⟨_, rfl⟩
          rw [hz] at c1
          have hzr : (rs.getD x []).getD k 0 = z := by rw [unhide HL, hz]
          have d1 : wr.cell? ⟨gl, ol + k, none⟩ = some (.int .i64 z) := by rw [(unhide HB).cell (p := ⟨gl, ol + k, none⟩) hgl]; exact c1
          have hsz := (unhide HB).size
          have hgl2 : gl < wr.heap.size := by omega
          have HZR := hide hzr
          have HX := hide hxr
          have HIX := hide hi
          clear c1 hz hzr hi
          by_cases hz0 : z < 0
          · have HNO := hide (show ¬ IsRot V n es rs from rot_bad (unhide HX) (unhide HIX) (by rw [unhide HZR]; omega))
            go_wp2_with fail
            go_ret
            exact ⟨Told.no (unhide HNO), unhide HB⟩
          have e0 : decide (z < 0) = false := decide_eq_false hz0
          obtain ⟨j, rfl⟩ : ∃ j : Nat, z = (j : Int) := ⟨z.toNat, by omega⟩
          by_cases hz1 : H ≤ j
          · have e1 : (H : Int) ≤ (j : Int) := by omega
            have HNO := hide (show ¬ IsRot V n es rs from rot_bad (unhide HX) (unhide HIX) (by rw [unhide HZR]; have := unhide HHN; omega))
            go_wp2_with fail
            go_ret
            exact ⟨Told.no (unhide HNO), unhide HB⟩
          have e1 : decide ((H : Int) ≤ (j : Int)) = false := decide_eq_false (by omega)
          have hjH : j < H := by omega
          have hjH2 : (j : Int) < (H : Int) := by omega
          have hH0 : 0 < H := by omega
          have hse := unhide HSA hH0
          subst hse
          have HRj := hide (unhide HRw hH0)
          have hgs := unhide HGS hH0
          have r0 := (unhide HRj).cell hjH
          have r1 := (unhide HRj).fz j
          have hgsr := (unhide HRj).lt
          have hz2 : ¬ (j : Int) < 0 := by omega
          have hz3 : ¬ (H : Int) ≤ (j : Int) := by omega
          clear hz0 hz1
          by_cases hin : (j : Int) ∈ upto rs x k
          · rw [sz_gone hin] at r0
            have t2 : ((-1 : Int) != (x : Int)) = true := by simp
            have HNO := hide (show ¬ IsRot V n es rs from rot_dup (unhide HX) (unhide HIX) (by rw [unhide HZR]; exact hin))
            clear hin
            go_wp2_with fail
            go_ret
            exact ⟨Told.no (unhide HNO), unhide HB⟩
          rw [sz_here hin] at r0
          by_cases hax : atI es j = (x : Int)
          case neg =>
            have t2 : (atI es j != (x : Int)) = true := by simp [hax]
            have HNO := hide (show ¬ IsRot V n es rs from rot_bad (unhide HX) (unhide HIX) (by rw [unhide HZR]; intro hc; exact hax (by have := hc.2.2; simpa using this)))
            generalize atI es j = q at *
            clear hin hax
            go_wp2_with fail
            go_ret
            exact ⟨Told.no (unhide HNO), unhide HB⟩
          have t2 : ((x : Int) != (x : Int)) = false := by simp
          rw [hax] at r0
          have hK2 := OkTo.step (unhide HK) (unhide HIX) (unhide HZR) (by rw [unhide HHN]; exact hjH) hax hin
          have hup : upto rs x (k + 1) = upto rs x k ++ [(j : Int)] := by rw [upto_step (unhide HIX), unhide HZR]
          have hlk := (unhide HK).len
          have HK2 := hide hK2
          have HR2 := hide (fun (_ : 0 < H) => show RowZ (wr.setCell ⟨gs, j, none⟩ (.int .i64 (-1))) gs H (sz es (upto rs x (k + 1))) from
            Row.congr (RowZ.set (unhide HRj) j (-1)) fun t ht => congrArg (Value.int .i64) (by
              unfold upd
              rw [hup]
              by_cases htj : t = j
              · rw [if_pos htj, sz_gone (by simp [htj])]
              · rw [if_neg htj]
                unfold sz
                have : ((t : Int) ∈ upto rs x k ++ [(j : Int)]) ↔ (t : Int) ∈ upto rs x k := by
                  simp
                  intro e
                  omega
                simp only [this]))
          have HB2 := hide ((unhide HB).setCell (p := ⟨gs, j, none⟩) (Nat.le_of_lt hgs) (.int .i64 (-1)))
          have hupl : (upto rs x (k + 1)).length = (upto rs x k).length + 1 := by rw [hup]; simp
          have HUP := hide hupl
          have hbl : (upto rs x k).length ≤ 256 := by have := unhide HHN; omega
          generalize (upto rs x k).length = ml at *
          clear hup hin hax hK2 hupl hlk
          go_wp2_with fail
          go_roundw
          case rel => exact ⟨k + 1, by go_num, by omega, by rw [unhide HUP]; go_num, HK2, HR2, HB2⟩
          case measure => simp [intOf]; omega
        · obtain rfl : k = len := by omega
          have hln2 : (rs.getD x []).length = k := by rw [unhide HL, unhide HLEN]
          have hu := upto_next hxr
          rw [hln2] at hu
          have HK2 := hide (show OkTo n es rs (x + 1) 0 from OkTo.next hxr (by rw [hln2]; exact unhide HK))
          have HR2 := hide (show 0 < H → RowZ wr gs H (sz es (upto rs (x + 1) 0)) by rw [hu]; exact unhide HRw)
          have HU := hide hu
          clear hu hln2
          go_wp2_with fail
          go_roundw
          case rel => exact ⟨x + 1, by go_num, by omega, by rw [unhide HU], HK2, HR2, HB⟩
          case measure => simp [intOf]; omega
    · obtain rfl : x = m := by omega
      have hfin := OkTo.rot (V := V) (by rw [unhide HRL]; exact unhide HK) (unhide HG) (by rw [unhide HRL]; exact unhide HMV)
      rw [unhide HRL, unhide HHN] at hfin
      have HF := hide hfin
      generalize (upto rs x 0).length = ml at *
      by_cases hml : ml = H
      · have t3 : ((ml : Int) == (H : Int)) = true := by simp [hml]
        have HY := hide (hfin.2 hml)
        clear hml hfin
        go_wp2_with fail
        go_ret
        exact ⟨Told.yes (unhide HY), unhide HB⟩
      · have t3 : ((ml : Int) == (H : Int)) = false := by rw [beq_eq_false_iff_ne]; omega
        have HY := hide (fun h => hml (hfin.1 h))
        clear hml hfin
        go_wp2_with fail
        go_ret
        exact ⟨Told.no (unhide HY), unhide HB⟩
end Go.Proofs.YtefagplbpbkpgaaDoor
/-
  The contract of the program's Faces. Conditions: the graph and the lists lie in memory as told.
-/
namespace Go.Proofs.YtefagplbpbkpgaaDoor
open Go.RowKit
set_option linter.unusedVariables false
set_option maxRecDepth 20000

theorem owns_type {w : World} {base : Nat} {e : TypeId} {size : Nat} {v : Value} {n : Nat} {xs : List Value} (h : w.ownsRow base e size v n xs) {g : Nat} (hg : v.ownBlock = some g) : ∃ cur, w.heap[g]? = some (.cells cur e (0, 0)) := by
  rcases h.2 with ⟨rfl, _⟩ | ⟨g', cap, cur, rfl, hb, hh, _⟩
  · simp [Value.ownBlock] at hg
  · have : g' = g := by simpa [Value.ownBlock] using hg
    subst this
    exact ⟨cur, hh⟩
theorem one_v {a : Option Addr} {n c : Nat} : ∀ u ∈ [Value.slice a n c], u.oneCell' = true := by
  intro u hu
  simp only [List.mem_singleton] at hu
  subst hu
  rfl
/-- lists that are laid while block g is written: their row, and each of them -/
structure Fo (g : Nat) (u0 wr : World) (bv : Value) (R : Nat → Value) (Ls : List (List Nat)) : Prop where
  but : But g u0 wr
  own : wr.ownsRow u0.heap.size 37 1 bv Ls.length ((List.range Ls.length).map R)
  rows : ∀ j, j < Ls.length → wr.ownsRow u0.heap.size 3 1 (R j) (Ls.getD j []).length (zcells (toIs (Ls.getD j [])))
theorem Fo.start (g : Nat) (u0 : World) : Fo g u0 u0 (.slice none 0 0) (fun _ => .slice none 0 0) [] :=
  ⟨But.refl _ _, World.ownsRow_nil _ _ _ _, fun j hj => by simp at hj⟩
theorem owns_but {g : Nat} {w w' : World} {base : Nat} {e : TypeId} {size : Nat} {v : Value} {n : Nat} {xs : List Value} (h : w.ownsRow base e size v n xs) (hb : But g w w') (hg : g < base) : w'.ownsRow base e size v n xs :=
  owns_keep h fun b hbv => hb.far b (h.lt b hbv).2 (by have := (h.lt b hbv).1; omega)
theorem Fo.step {g : Nat} {u0 wr wr' : World} {bv : Value} {R : Nat → Value} {Ls : List (List Nat)} (h : Fo g u0 wr bv R Ls) (hb : But g wr wr') (hg : g < u0.heap.size) : Fo g u0 wr' bv R Ls :=
  ⟨h.but.trans hb, owns_but h.own hb hg, fun j hj => owns_but (h.rows j hj) hb hg⟩
theorem Fo.push {g : Nat} {u0 u u' : World} {o : Obj} {bv v' l : Value} {R : Nat → Value} {Ls : List (List Nat)} {x : List Nat} (h : Fo g u0 u bv R Ls) (hgl : g < u0.heap.size) (hl : u.ownsRow u0.heap.size 3 1 l x.length (zcells (toIs x)))
    (ho : u'.ownsRow u0.heap.size 37 1 v' (Ls.length + 1) ((List.range Ls.length).map R ++ [l])) (hg : (u.alloc o).grownBy u' bv.ownBlock) : Fo g u0 u' v' (upd R Ls.length l) (Ls ++ [x]) ∧ u'.heap[g]? = u.heap[g]? := by
  obtain ⟨hb, hgk⟩ := but_grown h.but hg (fun t ht => (h.own.lt t ht).1) hgl
  have hk : ∀ {v : Value} {n : Nat} {xs : List Value}, u.ownsRow u0.heap.size 3 1 v n xs → u'.ownsRow u0.heap.size 3 1 v n xs := fun {v n xs} hv => by
    have hv' := hv.alloc o
    refine owns_keep hv' fun g hgv => hg.block g (hv'.lt g hgv).2 fun e => ?_
    obtain ⟨c1, h1⟩ := owns_type hv hgv
    obtain ⟨c2, h2⟩ := owns_type h.own e.symm
    rw [h1] at h2
    simp at h2
  refine ⟨⟨hb, ?_, fun j hj => ?_⟩, hgk⟩
  · rw [List.length_append, show [x].length = 1 from rfl, List.range_succ, List.map_append]
    have e1 : (List.range Ls.length).map (upd R Ls.length l) = (List.range Ls.length).map R := List.map_congr_left fun t ht => upd_other _ _ (by have := List.mem_range.1 ht; omega)
    rw [e1]
    simpa [upd_same] using ho
  · rw [List.length_append, show [x].length = 1 from rfl] at hj
    by_cases hjl : j = Ls.length
    · subst hjl
      rw [upd_same, show (Ls ++ [x]).getD Ls.length [] = x by simp [List.getD]]
      exact hk hl
    · rw [upd_other _ _ hjl, show (Ls ++ [x]).getD j [] = Ls.getD j [] by simp only [List.getD]; rw [List.getElem?_append_left (by omega)]]
      exact hk (h.rows j (by omega))
theorem Fo.read {g : Nat} {u0 wr : World} {bv : Value} {R : Nat → Value} {Ls : List (List Nat)} (h : Fo g u0 wr bv R Ls) (hL : Ls.length ≤ 1000) (hm : ∀ j, j < Ls.length → (Ls.getD j []).length ≤ 1000) : ∃ ba bc, bv = .slice ba Ls.length bc ∧ Ls.length ≤ bc ∧ Rr wr ba Ls.length (rowsI Ls) := by
  rcases h.own.2 with ⟨hv, hn⟩ | ⟨gb, cap, cur, hv, hb, hg, h1, h2, h3, h4⟩
  · exact ⟨none, 0, by rw [hv, hn], by omega, by rw [rowsI_length], by omega, fun t ht => by omega⟩
  · refine ⟨_, cap, hv, h1, by rw [rowsI_length], by omega, fun t ht => ?_⟩
    have hb' := hm t ht
    obtain ⟨la, lc, hl, hlc, hn⟩ := ns_of_owns (h.rows t ht) (by omega)
    have : (cur.toList.take (Ls.length * 1))[t]? = ((List.range Ls.length).map R)[t]? := by rw [h4]
    rw [List.getElem?_take] at this
    simp [ht] at this
    rw [rowsI_getD, toIs_length]
    exact ⟨gb, 0, la, lc, rfl, (Array.getElem?_eq_some_iff.1 hg).1, by simp [World.cell?, hg, this, hl], hlc, hn⟩

theorem Pm.gn_closed {N : Nat → Nat} {H : Nat} (p : Pm N H) {k : Nat} (hk : k ≤ H) : ∀ j, j < H → (gn N H k (N j) ↔ gn N H k j) := by
  intro j hj
  have h1 : N j ∈ orb N H j := p.orb_it hj 1
  constructor
  · rintro ⟨h, hh, hm⟩
    exact ⟨h, hh, p.trans (by omega) hm (p.sym hj h1)⟩
  · rintro ⟨h, hh, hm⟩
    exact ⟨h, hh, p.trans (by omega) hm h1⟩
theorem gn_succ {N : Nat → Nat} {H k j : Nat} : gn N H (k + 1) j ↔ (gn N H k j ∨ j ∈ orb N H k) := by
  constructor
  · rintro ⟨h, hh, hm⟩
    by_cases hk : h = k
    · subst hk; exact .inr hm
    · exact .inl ⟨h, by omega, hm⟩
  · rintro (⟨h, hh, hm⟩ | hm)
    · exact ⟨h, by omega, hm⟩
    · exact ⟨k, by omega, hm⟩
theorem Pm.gn_stay {N : Nat → Nat} {H : Nat} (p : Pm N H) {k : Nat} (hk : k < H) (hg : gn N H k k) {j : Nat} : gn N H (k + 1) j ↔ gn N H k j := by
  rw [gn_succ]
  constructor
  · rintro (h | h)
    · exact h
    · obtain ⟨h0, hh, hm⟩ := hg
      exact ⟨h0, hh, p.trans (by omega) hm h⟩
  · exact .inl
theorem Pm.orb_len {N : Nat → Nat} {H : Nat} (p : Pm N H) {h : Nat} (hh : h < H) : (orb N H h).length ≤ H := nodup_le H _ (p.orb_nodup hh) (p.orb_lt hh)
theorem Pm.faces_len {N : Nat → Nat} {H : Nat} (p : Pm N H) {k : Nat} (hk : k ≤ H) : ∀ l ∈ facesF N H k, l.length ≤ H := by
  intro l hl
  unfold facesF at hl
  simp only [List.mem_map, List.mem_filter, List.mem_range] at hl
  obtain ⟨h, ⟨hh, _⟩, rfl⟩ := hl
  exact p.orb_len (by omega)

def gnB (N : Nat → Nat) (H k j : Nat) : Bool := (List.range k).any fun h => (orb N H h).contains j
theorem gnB_iff {N : Nat → Nat} {H k j : Nat} : gnB N H k j = true ↔ gn N H k j := by
  unfold gnB gn
  simp only [List.any_eq_true, List.mem_range, List.contains_iff_mem]

set_option maxHeartbeats 4000000 in
theorem faces_bad (w : World) (V : Int) (a : Option Addr) (n cap : Nat) (es : List (Int × Int)) {B : Nat} (h : Es B w a n es) (ra : Option Addr) (m rc : Nat) (rs : List (List Int)) (hr : Rr w ra m rs) (hno : ¬ IsRot V n es rs) :
    Calls Tryd.prog 19 #[.agg #[.int .i64 V, .slice a n cap], .slice ra m rc] w fun e w' => e = .returned (.slice none 0 0) ∧ Below w.heap.size w w' := by
  have HB0 := hide (Bg.start w (.int .i64 V) (.slice a n cap))
  have HC := hide (fun (u : World) (hu : Below w.heap.size w u) => right_any u V a n cap es (h.below hu) ra m rc rs (hr.below hu))
  have HNO := hide hno
  clear h hr hno
  obtain ⟨g0, g1⟩ := (unhide HB0).cells
  go_enter Tryd.func19, Tryd.ntmps19
  go_wp2_with fail
  refine (unhide HC _ (unhide HB0).bel).mono ?_
  rintro e w1 ⟨⟨r, rfl, hr⟩, hb1⟩
  have hrt : r = false := by
    cases r with
    | false => rfl
    | true => exact absurd (hr.1 rfl) (unhide HNO)
  subst hrt
  have HB1 := hide ((unhide HB0).step hb1)
  clear hb1 HB0 g0 g1 hr
  go_wp2_with fail
  go_ret
  exact ⟨rfl, (unhide HB1).bel⟩

set_option maxHeartbeats 8000000 in
theorem faces_good (w : World) (V : Int) (a : Option Addr) (n cap : Nat) (es : List (Int × Int)) {B : Nat} (h : Es B w a n es) (ra : Option Addr) (m rc : Nat) (q : List (List Nat)) (hr : Rr w ra m (rowsI q)) (hyes : IsRot V n es (rowsI q)) (N : Nat → Nat) (hN : Behind q N) (hp : Pm N (2 * n))
    (hlt : ∀ x, x < q.length → ∀ i, i < (q.getD x []).length → (q.getD x []).getD i 0 < 2 * n) (hcov : ∀ j, j < 2 * n → ∃ x i, x < q.length ∧ i < (q.getD x []).length ∧ oth ((q.getD x []).getD i 0) = j) :
    Calls Tryd.prog 19 #[.agg #[.int .i64 V, .slice a n cap], .slice ra m rc] w fun e w' => (∃ va vc, e = .returned (.slice va (facesF N (2 * n) (2 * n)).length vc) ∧ (facesF N (2 * n) (2 * n)).length ≤ vc ∧ Rr w' va (facesF N (2 * n) (2 * n)).length (rowsI (facesF N (2 * n) (2 * n)))) ∧ Below w.heap.size w w' := by
  have hn := hyes.good.2.2.1
  have HB0 := hide (Bg.start w (.int .i64 V) (.slice a n cap))
  have HC := hide (fun (u : World) (hu : Below w.heap.size w u) => right_any u V a n cap es (h.below hu) ra m rc _ (hr.below hu))
  have HA := hide (fun (u : World) (hu : Below w.heap.size w u) => along_any u ra m rc (2 * n) q (hr.below hu) (by omega) hlt (fun j hj => oth_lt hj) N hN hcov)
  have HYES := hide hyes
  have HP := hide hp
  obtain ⟨H, hH⟩ : ∃ H, 2 * n = H := ⟨_, rfl⟩
  rw [hH] at HA HP ⊢
  have hH256 : H ≤ 256 := by omega
  have hmul : IntKind.i64.wrap (2 * (n : Int)) = (H : Int) := by rw [IntKind.wrap_i64]; omega
  obtain ⟨j0, hj0, hy0, hy1, hy2⟩ := info_parts info28
  have HJ := hide hj0
  have HY0 := hide hy0
  have HY1 := hide hy1
  have HY2 := hide hy2
  clear hj0 hy0 hy1 hy2 h hr hyes hN hp hlt hcov
  obtain ⟨g0, g1⟩ := (unhide HB0).cells
  go_enter Tryd.func19, Tryd.ntmps19
  go_wp2_with fail
  refine (unhide HC _ (unhide HB0).bel).mono ?_
  rintro e w1 ⟨⟨r, rfl, hr⟩, hb1⟩
  have hrt : r = true := hr.2 (unhide HYES)
  subst hrt
  have HB1 := hide ((unhide HB0).step hb1)
  clear hb1 HB0 g0 g1 hr HC
  obtain ⟨g0, g1⟩ := (unhide HB1).cells
  go_wp2_with fail
  refine (unhide HA _ (unhide HB1).bel).mono ?_
  rintro e w2 ⟨⟨g, rfl, hg, hrow⟩, hb2⟩
  have HB2 := hide ((unhide HB1).step hb2)
  have hgl := hrow.lt
  have hgw : w.heap.size ≤ g := by have := (unhide HB1).bel.size; omega
  have HF0 := hide (Fo.start g w2)
  have HR0 := hide (show RowZ w2 g H (nz N (gnB N H 0)) from Row.congr hrow fun t ht => by rw [nz_here]; rw [gnB_iff]; rintro ⟨h, hh, _⟩; omega)
  clear hb2 HB1 g0 g1 hrow HA hg
  go_wp2_with fail
  go_loopw [6, 20] (fun v i wr => ∃ (k : Nat) (R : Nat → Value), i = .int .i64 k ∧ k ≤ H ∧ Hid (Fo g w2 wr v R (facesF N H k)) ∧ Hid (RowZ wr g H (nz N (gnB N H k)))) (fun v i wr => H - (intOf i).toNat)
  case atStart => exact ⟨0, _, rfl, by omega, HF0, HR0⟩
  case round =>
    clear HF0 HR0
    obtain ⟨k, R, rfl, hk, HF, HR⟩ := hrel
    by_cases hkH : k < H
    · have hkH2 : (k : Int) < (H : Int) := by omega
      have r0 := (unhide HR).cell hkH
      have hgr := (unhide HR).lt
      by_cases hgone : gn N H k k
      · rw [nz_gone (gnB_iff.2 hgone)] at r0
        have HF2 := hide (show Fo g w2 wr u6 R (facesF N H (k + 1)) by rw [facesF_succ, (unhide HP).gn_iff hkH |>.1 hgone]; simpa using unhide HF)
        have HR2 := hide (show RowZ wr g H (nz N (gnB N H (k + 1))) from Row.congr (unhide HR) fun t ht => congrArg (Value.int .i64) (nz_congr (by rw [gnB_iff, gnB_iff]; exact ((unhide HP).gn_stay hkH hgone).symm)))
        clear hgone
        go_wp2_with fail
        go_roundw
        case rel => exact ⟨k + 1, R, by go_num, by omega, HF2, HR2⟩
        case measure => simp [intOf]; omega
      · rw [nz_here (fun hc => hgone (gnB_iff.1 hc))] at r0
        have t1 : (((N k : Nat) : Int) == (-1 : Int)) = false := by rw [beq_eq_false_iff_ne]; omega
        have hlst : isLeast N H k = true := by
          cases hc : isLeast N H k with
          | true => rfl
          | false => exact absurd (((unhide HP).gn_iff hkH).2 hc) hgone
        have HLS := hide hlst
        have HT := hide (take_any wr g H H N (unhide HP) hH256 (gnB N H k) (unhide HR) (fun j hj => by rw [gnB_iff, gnB_iff]; exact (unhide HP).gn_closed hk j hj) k hkH (fun hc => hgone (gnB_iff.1 hc)))
        generalize N k = nk at *
        clear hgone hlst
        have hol := (unhide HP).orb_len hkH
        have hfl := facesF_len N H k
        go_wp2_with fail
        refine (unhide HT).mono ?_
        rintro e w3 ⟨⟨v, rfl, hown⟩, hrow3, hbut⟩
        obtain ⟨la, lc, rfl, hlc, hns⟩ := ns_of_owns hown (by omega)
        have HF3 := hide ((unhide HF).step hbut hgl)
        have HO3 := hide (owns_mono hown (unhide HF).but.size)
        have HR3 := hide (show RowZ w3 g H (nz N (gnB N H (k + 1))) from Row.congr hrow3 fun t ht => congrArg (Value.int .i64) (nz_congr (by rw [gnB_iff, gn_succ, gq_iff, gnB_iff])))
        have hs3 := (unhide HF3).but.size
        clear hown hrow3 hbut hns HF HR HT r0
        go_wp2_with (at_builtin; refine wpList_append_own _ rfl (.tmp 28) (.tmp 32) 25 rfl w2.heap.size 37 j0 (.slice none 0 0) 1 24 Tryd.underlying25 (unhide HJ) (unhide HY0) (unhide HY1) (unhide HY2) rfl (by decide) u6 (facesF N H k).length _ rfl ((unhide HF3).own.alloc _) ⟨w3.heap.size, 0, none⟩ 1 1 [.slice la (orb N H k).length lc] rfl rfl (cell_one_new _ _ _) one_v ?a3 ?a4 ?a5 ?_)
        case a3 => unfold maxLen; omega
        case a4 => omega
        case a5 => simp; omega
        intro v2 w7 hown7 hg7 _
        obtain ⟨hp7, hgk⟩ := (unhide HF3).push hgl (unhide HO3) hown7 hg7
        have HF7 := hide (show Fo g w2 w7 v2 (upd R (facesF N H k).length (.slice la (orb N H k).length lc)) (facesF N H (k + 1)) by rw [facesF_succ, unhide HLS]; exact hp7)
        have HR7 := hide ((unhide HR3).keep hgk)
        clear hp7 hgk hown7 hg7
        go_wp2_with fail
        go_roundw
        case rel => exact ⟨k + 1, _, by go_num, by omega, HF7, HR7⟩
        case measure => simp [intOf]; omega
    · obtain rfl : k = H := by omega
      have hfl := facesF_len N k k
      have hfe := (unhide HP).faces_len (Nat.le_refl k)
      obtain ⟨ba, bc, rfl, hbc, hrr⟩ := (unhide HF).read (by omega) (fun j hj => by have := hfe _ (show (facesF N k k).getD j [] ∈ facesF N k k by simp [List.getD, hj]); omega)
      have HRR := hide hrr
      have HBF := hide ((unhide HB2).bel.trans ((unhide HF).but.bel.mono hgw))
      clear hrr hfe
      go_wp2_with fail
      go_ret
      exact ⟨⟨ba, bc, rfl, hbc, unhide HRR⟩, unhide HBF⟩
end Go.Proofs.YtefagplbpbkpgaaDoor
/-
  Faces: each number is in just one of them (plain mathematics), and the contract of the program's Faces once more: the lists lie in memory of its own making.
  Conditions: the graph and the lists lie in memory as told, and the lists are a rotation.
-/
namespace Go.Proofs.YtefagplbpbkpgaaDoor
open Go.RowKit
set_option linter.unusedVariables false
set_option maxRecDepth 20000

/-- F tells of each number below H in which of the lists it is -/
structure IsFc (L : List (List Nat)) (H : Nat) (F : Nat → Nat) : Prop where
  el : ∀ f, f < L.length → ∀ i, i < (L.getD f []).length → (L.getD f []).getD i 0 < H ∧ F ((L.getD f []).getD i 0) = f
  cov : ∀ j, j < H → F j < L.length ∧ ∃ i, i < (L.getD (F j) []).length ∧ (L.getD (F j) []).getD i 0 = j
theorem least_in : ∀ (l : List Nat), l ≠ [] → ∃ m ∈ l, ∀ k ∈ l, m ≤ k
  | [], h => absurd rfl h
  | [a], _ => ⟨a, by simp, by simp⟩
  | a :: b :: t, _ => by
    obtain ⟨m, hm, hk⟩ := least_in (b :: t) (by simp)
    by_cases h : a ≤ m
    · refine ⟨a, by simp, fun k hk' => ?_⟩
      rcases List.mem_cons.1 hk' with rfl | hk'
      · exact Nat.le_refl _
      · exact Nat.le_trans h (hk k hk')
    · refine ⟨m, List.mem_cons_of_mem _ hm, fun k hk' => ?_⟩
      rcases List.mem_cons.1 hk' with rfl | hk'
      · omega
      · exact hk k hk'
theorem getD_ix {l : List Nat} {x : Nat} (h : x ∈ l) : ∃ i, i < l.length ∧ l.getD i 0 = x := by
  obtain ⟨i, hi, e⟩ := List.getElem_of_mem h
  exact ⟨i, hi, by simp [List.getD, hi, e]⟩
theorem getD_mem {l : List Nat} {i : Nat} (h : i < l.length) : l.getD i 0 ∈ l := by simp [List.getD, h]
theorem getD_inj' {l : List Nat} (hn : l.Nodup) {a b : Nat} (ha : a < l.length) (hb : b < l.length) (h : l.getD a 0 = l.getD b 0) : a = b := by
  simp only [List.getD, List.getElem?_eq_getElem ha, List.getElem?_eq_getElem hb, Option.getD_some] at h
  exact (List.getElem_inj hn).1 h
theorem fc_ex {N : Nat → Nat} {H : Nat} (p : Pm N H) : ∃ F, IsFc (facesF N H H) H F := by
  obtain ⟨R, hR⟩ : ∃ R, (List.range H).filter (fun h => isLeast N H h) = R := ⟨_, rfl⟩
  have hL : facesF N H H = R.map fun h => orb N H h := by rw [← hR]; rfl
  have hnd : R.Nodup := by rw [← hR]; exact List.Pairwise.filter _ List.nodup_range
  have hm : ∀ r ∈ R, r < H ∧ isLeast N H r = true := by intro r hr; rw [← hR] at hr; simpa using hr
  have hlen : (facesF N H H).length = R.length := by rw [hL, List.length_map]
  have hg : ∀ f, f < R.length → (facesF N H H).getD f [] = orb N H (R.getD f 0) := by
    intro f hf
    rw [hL]
    simp [List.getD, hf]
  have uniq : ∀ f f', f < R.length → f' < R.length → ∀ x, x ∈ orb N H (R.getD f 0) → x ∈ orb N H (R.getD f' 0) → f = f' := by
    intro f f' hf hf' x h1 h2
    have a1 := hm _ (getD_mem hf)
    have a2 := hm _ (getD_mem hf')
    have e1 := p.trans a1.1 h1 (p.sym a2.1 h2)
    have e2 := p.trans a2.1 h2 (p.sym a1.1 h1)
    have l1 := (isLeast_iff.1 a1.2) _ e1
    have l2 := (isLeast_iff.1 a2.2) _ e2
    exact getD_inj' hnd hf hf' (Nat.le_antisymm l1 l2)
  have ex : ∀ j, ∃ f, j < H → f < R.length ∧ j ∈ orb N H (R.getD f 0) := by
    intro j
    by_cases hj : j < H
    · have hself : j ∈ orb N H j := p.orb_it hj 0
      obtain ⟨r, hr, hmin⟩ := least_in (orb N H j) (fun e => by rw [e] at hself; simp at hself)
      have hrH := p.orb_lt hj r hr
      have hrR : r ∈ R := by
        rw [← hR, List.mem_filter]
        refine ⟨List.mem_range.2 hrH, isLeast_iff.2 fun k hk => hmin k (p.trans hj hr hk)⟩
      obtain ⟨f, hf, e⟩ := getD_ix hrR
      exact ⟨f, fun _ => ⟨hf, by rw [e]; exact p.sym hj hr⟩⟩
    · exact ⟨0, fun h => absurd h hj⟩
  obtain ⟨F, hF⟩ := Classical.axiomOfChoice ex
  refine ⟨F, fun f hf i hi => ?_, fun j hj => ?_⟩
  · rw [hlen] at hf
    rw [hg f hf] at hi ⊢
    have hin := getD_mem hi
    have hlt := p.orb_lt (hm _ (getD_mem hf)).1 _ hin
    obtain ⟨h1, h2⟩ := hF _ hlt
    exact ⟨hlt, uniq _ _ h1 hf _ h2 hin⟩
  · obtain ⟨h1, h2⟩ := hF j hj
    rw [hlen, hg _ h1]
    exact ⟨h1, getD_ix h2⟩
/-- rows of rows stand wherever the blocks from base on do -/
def RrU (base : Nat) (w : World) (a : Option Addr) (n : Nat) (rs : List (List Int)) : Prop :=
  rs.length = n ∧ n ≤ 140737488355328 ∧ ∀ k, k < n → ∃ g off la lc, a = some ⟨g, off, none⟩ ∧ (rs.getD k []).length ≤ lc ∧ ∀ u : World, w.heap.size ≤ u.heap.size → (∀ b, base ≤ b → b < w.heap.size → u.heap[b]? = w.heap[b]?) →
    g < u.heap.size ∧ u.cell? ⟨g, off + k, none⟩ = some (.slice la (rs.getD k []).length lc) ∧ Ns u la (rs.getD k []).length (rs.getD k [])
theorem RrU.rr {base : Nat} {w u : World} {a : Option Addr} {n : Nat} {rs : List (List Int)} (h : RrU base w a n rs) (h1 : w.heap.size ≤ u.heap.size) (h2 : ∀ b, base ≤ b → b < w.heap.size → u.heap[b]? = w.heap[b]?) : Rr u a n rs := by
  refine ⟨h.1, h.2.1, fun k hk => ?_⟩
  obtain ⟨g, off, la, lc, ha, hl, hu⟩ := h.2.2 k hk
  obtain ⟨u1, u2, u3⟩ := hu u h1 h2
  exact ⟨g, off, la, lc, ha, u1, u2, hl, u3⟩
theorem RrU.base {base base' : Nat} {w : World} {a : Option Addr} {n : Nat} {rs : List (List Int)} (h : RrU base w a n rs) (hb : base' ≤ base) : RrU base' w a n rs := by
  refine ⟨h.1, h.2.1, fun k hk => ?_⟩
  obtain ⟨g, off, la, lc, ha, hl, hu⟩ := h.2.2 k hk
  exact ⟨g, off, la, lc, ha, hl, fun u h1 h2 => hu u h1 fun b h3 h4 => h2 b (by omega) h4⟩
theorem lists_read {base : Nat} {wr : World} {bv : Value} {R : Nat → Value} {Ls : List (List Nat)} (ho : wr.ownsRow base 37 1 bv Ls.length ((List.range Ls.length).map R)) (hr : ∀ j, j < Ls.length → wr.ownsRow base 3 1 (R j) (Ls.getD j []).length (zcells (toIs (Ls.getD j [])))) (hL : Ls.length ≤ 1000) (hm : ∀ j, j < Ls.length → (Ls.getD j []).length ≤ 1000) : ∃ ba bc, bv = .slice ba Ls.length bc ∧ Ls.length ≤ bc ∧ RrU base wr ba Ls.length (rowsI Ls) := by
  rcases ho.2 with ⟨hv, hn⟩ | ⟨gb, cap, cur, hv, hb, hg, h1, h2, h3, h4⟩
  · exact ⟨none, 0, by rw [hv, hn], by omega, by rw [rowsI_length], by omega, fun t ht => by omega⟩
  · refine ⟨_, cap, hv, h1, by rw [rowsI_length], by omega, fun t ht => ?_⟩
    have hb' := hm t ht
    have hrt := hr t ht
    obtain ⟨la, lc, hl, hlc, hn⟩ := ns_of_owns hrt (by omega)
    have : (cur.toList.take (Ls.length * 1))[t]? = ((List.range Ls.length).map R)[t]? := by rw [h4]
    rw [List.getElem?_take] at this
    simp [ht] at this
    rw [rowsI_getD, toIs_length]
    have hgs := (Array.getElem?_eq_some_iff.1 hg).1
    refine ⟨gb, 0, la, lc, rfl, hlc, fun u hs hk => ?_⟩
    have hgu : u.heap[gb]? = some (.cells cur 37 (0, 0)) := by rw [hk gb hb hgs]; exact hg
    have hrt' : u.ownsRow base 3 1 (R t) (Ls.getD t []).length (zcells (toIs (Ls.getD t []))) := owns_keep hrt fun g hg => hk g (hrt.lt g hg).1 (hrt.lt g hg).2
    obtain ⟨la', lc', hl', hlc', hn'⟩ := ns_of_owns hrt' (by omega)
    rw [hl] at hl'
    simp only [Value.slice.injEq] at hl'
    obtain ⟨rfl, _, rfl⟩ := hl'
    exact ⟨Nat.lt_of_lt_of_le hgs hs, by simp [World.cell?, hgu, this, hl], hn'⟩

set_option maxHeartbeats 8000000 in
theorem faces_fresh (w : World) (V : Int) (a : Option Addr) (n cap : Nat) (es : List (Int × Int)) {B : Nat} (h : Es B w a n es) (ra : Option Addr) (m rc : Nat) (q : List (List Nat)) (hr : Rr w ra m (rowsI q)) (hyes : IsRot V n es (rowsI q)) (N : Nat → Nat) (hN : Behind q N) (hp : Pm N (2 * n))
    (hlt : ∀ x, x < q.length → ∀ i, i < (q.getD x []).length → (q.getD x []).getD i 0 < 2 * n) (hcov : ∀ j, j < 2 * n → ∃ x i, x < q.length ∧ i < (q.getD x []).length ∧ oth ((q.getD x []).getD i 0) = j) :
    Calls Tryd.prog 19 #[.agg #[.int .i64 V, .slice a n cap], .slice ra m rc] w fun e w' => (∃ va vc, e = .returned (.slice va (facesF N (2 * n) (2 * n)).length vc) ∧ (facesF N (2 * n) (2 * n)).length ≤ vc ∧ RrU w.heap.size w' va (facesF N (2 * n) (2 * n)).length (rowsI (facesF N (2 * n) (2 * n)))) ∧ Below w.heap.size w w' := by
  have hn := hyes.good.2.2.1
  have HB0 := hide (Bg.start w (.int .i64 V) (.slice a n cap))
  have HC := hide (fun (u : World) (hu : Below w.heap.size w u) => right_any u V a n cap es (h.below hu) ra m rc _ (hr.below hu))
  have HA := hide (fun (u : World) (hu : Below w.heap.size w u) => along_any u ra m rc (2 * n) q (hr.below hu) (by omega) hlt (fun j hj => oth_lt hj) N hN hcov)
  have HYES := hide hyes
  have HP := hide hp
  obtain ⟨H, hH⟩ : ∃ H, 2 * n = H := ⟨_, rfl⟩
  rw [hH] at HA HP ⊢
  have hH256 : H ≤ 256 := by omega
  have hmul : IntKind.i64.wrap (2 * (n : Int)) = (H : Int) := by rw [IntKind.wrap_i64]; omega
  obtain ⟨j0, hj0, hy0, hy1, hy2⟩ := info_parts info28
  have HJ := hide hj0
  have HY0 := hide hy0
  have HY1 := hide hy1
  have HY2 := hide hy2
  clear hj0 hy0 hy1 hy2 h hr hyes hN hp hlt hcov
  obtain ⟨g0, g1⟩ := (unhide HB0).cells
  go_enter Tryd.func19, Tryd.ntmps19
  go_wp2_with fail
  refine (unhide HC _ (unhide HB0).bel).mono ?_
  rintro e w1 ⟨⟨r, rfl, hr⟩, hb1⟩
  have hrt : r = true := hr.2 (unhide HYES)
  subst hrt
  have HB1 := hide ((unhide HB0).step hb1)
  clear hb1 HB0 g0 g1 hr HC
  obtain ⟨g0, g1⟩ := (unhide HB1).cells
  go_wp2_with fail
  refine (unhide HA _ (unhide HB1).bel).mono ?_
  rintro e w2 ⟨⟨g, rfl, hg, hrow⟩, hb2⟩
  have HB2 := hide ((unhide HB1).step hb2)
  have hgl := hrow.lt
  have hgw : w.heap.size ≤ g := by have := (unhide HB1).bel.size; omega
  have HF0 := hide (Fo.start g w2)
  have HR0 := hide (show RowZ w2 g H (nz N (gnB N H 0)) from Row.congr hrow fun t ht => by rw [nz_here]; rw [gnB_iff]; rintro ⟨h, hh, _⟩; omega)
  clear hb2 HB1 g0 g1 hrow HA hg
  go_wp2_with fail
  go_loopw [6, 20] (fun v i wr => ∃ (k : Nat) (R : Nat → Value), i = .int .i64 k ∧ k ≤ H ∧ Hid (Fo g w2 wr v R (facesF N H k)) ∧ Hid (RowZ wr g H (nz N (gnB N H k)))) (fun v i wr => H - (intOf i).toNat)
  case atStart => exact ⟨0, _, rfl, by omega, HF0, HR0⟩
  case round =>
    clear HF0 HR0
    obtain ⟨k, R, rfl, hk, HF, HR⟩ := hrel
    by_cases hkH : k < H
    · have hkH2 : (k : Int) < (H : Int) := by omega
      have r0 := (unhide HR).cell hkH
      have hgr := (unhide HR).lt
      by_cases hgone : gn N H k k
      · rw [nz_gone (gnB_iff.2 hgone)] at r0
        have HF2 := hide (show Fo g w2 wr u6 R (facesF N H (k + 1)) by rw [facesF_succ, (unhide HP).gn_iff hkH |>.1 hgone]; simpa using unhide HF)
        have HR2 := hide (show RowZ wr g H (nz N (gnB N H (k + 1))) from Row.congr (unhide HR) fun t ht => congrArg (Value.int .i64) (nz_congr (by rw [gnB_iff, gnB_iff]; exact ((unhide HP).gn_stay hkH hgone).symm)))
        clear hgone
        go_wp2_with fail
        go_roundw
        case rel => exact ⟨k + 1, R, by go_num, by omega, HF2, HR2⟩
        case measure => simp [intOf]; omega
      · rw [nz_here (fun hc => hgone (gnB_iff.1 hc))] at r0
        have t1 : (((N k : Nat) : Int) == (-1 : Int)) = false := by rw [beq_eq_false_iff_ne]; omega
        have hlst : isLeast N H k = true := by
          cases hc : isLeast N H k with
          | true => rfl
          | false => exact absurd (((unhide HP).gn_iff hkH).2 hc) hgone
        have HLS := hide hlst
        have HT := hide (take_any wr g H H N (unhide HP) hH256 (gnB N H k) (unhide HR) (fun j hj => by rw [gnB_iff, gnB_iff]; exact (unhide HP).gn_closed hk j hj) k hkH (fun hc => hgone (gnB_iff.1 hc)))
        generalize N k = nk at *
        clear hgone hlst
        have hol := (unhide HP).orb_len hkH
        have hfl := facesF_len N H k
        go_wp2_with fail
        refine (unhide HT).mono ?_
        rintro e w3 ⟨⟨v, rfl, hown⟩, hrow3, hbut⟩
        obtain ⟨la, lc, rfl, hlc, hns⟩ := ns_of_owns hown (by omega)
        have HF3 := hide ((unhide HF).step hbut hgl)
        have HO3 := hide (owns_mono hown (unhide HF).but.size)
        have HR3 := hide (show RowZ w3 g H (nz N (gnB N H (k + 1))) from Row.congr hrow3 fun t ht => congrArg (Value.int .i64) (nz_congr (by rw [gnB_iff, gn_succ, gq_iff, gnB_iff])))
        have hs3 := (unhide HF3).but.size
        clear hown hrow3 hbut hns HF HR HT r0
        go_wp2_with (at_builtin; refine wpList_append_own _ rfl (.tmp 28) (.tmp 32) 25 rfl w2.heap.size 37 j0 (.slice none 0 0) 1 24 Tryd.underlying25 (unhide HJ) (unhide HY0) (unhide HY1) (unhide HY2) rfl (by decide) u6 (facesF N H k).length _ rfl ((unhide HF3).own.alloc _) ⟨w3.heap.size, 0, none⟩ 1 1 [.slice la (orb N H k).length lc] rfl rfl (cell_one_new _ _ _) one_v ?a3 ?a4 ?a5 ?_)
        case a3 => unfold maxLen; omega
        case a4 => omega
        case a5 => simp; omega
        intro v2 w7 hown7 hg7 _
        obtain ⟨hp7, hgk⟩ := (unhide HF3).push hgl (unhide HO3) hown7 hg7
        have HF7 := hide (show Fo g w2 w7 v2 (upd R (facesF N H k).length (.slice la (orb N H k).length lc)) (facesF N H (k + 1)) by rw [facesF_succ, unhide HLS]; exact hp7)
        have HR7 := hide ((unhide HR3).keep hgk)
        clear hp7 hgk hown7 hg7
        go_wp2_with fail
        go_roundw
        case rel => exact ⟨k + 1, _, by go_num, by omega, HF7, HR7⟩
        case measure => simp [intOf]; omega
    · obtain rfl : k = H := by omega
      have hfl := facesF_len N k k
      have hfe := (unhide HP).faces_len (Nat.le_refl k)
      obtain ⟨ba, bc, rfl, hbc, hrr⟩ := lists_read (unhide HF).own (unhide HF).rows (by omega) (fun j hj => by have := hfe _ (show (facesF N k k).getD j [] ∈ facesF N k k by simp [List.getD, hj]); omega)
      have hw2 := (unhide HB2).bel.size
      have HRR := hide (show RrU w.heap.size wr ba (facesF N k k).length (rowsI (facesF N k k)) from hrr.base (by omega))
      have HBF := hide ((unhide HB2).bel.trans ((unhide HF).but.bel.mono hgw))
      clear hrr hfe hw2
      go_wp2_with fail
      go_ret
      exact ⟨⟨ba, bc, rfl, hbc, unhide HRR⟩, unhide HBF⟩
end Go.Proofs.YtefagplbpbkpgaaDoor
/-
  The contracts of the program's atTail, other and kind. Conditions: half edges are below 256.
-/
namespace Go.Proofs.YtefagplbpbkpgaaDoor
open Go.RowKit
set_option linter.unusedVariables false
set_option maxRecDepth 20000
theorem i64_mod2 (h : Nat) : IntKind.i64.wrap ((h : Int).tmod 2) = ((h % 2 : Nat) : Int) := by
  have e : (h : Int).tmod 2 = ((h % 2 : Nat) : Int) := by rw [show (2 : Int) = ((2 : Nat) : Int) from rfl, Int.ofNat_tmod]
  rw [e, IntKind.wrap_i64]
  omega
theorem attail_any (w : World) (h : Nat) (hh : h < 256) : Calls Tryd.prog 67 #[.int .i64 (h : Nat)] w fun e w' => e = .returned (.bool (decide (h % 2 = 0))) ∧ w' = w := by
  have hx : ((h : Int).tmod 2) = ((h % 2 : Nat) : Int) := by rw [show (2 : Int) = ((2 : Nat) : Int) from rfl, Int.ofNat_tmod]
  have hw : IntKind.i64.wrap ((h % 2 : Nat) : Int) = ((h % 2 : Nat) : Int) := by rw [IntKind.wrap_i64]; omega
  rcases Nat.mod_two_eq_zero_or_one h with h0 | h0
  · rw [h0] at hx hw ⊢
    go_enter Tryd.func67, Tryd.ntmps67
    go_wp2_with fail
    go_ret
    exact ⟨ret_b (by simp), rfl⟩
  · rw [h0] at hx hw ⊢
    go_enter Tryd.func67, Tryd.ntmps67
    go_wp2_with fail
    go_ret
    exact ⟨ret_b (by simp), rfl⟩
theorem other2_any (w : World) (h : Nat) (hh : h < 256) : Calls Tryd.prog 50 #[.int .i64 (h : Nat)] w fun e w' => e = .returned (.int .i64 (oth h : Nat)) ∧ w' = w := by
  have hx := hide (xor_oth h hh)
  go_enter Tryd.func50, Tryd.ntmps50
  go_wp2_with fail
  go_ret
  exact ⟨ret_i (unhide hx), rfl⟩
/-- the kind of an angle -/
def knd (h b : Nat) : Nat := if h % 2 = 0 ∧ b % 2 = 0 then 1 else if h % 2 = 1 ∧ b % 2 = 1 then 2 else 0
set_option maxHeartbeats 1000000 in
theorem kind_00 (w : World) (h b : Nat) (hh : h < 256) (hb : b < 256) (h0 : h % 2 = 0) (b0 : b % 2 = 0) : Calls Tryd.prog 51 #[.int .i64 (h : Nat), .int .i64 (b : Nat)] w fun e w' => e = .returned (.int .i64 1) ∧ w' = w := by
  have HA := hide (fun u => attail_any u h hh)
  have HB := hide (fun u => attail_any u b hb)
  rw [h0] at HA
  rw [b0] at HB
  rw [show decide ((0 : Nat) = 0) = true from rfl] at HA
  rw [show decide ((0 : Nat) = 0) = true from rfl] at HB
  clear h0 b0
  go_enter Tryd.func51, Tryd.ntmps51
  go_wp2_with fail
  refine (unhide HA _).mono ?_
  rintro e w1 ⟨rfl, hw1⟩
  rw [hw1]
  clear hw1 w1
  go_wp2_with fail
  refine (unhide HB _).mono ?_
  rintro e w1 ⟨rfl, hw1⟩
  rw [hw1]
  clear hw1 w1
  go_wp2_with fail
  go_ret
  exact ⟨rfl, rfl⟩
set_option maxHeartbeats 1000000 in
theorem kind_01 (w : World) (h b : Nat) (hh : h < 256) (hb : b < 256) (h0 : h % 2 = 0) (b0 : b % 2 = 1) : Calls Tryd.prog 51 #[.int .i64 (h : Nat), .int .i64 (b : Nat)] w fun e w' => e = .returned (.int .i64 0) ∧ w' = w := by
  have HA := hide (fun u => attail_any u h hh)
  have HB := hide (fun u => attail_any u b hb)
  rw [h0] at HA
  rw [b0] at HB
  rw [show decide ((0 : Nat) = 0) = true from rfl] at HA
  rw [show decide ((1 : Nat) = 0) = false from rfl] at HB
  clear h0 b0
  go_enter Tryd.func51, Tryd.ntmps51
  go_wp2_with fail
  refine (unhide HA _).mono ?_
  rintro e w1 ⟨rfl, hw1⟩
  rw [hw1]
  clear hw1 w1
  go_wp2_with fail
  refine (unhide HB _).mono ?_
  rintro e w1 ⟨rfl, hw1⟩
  rw [hw1]
  clear hw1 w1
  go_wp2_with fail
  refine (unhide HA _).mono ?_
  rintro e w1 ⟨rfl, hw1⟩
  rw [hw1]
  clear hw1 w1
  go_wp2_with fail
  go_ret
  exact ⟨rfl, rfl⟩
set_option maxHeartbeats 1000000 in
theorem kind_10 (w : World) (h b : Nat) (hh : h < 256) (hb : b < 256) (h0 : h % 2 = 1) (b0 : b % 2 = 0) : Calls Tryd.prog 51 #[.int .i64 (h : Nat), .int .i64 (b : Nat)] w fun e w' => e = .returned (.int .i64 0) ∧ w' = w := by
  have HA := hide (fun u => attail_any u h hh)
  have HB := hide (fun u => attail_any u b hb)
  rw [h0] at HA
  rw [b0] at HB
  rw [show decide ((1 : Nat) = 0) = false from rfl] at HA
  rw [show decide ((0 : Nat) = 0) = true from rfl] at HB
  clear h0 b0
  go_enter Tryd.func51, Tryd.ntmps51
  go_wp2_with fail
  refine (unhide HA _).mono ?_
  rintro e w1 ⟨rfl, hw1⟩
  rw [hw1]
  clear hw1 w1
  go_wp2_with fail
  refine (unhide HA _).mono ?_
  rintro e w1 ⟨rfl, hw1⟩
  rw [hw1]
  clear hw1 w1
  go_wp2_with fail
  refine (unhide HB _).mono ?_
  rintro e w1 ⟨rfl, hw1⟩
  rw [hw1]
  clear hw1 w1
  go_wp2_with fail
  go_ret
  exact ⟨rfl, rfl⟩
set_option maxHeartbeats 1000000 in
theorem kind_11 (w : World) (h b : Nat) (hh : h < 256) (hb : b < 256) (h0 : h % 2 = 1) (b0 : b % 2 = 1) : Calls Tryd.prog 51 #[.int .i64 (h : Nat), .int .i64 (b : Nat)] w fun e w' => e = .returned (.int .i64 2) ∧ w' = w := by
  have HA := hide (fun u => attail_any u h hh)
  have HB := hide (fun u => attail_any u b hb)
  rw [h0] at HA
  rw [b0] at HB
  rw [show decide ((1 : Nat) = 0) = false from rfl] at HA
  rw [show decide ((1 : Nat) = 0) = false from rfl] at HB
  clear h0 b0
  go_enter Tryd.func51, Tryd.ntmps51
  go_wp2_with fail
  refine (unhide HA _).mono ?_
  rintro e w1 ⟨rfl, hw1⟩
  rw [hw1]
  clear hw1 w1
  go_wp2_with fail
  refine (unhide HA _).mono ?_
  rintro e w1 ⟨rfl, hw1⟩
  rw [hw1]
  clear hw1 w1
  go_wp2_with fail
  refine (unhide HB _).mono ?_
  rintro e w1 ⟨rfl, hw1⟩
  rw [hw1]
  clear hw1 w1
  go_wp2_with fail
  go_ret
  exact ⟨rfl, rfl⟩
theorem kind_any (w : World) (h b : Nat) (hh : h < 256) (hb : b < 256) : Calls Tryd.prog 51 #[.int .i64 (h : Nat), .int .i64 (b : Nat)] w fun e w' => e = .returned (.int .i64 (knd h b : Nat)) ∧ w' = w := by
  rcases Nat.mod_two_eq_zero_or_one h with h0 | h0 <;> rcases Nat.mod_two_eq_zero_or_one b with b0 | b0
  · rw [show knd h b = 1 by unfold knd; rw [h0, b0]; rfl]; exact kind_00 w h b hh hb h0 b0
  · rw [show knd h b = 0 by unfold knd; rw [h0, b0]; rfl]; exact kind_01 w h b hh hb h0 b0
  · rw [show knd h b = 0 by unfold knd; rw [h0, b0]; rfl]; exact kind_10 w h b hh hb h0 b0
  · rw [show knd h b = 2 by unfold knd; rw [h0, b0]; rfl]; exact kind_11 w h b hh hb h0 b0
end Go.Proofs.YtefagplbpbkpgaaDoor

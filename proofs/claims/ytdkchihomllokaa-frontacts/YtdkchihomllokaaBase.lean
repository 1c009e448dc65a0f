/-
  What the walks share: edges and numbers in memory, what stays as it was, answers that tell whether. No conditions.
-/
import Derived.Test.YtdkchihomllokaaProg
import Derived.WalkKit
import Derived.WalkSpells
import Derived.Below
import Derived.Deep.QuietTactic
import Derived.BigQuiet
import Derived.Outline
import Derived.Deep.RegionWith
import Derived.Deep.AppendLies
namespace Go.Proofs.Ytdkchihomllokaa
open Go.RowKit
set_option linter.unusedVariables false

theorem hide {p : Prop} (h : p) : Hid p := h
theorem unhide {p : Prop} (h : Hid p) : p := h

/-- a slice (its address, its length) whose elements are these edges; its block is at B or behind it -/
def Es (B : Nat) (w : World) (a : Option Addr) (n : Nat) (es : List (Int × Int)) : Prop :=
  es.length = n ∧ n ≤ 140737488355328 ∧
    ∀ k, k < n → ∃ g off, a = some ⟨g, off, none⟩ ∧ B ≤ g ∧ g < w.heap.size ∧ w.cell? ⟨g, off + k * 2, none⟩ = some (.int .i64 (es.getD k (0, 0)).1) ∧ w.cell? ⟨g, off + k * 2 + 1, none⟩ = some (.int .i64 (es.getD k (0, 0)).2)

/-- all blocks below B are as they were: enough for what lies below B -/
theorem Es.below' {B C : Nat} {w w' : World} {a : Option Addr} {n : Nat} {es : List (Int × Int)} (h : Es B w a n es) (hb : Below w.heap.size w w') : Es B w' a n es := by
  obtain ⟨h1, h2, h3⟩ := h
  refine ⟨h1, h2, fun k hk => ?_⟩
  obtain ⟨g, off, ha, hB, hg, c0, c1⟩ := h3 k hk
  exact ⟨g, off, ha, hB, Nat.lt_of_lt_of_le hg hb.size, by rw [hb.cell (p := ⟨g, off + k * 2, none⟩) hg]; exact c0, by rw [hb.cell (p := ⟨g, off + k * 2 + 1, none⟩) hg]; exact c1⟩
theorem Es.below {B : Nat} {w w' : World} {a : Option Addr} {n : Nat} {es : List (Int × Int)} (h : Es B w a n es) (hb : Below w.heap.size w w') : Es B w' a n es := Es.below' (C := 0) h hb
theorem Es.mono {B B' : Nat} {w : World} {a : Option Addr} {n : Nat} {es : List (Int × Int)} (h : Es B w a n es) (hB : B' ≤ B) : Es B' w a n es := by
  obtain ⟨h1, h2, h3⟩ := h
  refine ⟨h1, h2, fun k hk => ?_⟩
  obtain ⟨g, off, ha, hb, hg, c0, c1⟩ := h3 k hk
  exact ⟨g, off, ha, by omega, hg, c0, c1⟩

/-- a slice of ints: its address, its length, its numbers -/
def Ns (w : World) (a : Option Addr) (n : Nat) (xs : List Int) : Prop :=
  xs.length = n ∧ n ≤ 140737488355328 ∧ ∀ k, k < n → ∃ g off, a = some ⟨g, off, none⟩ ∧ g < w.heap.size ∧ w.cell? ⟨g, off + k, none⟩ = some (.int .i64 (xs.getD k 0))
theorem Ns.below {w w' : World} {a : Option Addr} {n : Nat} {xs : List Int} (h : Ns w a n xs) (hb : Below w.heap.size w w') : Ns w' a n xs := by
  obtain ⟨h1, h2, h3⟩ := h
  refine ⟨h1, h2, fun k hk => ?_⟩
  obtain ⟨g, off, ha, hg, c0⟩ := h3 k hk
  exact ⟨g, off, ha, Nat.lt_of_lt_of_le hg hb.size, by rw [hb.cell (p := ⟨g, off + k, none⟩) hg]; exact c0⟩
theorem Ns.nil (w : World) (a : Option Addr) : Ns w a 0 [] := ⟨rfl, by omega, fun k hk => by omega⟩

def toIs (xs : List Nat) : List Int := xs.map fun (x : Nat) => (x : Int)
def toI (es : List (Nat × Nat)) : List (Int × Int) := es.map fun e => ((e.1 : Int), (e.2 : Int))
theorem toI_length (es : List (Nat × Nat)) : (toI es).length = es.length := by simp [toI]
theorem toIs_length (xs : List Nat) : (toIs xs).length = xs.length := by simp [toIs]
theorem toI_getD (es : List (Nat × Nat)) (k : Nat) : (toI es).getD k (0, 0) = (((es.getD k (0, 0)).1 : Int), ((es.getD k (0, 0)).2 : Int)) := by
  simp only [toI, List.getD_eq_getElem?_getD, List.getElem?_map]
  cases es[k]? <;> simp
theorem toIs_getD (xs : List Nat) (k : Nat) : (toIs xs).getD k 0 = ((xs.getD k 0 : Nat) : Int) := by
  simp only [toIs, List.getD_eq_getElem?_getD, List.getElem?_map]
  cases xs[k]? <;> simp

/-- ints as cells -/
def zcells (xs : List Int) : List Value := xs.map fun (x : Int) => Value.int .i64 x
theorem zcells_length (xs : List Int) : (zcells xs).length = xs.length := by simp [zcells]
theorem zcells_snoc (xs : List Int) (x : Int) : zcells xs ++ [.int .i64 x] = zcells (xs ++ [x]) := by simp [zcells]
theorem toIs_snoc (xs : List Nat) (x : Nat) : toIs xs ++ [(x : Int)] = toIs (xs ++ [x]) := by simp [toIs]
theorem ns_of_owns {w : World} {base : Nat} {v : Value} {xs : List Int} {n : Nat} (h : w.ownsRow base 3 1 v n (zcells xs)) (hn : n ≤ 140737488355328) :
    ∃ a cap, v = .slice a n cap ∧ n ≤ cap ∧ Ns w a n xs := by
  have hl : xs.length = n := by have := h.1; simpa [zcells] using this
  rcases h.2 with ⟨hv, h0⟩ | ⟨g, cap, cur, rfl, hb, hg, h1, h2, h3, h4⟩
  · exact ⟨none, 0, by rw [hv, h0], by omega, hl, hn, fun k hk => by omega⟩
  · refine ⟨_, cap, rfl, h1, hl, hn, fun k hk => ⟨g, 0, rfl, (Array.getElem?_eq_some_iff.1 hg).1, ?_⟩⟩
    rw [Nat.zero_add, h.cellAt k (by omega)]
    subst hl
    simp [zcells, hk]

/-- edges as cells -/
def ecells (es : List (Int × Int)) : List Value := es.flatMap fun e => [.int .i64 e.1, .int .i64 e.2]
theorem ecells_snoc (es : List (Int × Int)) (x y : Int) : ecells (es ++ [(x, y)]) = ecells es ++ [.int .i64 x, .int .i64 y] := by
  simp [ecells]
theorem ecells_length (es : List (Int × Int)) : (ecells es).length = es.length * 2 := by
  induction es with
  | nil => rfl
  | cons e es ih =>
    have : ecells (e :: es) = [Value.int .i64 e.1, Value.int .i64 e.2] ++ ecells es := by simp [ecells]
    rw [this, List.length_append, ih]
    simp
    omega
theorem ecells_at (es : List (Int × Int)) : ∀ k, k < es.length → (ecells es)[k * 2]? = some (.int .i64 (es.getD k (0, 0)).1) ∧ (ecells es)[k * 2 + 1]? = some (.int .i64 (es.getD k (0, 0)).2) := by
  induction es with
  | nil => intro k hk; simp at hk
  | cons e es ih =>
    intro k hk
    have h2 : ecells (e :: es) = Value.int .i64 e.1 :: Value.int .i64 e.2 :: ecells es := by simp [ecells]
    rw [h2]
    cases k with
    | zero => simp
    | succ k =>
      have := ih k (by simpa using hk)
      rw [show (k + 1) * 2 = k * 2 + 1 + 1 by omega]
      simpa using this
theorem es_of_owns {w : World} {base : Nat} {v : Value} {n : Nat} {es : List (Int × Int)} (h : w.ownsRow base 62 2 v n (ecells es)) (hn : n ≤ 140737488355328) :
    ∃ a cap, v = .slice a n cap ∧ Es base w a n es := by
  have hl : es.length = n := by have := h.1; rw [ecells_length] at this; omega
  rcases h.2 with ⟨rfl, rfl⟩ | ⟨g, cap, cur, rfl, hb, hg, h1, h2, h3, h4⟩
  · exact ⟨none, 0, rfl, hl, by omega, fun k hk => by omega⟩
  · refine ⟨_, cap, rfl, hl, hn, fun k hk => ⟨g, 0, rfl, hb, (Array.getElem?_eq_some_iff.1 hg).1, ?_, ?_⟩⟩
    · rw [Nat.zero_add, h.cellAt (k * 2) (by omega), (ecells_at es k (by omega)).1]
    · rw [Nat.zero_add, h.cellAt (k * 2 + 1) (by omega), (ecells_at es k (by omega)).2]

theorem cell_old (w : World) (o : Obj) (p : Addr) (h : p.block < w.heap.size) : (w.alloc o).cell? p = w.cell? p :=
  World.cell?_of_block (w := w) (Below.heap_alloc w o p.block h)
theorem cell_box {w wr : World} {o : Obj} {p : Addr} (hb : Below (w.heap.size + 1) (w.alloc o) wr) (h : p.block < w.heap.size) : wr.cell? p = w.cell? p := by
  rw [hb.cell (Nat.lt_succ_of_lt h)]
  exact cell_old w o p h
theorem ret_b {x y : Bool} (h : x = y) : Ending.returned (.bool x) = .returned (.bool y) := by rw [h]
theorem ret_i {x y : Int} (h : x = y) : Ending.returned (.int .i64 x) = .returned (.int .i64 y) := by rw [h]
theorem below_draws {B : Nat} {u w : World} (h : Below B u w) (n : Nat) : Below B u (w.drewN n) := h.trans ⟨rfl, rfl, rfl, Nat.le_refl _, fun _ _ => rfl⟩
theorem below_refl_draws {B : Nat} (w : World) (n : Nat) : Below B w (w.drewN n) := below_draws (Below.refl _ _) n
theorem owns_mono {w : World} {base base' : Nat} {e : TypeId} {size : Nat} {v : Value} {n : Nat} {xs : List Value} (h : w.ownsRow base e size v n xs) (hb : base' ≤ base) : w.ownsRow base' e size v n xs :=
  ⟨h.1, h.2.imp id fun ⟨g, cap, cur, h1, h2, h3⟩ => ⟨g, cap, cur, h1, Nat.le_trans hb h2, h3⟩⟩

/-- an answer that tells whether -/
def Told (G : Prop) (e : Ending) : Prop := ∃ r : Bool, e = .returned (.bool r) ∧ (r = true ↔ G)
theorem Told.no {G : Prop} (h : ¬ G) : Told G (.returned (.bool false)) := ⟨false, rfl, by simp [h]⟩
theorem Told.yes {G : Prop} (h : G) : Told G (.returned (.bool true)) := ⟨true, rfl, by simp [h]⟩
theorem Told.dec {G : Prop} {b : Bool} (h : b = true ↔ G) : Told G (.returned (.bool b)) := ⟨b, rfl, h⟩

theorem info3 : (Try.prog.info? 3).map (fun i => (i.zero, i.size, i.bytes)) = some (some (.int .i64 0), 1, 8) := by kernel_rfl
theorem info4 : (Try.prog.info? 4).map (fun i => (i.zero, i.size, i.bytes)) = some (some (.bool false), 1, 1) := by kernel_rfl
theorem info28 : (Try.prog.info? 34).map (fun i => (i.zero, i.size, i.bytes)) = some (some (.slice none 0 0), 1, 24) := by kernel_rfl
theorem info54 : (Try.prog.info? 62).map (fun i => (i.zero, i.size, i.bytes)) = some (some (.agg #[.int .i64 0, .int .i64 0]), 2, 16) := by kernel_rfl

/-- an edge between vertices -/
def OkE (V : Int) (e : Int × Int) : Prop := 0 ≤ e.1 ∧ 0 ≤ e.2 ∧ e.1 < V ∧ e.2 < V
/-- a graph that may be -/
def Good (V : Int) (n : Nat) (es : List (Int × Int)) : Prop := 1 ≤ V ∧ V ≤ 64 ∧ n ≤ 128 ∧ ∀ k, k < n → OkE V (es.getD k (0, 0))
end Go.Proofs.Ytdkchihomllokaa

/-
  What the walks share: edges and numbers in memory, what stays as it was, answers that tell whether. No conditions.
-/
import Derived.Test.YtefagplbpbkpgaaDoorProg
import Derived.WalkKit
import Derived.WalkSpells
import Derived.Below
import Derived.Deep.QuietTactic
import Derived.BigQuiet
import Derived.Outline
import Derived.Deep.RegionWith
import Derived.Deep.AppendLies
import Derived.Test.YtefagplbpbkpgaaDoorRows
import Derived.ProofKit
import Derived.OpenShut
import Derived.Deep.SlicePairs
import Derived.Deep.DeepHandedRow
import Derived.Lib.SmallJoins
namespace Go.Proofs.YtefagplbpbkpgaaDoor
open Go.RowKit
set_option linter.unusedVariables false
set_option maxRecDepth 20000

theorem hide {p : Prop} (h : p) : Hid p := h
theorem unhide {p : Prop} (h : Hid p) : p := h

/-- a slice (its address, its length) whose elements are these edges; its block is at B or behind it -/
def Es (B : Nat) (w : World) (a : Option Addr) (n : Nat) (es : List (Int × Int)) : Prop :=
  es.length = n ∧ n ≤ 140737488355328 ∧
    ∀ k, k < n → ∃ g off, a = some ⟨g, off, none⟩ ∧ B ≤ g ∧ g < w.heap.size ∧ w.cell? ⟨g, off + k * 2, none⟩ = some (.int .i64 (es.getD k (0, 0)).1) ∧ w.cell? ⟨g, off + k * 2 + 1, none⟩ = some (.int .i64 (es.getD k (0, 0)).2)

/-- all blocks below B are as they were: enough for what lies below B -/
theorem Es.below' {B C : Nat} {w w' : World} {a : Option Addr} {n : Nat} {es : List (Int × Int)} (h : Es B w a n es) (hb : Below w.heap.size w w') : Es B w' a n es := by
  obtain ⟨h1, h2, h3⟩ := h
  refine ⟨h1, h2, fun k hk => ?_⟩
  obtain ⟨g, off, ha, hB, hg, c0, c1⟩ := h3 k hk
  exact ⟨g, off, ha, hB, Nat.lt_of_lt_of_le hg hb.size, by rw [hb.cell (p := ⟨g, off + k * 2, none⟩) hg]; exact c0, by rw [hb.cell (p := ⟨g, off + k * 2 + 1, none⟩) hg]; exact c1⟩
theorem Es.below {B : Nat} {w w' : World} {a : Option Addr} {n : Nat} {es : List (Int × Int)} (h : Es B w a n es) (hb : Below w.heap.size w w') : Es B w' a n es := Es.below' (C := 0) h hb
theorem Es.mono {B B' : Nat} {w : World} {a : Option Addr} {n : Nat} {es : List (Int × Int)} (h : Es B w a n es) (hB : B' ≤ B) : Es B' w a n es := by
  obtain ⟨h1, h2, h3⟩ := h
  refine ⟨h1, h2, fun k hk => ?_⟩
  obtain ⟨g, off, ha, hb, hg, c0, c1⟩ := h3 k hk
  exact ⟨g, off, ha, by omega, hg, c0, c1⟩

/-- a slice of ints: its address, its length, its numbers -/
def Ns (w : World) (a : Option Addr) (n : Nat) (xs : List Int) : Prop :=
  xs.length = n ∧ n ≤ 140737488355328 ∧ ∀ k, k < n → ∃ g off, a = some ⟨g, off, none⟩ ∧ g < w.heap.size ∧ w.cell? ⟨g, off + k, none⟩ = some (.int .i64 (xs.getD k 0))
theorem Ns.below {w w' : World} {a : Option Addr} {n : Nat} {xs : List Int} (h : Ns w a n xs) (hb : Below w.heap.size w w') : Ns w' a n xs := by
  obtain ⟨h1, h2, h3⟩ := h
  refine ⟨h1, h2, fun k hk => ?_⟩
  obtain ⟨g, off, ha, hg, c0⟩ := h3 k hk
  exact ⟨g, off, ha, Nat.lt_of_lt_of_le hg hb.size, by rw [hb.cell (p := ⟨g, off + k, none⟩) hg]; exact c0⟩
theorem Ns.nil (w : World) (a : Option Addr) : Ns w a 0 [] := ⟨rfl, by omega, fun k hk => by omega⟩

def toIs (xs : List Nat) : List Int := xs.map fun (x : Nat) => (x : Int)
def toI (es : List (Nat × Nat)) : List (Int × Int) := es.map fun e => ((e.1 : Int), (e.2 : Int))
theorem toI_length (es : List (Nat × Nat)) : (toI es).length = es.length := by simp [toI]
theorem toIs_length (xs : List Nat) : (toIs xs).length = xs.length := by simp [toIs]
theorem toI_getD (es : List (Nat × Nat)) (k : Nat) : (toI es).getD k (0, 0) = (((es.getD k (0, 0)).1 : Int), ((es.getD k (0, 0)).2 : Int)) := by
  simp only [toI, List.getD_eq_getElem?_getD, List.getElem?_map]
  cases es[k]? <;> simp
theorem toIs_getD (xs : List Nat) (k : Nat) : (toIs xs).getD k 0 = ((xs.getD k 0 : Nat) : Int) := by
  simp only [toIs, List.getD_eq_getElem?_getD, List.getElem?_map]
  cases xs[k]? <;> simp

/-- ints as cells -/
def zcells (xs : List Int) : List Value := xs.map fun (x : Int) => Value.int .i64 x
theorem zcells_length (xs : List Int) : (zcells xs).length = xs.length := by simp [zcells]
theorem zcells_snoc (xs : List Int) (x : Int) : zcells xs ++ [.int .i64 x] = zcells (xs ++ [x]) := by simp [zcells]
theorem toIs_snoc (xs : List Nat) (x : Nat) : toIs xs ++ [(x : Int)] = toIs (xs ++ [x]) := by simp [toIs]
theorem ns_of_owns {w : World} {base : Nat} {v : Value} {xs : List Int} {n : Nat} (h : w.ownsRow base 3 1 v n (zcells xs)) (hn : n ≤ 140737488355328) :
    ∃ a cap, v = .slice a n cap ∧ n ≤ cap ∧ Ns w a n xs := by
  have hl : xs.length = n := by have := h.1; simpa [zcells] using this
  rcases h.2 with ⟨hv, h0⟩ | ⟨g, cap, cur, rfl, hb, hg, h1, h2, h3, h4⟩
  · exact ⟨none, 0, by rw [hv, h0], by omega, hl, hn, fun k hk => by omega⟩
  · refine ⟨_, cap, rfl, h1, hl, hn, fun k hk => ⟨g, 0, rfl, (Array.getElem?_eq_some_iff.1 hg).1, ?_⟩⟩
    rw [Nat.zero_add, h.cellAt k (by omega)]
    subst hl
    simp [zcells, hk]

/-- edges as cells -/
def ecells (es : List (Int × Int)) : List Value := es.flatMap fun e => [.int .i64 e.1, .int .i64 e.2]
theorem ecells_snoc (es : List (Int × Int)) (x y : Int) : ecells (es ++ [(x, y)]) = ecells es ++ [.int .i64 x, .int .i64 y] := by
  simp [ecells]
theorem ecells_length (es : List (Int × Int)) : (ecells es).length = es.length * 2 := by
  induction es with
  | nil => rfl
  | cons e es ih =>
    have : ecells (e :: es) = [Value.int .i64 e.1, Value.int .i64 e.2] ++ ecells es := by simp [ecells]
    rw [this, List.length_append, ih]
    simp
    omega
theorem ecells_at (es : List (Int × Int)) : ∀ k, k < es.length → (ecells es)[k * 2]? = some (.int .i64 (es.getD k (0, 0)).1) ∧ (ecells es)[k * 2 + 1]? = some (.int .i64 (es.getD k (0, 0)).2) := by
  induction es with
  | nil => intro k hk; simp at hk
  | cons e es ih =>
    intro k hk
    have h2 : ecells (e :: es) = Value.int .i64 e.1 :: Value.int .i64 e.2 :: ecells es := by simp [ecells]
    rw [h2]
    cases k with
    | zero => simp
    | succ k =>
      have := ih k (by simpa using hk)
      rw [show (k + 1) * 2 = k * 2 + 1 + 1 by omega]
      simpa using this
theorem es_of_owns {w : World} {base : Nat} {v : Value} {n : Nat} {es : List (Int × Int)} (h : w.ownsRow base 47 2 v n (ecells es)) (hn : n ≤ 140737488355328) :
    ∃ a cap, v = .slice a n cap ∧ Es base w a n es := by
  have hl : es.length = n := by have := h.1; rw [ecells_length] at this; omega
  rcases h.2 with ⟨rfl, rfl⟩ | ⟨g, cap, cur, rfl, hb, hg, h1, h2, h3, h4⟩
  · exact ⟨none, 0, rfl, hl, by omega, fun k hk => by omega⟩
  · refine ⟨_, cap, rfl, hl, hn, fun k hk => ⟨g, 0, rfl, hb, (Array.getElem?_eq_some_iff.1 hg).1, ?_, ?_⟩⟩
    · rw [Nat.zero_add, h.cellAt (k * 2) (by omega), (ecells_at es k (by omega)).1]
    · rw [Nat.zero_add, h.cellAt (k * 2 + 1) (by omega), (ecells_at es k (by omega)).2]

theorem cell_old (w : World) (o : Obj) (p : Addr) (h : p.block < w.heap.size) : (w.alloc o).cell? p = w.cell? p :=
  World.cell?_of_block (w := w) (Below.heap_alloc w o p.block h)
theorem cell_box {w wr : World} {o : Obj} {p : Addr} (hb : Below (w.heap.size + 1) (w.alloc o) wr) (h : p.block < w.heap.size) : wr.cell? p = w.cell? p := by
  rw [hb.cell (Nat.lt_succ_of_lt h)]
  exact cell_old w o p h
theorem ret_b {x y : Bool} (h : x = y) : Ending.returned (.bool x) = .returned (.bool y) := by rw [h]
theorem ret_i {x y : Int} (h : x = y) : Ending.returned (.int .i64 x) = .returned (.int .i64 y) := by rw [h]
theorem below_draws {B : Nat} {u w : World} (h : Below B u w) (n : Nat) : Below B u (w.drewN n) := h.trans ⟨rfl, rfl, rfl, Nat.le_refl _, fun _ _ => rfl⟩
theorem below_refl_draws {B : Nat} (w : World) (n : Nat) : Below B w (w.drewN n) := below_draws (Below.refl _ _) n
theorem owns_mono {w : World} {base base' : Nat} {e : TypeId} {size : Nat} {v : Value} {n : Nat} {xs : List Value} (h : w.ownsRow base e size v n xs) (hb : base' ≤ base) : w.ownsRow base' e size v n xs :=
  ⟨h.1, h.2.imp id fun ⟨g, cap, cur, h1, h2, h3⟩ => ⟨g, cap, cur, h1, Nat.le_trans hb h2, h3⟩⟩

/-- an answer that tells whether -/
def Told (G : Prop) (e : Ending) : Prop := ∃ r : Bool, e = .returned (.bool r) ∧ (r = true ↔ G)
theorem Told.no {G : Prop} (h : ¬ G) : Told G (.returned (.bool false)) := ⟨false, rfl, by simp [h]⟩
theorem Told.yes {G : Prop} (h : G) : Told G (.returned (.bool true)) := ⟨true, rfl, by simp [h]⟩
theorem Told.dec {G : Prop} {b : Bool} (h : b = true ↔ G) : Told G (.returned (.bool b)) := ⟨b, rfl, h⟩

theorem info3 : (Tryd.prog.info? 3).map (fun i => (i.zero, i.size, i.bytes)) = some (some (.int .i64 0), 1, 8) := by kernel_rfl
theorem info4 : (Tryd.prog.info? 4).map (fun i => (i.zero, i.size, i.bytes)) = some (some (.bool false), 1, 1) := by kernel_rfl
theorem info28 : (Tryd.prog.info? 37).map (fun i => (i.zero, i.size, i.bytes)) = some (some (.slice none 0 0), 1, 24) := by kernel_rfl
theorem info54 : (Tryd.prog.info? 47).map (fun i => (i.zero, i.size, i.bytes)) = some (some (.agg #[.int .i64 0, .int .i64 0]), 2, 16) := by kernel_rfl

/-- an edge between vertices -/
def OkE (V : Int) (e : Int × Int) : Prop := 0 ≤ e.1 ∧ 0 ≤ e.2 ∧ e.1 < V ∧ e.2 < V
/-- a graph that may be -/
def Good (V : Int) (n : Nat) (es : List (Int × Int)) : Prop := 1 ≤ V ∧ V ≤ 64 ∧ n ≤ 128 ∧ ∀ k, k < n → OkE V (es.getD k (0, 0))
end Go.Proofs.YtefagplbpbkpgaaDoor
/-
  Arguments of the statements: what their reading says of their cells. No conditions.
-/
namespace Go.Proofs.YtefagplbpbkpgaaDoor
open Go.ChangeShapes Go.WideShapes Go.ChangeAt Go.RowKit Go.Deep
set_option linter.unusedVariables false
set_option maxRecDepth 20000

theorem own : ownKnob Tryd.prog.godebug = none := by kernel_rfl
theorem laidOut : laidOutB Tryd.prog = true := by kernel_rfl
theorem cells24 : Tryd.prog.cellsOf 24 = 2 := by kernel_rfl
theorem cells54 : Tryd.prog.cellsOf 47 = 2 := by kernel_rfl
theorem cells3 : Tryd.prog.cellsOf 3 = 1 := by kernel_rfl

/-- a graph that came in: its value, and its edges, if there are at most 200 -/
def GraphIn (W : World) (v : Value) : Prop :=
  ∃ (V : Int) (a : Option Addr) (n cap : Nat) (es : List (Int × Int)), v = .agg #[.int .i64 V, .slice a n cap] ∧ n ≤ cap ∧ (a = none → n = 0 ∧ cap = 0) ∧ (200 < n ∨ Es 0 W a n es)
/-- ints that came in: their slice, and their numbers, if there are at most 1000 -/
def IntsIn (W : World) (v : Value) : Prop :=
  ∃ (a : Option Addr) (n cap : Nat) (xs : List Int), v = .slice a n cap ∧ n ≤ cap ∧ (a = none → n = 0 ∧ cap = 0) ∧ (1000 < n ∨ Ns W a n xs)

theorem graph_open {H : Type} {enc : TypeId × Value → H} {W : World} {base : Nat} {v : Value} {d : DataW H} {p : List MemPlace} (hv : Value.okWide Tryd.prog W .any base 24 v) (h : DataW.Trod enc Tryd.prog W 0 (fun _ => true) true 24 v d p) : GraphIn W v := by
  obtain ⟨c0, c1, y0, y1, m, rfl, rfl, rfl, hy0, hy1⟩ := Joins.open_agg2 Tryd.underlying24 (by kernel_rfl) cells24 hv h
  obtain ⟨V, e0, _, _⟩ := DataW.trod_int Tryd.underlying3 hy0
  simp only [List.cons.injEq, and_true] at e0
  subst e0
  rcases open_slice_pairs Tryd.underlying22 Tryd.underlying47 cells54 rfl rfl cells3 cells3 hy1 with ⟨hc, _⟩ | ⟨a, len, cap, m, k, V0, V1, D0, D1, P0, P1, hc, _, hl, hm, hmm, _, hall⟩
  · simp only [List.cons.injEq, and_true] at hc
    subst hc
    exact ⟨V, none, 0, 0, [], rfl, Nat.le_refl _, fun _ => ⟨rfl, rfl⟩, .inr ⟨rfl, by omega, fun k hk => by omega⟩⟩
  · simp only [List.cons.injEq, and_true] at hc
    subst hc
    simp only [if_true] at hmm
    subst hmm
    by_cases hbig : 200 < len
    · exact ⟨V, some a, len, _, [], rfl, hl, fun h => (by cases h), .inl hbig⟩
    · have hint : ∀ i, i < m → ∃ x y, V0 i = .int .i64 x ∧ V1 i = .int .i64 y := fun i hi => by
        obtain ⟨x, h1, _, _⟩ := DataW.trod_int Tryd.underlying3 (hall i hi).2.2.1
        obtain ⟨y, h2, _, _⟩ := DataW.trod_int Tryd.underlying3 (hall i hi).2.2.2
        simp only [List.cons.injEq, and_true] at h1 h2
        exact ⟨x, y, h1, h2⟩
      refine ⟨V, some a, len, _, (List.range len).map fun i => (intOf (V0 i), intOf (V1 i)), rfl, hl, fun h => (by cases h), .inr ⟨by simp, by omega, fun j hj => ?_⟩⟩
      obtain ⟨b, off, spot⟩ := a
      have hspot : spot = none := by simpa [Addr.add] using World.cell?_spot (hall 0 (by omega)).1
      subst hspot
      obtain ⟨x, y, hx, hy⟩ := hint j (by omega)
      have q0 := (hall j (by omega)).1
      have q1 := (hall j (by omega)).2.1
      rw [Addr.add_lit] at q0 q1
      have hgd : ((List.range len).map fun i => (intOf (V0 i), intOf (V1 i))).getD j (0, 0) = (x, y) := by simp [hj, hx, hy, intOf]
      rw [hgd]
      refine ⟨b, off, rfl, Nat.zero_le _, World.block_lt_of_cell? W _ q0, ?_, ?_⟩
      · rw [q0, hx]
      · rw [← hy, ← q1, Nat.add_assoc]

theorem ints_open {H : Type} {enc : TypeId × Value → H} {W : World} {base : Nat} {v : Value} {d : DataW H} {p : List MemPlace} (hv : Value.okWide Tryd.prog W .any base 37 v) (h : DataW.Trod enc Tryd.prog W 0 (fun _ => true) true 37 v d p) : IntsIn W v := by
  obtain ⟨a0, len0, cap0, rfl⟩ := okWide_slice Tryd.underlying37 hv
  obtain ⟨fuel, hf⟩ := h
  rcases open_ints Tryd.underlying37 Tryd.underlying3 (by kernel_rfl) hf with ⟨hcs, _⟩ | ⟨x, l, c, zs, hcs, _, hl, hm, hz, _, hcell, hwz⟩
  · simp [Value.cells] at hcs
    obtain ⟨rfl, rfl, rfl⟩ := hcs
    exact ⟨none, 0, 0, [], rfl, Nat.le_refl _, fun _ => ⟨rfl, rfl⟩, .inr (Ns.nil _ _)⟩
  · simp [Value.cells] at hcs
    obtain ⟨rfl, rfl, rfl⟩ := hcs
    simp only [if_true] at hz
    by_cases hbig : 1000 < len0
    · exact ⟨some x, len0, cap0, [], rfl, hl, fun h => (by cases h), .inl hbig⟩
    · refine ⟨some x, len0, cap0, zs.take len0, rfl, hl, fun h => (by cases h), .inr ⟨by simp; omega, by omega, fun k hk => ?_⟩⟩
      have q := hcell k (by omega)
      obtain ⟨b, off, spot⟩ := x
      have hspot : spot = none := by simpa [Addr.add] using World.cell?_spot (hcell 0 (by omega))
      subst hspot
      rw [Addr.add_lit] at q
      refine ⟨b, off, rfl, World.block_lt_of_cell? W _ q, ?_⟩
      rw [q]
      simp [List.getD, hk]
end Go.Proofs.YtefagplbpbkpgaaDoor
/-
  The contract of within. Conditions: what they are asked of lies in memory as told.
-/
namespace Go.Proofs.YtefagplbpbkpgaaDoor
open Go.RowKit
set_option linter.unusedVariables false
set_option maxRecDepth 20000

def inB (x n : Int) : Bool := decide (0 ≤ x ∧ x < n)

set_option maxHeartbeats 1000000 in
theorem within_any (w : World) (x n : Int) : Calls Tryd.prog 72 #[.int .i64 x, .int .i64 n] w fun e w' => e = .returned (.bool (inB x n)) ∧ w' = w := by
  by_cases h : 0 ≤ x
  · go_enter Tryd.func72, Tryd.ntmps72
    go_wp2
    go_ret
    exact ⟨ret_b (by simp [inB, h]), rfl⟩
  · have d1 : decide (0 ≤ x) = false := decide_eq_false h
    go_enter Tryd.func72, Tryd.ntmps72
    go_wp2
    go_ret
    exact ⟨ret_b (by simp [inB]; omega), rfl⟩

end Go.Proofs.YtefagplbpbkpgaaDoor

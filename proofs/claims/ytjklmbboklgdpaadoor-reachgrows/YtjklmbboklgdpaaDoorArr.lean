/-
  An array of 64 bools in a box: how it is built, laid, stored, read whole. No conditions.
-/
import Derived.Test.YtjklmbboklgdpaaDoorBt
import Derived.Deep.MidRow
import Derived.Laws.BitsLemmas
namespace Go.Proofs.YtjklmbboklgdpaaDoor
open Go.RowKit
set_option linter.unusedVariables false

def z64 : List Value := List.replicate 64 (.bool false)
theorem size27 : (Tryd.prog.info? 27).map (·.size) = some 64 := by kernel_rfl
theorem run_build27 (w : World) : (Instr.build 27 #[]).run Tryd.prog w = .ok (.agg z64.toArray) w := by kernel_rfl
theorem run_alloc27 (w : World) : (Instr.alloc 27 true (.tuple #[])).run Tryd.prog w = .ok (.pointer (some ⟨w.heap.size, 0, none⟩)) (w.alloc (.cells z64.toArray 27)) := by kernel_rfl

theorem wpList_build27 {ops : Array Oper} {rest : List Oper} {op : Oper} {a : Act} {w : World} {Q : Exit → Act → World → Prop} (hgd : op.guard = none) (ho : op.op = .build 27 #[])
    (h : wpList Tryd.prog ops Q rest (a.put op.dst (.agg z64.toArray)) w) : wpList Tryd.prog ops Q (op :: rest) a w :=
  wpList_plain hgd fun _ hK => by
    unfold Oper.wp execOp
    simp only [ho, Array.map_empty, Sem.run_bind, run_build27, Result.andThen_ok]
    exact hK _ _ h
theorem wpList_alloc27 {ops : Array Oper} {rest : List Oper} {op : Oper} {a : Act} {w : World} {Q : Exit → Act → World → Prop} (hgd : op.guard = none) (ho : op.op = .alloc 27)
    (h : wpList Tryd.prog ops Q rest (a.put op.dst (.pointer (some ⟨w.heap.size, 0, none⟩))) (w.alloc (.cells z64.toArray 27))) : wpList Tryd.prog ops Q (op :: rest) a w :=
  wpList_plain hgd fun _ hK => by
    unfold Oper.wp execOp
    simp only [ho, Sem.run_bind, run_alloc27, Result.andThen_ok]
    exact hK _ _ h
theorem z64_one : z64.toArray.all (·.oneCell') = true := all_oneCell_toArray fun v hv => by
  obtain rfl := List.eq_of_mem_replicate hv
  rfl
theorem setCells_row (b : Nat) : ∀ (vs : List Value) (o : Nat) (w : World), (∃ cur t, w.heap[b]? = some (.cells cur t (0, 0))) → ∃ cur t, (w.setCells b o vs).heap[b]? = some (.cells cur t (0, 0))
  | [], _, w, h => h
  | v :: r, o, w, ⟨cur, t, h⟩ => by
    rw [World.setCells]
    exact setCells_row b r (o + 1) _ ⟨cur.setIfInBounds o v, t, by simp [World.setCell, Array.getElem?_modify, h]⟩
theorem setCells_below (B b : Nat) (hB : B ≤ b) : ∀ (vs : List Value) (o : Nat) (w u : World), Below B u w → Below B u (w.setCells b o vs)
  | [], _, w, u, h => h
  | v :: r, o, w, u, h => by
    rw [World.setCells]
    exact setCells_below B b hB r (o + 1) _ u (h.setCell (p := ⟨b, o, none⟩) hB v)
theorem setCells_ty (b : Nat) : ∀ (vs : List Value) (o : Nat) (w : World) (cur : Array Value) (t : TypeId), w.heap[b]? = some (.cells cur t (0, 0)) → ∃ cur', (w.setCells b o vs).heap[b]? = some (.cells cur' t (0, 0))
  | [], _, w, cur, t, h => ⟨cur, h⟩
  | v :: r, o, w, cur, t, h => by
    rw [World.setCells]
    exact setCells_ty b r (o + 1) _ (cur.setIfInBounds o v) t (by simp [World.setCell, Array.getElem?_modify, h])
theorem z64_at {j : Nat} (h : j < 64) : z64[j]? = some (.bool false) := by
  unfold z64
  rw [List.getElem?_replicate, if_pos h]
theorem z64_size : z64.toArray.size = 64 := by
  rw [List.size_toArray]
  unfold z64
  rw [List.length_replicate]
theorem there27 (w : World) : (w.alloc (.cells z64.toArray 27)).there w.heap.size 0 z64.toArray.size := by
  intro j hj
  have h := (MapKept.heap_alloc w (.cells z64.toArray 27)).1
  rw [z64_size] at hj
  rw [Nat.zero_add]
  refine ⟨?_, ?_⟩
  · simp only [World.cell?, h]
    rw [List.getElem?_toArray, z64_at hj]
    rfl
  · simp only [World.frozen?, h]
    simp
theorem row27 (w : World) : Row ((w.alloc (.cells z64.toArray 27)).setCells w.heap.size 0 z64.toArray.toList) w.heap.size 27 64 (fun _ => .bool false) := by
  have h := (MapKept.heap_alloc w (.cells z64.toArray 27)).1
  obtain ⟨cur, hc⟩ := setCells_ty w.heap.size z64.toArray.toList 0 _ _ _ h
  refine ⟨cur, hc, fun t ht => ?_⟩
  have := World.rangeAt_setCells_same _ w.heap.size 0 z64.toArray.toList (by rw [Array.length_toList]; exact there27 w) t (.bool false) (z64_at ht)
  rw [Nat.zero_add] at this
  simp only [World.cell?, hc] at this
  exact this
theorem below27 (w : World) : Below w.heap.size w ((w.alloc (.cells z64.toArray 27)).setCells w.heap.size 0 z64.toArray.toList) :=
  setCells_below _ _ (Nat.le_refl _) _ _ _ _ (b_al _)
theorem wpList_store27 {ops : Array Oper} {rest : List Oper} {op : Oper} {a : Act} {w : World} {Q : Exit → Act → World → Prop} (hgd : op.guard = none) (x y : Operand) (ho : op.op = .store 27 x y)
    (hx : a.eval x = .pointer (some ⟨w.heap.size, 0, none⟩)) (hy : a.eval y = .agg z64.toArray)
    (h : ∀ w', Row w' w.heap.size 27 64 (fun _ => .bool false) → Below w.heap.size w w' → wpList Tryd.prog ops Q rest (a.put op.dst undef) w') : wpList Tryd.prog ops Q (op :: rest) a (w.alloc (.cells z64.toArray 27)) :=
  wpList_store_mid hgd 27 x y ho w.heap.size 0 z64.toArray hx hy (there27 w) (by rw [size27]; rfl) z64_one (h _ (row27 w) (below27 w))
def fcells (f : Nat → Value) (n : Nat) : List Value := (List.range n).map f
theorem Row.range {w : World} {g n : Nat} {ty : TypeId} {f : Nat → Value} (h : Row w g ty n f) : w.rangeAt g 0 (fcells f n) := by
  intro j v hv
  have hj : j < n := by have := (List.getElem?_eq_some_iff.1 hv).1; simpa [fcells] using this
  rw [Nat.zero_add, h.cell hj, ← hv]
  simp [fcells, hj]
theorem wpList_load27 {ops : Array Oper} {rest : List Oper} {op : Oper} {a : Act} {w : World} {Q : Exit → Act → World → Prop} (hgd : op.guard = none) (x : Operand) (ho : op.op = .load 27 x) (g : Nat) (hx : a.eval x = .pointer (some ⟨g, 0, none⟩)) (f : Nat → Value) (hr : Row w g 27 64 f)
    (h : wpList Tryd.prog ops Q rest (a.put op.dst (.agg (fcells f 64).toArray)) w) : wpList Tryd.prog ops Q (op :: rest) a w :=
  wpList_load_mid hgd 27 x ho g 0 hx (fcells f 64) _ hr.range Tryd.underlying27 rfl (by rw [size27]; simp [fcells]) h
theorem fcells_at (f : Nat → Value) (n k : Nat) (h : k < n) : (fcells f n).toArray[k]? = some (f k) := by simp [fcells, h]
theorem run_index27 (w : World) (fc : Array Value) (j : Nat) (v : Value) (hj : j < 64) (hfc : fc[j]? = some v) : (Instr.index 27 (.agg fc) (.int .i64 (j : Int))).run Tryd.prog w = .ok v w := by
  have h1 : (0 : Int) ≤ (j : Int) ∧ (j : Int) < (64 : Nat) := by omega
  simp [Instr.index, run_underlying Tryd.underlying27, asIntOf, h1, go_sem]
  rw [if_pos hj, hfc]
  simp [go_sem]
theorem i64_mask (n : Int) (m q : Nat) (hm : (BitVec.ofInt 64 (m : Int)).toNat = 2 ^ q - 1) (hq : 2 ^ q ≤ 65536) (hd : 2 ^ q ∣ 2 ^ 64) : bits .and .i64 n (m : Int) = n % ((2 ^ q : Nat) : Int) := by
  have key : (BitVec.ofInt 64 n &&& BitVec.ofInt 64 (m : Int)).toNat = (n % ((2 ^ 64 : Nat) : Int)).toNat % 2 ^ q := by
    rw [BitVec.toNat_and, BitVec.toNat_ofInt, hm, Nat.and_two_pow_sub_one_eq_mod]
  show IntKind.i64.wrap ((BitVec.ofInt 64 n &&& BitVec.ofInt 64 (m : Int)).toNat : Nat) = n % ((2 ^ q : Nat) : Int)
  have h1 : 0 ≤ n % ((2 ^ 64 : Nat) : Int) := Int.emod_nonneg _ (by decide)
  have h2 : (((n % ((2 ^ 64 : Nat) : Int)).toNat % 2 ^ q : Nat) : Int) = n % ((2 ^ q : Nat) : Int) := by
    rw [Int.natCast_emod, Int.toNat_of_nonneg h1]
    exact Int.emod_emod_of_dvd n (by exact_mod_cast hd)
  have h3 : (n % ((2 ^ 64 : Nat) : Int)).toNat % 2 ^ q < 2 ^ q := Nat.mod_lt _ (Nat.two_pow_pos q)
  rw [key, h2.symm, IntKind.wrap_i64]
  generalize (n % ((2 ^ 64 : Nat) : Int)).toNat % 2 ^ q = z at *
  generalize 2 ^ q = y at *
  omega
theorem i64_and63 (n : Int) : bits .and .i64 n 63 = n % 64 := i64_mask n 63 6 (by decide) (by decide) (by decide)
theorem i64_and65535 (n : Int) : bits .and .i64 n 65535 = n % 65536 := i64_mask n 65535 16 (by decide) (by decide) (by decide)
end Go.Proofs.YtjklmbboklgdpaaDoor


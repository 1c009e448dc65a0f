/-
  Acts, graphs, numbers as arguments: what their reading says of their cells. No conditions.
-/
import Derived.Test.YtdkchihomllokaaLawOpen
import Derived.Test.YtdkchihomllokaaSk9
import Derived.SizedLaws
namespace Go.Proofs.Ytdkchihomllokaa
open Go.ChangeShapes Go.WideShapes Go.ChangeAt Go.RowKit Go.Deep
set_option linter.unusedVariables false
set_option maxRecDepth 20000

theorem cells38 : Try.prog.cellsOf 38 = 2 := by kernel_rfl
theorem cells34 : Try.prog.cellsOf 34 = 1 := by kernel_rfl
theorem bytes3 : Try.prog.bytesOf 3 = 8 := by kernel_rfl
theorem weightsAll_mem {H : Type} {P : Program} {e : TypeId} : ∀ {l : List (DataW H)} {d : DataW H}, d ∈ l → ∀ n ∈ d.weights P e, n ∈ DataW.weightsAll P e l
  | d' :: r, d, hd, n, hn => by
    simp only [DataW.weightsAll, List.mem_append]
    rcases List.mem_cons.1 hd with rfl | h
    · exact Or.inl hn
    · exact Or.inr (weightsAll_mem h n hn)

/-- an act in memory: a number, and a list -/
structure Ac1 (W : World) (g o : Nat) (x : Int) (ak : Option Addr) (lk ck : Nat) (zs : List Int) : Prop where
  lt : g < W.heap.size
  c0 : W.cell? ⟨g, o, none⟩ = some (.int .i64 x)
  c1 : W.cell? ⟨g, o + 1, none⟩ = some (.slice ak lk ck)
  no : ak = none → lk = 0 ∧ ck = 0
  ns : Ns W ak lk zs
  sz : lk * 8 ≤ 140737488355328
theorem Ac1.below {W W' : World} {g o : Nat} {x : Int} {ak : Option Addr} {lk ck : Nat} {zs : List Int} (h : Ac1 W g o x ak lk ck zs) {B : Nat} (hb : Below B W W') (hB : W.heap.size ≤ B) : Ac1 W' g o x ak lk ck zs :=
  ⟨Nat.lt_of_lt_of_le h.lt hb.size, by rw [hb.cell (p := ⟨g, o, none⟩) (Nat.lt_of_lt_of_le h.lt hB)]; exact h.c0, by rw [hb.cell (p := ⟨g, o + 1, none⟩) (Nat.lt_of_lt_of_le h.lt hB)]; exact h.c1, h.no, h.ns.below (hb.mono hB), h.sz⟩
/-- acts in memory -/
def Acs (W : World) (a : Option Addr) (n : Nat) : Prop := ∀ k, k < n → ∃ g off x ak lk ck zs, a = some ⟨g, off, none⟩ ∧ Ac1 W g (off + k * 2) x ak lk ck zs
def ActsIn (W : World) (v : Value) : Prop := ∃ (a : Option Addr) (n cap : Nat), v = .slice a n cap ∧ n ≤ 9223372036854775807 ∧ Acs W a n

theorem acts_open {H : Type} {enc : TypeId × Value → H} {W : World} {base : Nat} {v : Value} {d : DataW H} {p : List MemPlace} (hv : Value.okWide Try.prog W .any base 25 v) (h : DataW.Trod enc Try.prog W 0 (fun _ => true) true 25 v d p)
    (hsz : (DataW.weights Try.prog 25 d).all (· ≤ reachBytes) = true) : ActsIn W v := by
  obtain ⟨a0, len0, cap0, rfl⟩ := okWide_slice Try.underlying25 hv
  obtain ⟨fuel, hf⟩ := h
  rcases open_slice_pairs Try.underlying25 Try.underlying38 cells38 rfl rfl cells3 cells34 hf with ⟨hcs, _⟩ | ⟨a, len, cap, m, nn, V0, V1, D0, D1, P0, P1, hcs, _, hl, hm, hmm, hd, hall⟩
  · simp [Value.cells] at hcs
    obtain ⟨rfl, rfl, rfl⟩ := hcs
    exact ⟨none, 0, 0, rfl, by omega, fun k hk => by omega⟩
  · simp [Value.cells] at hcs
    obtain ⟨rfl, rfl, rfl⟩ := hcs
    simp only [if_true] at hmm
    subst hmm
    refine ⟨some a, len0, m, rfl, by unfold maxLen at hm; omega, fun k hk => ?_⟩
    obtain ⟨q0, q1, h0, h1⟩ := hall k (by omega)
    obtain ⟨b, off, spot⟩ := a
    have hspot : spot = none := by simpa [Addr.add] using World.cell?_spot (hall 0 (by omega)).1
    subst hspot
    rw [Addr.add_lit] at q0 q1
    obtain ⟨x, e0, _, _⟩ := DataW.trod_int Try.underlying3 h0
    simp only [List.cons.injEq, and_true] at e0
    rw [e0] at q0
    have hbl := World.block_lt_of_cell? W _ q0
    rcases open_ints Try.underlying34 Try.underlying3 (by kernel_rfl) h1 with ⟨hc1, hx1⟩ | ⟨a1, l1, c1, zs, hc1, _, hl1, hm1, hz1, hx1, hcell, _⟩
    · simp only [List.cons.injEq, and_true] at hc1
      rw [hc1] at q1
      exact ⟨b, off, x, none, 0, 0, [], rfl, hbl, q0, by rw [← q1, Nat.add_assoc], fun _ => ⟨rfl, rfl⟩, Ns.nil _ _, by omega⟩
    · simp only [List.cons.injEq, and_true] at hc1
      rw [hc1] at q1
      simp only [if_true] at hz1
      have hd1 : d = DataW.slice (List.map (fun i => DataW.agg [D0 i, D1 i]) (List.range len0)) (List.map (fun j => DataW.agg [D0 (len0 + j), D1 (len0 + j)]) (List.range (m - len0))) := (Prod.mk.inj hd).1
      have hDk : D1 k = _ := (Prod.mk.inj hx1).1
      have hw : zs.length * 8 ≤ reachBytes := by
        refine of_decide_eq_true (List.all_eq_true.1 hsz _ ?_)
        rw [hd1]
        simp only [DataW.weights, Try.underlying25, List.mem_cons, List.mem_append]
        refine .inr (.inl (weightsAll_mem (d := DataW.agg [D0 k, D1 k]) (List.mem_map.2 ⟨k, List.mem_range.2 hk, rfl⟩) _ ?_))
        simp only [DataW.weights, Try.underlying38, DataW.weightsEach, List.map_cons, List.map_nil, List.mem_append]
        refine .inr (.inl ?_)
        rw [hDk]
        simp only [DataW.weights, Try.underlying34, bytes3, List.mem_cons]
        left
        simp only [lits, List.length_map, List.length_take, List.length_drop]
        omega
      have hr : reachBytes = 140737488351232 := rfl
      obtain ⟨b1, off1, spot1⟩ := a1
      refine ⟨b, off, x, _, _, _, zs.take l1, rfl, hbl, q0, by rw [← q1, Nat.add_assoc], fun h => (by cases h), ⟨by simp; omega, by omega, fun j hj => ?_⟩, by omega⟩
      have q := hcell j (by omega)
      have hsp : spot1 = none := by simpa [Addr.add] using World.cell?_spot (hcell 0 (by omega))
      subst hsp
      rw [Addr.add_lit] at q
      refine ⟨b1, off1, rfl, World.block_lt_of_cell? W _ q, ?_⟩
      rw [q]
      simp [List.getD, hj]
end Go.Proofs.Ytdkchihomllokaa

namespace Go.Proofs.Ytdkchihomllokaa
open Go.ChangeShapes Go.WideShapes Go.ChangeAt Go.RowKit Go.Deep
set_option linter.unusedVariables false
set_option maxRecDepth 20000

/-- an int that came in -/
theorem int_open {H : Type} {enc : TypeId × Value → H} {W : World} {base : Nat} {v : Value} {d : DataW H} {p : List MemPlace} (hv : Value.okWide Try.prog W .any base 3 v) (h : DataW.Trod enc Try.prog W 0 (fun _ => true) true 3 v d p) : ∃ x : Int, v = .int .i64 x := by
  obtain ⟨x, hx⟩ := okWide_int Try.underlying3 hv
  exact ⟨x, hx⟩
theorem bytes62 : Try.prog.bytesOf 62 = 16 := by kernel_rfl
/-- a graph that came in, with all its edges -/
def GraphAll (W : World) (v : Value) : Prop :=
  ∃ (V : Int) (a : Option Addr) (n cap : Nat) (es : List (Int × Int)), v = .agg #[.int .i64 V, .slice a n cap] ∧ n ≤ cap ∧ (a = none → n = 0 ∧ cap = 0) ∧ Es 0 W a n es
theorem graph_all {H : Type} {enc : TypeId × Value → H} {W : World} {base : Nat} {v : Value} {d : DataW H} {p : List MemPlace} (hv : Value.okWide Try.prog W .any base 24 v) (h : DataW.Trod enc Try.prog W 0 (fun _ => true) true 24 v d p)
    (hsz : (DataW.weights Try.prog 24 d).all (· ≤ reachBytes) = true) : GraphAll W v := by
  obtain ⟨c0, c1, y0, y1, m, rfl, rfl, rfl, hy0, hy1⟩ := Joins.open_agg2 Try.underlying24 (by kernel_rfl) cells24 hv h
  obtain ⟨V, e0, _, _⟩ := DataW.trod_int Try.underlying3 hy0
  simp only [List.cons.injEq, and_true] at e0
  subst e0
  rcases open_slice_pairs Try.underlying22 Try.underlying62 cells54 rfl rfl cells3 cells3 hy1 with ⟨hc, _⟩ | ⟨a, len, cap, m, k, V0, V1, D0, D1, P0, P1, hc, _, hl, hm, hmm, hd, hall⟩
  · simp only [List.cons.injEq, and_true] at hc
    subst hc
    exact ⟨V, none, 0, 0, [], rfl, Nat.le_refl _, fun _ => ⟨rfl, rfl⟩, ⟨rfl, by omega, fun k hk => by omega⟩⟩
  · simp only [List.cons.injEq, and_true] at hc
    subst hc
    simp only [if_true] at hmm
    subst hmm
    have hd1 := (Prod.mk.inj hd).1
    have hw : m * 16 ≤ reachBytes := by
      refine of_decide_eq_true (List.all_eq_true.1 hsz _ ?_)
      rw [hd1]
      simp only [DataW.weights, Try.underlying24, DataW.weightsEach, List.map_cons, List.map_nil, List.mem_append]
      refine .inr (.inl ?_)
      simp only [Try.underlying22, bytes62, List.mem_cons]
      left
      simp only [List.length_map, List.length_range]
      rw [show len + (m - len) = m by omega]
    have hr : reachBytes = 140737488351232 := rfl
    have hint : ∀ i, i < m → ∃ x y, V0 i = .int .i64 x ∧ V1 i = .int .i64 y := fun i hi => by
      obtain ⟨x, h1, _, _⟩ := DataW.trod_int Try.underlying3 (hall i hi).2.2.1
      obtain ⟨y, h2, _, _⟩ := DataW.trod_int Try.underlying3 (hall i hi).2.2.2
      simp only [List.cons.injEq, and_true] at h1 h2
      exact ⟨x, y, h1, h2⟩
    refine ⟨V, some a, len, _, (List.range len).map fun i => (intOf (V0 i), intOf (V1 i)), rfl, hl, fun h => (by cases h), ⟨by simp, by omega, fun j hj => ?_⟩⟩
    obtain ⟨b, off, spot⟩ := a
    have hspot : spot = none := by simpa [Addr.add] using World.cell?_spot (hall 0 (by omega)).1
    subst hspot
    obtain ⟨x, y, hx, hy⟩ := hint j (by omega)
    have q0 := (hall j (by omega)).1
    have q1 := (hall j (by omega)).2.1
    rw [Addr.add_lit] at q0 q1
    have hgd : ((List.range len).map fun i => (intOf (V0 i), intOf (V1 i))).getD j (0, 0) = (x, y) := by simp [hj, hx, hy, intOf]
    rw [hgd]
    refine ⟨b, off, rfl, Nat.zero_le _, World.block_lt_of_cell? W _ q0, ?_, ?_⟩
    · rw [q0, hx]
    · rw [← hy, ← q1, Nat.add_assoc]
end Go.Proofs.Ytdkchihomllokaa


/-
  'append([]byte(s), more...)' at this program: the new row bears a mark behind its last cell, none of its cells is frozen. Conditions: all is small.
-/
import Derived.Test.YtdcfhdpbpfgohaaDoorConv
import Derived.Laws.AppendOwn
import Derived.Laws.OwnMore
namespace Go.Proofs.YtdcfhdpbpfgohaaDoor
open Go.RowKit
set_option linter.unusedVariables false

def bcells (l : List UInt8) : List Value := l.map fun c => Value.int .u8 (c.toNat : Int)

/-- cells stored into a row whose frozen places lie behind it -/
theorem store_behind (P : Program) (g o : Nat) (t : TypeId) (lo hi : Nat) (vs : List Value) : ∀ (i : Nat) (cur : Array Value) (w : World), w.heap[g]? = some (.cells cur t (lo, hi)) → cur.size ≤ lo → o + i + vs.length ≤ cur.size → (∀ v ∈ vs, v.oneCell' = true) →
    (storeCells ⟨g, o, none⟩ vs i).run P w = .ok () (w.setRow g (cur.toList.take (o + i) ++ vs ++ cur.toList.drop (o + i + vs.length)).toArray) := by
  induction vs with
  | nil =>
    intro i cur w hg _ _ _
    have e : (cur.toList.take (o + i) ++ [] ++ cur.toList.drop (o + i + ([] : List Value).length)).toArray = cur := by simp
    rw [e, setRow_self w g cur t _ hg]
    rfl
  | cons v rest ih =>
    intro i cur w hg hlo hl h1
    rw [List.length_cons] at hl
    have hin : o + i < cur.size := by omega
    have hcell : w.cell? ⟨g, o + i, none⟩ = some cur[o + i] := by rw [cell_of_row _ _ _ _ _ _ hg]; simp [hin]
    have hfro : w.frozen? ⟨g, o + i, none⟩ = false := by
      simp only [World.frozen?, hg, Bool.and_eq_false_iff, decide_eq_false_iff_not]
      exact .inl (by omega)
    have hst : (store ((⟨g, o, none⟩ : Addr).add i) v).run P w = .ok () (w.setRow g (cur.setIfInBounds (o + i) v)) := by
      rw [Addr.add_lit, run_store P w _ v _ (h1 v (by simp)), hcell]
      simp [hfro, setCell_eq_setRow w g (o + i) cur t (lo, hi) v hg]
    have hi2 := ih (i + 1) (cur.setIfInBounds (o + i) v) (w.setRow g (cur.setIfInBounds (o + i) v)) (setRow_heap w g cur _ t _ hg) (by simpa using hlo) (by simp; omega) (fun x hx => h1 x (by simp [hx]))
    simp only [storeCells, Sem.run_bind, hst, Result.andThen_ok, hi2, setRow_setRow]
    congr 3
    have e := list_seg_step cur.toList (o + i) v rest (by simp; omega)
    simpa [Array.toList_setIfInBounds, Nat.add_assoc] using e

theorem bs_of_row {w : World} {g : Nat} {cur : Array Value} {fr : Nat × Nat} {l : List UInt8} (hg : w.heap[g]? = some (.cells cur 5 fr)) (hhd : cur.toList.take l.length = bcells l) : Bs w (some ⟨g, 0, none⟩) l.length l := by
  refine ⟨rfl, fun k hk => ⟨g, 0, rfl, (Array.getElem?_eq_some_iff.1 hg).1, ?_⟩⟩
  rw [Nat.zero_add, cell_of_row _ _ k _ _ _ hg]
  have h2 : (bcells l)[k]? = some (.int .u8 (l.getD k 0).toNat) := by simp [bcells, hk]
  rw [← hhd, List.getElem?_take, if_pos hk] at h2
  simpa using h2

theorem bcells_one (l : List UInt8) : ∀ u ∈ bcells l, u.oneCell' = true := by
  intro u hu
  obtain ⟨c, _, rfl⟩ := List.mem_map.1 hu
  rfl

theorem infoByte : (Tryd.prog.info? 5).map (fun i => (i.zero, i.size, i.bytes)) = some (some (.int .u8 0), 1, 1) := by kernel_rfl

theorem run_append_new {w : World} (ty : TypeId) (g cap m c : Nat) (cur : Array Value) (l r : List UInt8) (x : Option Addr)
    (hg : w.heap[g]? = some (.cells cur 5 (cur.size, cur.size + 1))) (hcs : cur.size = cap) (hL : l.length ≤ cap) (hhd : cur.toList.take l.length = bcells l)
    (hr : Bs w x m r) (hx : x = none → c = 0) (hs : l.length + m ≤ 1000000) :
    ∃ a' cap' w', (Builtin.append_ #[34, 34] ty #[.slice (some ⟨g, 0, none⟩) l.length cap, .slice x m c]).run Tryd.prog w = .ok (.slice a' (l.length + m) cap') w' ∧ Bs w' a' (l.length + m) (l ++ r) ∧ Below g w w' := by
  obtain ⟨i0, hi, hz0, hz1, hz2⟩ := info_parts infoByte
  have hgl : g < w.heap.size := (Array.getElem?_eq_some_iff.1 hg).1
  cases x with
  | none =>
    have hm : m = 0 := by
      cases m with
      | zero => rfl
      | succ m => obtain ⟨_, _, h, _⟩ := hr.2 0 (by omega); cases h
    subst hm
    have hr0 : r = [] := List.eq_nil_of_length_eq_zero hr.1
    subst hr0
    rw [hx rfl]
    refine ⟨some ⟨g, 0, none⟩, cap, w, ?_, by simpa using bs_of_row hg hhd, Below.refl _ _⟩
    simp [Builtin.append_, run_underlying Tryd.underlying34, sizeOf, typeInfo, hi, Builtin.lenOf, Builtin.firstCells, hL, storeCells]
  | some a =>
    have hrl := hr.1
    have hnl : (bcells r).length = m * i0.size := by rw [hz1]; simp [bcells, hrl]
    have hnews : ∀ j u, (bcells r)[j]? = some u → w.cell? (a.add j) = some u := by
      intro j u hj
      have hjl : j < r.length := by
        have := (List.getElem?_eq_some_iff.1 hj).1
        simpa [bcells] using this
      obtain ⟨g2, off, ha, _, hc⟩ := hr.2 j (by omega)
      cases ha
      rw [Addr.add_lit, hc, ← hj]
      simp [bcells, hjl]
    by_cases hroom : l.length + m ≤ cap
    · have hf := run_firstCells_some (P := Tryd.prog) w i0.size m a m c (bcells r) hnl hnews
      have hst := store_behind Tryd.prog g l.length 5 cur.size (cur.size + 1) (bcells r) 0 cur w hg (Nat.le_refl _) (by simp [bcells]; omega) (bcells_one r)
      simp only [Nat.add_zero] at hst
      refine ⟨some ⟨g, 0, none⟩, cap, w.setRow g (cur.toList.take l.length ++ bcells r ++ cur.toList.drop (l.length + (bcells r).length)).toArray, ?_, ?_, ⟨rfl, rfl, rfl, by simp, fun k hk => setRow_other w g k _ (by omega)⟩⟩
      · rw [hz1] at hf
        simp [Builtin.append_, run_underlying Tryd.underlying34, sizeOf, typeInfo, hi, hz1, Builtin.lenOf, hroom, hf, Addr.add_lit, hst]
      · have hb := bs_of_row (l := l ++ r) (setRow_heap w g cur (cur.toList.take l.length ++ bcells r ++ cur.toList.drop (l.length + (bcells r).length)).toArray 5 _ hg) (by
          rw [hhd]
          simp only
          rw [List.take_left' (by simp [bcells])]
          simp [bcells])
        rw [List.length_append, hrl] at hb
        exact hb
    · have holds : ∀ j u, (bcells l)[j]? = some u → w.cell? ((⟨g, 0, none⟩ : Addr).add j) = some u := by
        intro j u hj
        have hjl : j < l.length := by
          have := (List.getElem?_eq_some_iff.1 hj).1
          simpa [bcells] using this
        rw [← hhd, List.getElem?_take, if_pos hjl] at hj
        rw [Addr.add_lit, Nat.zero_add, cell_of_row _ _ j _ _ _ hg]
        simpa using hj
      have hgr := run_append_grow (P := Tryd.prog) w 34 ty 5 i0 (.int .u8 0) Tryd.underlying34 hi hz0 ⟨g, 0, none⟩ l.length cap (bcells l) (by rw [hz1]; simp [bcells]) holds a m c (bcells r) hnl hnews (by omega) (by omega) (growslice_fits (by omega) (by rw [hz2]; omega))
      refine ⟨_, _, _, hgr, ?_, ⟨rfl, rfl, rfl, by simp, fun k hk => Below.heap_alloc w.drew _ k (by show k < w.heap.size; omega)⟩⟩
      have hb := bs_of_row (l := l ++ r) (w := w.drew.alloc (.cells ((bcells l).toArray ++ (bcells r).toArray ++ Builtin.zeroCells (Value.int .u8 0).cells (grownCap w (l.length + m) cap 5 - (l.length + m))) 5)) (g := w.heap.size) (MapKept.heap_alloc w.drew _).1 (by
        simp only [Array.toList_append]
        rw [List.take_left' (by simp [bcells])]
        simp [bcells])
      rw [List.length_append, hrl] at hb
      exact hb

/-- as a law for the walk -/
theorem wpList_append_new {w : World} {ops : Array Oper} {rest : List Oper} {o : Oper} {a : Act} {Q : Exit → Act → World → Prop} (hgd : o.guard = none) (s x : Operand)
    (ho : o.op = .call { callee := .builtin .append, args := #[s, x], argTypes := #[34, 34] }) (g cap m c : Nat) (cur : Array Value) (l r : List UInt8) (xa : Option Addr)
    (hs0 : a.eval s = .slice (some ⟨g, 0, none⟩) l.length cap) (hx0 : a.eval x = .slice xa m c)
    (hg : w.heap[g]? = some (.cells cur 5 (cur.size, cur.size + 1))) (hcs : cur.size = cap) (hL : l.length ≤ cap) (hhd : cur.toList.take l.length = bcells l)
    (hr : Bs w xa m r) (hx : xa = none → c = 0) (hs : l.length + m ≤ 1000000)
    (h : ∀ a' cap' w', Bs w' a' (l.length + m) (l ++ r) → Below g w w' → wpList Tryd.prog ops Q rest (a.put o.dst (.slice a' (l.length + m) cap')) w') : wpList Tryd.prog ops Q (o :: rest) a w := by
  refine wpList_plain hgd fun K hK => ?_
  obtain ⟨a', cap', w', hrun, h1, h2⟩ := run_append_new o.type g cap m c cur l r xa hg hcs hL hhd hr hx hs
  unfold Oper.wp execOp
  simp only [ho, resolve, invoke, builtin, Sem.run_bind, Sem.run_pure, Result.andThen_ok, List.map_toArray, List.map_cons, List.map_nil, hs0, hx0, hrun]
  exact hK _ _ (h a' cap' w' h1 h2)
end Go.Proofs.YtdcfhdpbpfgohaaDoor

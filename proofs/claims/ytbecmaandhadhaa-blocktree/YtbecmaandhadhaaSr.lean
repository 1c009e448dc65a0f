/-
  The contracts of slices.Sort at ints and of slices.SortFunc at rows of ints by their first ones, out of the library's. No conditions beyond each theorem's own.
-/
import Derived.Test.YtbecmaandhadhaaShelf
import Derived.Test.YtbecmaandhadhaaBk1
import Derived.Sort.OwnSortedInts
namespace Go.Proofs.Ytbecmaandhadhaa
open Go.RowKit Go.Sort
set_option linter.unusedVariables false
set_option maxRecDepth 20000

theorem sort_any : SortC := by
  intro w base v xs ho hb hne
  have hpos : 0 < xs.length := List.length_pos_iff.2 hne
  rcases ho.2 with ⟨_, h0⟩ | ⟨g, cap, cur, rfl, hbase, hg, h1, h2, h3, h4⟩
  · omega
  · have hl : (toIs xs).length = xs.length := by simp [toIs]
    have hH : Holds (Value.int .i64) w g 0 (toIs xs).toArray := holds_of_blockI hg (by rw [hl]; simpa [zcells] using h4)
    have hcon := Any.slices_Sort_int Try.lays189 g 0 cap (toIs xs) w hH (heap_lt hg) (by omega)
    rw [hl] at hcon
    refine Calls.mono (show Calls Try.prog 25 _ _ _ from hcon) ?_
    rintro e w' ⟨rfl, n, os, rfl⟩
    rw [← toIs_srt]
    have hls : (toIs (srt xs)).length = (toIs xs).length := by rw [hl, toIs_length, (srt_perm xs).length_eq]
    have hs := ownsRow_sortedI (n := n) (os := os) (ss := toIs xs) (ts := toIs (srt xs)) hls hbase hg (by omega) h2 h3
    rw [hl] at hs
    exact ⟨rfl, hs, grownBy_sortedI _⟩

/-- the closure: which of two rows has the less first number -/
theorem closure27 (W : World) (gx nx cx gy ny cy : Nat) (x y : Nat) (hx : W.cell? ⟨gx, 0, none⟩ = some (.int .i64 x)) (hy : W.cell? ⟨gy, 0, none⟩ = some (.int .i64 y)) (hnx : 0 < nx) (hny : 0 < ny) (hbx : x < 1000) (hby : y < 1000) :
    Calls Try.prog 27 #[.slice (some ⟨gx, 0, none⟩) nx cx, .slice (some ⟨gy, 0, none⟩) ny cy] W fun e w' => e = .returned (.int .i64 ((x : Int) - (y : Int))) ∧ ∃ q, w' = W.drewN q := by
  have h1 : (0 : Int) < (nx : Int) := by omega
  have h2 : (0 : Int) < (ny : Int) := by omega
  have h3 : (x : Int) < 1000 := by omega
  have h4 : (y : Int) < 1000 := by omega
  go_enter Try.func27, Try.ntmps27
  go_wp2_with fail
  go_quiet (fail)
  go_wp2_with fail
  go_ret
  exact ⟨rfl, _, rfl⟩

section
variable {α : Type} [Inhabited α]
theorem heap_sortWorld {w : World} {enc : α → Value} {gb m : Nat} {dk : Array α} {os : Array Obj} {k : Nat} (hk : k < w.heap.size) (hne : k ≠ gb) : (sortWorld enc w gb 0 m dk os).heap[k]? = w.heap[k]? := by
  unfold sortWorld
  rw [heap_grow_old _ _ (by simpa using hk)]
  have : gb ≠ k := fun e => hne e.symm
  simp [putRow, mapBlock, Sort.ahead, Array.getElem?_modify, this]
theorem heap_sortWorld_own {w : World} {enc : α → Value} {gb m : Nat} {dk : Array α} {os : Array Obj} {cur : Array Value} {e : TypeId} {fr : Nat × Nat} (hb : w.heap[gb]? = some (.cells cur e fr)) : (sortWorld enc w gb 0 m dk os).heap[gb]? = some (.cells (putCells enc 0 dk cur) e fr) := by
  have hg := heap_lt hb
  unfold sortWorld
  rw [heap_grow_old _ _ (by simpa using hg)]
  simp [putRow, mapBlock, Sort.ahead, Array.getElem?_modify, hb, onCells]
theorem grownBy_sortWorld {w : World} {enc : α → Value} {gb m : Nat} {dk : Array α} {os : Array Obj} : w.grownBy (sortWorld enc w gb 0 m dk os) (some gb) :=
  ⟨rfl, rfl, rfl, by simp [sortWorld], fun k hk hne => heap_sortWorld hk fun e => hne (by rw [e])⟩
theorem take_putCells {enc : α → Value} (cur : Array Value) (d : Array α) (h : d.size ≤ cur.size) : (putCells enc 0 d cur).toList.take d.size = d.toList.map enc := by
  apply List.ext_getElem?
  intro j
  by_cases hj : j < d.size
  · rw [List.getElem?_take_of_lt hj, Array.getElem?_toList]
    simp [putCells, hj, show j < cur.size by omega]
  · rw [List.getElem?_take_eq_none (by omega), List.getElem?_eq_none (by simp; omega)]
end

theorem extract_all {α : Type} (a : Array α) (n : Nat) (h : a.size = n) : a.extract 0 n = a := by
  subst h
  simp

theorem sortFunc_any : SortFuncC := by
  intro w base gb n c R L hn hn1 ho hr
  obtain ⟨n', rfl⟩ : ∃ n', n = n' + 1 := ⟨n - 1, by omega⟩
  rcases ho.2 with ⟨h0, _⟩ | ⟨g, cap, cur, hv, hbase, hg, h1, h2, h3, h4⟩
  · cases h0
  · simp only [Value.slice.injEq, Option.some.injEq, Addr.mk.injEq, and_true, true_and] at hv
    obtain ⟨rfl, rfl⟩ := hv
    let enc : Fin (n' + 1) → Value := fun j => R j.val
    let cf : Fin (n' + 1) → Fin (n' + 1) → Int := fun i j => ((L i.val).getD 0 0 : Int) - ((L j.val).getD 0 0 : Int)
    let d : Array (Fin (n' + 1)) := Array.ofFn id
    have hds : d.size = n' + 1 := by simp [d]
    have hdj : ∀ j, (hj : j < n' + 1) → d[j]! = ⟨j, hj⟩ := by
      intro j hj
      rw [getElem!_pos d j (by rw [hds]; exact hj)]
      simp [d]
    have hone : OneCell enc := by
      intro x
      obtain ⟨g1, c1, e1, _⟩ := hr.row x.val x.isLt
      show (R x.val).oneCell' = true
      rw [e1]
      rfl
    have hlt : ∀ x y, ltOf cf x y = decide ((L x.val).getD 0 0 < (L y.val).getD 0 0) := by
      intro x y
      unfold ltOf
      show decide (((L x.val).getD 0 0 : Int) - ((L y.val).getD 0 0 : Int) < 0) = _
      rw [decide_eq_decide]
      omega
    have hswo : SWO (ltOf cf) := by
      refine ⟨fun x => ?_, fun x y z a b => ?_, fun x y z a b => ?_⟩
      · rw [hlt]; simp
      · rw [hlt] at *; simp only [decide_eq_true_eq] at *; omega
      · rw [hlt] at *; simp only [decide_eq_false_iff_not] at *; omega
    have hH : Holds enc w gb 0 d := by
      intro j hj
      rw [hds] at hj
      rw [hdj j hj, Nat.zero_add]
      refine ⟨?_, by simp [World.frozen?, hg]⟩
      rw [ho.cellAt j (by omega)]
      show _ = some (R j)
      simp [hj]
    have hcmp : CmpLays1 Try.prog 27 #[] enc cf gb 0 d.size w := by
      refine CmpReads.lays ?_
      intro m os dk hs x y
      obtain ⟨g1, c1, e1, n1, l1, ne1, b1, k1⟩ := hr.row x.val x.isLt
      obtain ⟨g2, c2, e2, n2, l2, ne2, b2, k2⟩ := hr.row y.val y.isLt
      have f1 : (sortWorld enc w gb 0 m dk os).cell? ⟨g1, 0, none⟩ = some (.int .i64 ((L x.val).getD 0 0 : Nat)) := by
        rw [World.cell?_of_block (w := w) (heap_sortWorld l1 n1)]; exact k1
      have f2 : (sortWorld enc w gb 0 m dk os).cell? ⟨g2, 0, none⟩ = some (.int .i64 ((L y.val).getD 0 0 : Nat)) := by
        rw [World.cell?_of_block (w := w) (heap_sortWorld l2 n2)]; exact k2
      have := closure27 (sortWorld enc w gb 0 m dk os) g1 (L x.val).length c1 g2 (L y.val).length c2 _ _ f1 f2 (List.length_pos_iff.2 ne1) (List.length_pos_iff.2 ne2) (b1 _ (head_mem ne1)) (b2 _ (head_mem ne2))
      show Calls Try.prog 27 #[R x.val, R y.val] _ _
      rw [e1, e2]
      exact this
    have eg : ∀ args w, (callFunc 27 args).run Try.prog w = .ok (.enter 27 args) w := enters_of Try.func27 (by kernel_rfl) rfl
    have hcon := Any.slices_SortFunc Try.lays26 enc hone cf hswo 27 #[] gb 0 c d w eg hcmp hH (heap_lt hg) (by omega)
    rw [hds] at hcon
    refine Calls.mono (show Calls Try.prog 26 _ _ _ from hcon) ?_
    rintro e w' ⟨rfl, d', m, os, hp, hso, rfl⟩
    obtain ⟨p1, p2, p3⟩ := hp
    have hd's : d'.size = n' + 1 := by rw [p1, hds]
    have hx1 : d'.extract 0 (n' + 1) = d' := extract_all d' _ hd's
    have hx2 : d.extract 0 (n' + 1) = d := extract_all d _ hds
    rw [hx1, hx2] at p3
    have hrange : d.toList.map Fin.val = List.range (n' + 1) := by
      apply List.ext_getElem
      · simp [d]
      · intro i a1 a2
        rw [List.getElem_map, List.getElem_range]
        simp only [d, Array.getElem_toList, Array.getElem_ofFn, id]
    refine ⟨rfl, ⟨d'.toList.map Fin.val, ?_, ?_, ?_⟩, grownBy_sortWorld⟩
    · rw [← hrange]
      exact p3.map _
    · rw [List.pairwise_map, List.pairwise_iff_getElem]
      intro i j hi hj hij
      have h5 := hso i j (by omega) hij (by simpa [hd's] using hj)
      rw [hlt] at h5
      simp only [decide_eq_false_iff_not] at h5
      simp only [Array.length_toList] at hi hj
      rw [getElem!_pos d' i hi, getElem!_pos d' j hj] at h5
      simp only [Array.getElem_toList]
      omega
    · have hmap : (d'.toList.map Fin.val).map R = d'.toList.map enc := by
        rw [List.map_map]
        rfl
      rw [hmap]
      refine ⟨by simp [hd's], .inr ⟨gb, c, _, rfl, hbase, heap_sortWorld_own hg, h1, h2, by simp [putCells, h3], ?_⟩⟩
      have h9 := take_putCells (enc := enc) cur d' (by omega)
      rw [hd's] at h9
      rw [Nat.mul_one]
      exact h9
theorem sortFunc_zero : SortFuncN := by
  intro w a c
  exact show Calls Try.prog 26 _ _ _ from AnyF.slices_SortFunc_none { Try.lays26 with } a c _ w
end Go.Proofs.Ytbecmaandhadhaa


/-
  The contracts of IndexFunc and DeleteFunc at bunches, with their closures. Conditions: the bunches lie in memory as told.
-/
import Derived.Test.YtdkchihomllokaaBu
import Derived.Test.YtdkchihomllokaaEd
import Derived.OwnWalk
import Derived.Lib.SliceRun
namespace Go.Proofs.Ytdkchihomllokaa
open Go.RowKit
set_option linter.unusedVariables false
set_option maxRecDepth 20000

theorem Bs.len {w : World} {a : Option Addr} {l : List Bn} (h : Bs w a l) : l.length ≤ 140737488355328 := h.2.1
def bval (b : Bn) : Value := .agg #[.int .i64 b.head, .int .i64 (b.count : Nat), .int .i64 (b.lo : Nat), .int .i64 (b.hi : Nat)]

set_option maxHeartbeats 1000000 in
/-- the closure: is it the vertex that is looked for? -/
theorem isHead_any (w : World) (h c lo hi x : Int) (xb : Nat) (hx : w.cell? ⟨xb, 0, none⟩ = some (.int .i64 x)) :
    Calls Try.prog 34 #[.agg #[.int .i64 h, .int .i64 c, .int .i64 lo, .int .i64 hi], .pointer (some ⟨xb, 0, none⟩)] w fun e w' => e = .returned (.bool (h == x)) ∧ Below w.heap.size w w' := by
  have hl : xb < w.heap.size := World.block_lt_of_cell? w ⟨xb, 0, none⟩ hx
  have hx2 : (w.alloc (.cells #[.int .i64 h, .int .i64 c, .int .i64 lo, .int .i64 hi] 79)).cell? ⟨xb, 0, none⟩ = some (.int .i64 x) := by rw [cell_old _ _ _ hl]; exact hx
  go_enter Try.func34, Try.ntmps34
  go_wp2_with fail
  go_ret
  exact ⟨rfl, (Below.refl _ _).alloc (Nat.le_refl _) _⟩

set_option maxHeartbeats 2000000 in
/-- the closure: are there fewer of its edges than go to the vertex? -/
theorem isFew_any (w : World) (h : Nat) (c : Nat) (lo hi : Int) (pb fb V ic : Nat) (ia : Option Addr) (L : List Nat) (h0 : w.cell? ⟨pb, 0, none⟩ = some (.pointer (some ⟨fb, 0, none⟩))) (h1 : w.cell? ⟨fb, 2, none⟩ = some (.slice ia V ic)) (hN : Ns w ia V (toIs L)) (hh : h < V) :
    Calls Try.prog 57 #[.agg #[.int .i64 (h : Nat), .int .i64 (c : Nat), .int .i64 lo, .int .i64 hi], .pointer (some ⟨pb, 0, none⟩)] w fun e w' => e = .returned (.bool (decide (c < L.getD h 0))) ∧ Below w.heap.size w w' := by
  obtain ⟨g, off, ha, hg, k0⟩ := hN.2.2 h hh
  rw [toIs_getD] at k0
  subst ha
  generalize L.getD h 0 = q at k0
  have hl : pb < w.heap.size := World.block_lt_of_cell? w ⟨pb, 0, none⟩ h0
  have hl1 : fb < w.heap.size := World.block_lt_of_cell? w ⟨fb, 2, none⟩ h1
  have e0 : (w.alloc (.cells #[.int .i64 h, .int .i64 c, .int .i64 lo, .int .i64 hi] 79)).cell? ⟨pb, 0, none⟩ = some (.pointer (some ⟨fb, 0, none⟩)) := by rw [cell_old _ _ _ hl]; exact h0
  have e1 : (w.alloc (.cells #[.int .i64 h, .int .i64 c, .int .i64 lo, .int .i64 hi] 79)).cell? ⟨fb, 2, none⟩ = some (.slice (some ⟨g, off, none⟩) V ic) := by rw [cell_old _ _ _ hl1]; exact h1
  have e2 : (w.alloc (.cells #[.int .i64 h, .int .i64 c, .int .i64 lo, .int .i64 hi] 79)).cell? ⟨g, off + h, none⟩ = some (.int .i64 (q : Nat)) := by rw [cell_old _ _ _ hg]; exact k0
  have hhV : (h : Int) < (V : Int) := by omega
  have hdec : decide ((c : Int) < (q : Int)) = decide (c < q) := by rw [decide_eq_decide]; omega
  have HD := hide hdec
  clear hN h0 h1 k0 hdec hh
  go_enter Try.func57, Try.ntmps57
  go_wp2_with fail
  go_quiet (fail)
  go_wp2_with fail
  go_ret
  refine ⟨?_, below_draws ((Below.refl _ _).alloc (Nat.le_refl _) _) _⟩
  first | exact ret_b (unhide HD) | rfl

set_option maxHeartbeats 4000000 in
theorem indexHead_any (w : World) (a : Option Addr) (c : Nat) (l : List Bn) (hB : Bs w a l) (x : Int) (qb : Nat) (hx : w.cell? ⟨qb, 0, none⟩ = some (.int .i64 x)) :
    Calls Try.prog 33 #[.slice a l.length c, .func (.func 34) #[] #[.pointer (some ⟨qb, 0, none⟩)]] w fun e w' => e = .returned (.int .i64 (ixp l.length fun j => ((l.getD j b0).head == x))) ∧ Below w.heap.size w w' := by
  have HC := hide hB
  obtain ⟨n, hn⟩ : ∃ n, l.length = n := ⟨_, rfl⟩
  have hn2 : n ≤ 140737488355328 := by have := hB.len; omega
  have HN := hide hn
  have HX := hide hx
  rw [hn]
  clear hB hn hx
  go_enter Try.func33, Try.ntmps33
  go_wp2
  go_loopw [8] (fun i wr => ∃ k : Nat, i = .int .i64 k ∧ k ≤ n ∧ Hid (Below w.heap.size w wr) ∧ Hid (∀ j, j < k → ((l.getD j b0).head == x) = false)) (fun i wr => n - (intOf i).toNat)
  case atStart => exact ⟨0, rfl, by omega, Below.refl _ _, fun j hj => by omega⟩
  case round =>
    obtain ⟨k, rfl, hk, HB, HA⟩ := hrel
    by_cases hlt : k < n
    · obtain ⟨g, off, ha, hg, c0, c1, c2, c3⟩ := (unhide HC).at (show k < l.length by rw [unhide HN]; exact hlt)
      subst ha
      have HM := hide (show l.getD k b0 ∈ l from by rw [List.getD_eq_getElem?_getD, List.getElem?_eq_getElem (show k < l.length by rw [unhide HN]; exact hlt)]; exact List.getElem_mem _)
      obtain ⟨bb, hbb⟩ : ∃ bb, l.getD k b0 = bb := ⟨_, rfl⟩
      rw [hbb] at c0 c1 c2 c3 HM
      have HBB := hide hbb
      have HBM := hide (show bb ∈ l from HM)
      clear hbb
      obtain ⟨bh, bc, bl, bi⟩ := bb
      simp only at c0 c1 c2 c3
      have e0 : wr.cell? ⟨g, off + k * 4, none⟩ = some (.int .i64 bh) := by rw [(unhide HB).cell (p := ⟨g, off + k * 4, none⟩) hg]; exact c0
      have e1 : wr.cell? ⟨g, off + k * 4 + 1, none⟩ = some (.int .i64 (bc : Nat)) := by rw [(unhide HB).cell (p := ⟨g, off + k * 4 + 1, none⟩) hg]; exact c1
      have e2 : wr.cell? ⟨g, off + k * 4 + 2, none⟩ = some (.int .i64 (bl : Nat)) := by rw [(unhide HB).cell (p := ⟨g, off + k * 4 + 2, none⟩) hg]; exact c2
      have e3 : wr.cell? ⟨g, off + k * 4 + 3, none⟩ = some (.int .i64 (bi : Nat)) := by rw [(unhide HB).cell (p := ⟨g, off + k * 4 + 3, none⟩) hg]; exact c3
      have hz : g < wr.heap.size := by have := (unhide HB).size; omega
      have C := hide (isHead_any wr bh (bc : Nat) (bl : Nat) (bi : Nat) x qb (by rw [(unhide HB).cell (p := ⟨qb, 0, none⟩) (World.block_lt_of_cell? w ⟨qb, 0, none⟩ (unhide HX))]; exact unhide HX))
      clear c0 c1 c2 c3 HM
      have hlt2 : (k : Int) < (n : Int) := by omega
      obtain ⟨r, hr⟩ : ∃ r, ((⟨bh, bc, bl, bi⟩ : Bn).head == x) = r := ⟨_, rfl⟩
      have HR := hide hr
      replace C := hide (show Calls Try.prog 34 #[.agg #[.int .i64 bh, .int .i64 (bc : Nat), .int .i64 (bl : Nat), .int .i64 (bi : Nat)], .pointer (some ⟨qb, 0, none⟩)] wr fun e w' => e = .returned (.bool r) ∧ Below wr.heap.size wr w' from (unhide C).mono fun e w' h => ⟨h.1.trans (ret_b (show _ = r from hr)), h.2⟩)
      clear hr
      cases r with
      | true =>
        go_wp2_with fail
        refine (unhide C).mono ?_
        rintro e w' ⟨rfl, hb1⟩
        have HB1 := hide hb1
        clear hb1
        go_wp2_with fail
        go_ret
        exact ⟨ret_i (ixp_hit k hlt (by rw [unhide HBB]; exact unhide HR) (unhide HA)).symm, (unhide HB).trans ((unhide HB1).mono (unhide HB).size)⟩
      | false =>
        go_wp2_with fail
        refine (unhide C).mono ?_
        rintro e w' ⟨rfl, hb1⟩
        have HB1 := hide hb1
        clear hb1
        go_wp2_with fail
        go_roundw
        case rel =>
          refine ⟨k + 1, by go_num, by omega, (unhide HB).trans ((unhide HB1).mono (unhide HB).size), fun j hj => ?_⟩
          by_cases hjk : j < k
          · exact unhide HA j hjk
          · obtain rfl : j = k := by omega
            rw [unhide HBB]
            exact unhide HR
        case measure => simp [intOf]; omega
    · go_wp2_with fail
      go_ret
      exact ⟨ret_i (ixp_miss (fun j hj => unhide HA j (by omega))).symm, unhide HB⟩

/-- fewer edges than go to the vertex -/
def few (L : List Nat) (b : Bn) : Bool := decide (b.count < L.getD b.head.toNat 0)

set_option maxHeartbeats 4000000 in
theorem indexFew_any (w : World) (a : Option Addr) (c : Nat) (l : List Bn) (hB : Bs w a l) (qb fb V ic : Nat) (ia : Option Addr) (L : List Nat) (h0 : w.cell? ⟨qb, 0, none⟩ = some (.pointer (some ⟨fb, 0, none⟩))) (h1 : w.cell? ⟨fb, 2, none⟩ = some (.slice ia V ic)) (hN : Ns w ia V (toIs L)) (hh : ∀ b ∈ l, 0 ≤ b.head ∧ b.head < V) :
    Calls Try.prog 33 #[.slice a l.length c, .func (.func 57) #[] #[.pointer (some ⟨qb, 0, none⟩)]] w fun e w' => e = .returned (.int .i64 (ixp l.length fun j => few L (l.getD j b0))) ∧ Below w.heap.size w w' := by
  have HC := hide hB
  obtain ⟨n, hn⟩ : ∃ n, l.length = n := ⟨_, rfl⟩
  have hn2 : n ≤ 140737488355328 := by have := hB.len; omega
  have HN := hide hn
  have H0 := hide h0
  have H1 := hide h1
  have HNS := hide hN
  have HH := hide hh
  rw [hn]
  clear hB hn h0 h1 hN hh
  go_enter Try.func33, Try.ntmps33
  go_wp2
  go_loopw [8] (fun i wr => ∃ k : Nat, i = .int .i64 k ∧ k ≤ n ∧ Hid (Below w.heap.size w wr) ∧ Hid (∀ j, j < k → few L (l.getD j b0) = false)) (fun i wr => n - (intOf i).toNat)
  case atStart => exact ⟨0, rfl, by omega, Below.refl _ _, fun j hj => by omega⟩
  case round =>
    obtain ⟨k, rfl, hk, HB, HA⟩ := hrel
    by_cases hlt : k < n
    · obtain ⟨g, off, ha, hg, c0, c1, c2, c3⟩ := (unhide HC).at (show k < l.length by rw [unhide HN]; exact hlt)
      subst ha
      have HM := hide (show l.getD k b0 ∈ l from by rw [List.getD_eq_getElem?_getD, List.getElem?_eq_getElem (show k < l.length by rw [unhide HN]; exact hlt)]; exact List.getElem_mem _)
      obtain ⟨bb, hbb⟩ : ∃ bb, l.getD k b0 = bb := ⟨_, rfl⟩
      rw [hbb] at c0 c1 c2 c3 HM
      have HBB := hide hbb
      have HBM := hide (show bb ∈ l from HM)
      clear hbb
      obtain ⟨bh, bc, bl, bi⟩ := bb
      simp only at c0 c1 c2 c3
      have hbr := unhide HH _ (unhide HBM)
      simp only at hbr
      obtain ⟨bn, rfl⟩ : ∃ bn : Nat, bh = bn := ⟨bh.toNat, by omega⟩
      have hbV : bn < V := by omega
      have e0 : wr.cell? ⟨g, off + k * 4, none⟩ = some (.int .i64 (bn : Nat)) := by rw [(unhide HB).cell (p := ⟨g, off + k * 4, none⟩) hg]; exact c0
      have e1 : wr.cell? ⟨g, off + k * 4 + 1, none⟩ = some (.int .i64 (bc : Nat)) := by rw [(unhide HB).cell (p := ⟨g, off + k * 4 + 1, none⟩) hg]; exact c1
      have e2 : wr.cell? ⟨g, off + k * 4 + 2, none⟩ = some (.int .i64 (bl : Nat)) := by rw [(unhide HB).cell (p := ⟨g, off + k * 4 + 2, none⟩) hg]; exact c2
      have e3 : wr.cell? ⟨g, off + k * 4 + 3, none⟩ = some (.int .i64 (bi : Nat)) := by rw [(unhide HB).cell (p := ⟨g, off + k * 4 + 3, none⟩) hg]; exact c3
      have hz : g < wr.heap.size := by have := (unhide HB).size; omega
      have C := hide ((isFew_any wr bn bc (bl : Nat) (bi : Nat) qb fb V ic ia L (by rw [(unhide HB).cell (p := ⟨qb, 0, none⟩) (World.block_lt_of_cell? w ⟨qb, 0, none⟩ (unhide H0))]; exact unhide H0) (by rw [(unhide HB).cell (p := ⟨fb, 2, none⟩) (World.block_lt_of_cell? w ⟨fb, 2, none⟩ (unhide H1))]; exact unhide H1) ((unhide HNS).below (unhide HB)) hbV))
      clear c0 c1 c2 c3 HM
      have hlt2 : (k : Int) < (n : Int) := by omega
      obtain ⟨r, hr⟩ : ∃ r, few L (⟨(bn : Int), bc, bl, bi⟩ : Bn) = r := ⟨_, rfl⟩
      have HR := hide hr
      replace C := hide (show Calls Try.prog 57 #[.agg #[.int .i64 (bn : Nat), .int .i64 (bc : Nat), .int .i64 (bl : Nat), .int .i64 (bi : Nat)], .pointer (some ⟨qb, 0, none⟩)] wr fun e w' => e = .returned (.bool r) ∧ Below wr.heap.size wr w' from (unhide C).mono fun e w' h => ⟨h.1.trans (ret_b (show _ = r from hr)), h.2⟩)
      clear hr
      cases r with
      | true =>
        go_wp2_with fail
        refine (unhide C).mono ?_
        rintro e w' ⟨rfl, hb1⟩
        have HB1 := hide hb1
        clear hb1
        go_wp2_with fail
        go_ret
        exact ⟨ret_i (ixp_hit k hlt (by rw [unhide HBB]; exact unhide HR) (unhide HA)).symm, (unhide HB).trans ((unhide HB1).mono (unhide HB).size)⟩
      | false =>
        go_wp2_with fail
        refine (unhide C).mono ?_
        rintro e w' ⟨rfl, hb1⟩
        have HB1 := hide hb1
        clear hb1
        go_wp2_with fail
        go_roundw
        case rel =>
          refine ⟨k + 1, by go_num, by omega, (unhide HB).trans ((unhide HB1).mono (unhide HB).size), fun j hj => ?_⟩
          by_cases hjk : j < k
          · exact unhide HA j hjk
          · obtain rfl : j = k := by omega
            rw [unhide HBB]
            exact unhide HR
        case measure => simp [intOf]; omega
    · go_wp2_with fail
      go_ret
      exact ⟨ret_i (ixp_miss (fun j hj => unhide HA j (by omega))).symm, unhide HB⟩
end Go.Proofs.Ytdkchihomllokaa

namespace Go.Proofs.Ytdkchihomllokaa
open Go.RowKit
set_option linter.unusedVariables false
set_option maxRecDepth 20000

theorem zero4 : ∀ w, (zeroValue 79).run Try.prog w = .ok (.agg #[.int .i64 0, .int .i64 0, .int .i64 0, .int .i64 0]) w := fun w => by
  obtain ⟨i0, hi0, hz0, hz1, hz2⟩ := info_parts info79
  simp [zeroValue, typeInfo, hi0, hz0]
/-- 'clear(s)', s a slice of n > 0 elements of four cells each -/
theorem run_clear4 (w : World) (ty : TypeId) (b o n c : Nat) (hn : 0 < n)
    (hc : ∀ j, j < n * 4 → (w.cell? ⟨b, o + j, none⟩).isSome = true) (hf : ∀ j, j < n * 4 → w.frozen? ⟨b, o + j, none⟩ = false) :
    (Builtin.clear_ #[75] ty #[.slice (some ⟨b, o, none⟩) n c]).run Try.prog w = .ok (.tuple #[]) (w.setCells b o (List.replicate (n * 4) (.int .i64 0))) := by
  have hzc : (Builtin.zeroCells (Value.agg #[.int .i64 0, .int .i64 0, .int .i64 0, .int .i64 0]).cells n).toList = List.replicate (n * 4) (.int .i64 0) := by
    have e1 : (Value.agg #[.int .i64 0, .int .i64 0, .int .i64 0, .int .i64 0]).cells = #[.int .i64 0, .int .i64 0, .int .i64 0, .int .i64 0] := by simp [Value.cells]
    rw [e1]
    apply List.ext_getElem
    · simp [Builtin.zeroCells]
    · intro i h1 h2
      simp only [Builtin.zeroCells, Array.toList_map, List.getElem_map, Array.toList_range, List.getElem_range, List.getElem_replicate]
      have : i % 4 = 0 ∨ i % 4 = 1 ∨ i % 4 = 2 ∨ i % 4 = 3 := by omega
      show (#[Value.int .i64 0, .int .i64 0, .int .i64 0, .int .i64 0] : Array Value)[i % 4]! = _
      rcases this with h | h | h | h <;> rw [h] <;> rfl
  have hst := run_storeCells_cells (P := Try.prog) b o (List.replicate (n * 4) (.int .i64 0)) 0 w (by simpa using hc) (by simpa using hf) (by intro v hv'; rw [List.eq_of_mem_replicate hv']; rfl)
  simp only [Nat.add_zero] at hst
  obtain ⟨m, rfl⟩ : ∃ m, n = m + 1 := ⟨n - 1, by omega⟩
  simp [Builtin.clear_, run_underlying Try.underlying75, hzc, hst]

theorem bcells_put (M : List Bn) (i : Nat) (b : Bn) (hi : i < M.length) : ((((bcells M).set (i * 4) (.int .i64 b.head)).set (i * 4 + 1) (.int .i64 (b.count : Nat))).set (i * 4 + 2) (.int .i64 (b.lo : Nat))).set (i * 4 + 3) (.int .i64 (b.hi : Nat)) = bcells (M.set i b) := by
  induction M generalizing i with
  | nil => simp at hi
  | cons x M ih =>
    cases i with
    | zero => simp [bcells]
    | succ i =>
      rw [bcells_cons, show (i + 1) * 4 = i * 4 + 1 + 1 + 1 + 1 by omega]
      simp only [List.set_cons_succ, bcells_cons]
      have := ih i (by simpa using hi)
      rw [← this]
theorem Ns.of_below {w w' : World} {a : Option Addr} {n : Nat} {xs : List Int} {B : Nat} (h : Ns w a n xs) (hb : Below B w w') (hB : ∀ g off, a = some ⟨g, off, none⟩ → g < B) : Ns w' a n xs := by
  obtain ⟨h1, h2, h3⟩ := h
  refine ⟨h1, h2, fun k hk => ?_⟩
  obtain ⟨g, off, ha, hg, c0⟩ := h3 k hk
  exact ⟨g, off, ha, Nat.lt_of_lt_of_le hg hb.size, by rw [hb.cell (p := ⟨g, off + k, none⟩) (hB g off ha)]; exact c0⟩
theorem bcells_take (l : List Bn) (m : Nat) : (bcells l).take (m * 4) = bcells (l.take m) := by
  induction l generalizing m with
  | nil => simp [bcells]
  | cons t l ih =>
    cases m with
    | zero => simp [bcells]
    | succ m =>
      rw [bcells_cons, show (m + 1) * 4 = m * 4 + 1 + 1 + 1 + 1 by omega]
      simp only [List.take_succ_cons, ih, bcells_cons]
theorem size_cells (b : Nat) : ∀ (vs : List Value) (o : Nat) (w : World), (w.setCells b o vs).heap.size = w.heap.size
  | [], _, _ => rfl
  | v :: vs, o, w => by rw [World.setCells, size_cells b vs]; simp [World.setCell]
theorem below_cells {B b : Nat} {a w : World} (h : Below B a w) (hb : B ≤ b) : ∀ (o : Nat) (vs : List Value), Below B a (w.setCells b o vs)
  | _, [] => h
  | o, v :: vs => by rw [World.setCells]; exact below_cells (h.setCell (p := ⟨b, o, none⟩) hb v) hb _ vs
/-- what is kept, and what is still to be looked at -/
structure Dl (p : Bn → Bool) (l M : List Bn) (i j : Nat) : Prop where
  len : M.length = l.length
  lt : i < j
  pre : M.take i = (l.take j).filter p
  far : ∀ t, j ≤ t → M.getD t b0 = l.getD t b0
theorem Dl.ilen {p : Bn → Bool} {l M : List Bn} {i j : Nat} (h : Dl p l M i j) (hj : j ≤ l.length) : i = ((l.take j).filter p).length := by
  have := congrArg List.length h.pre
  rw [List.length_take, h.len] at this
  have := h.lt
  omega
theorem take_one (l : List Bn) {j : Nat} (hj : j < l.length) : l.take (j + 1) = l.take j ++ [l.getD j b0] := by
  rw [List.take_add_one, List.getElem?_eq_getElem hj, List.getD_eq_getElem?_getD, List.getElem?_eq_getElem hj]
  rfl
theorem Dl.skip {p : Bn → Bool} {l M : List Bn} {i j : Nat} (h : Dl p l M i j) (hj : j < l.length) (hp : p (l.getD j b0) = false) : Dl p l M i (j + 1) :=
  ⟨h.len, by have := h.lt; omega, by rw [take_one l hj, List.filter_append, h.pre, show [l.getD j b0].filter p = [] by simp only [List.filter_cons, hp]; rfl, List.append_nil], fun t ht => h.far t (by omega)⟩
theorem Dl.keep {p : Bn → Bool} {l M : List Bn} {i j : Nat} (h : Dl p l M i j) (hj : j < l.length) (hp : p (l.getD j b0) = true) : Dl p l (M.set i (l.getD j b0)) (i + 1) (j + 1) := by
  have hlt := h.lt
  refine ⟨by rw [List.length_set]; exact h.len, by omega, ?_, fun t ht => ?_⟩
  · rw [take_one l hj, List.filter_append, ← h.pre, List.take_add_one, List.getElem?_set_self (by rw [h.len]; omega), List.take_set_of_le (Nat.le_refl i), show [l.getD j b0].filter p = [l.getD j b0] by simp only [List.filter_cons, hp]; rfl]
    rfl
  · rw [List.getD_eq_getElem?_getD, List.getElem?_set_ne (by omega), ← List.getD_eq_getElem?_getD]
    exact h.far t (by omega)
theorem Dl.start {p : Bn → Bool} {l : List Bn} {m : Nat} (hm : m < l.length) (hp : p (l.getD m b0) = false) (hb : ∀ j, j < m → p (l.getD j b0) = true) : Dl p l l m (m + 1) := by
  refine ⟨rfl, by omega, ?_, fun t _ => rfl⟩
  rw [take_one l hm, List.filter_append]
  have : (l.take m).filter p = l.take m := by
    rw [List.filter_eq_self]
    intro b hb'
    obtain ⟨j, hj, rfl⟩ := List.mem_iff_getElem.1 hb'
    rw [List.length_take] at hj
    have := hb j (by omega)
    rw [List.getD_eq_getElem?_getD, List.getElem?_eq_getElem (by omega)] at this
    rw [List.getElem_take]
    simpa using this
  rw [this, show [l.getD m b0].filter p = [] by simp only [List.filter_cons, hp]; rfl, List.append_nil]

set_option maxHeartbeats 8000000 in
theorem delFew_any (w : World) (base : Nat) (l : List Bn) (v : Value) (ho : w.ownsRow base 79 4 v l.length (bcells l)) (hln : l.length ≤ 1000) (qb fb V ic : Nat) (ia : Option Addr) (L : List Nat) (h0 : w.cell? ⟨qb, 0, none⟩ = some (.pointer (some ⟨fb, 0, none⟩))) (h1 : w.cell? ⟨fb, 2, none⟩ = some (.slice ia V ic)) (hN : Ns w ia V (toIs L)) (hh : ∀ b ∈ l, 0 ≤ b.head ∧ b.head < V)
    (hqB : qb < base) (hfB : fb < base) (hi : ∀ g off, ia = some ⟨g, off, none⟩ → g < base) (hbw : base ≤ w.heap.size) :
    Calls Try.prog 56 #[v, .func (.func 57) #[] #[.pointer (some ⟨qb, 0, none⟩)]] w fun e w' => (∃ a c, e = .returned (.slice a (l.filter fun b => !few L b).length c) ∧ Bs w' a (l.filter fun b => !few L b) ∧ ∀ g off, a = some ⟨g, off, none⟩ → base ≤ g) ∧ Below base w w' := by
  obtain ⟨va, vc, rfl⟩ := own_shape ho
  have hBl : Bs w va l ∧ ∀ g off, va = some ⟨g, off, none⟩ → base ≤ g := by
    obtain ⟨a, cap, hv, _, _, hC, hlo⟩ := cr_of_owns ho (by omega)
    cases hv
    exact ⟨hC, fun g off he => (hlo g off he).1⟩
  have hBs := hBl.1
  have HLO := hide hBl.2
  clear hBl
  obtain ⟨n, hn⟩ : ∃ n, l.length = n := ⟨_, rfl⟩
  have CI := hide (indexFew_any w va vc l hBs qb fb V ic ia L h0 h1 hN hh)
  rcases ixp_cases l.length (fun j => few L (l.getD j b0)) with ⟨hx, hall⟩ | ⟨m, hx, hml, hpm, hbm⟩
  · have HA := hide hall
    have HB := hide hBs
    rw [hx] at CI
    have hfil : (l.filter fun b => !few L b) = l := by
      rw [List.filter_eq_self]
      intro b hb
      obtain ⟨j, hj, rfl⟩ := List.mem_iff_getElem.1 hb
      have := hall j hj
      rw [List.getD_eq_getElem?_getD, List.getElem?_eq_getElem hj] at this
      simpa using this
    rw [hfil]
    have HN := hide hn
    rw [hn] at CI ⊢
    clear hx hall h0 h1 hN hh hBs ho hfil hn
    go_enter Try.func56, Try.ntmps56
    go_wp2_with fail
    refine (unhide CI).mono ?_
    rintro e w1 ⟨rfl, hb1⟩
    have HB1 := hide hb1
    clear hb1 CI
    go_wp2_with fail
    go_ret
    exact ⟨⟨_, _, rfl, (unhide HB).below (unhide HB1), unhide HLO⟩, (unhide HB1).mono hbw⟩
  · rw [hx] at CI
    obtain ⟨g, c, hvv⟩ := own_form ho (by omega)
    cases hvv
    have HD := hide (Dl.start (p := fun b => !few L b) hml (by show (!few L (l.getD m b0)) = false; rw [hpm]; rfl) (fun j hj => by show (!few L (l.getD j b0)) = true; rw [hbm j hj]; rfl))
    have HO := hide ho
    have HN := hide hn
    have H0 := hide h0
    have H1 := hide h1
    have HNS := hide hN
    have HH := hide hh
    have hcc : n ≤ vc := by
      rcases ho.2 with ⟨hv, _⟩ | ⟨g', c', cur, hv, _, h2, h3, h4, h5, h6⟩
      · cases hv
      · cases hv; omega
    rw [hn] at CI hml hln ⊢
    have HML := hide hml
    have hgb := (ho.lt g rfl).1
    have hgw := (ho.lt g rfl).2
    clear hx hpm hbm h0 h1 hN hh hBs ho hn hml
    have hw1 : IntKind.i64.wrap ((m : Int) + 1) = (m : Int) + 1 := by have := unhide HML; rw [IntKind.wrap_i64]; omega
    have hm1 : ((m : Int) == -1) = false := by rw [beq_eq_false_iff_ne]; omega
    go_enter Try.func56, Try.ntmps56
    go_wp2_with fail
    refine (unhide CI).mono ?_
    rintro e w1 ⟨rfl, hb1⟩
    have HB1 := hide hb1
    clear hb1 CI
    go_wp2_with fail
    go_loopw [5, 6] (fun i j wr => ∃ (p q : Nat) (M : List Bn), i = .int .i64 p ∧ j = .int .i64 q ∧ q ≤ n ∧ Hid (Dl (fun b => !few L b) l M p q) ∧ Hid (wr.ownsRow base 79 4 (.slice (some ⟨g, 0, none⟩) n vc) n (bcells M)) ∧ Hid (Below base w wr)) (fun i j wr => n - (intOf j).toNat)
    case atStart => exact ⟨m, m + 1, l, rfl, by go_num, by have := unhide HML; omega, HD, by have := owns_keep (unhide HO) (fun b hb => (unhide HB1).block b ((unhide HO).lt b hb).2); rw [unhide HN] at this; exact this, (unhide HB1).mono hbw⟩
    case round =>
      obtain ⟨p, q, M, rfl, rfl, hq, HDL, HOW, HBL⟩ := hrel
      have hbs := (unhide HBL).size
      by_cases hlt : q < n
      · have hqz : (q : Int) < (n : Int) := by omega
        have hdl := unhide HDL
        have hpq := hdl.lt
        have hml2 : M.length = n := by rw [hdl.len]; exact unhide HN
        have hfq := hdl.far q (Nat.le_refl _)
        obtain ⟨c0, c1, c2, c3⟩ := bcells_at M q (by omega)
        rw [hfq] at c0 c1 c2 c3
        have HBM := hide (show l.getD q b0 ∈ l by rw [List.getD_eq_getElem?_getD, List.getElem?_eq_getElem (show q < l.length by rw [unhide HN]; exact hlt)]; exact List.getElem_mem _)
        have hbr := unhide HH _ (unhide HBM)
        obtain ⟨bb, hbb⟩ : ∃ bb, l.getD q b0 = bb := ⟨_, rfl⟩
        rw [hbb] at c0 c1 c2 c3 hbr
        have HBB := hide hbb
        obtain ⟨bh, bc, bl, bi⟩ := bb
        simp only at c0 c1 c2 c3 hbr
        obtain ⟨bn, rfl⟩ : ∃ bn : Nat, bh = bn := ⟨bh.toNat, by omega⟩
        have hbV : bn < V := by omega
        have e0 : wr.cell? ⟨g, q * 4, none⟩ = some (.int .i64 (bn : Nat)) := by rw [(unhide HOW).cellAt (q * 4) (by omega)]; exact c0
        have e1 : wr.cell? ⟨g, q * 4 + 1, none⟩ = some (.int .i64 (bc : Nat)) := by rw [(unhide HOW).cellAt (q * 4 + 1) (by omega)]; exact c1
        have e2 : wr.cell? ⟨g, q * 4 + 2, none⟩ = some (.int .i64 (bl : Nat)) := by rw [(unhide HOW).cellAt (q * 4 + 2) (by omega)]; exact c2
        have e3 : wr.cell? ⟨g, q * 4 + 3, none⟩ = some (.int .i64 (bi : Nat)) := by rw [(unhide HOW).cellAt (q * 4 + 3) (by omega)]; exact c3
        have HPQ := hide hpq
        have HML2 := hide hml2
        have hwq : IntKind.i64.wrap ((q : Int) + 1) = (q : Int) + 1 := by rw [IntKind.wrap_i64]; omega
        clear c0 c1 c2 c3 hfq hbr hbb hdl hml2 hpq
        go_wp2_with fail
        obtain ⟨W, hW⟩ : ∃ W, wr.alloc (.cells #[.int .i64 (bn : Nat), .int .i64 (bc : Nat), .int .i64 (bl : Nat), .int .i64 (bi : Nat)] 79) = W := ⟨_, rfl⟩
        rw [hW]
        have HOW1 := hide (show W.ownsRow base 79 4 (.slice (some ⟨g, 0, none⟩) n vc) n (bcells M) by subst hW; exact (unhide HOW).alloc _)
        have HBW := hide (show Below base w W by subst hW; exact (unhide HBL).alloc (by omega) _)
        have hbx : W.heap[wr.heap.size]? = some (.cells #[.int .i64 (bn : Nat), .int .i64 (bc : Nat), .int .i64 (bl : Nat), .int .i64 (bi : Nat)] 79 (0, 0)) := by subst hW; exact (MapKept.heap_alloc wr _).1
        have HBX := hide hbx
        have C := hide (isFew_any W bn bc (bl : Nat) (bi : Nat) qb fb V ic ia L (by rw [(unhide HBW).cell (p := ⟨qb, 0, none⟩) hqB]; exact unhide H0) (by rw [(unhide HBW).cell (p := ⟨fb, 2, none⟩) hfB]; exact unhide H1) ((unhide HNS).of_below (unhide HBW) hi) hbV)
        clear hW hbx e0 e1 e2 e3
        obtain ⟨r, hr⟩ : ∃ r, decide (bc < L.getD bn 0) = r := ⟨_, rfl⟩
        rw [hr] at C
        have HR := hide (show few L (l.getD q b0) = r by rw [unhide HBB]; exact hr)
        clear hr
        refine (unhide C).mono ?_
        rintro e w2 ⟨rfl, hb2⟩
        have HB2 := hide ((unhide HBW).trans (hb2.mono (unhide HBW |>.size |> fun h => by omega)))
        have HOW2 := hide (owns_keep (unhide HOW1) (fun b hb => hb2.block b ((unhide HOW1).lt b hb).2))
        have hbx2 : w2.heap[wr.heap.size]? = some (.cells #[.int .i64 (bn : Nat), .int .i64 (bc : Nat), .int .i64 (bl : Nat), .int .i64 (bi : Nat)] 79 (0, 0)) := by rw [hb2.block _ ((Array.getElem?_eq_some_iff.1 (unhide HBX)).1)]; exact unhide HBX
        clear C hb2
        cases r with
        | true =>
          clear hbx2
          go_wp2_with fail
          go_roundw
          case rel => exact ⟨p, q + 1, M, rfl, by go_num, by omega, (unhide HDL).skip (by rw [unhide HN]; exact hlt) (by show (!few L (l.getD q b0)) = false; rw [unhide HR]; rfl), HOW2, HB2⟩
          case measure => simp [intOf]; omega
        | false =>
          have k0 : w2.cell? ⟨wr.heap.size, 0, none⟩ = some (.int .i64 (bn : Nat)) := by simp [World.cell?, hbx2]
          have k1 : w2.cell? ⟨wr.heap.size, 1, none⟩ = some (.int .i64 (bc : Nat)) := by simp [World.cell?, hbx2]
          have k2 : w2.cell? ⟨wr.heap.size, 2, none⟩ = some (.int .i64 (bl : Nat)) := by simp [World.cell?, hbx2]
          have k3 : w2.cell? ⟨wr.heap.size, 3, none⟩ = some (.int .i64 (bi : Nat)) := by simp [World.cell?, hbx2]
          have hpl : p < M.length := by have := unhide HML2; have := unhide HPQ; omega
          obtain ⟨c0, c1, c2, c3⟩ := bcells_at M p hpl
          have hp4 : p * 4 + 3 < n * 4 := by have := unhide HML2; omega
          have e0 : w2.cell? ⟨g, p * 4, none⟩ = some (.int .i64 (M.getD p b0).head) := by rw [(unhide HOW2).cellAt (p * 4) (by omega)]; exact c0
          have e1 : w2.cell? ⟨g, p * 4 + 1, none⟩ = some (.int .i64 ((M.getD p b0).count : Nat)) := by rw [(unhide HOW2).cellAt (p * 4 + 1) (by omega)]; exact c1
          have e2 : w2.cell? ⟨g, p * 4 + 2, none⟩ = some (.int .i64 ((M.getD p b0).lo : Nat)) := by rw [(unhide HOW2).cellAt (p * 4 + 2) (by omega)]; exact c2
          have e3 : w2.cell? ⟨g, p * 4 + 3, none⟩ = some (.int .i64 ((M.getD p b0).hi : Nat)) := by rw [(unhide HOW2).cellAt (p * 4 + 3) (by omega)]; exact c3
          have f0 : w2.frozen? ⟨g, p * 4, none⟩ = false := (unhide HOW2).frozenAt _
          have f1 : w2.frozen? ⟨g, p * 4 + 1, none⟩ = false := (unhide HOW2).frozenAt _
          have f2 : w2.frozen? ⟨g, p * 4 + 2, none⟩ = false := (unhide HOW2).frozenAt _
          have f3 : w2.frozen? ⟨g, p * 4 + 3, none⟩ = false := (unhide HOW2).frozenAt _
          generalize M.getD p b0 = mb at e0 e1 e2 e3
          have hpn : (p : Int) < (n : Int) := by have := unhide HPQ; omega
          have hwp : IntKind.i64.wrap ((p : Int) + 1) = (p : Int) + 1 := by have := unhide HPQ; rw [IntKind.wrap_i64]; omega
          clear c0 c1 c2 c3 hbx2
          go_wp2_with fail
          go_roundw
          case rel =>
            refine ⟨p + 1, q + 1, M.set p ⟨bn, bc, bl, bi⟩, by go_num, by go_num, by omega, ?_, ?_, ?_⟩
            · have := (unhide HDL).keep (by rw [unhide HN]; exact hlt) (by show (!few L (l.getD q b0)) = true; rw [unhide HR]; rfl)
              rw [unhide HBB] at this
              exact this
            · have o0 := ((unhide HOW2).stored (p * 4) (.int .i64 (bn : Nat))).1
              have o1 := (o0.stored (p * 4 + 1) (.int .i64 (bc : Nat))).1
              have o2 := (o1.stored (p * 4 + 2) (.int .i64 (bl : Nat))).1
              have o3 := (o2.stored (p * 4 + 3) (.int .i64 (bi : Nat))).1
              rw [bcells_put M p ⟨bn, bc, bl, bi⟩ hpl] at o3
              exact o3
            · exact ((((unhide HB2).setCell (p := ⟨g, _, none⟩) hgb _).setCell (p := ⟨g, _, none⟩) hgb _).setCell (p := ⟨g, _, none⟩) hgb _).setCell (p := ⟨g, _, none⟩) hgb _
          case measure => simp [intOf]; omega
      · obtain rfl : q = n := by omega
        have hdl := unhide HDL
        have hpq := hdl.lt
        have hml2 : M.length = q := by rw [hdl.len]; exact unhide HN
        have hil := hdl.ilen (by rw [unhide HN]; exact Nat.le_refl _)
        have hpre := hdl.pre
        have htk : l.take q = l := by rw [← unhide HN]; exact List.take_length
        rw [htk] at hil hpre
        have hqq : decide ((q : Int) < (q : Int)) = false := by simp
        have hcl : ∀ ty, (Builtin.clear_ #[75] ty #[.slice (some ⟨g, p * 4, none⟩) (q - p) (vc - p)]).run Try.prog wr = .ok (.tuple #[]) (wr.setCells g (p * 4) (List.replicate ((q - p) * 4) (.int .i64 0))) :=
          fun ty => run_clear4 wr ty g (p * 4) (q - p) (vc - p) (by omega)
            (fun j hj => by rw [(unhide HOW).cellAt (p * 4 + j) (by omega), List.getElem?_eq_getElem (by rw [bcells_length, hml2]; omega)]; rfl)
            (fun j hj => (unhide HOW).frozenAt _)
        have HCL := hide hcl
        have HIL := hide hil
        have HPRE := hide hpre
        have HML2 := hide hml2
        have hpc : ¬ vc = p := by omega
        have hpn : (p : Int) < (q : Int) := by omega
        have hpn2 : (p : Int) ≤ (q : Int) := by omega
        have hcl0 := hcl 0
        clear hil hpre htk hml2 hdl hcl
        go_wp2_with fail
        go_ret
        have hrow : (l.filter fun b => !few L b).length = p := (unhide HIL).symm
        refine ⟨⟨some ⟨g, 0, none⟩, vc, by rw [hrow]; rfl, ?_, fun g' off he => (by cases he; exact hgb)⟩, below_cells (unhide HBL) hgb _ _⟩
        unfold Bs
        rw [hrow]
        refine ⟨by rw [bcells_length, hrow], by omega, fun j hj => ⟨g, 0, rfl, ?_, ?_⟩⟩
        · rw [size_cells]; have := (unhide HOW).lt g rfl; exact this.2
        · rw [Nat.zero_add, World.cell?_setCells_out g _ _ _ _ (fun _ _ => .inl (by show j < p * 4; exact hj)), (unhide HOW).cellAt j (by omega), ← unhide HPRE, ← bcells_take, List.getElem?_take_of_lt hj]
end Go.Proofs.Ytdkchihomllokaa


/-
  The contracts of refuse, fits and firstStray. Conditions: a graph's edges lie in memory as told (Es).
-/
import Derived.Test.YtdcfhdpbpfgohaaDoorPair
namespace Go.Proofs.YtdcfhdpbpfgohaaDoor
open Go.RowKit
set_option linter.unusedVariables false

/-- a slice (its address, its length) whose elements are these edges -/
def Es (B : Nat) (w : World) (a : Option Addr) (n : Nat) (es : List (Int × Int)) : Prop :=
  es.length = n ∧ n ≤ 140737488355328 ∧
    ∀ k, k < n → ∃ g off, a = some ⟨g, off, none⟩ ∧ B ≤ g ∧ g < w.heap.size ∧ w.cell? ⟨g, off + k * 2, none⟩ = some (.int .i64 (es.getD k (0, 0)).1) ∧ w.cell? ⟨g, off + k * 2 + 1, none⟩ = some (.int .i64 (es.getD k (0, 0)).2)

theorem Es.below {B : Nat} {w w' : World} {a : Option Addr} {n : Nat} {es : List (Int × Int)} (h : Es B w a n es) (hb : Below w.heap.size w w') : Es B w' a n es := by
  obtain ⟨h1, h2, h3⟩ := h
  refine ⟨h1, h2, fun k hk => ?_⟩
  obtain ⟨g, off, ha, hB, hg, c0, c1⟩ := h3 k hk
  exact ⟨g, off, ha, hB, Nat.lt_of_lt_of_le hg hb.size, by rw [hb.cell (p := ⟨g, off + k * 2, none⟩) hg]; exact c0, by rw [hb.cell (p := ⟨g, off + k * 2 + 1, none⟩) hg]; exact c1⟩

theorem Es.setCell {B : Nat} {w : World} {a : Option Addr} {n : Nat} {es : List (Int × Int)} (h : Es B w a n es) {p : Addr} (hp : p.block < B) (v : Value) : Es B (w.setCell p v) a n es := by
  obtain ⟨h1, h2, h3⟩ := h
  refine ⟨h1, h2, fun k hk => ?_⟩
  obtain ⟨g, off, ha, hB, hg, c0, c1⟩ := h3 k hk
  refine ⟨g, off, ha, hB, by simpa [World.setCell] using hg, ?_, ?_⟩
  · rw [World.cell?_of_block (w := w) (Below.heap_setCell _ _ _ _ (by show g ≠ _; omega))]; exact c0
  · rw [World.cell?_of_block (w := w) (Below.heap_setCell _ _ _ _ (by show g ≠ _; omega))]; exact c1
theorem Es.mono {B B' : Nat} {w : World} {a : Option Addr} {n : Nat} {es : List (Int × Int)} (h : Es B w a n es) (hB : B' ≤ B) : Es B' w a n es := by
  obtain ⟨h1, h2, h3⟩ := h
  refine ⟨h1, h2, fun k hk => ?_⟩
  obtain ⟨g, off, ha, hb, hg, c0, c1⟩ := h3 k hk
  exact ⟨g, off, ha, by omega, hg, c0, c1⟩

set_option maxHeartbeats 400000 in
theorem refuse_any (w : World) (c p : Int) :
    Calls Tryd.prog 15 #[.int .i64 c, .int .i64 p] w fun e w' => e = .returned (.tuple #[.agg #[.int .i64 0, .slice none 0 0], .agg #[.int .i64 c, .int .i64 p, .slice none 0 0]]) ∧ Below w.heap.size w w' := by
  go_enter Tryd.func15, Tryd.ntmps15
  go_wp2
  refine bodyPost_ret (v := .tuple #[.agg #[.int .i64 0, .slice none 0 0], .agg #[.int .i64 c, .int .i64 p, .slice none 0 0]]) (by simp [results, Tryd.results15, go_sem]) rfl ⟨rfl, ?_⟩
  exact ((Below.refl _ _).alloc (Nat.le_refl _) _).alloc (by simp) _

theorem cell_old (w : World) (o : Obj) (p : Addr) (h : p.block < w.heap.size) : (w.alloc o).cell? p = w.cell? p :=
  World.cell?_of_block (w := w) (Below.heap_alloc w o p.block h)
theorem cell_box {w wr : World} {o : Obj} {p : Addr} (hb : Below (w.heap.size + 1) (w.alloc o) wr) (h : p.block < w.heap.size) : wr.cell? p = w.cell? p := by
  rw [hb.cell (Nat.lt_succ_of_lt h)]
  exact cell_old w o p h
theorem ret_b {x y : Bool} (h : x = y) : Ending.returned (.bool x) = .returned (.bool y) := by rw [h]

/-- is it within the limits? -/
def fitsB (v : Int) (n : Nat) : Bool := decide (1 ≤ v ∧ v ≤ 24 ∧ n ≤ 40)

set_option maxHeartbeats 400000 in
theorem fits_any (w : World) (v : Int) (a : Option Addr) (n cap : Nat) (r : Bool) (hr : fitsB v n = r) :
    Calls Tryd.prog 17 #[.agg #[.int .i64 v, .slice a n cap]] w fun e w' => e = .returned (.bool r) ∧ Below w.heap.size w w' := by
  have Hr := hide hr
  clear hr
  by_cases h1 : 1 ≤ v
  · by_cases h2 : v ≤ 24
    · go_enter Tryd.func17, Tryd.ntmps17
      go_wp2
      go_ret
      exact ⟨ret_b (by rw [← unhide Hr]; unfold fitsB; simp [h1, h2]; omega), (Below.refl _ _).alloc (Nat.le_refl _) _⟩
    · have d2 : decide (v ≤ 24) = false := decide_eq_false h2
      go_enter Tryd.func17, Tryd.ntmps17
      go_wp2
      go_ret
      exact ⟨ret_b (by rw [← unhide Hr]; unfold fitsB; simp; omega), (Below.refl _ _).alloc (Nat.le_refl _) _⟩
  · have d1 : decide (1 ≤ v) = false := decide_eq_false h1
    go_enter Tryd.func17, Tryd.ntmps17
    go_wp2
    go_ret
    exact ⟨ret_b (by rw [← unhide Hr]; unfold fitsB; simp; omega), (Below.refl _ _).alloc (Nat.le_refl _) _⟩

/-- an edge with an end that is no vertex -/
def badB (v : Int) (e : Int × Int) : Bool := decide (v ≤ e.1 ∨ v ≤ e.2)

set_option maxHeartbeats 1000000 in
theorem stray_no (w : World) (v : Int) (a : Option Addr) (n cap : Nat) (es : List (Int × Int)) {B : Nat} (h : Es B w a n es) (hb : ∀ k, k < n → badB v (es.getD k (0, 0)) = false) :
    Calls Tryd.prog 18 #[.agg #[.int .i64 v, .slice a n cap]] w fun e w' => e = .returned (.tuple #[.int .i64 0, .bool false]) ∧ Below w.heap.size w w' := by
  obtain ⟨hl, hn, hc⟩ := h
  have HB := hide hb
  have HC := hide hc
  have HL := hide hl
  clear hb hc hl
  go_enter Tryd.func18, Tryd.ntmps18
  go_wp2
  go_loopw [9] (fun i w' => ∃ k : Nat, i = .int .i64 k ∧ k ≤ n ∧ Below (w.heap.size + 1) (w.alloc (Obj.cells #[Value.int IntKind.i64 v, Value.slice a n cap] 24)) w') (fun i w' => n - (intOf i).toNat)
  case atStart => exact ⟨0, rfl, by omega, Below.refl _ _⟩
  case round =>
    obtain ⟨k, rfl, hk, hb⟩ := hrel
    by_cases hlt : k < n
    · obtain ⟨g, off, ha, _, hg, c0, c1⟩ := unhide HC k hlt
      have hbad := unhide HB k hlt
      subst ha
      generalize (es.getD k (0, 0)) = ed at *
      obtain ⟨x, y⟩ := ed
      simp only [badB, decide_eq_false_iff_not, not_or, Int.not_le] at hbad c0 c1
      obtain ⟨hx, hy⟩ := hbad
      have d0 : wr.cell? ⟨g, off + k * 2, none⟩ = some (.int .i64 x) := by rw [cell_box hb (p := ⟨g, off + k * 2, none⟩) hg]; exact c0
      have d1 : wr.cell? ⟨g, off + k * 2 + 1, none⟩ = some (.int .i64 y) := by rw [cell_box hb (p := ⟨g, off + k * 2 + 1, none⟩) hg]; exact c1
      have d2 : wr.cell? ⟨w.heap.size, 0, none⟩ = some (.int .i64 v) := by rw [hb.cell (p := ⟨w.heap.size, 0, none⟩) (Nat.lt_succ_self _)]; simp
      have hz : w.heap.size < wr.heap.size := by have := hb.size; simp at this; omega
      have hz2 : g < wr.heap.size := by omega
      have HB2 := hide hb
      clear hb c0 c1
      go_wp2
      go_roundw
      case rel => exact ⟨k + 1, by go_num, by omega, (unhide HB2).alloc (by omega) _⟩
      case measure => simp [intOf]; omega
    · go_wp2
      go_ret2
      exact ⟨rfl, ((Below.refl _ _).alloc (Nat.le_refl _) _).trans (hb.mono (by omega))⟩

set_option maxHeartbeats 1000000 in
theorem stray_yes (w : World) (v : Int) (a : Option Addr) (n cap : Nat) (es : List (Int × Int)) {B : Nat} (h : Es B w a n es) (m : Nat) (hm : m < n) (hb : ∀ k, k < m → badB v (es.getD k (0, 0)) = false) (hbm : badB v (es.getD m (0, 0)) = true) :
    Calls Tryd.prog 18 #[.agg #[.int .i64 v, .slice a n cap]] w fun e w' => e = .returned (.tuple #[.int .i64 m, .bool true]) ∧ Below w.heap.size w w' := by
  obtain ⟨hl, hn, hc⟩ := h
  have HB := hide hb
  have HM := hide hbm
  have HC := hide hc
  have HL := hide hl
  clear hb hc hl hbm
  go_enter Tryd.func18, Tryd.ntmps18
  go_wp2
  go_loopw [9] (fun i w' => ∃ k : Nat, i = .int .i64 k ∧ k ≤ m ∧ Below (w.heap.size + 1) (w.alloc (Obj.cells #[Value.int IntKind.i64 v, Value.slice a n cap] 24)) w') (fun i w' => n - (intOf i).toNat)
  case atStart => exact ⟨0, rfl, by omega, Below.refl _ _⟩
  case round =>
    obtain ⟨k, rfl, hk, hb⟩ := hrel
    have hlt : k < n := by omega
    obtain ⟨g, off, ha, _, hg, c0, c1⟩ := unhide HC k hlt
    have hz : w.heap.size < wr.heap.size := by have := hb.size; simp at this; omega
    have hz2 : g < wr.heap.size := by omega
    have d2 : wr.cell? ⟨w.heap.size, 0, none⟩ = some (.int .i64 v) := by rw [hb.cell (p := ⟨w.heap.size, 0, none⟩) (Nat.lt_succ_self _)]; simp
    have d0 : wr.cell? ⟨g, off + k * 2, none⟩ = some (.int .i64 (es.getD k (0, 0)).1) := by rw [cell_box hb (p := ⟨g, off + k * 2, none⟩) hg]; exact c0
    have d1 : wr.cell? ⟨g, off + k * 2 + 1, none⟩ = some (.int .i64 (es.getD k (0, 0)).2) := by rw [cell_box hb (p := ⟨g, off + k * 2 + 1, none⟩) hg]; exact c1
    subst ha
    have HB2 := hide hb
    clear hb c0 c1
    by_cases hkm : k < m
    · have hbad := unhide HB k hkm
      generalize (es.getD k (0, 0)) = ed at *
      obtain ⟨x, y⟩ := ed
      simp only [badB, decide_eq_false_iff_not, not_or, Int.not_le] at hbad d0 d1
      obtain ⟨hx, hy⟩ := hbad
      go_wp2
      go_roundw
      case rel => exact ⟨k + 1, by go_num, by omega, (unhide HB2).alloc (by omega) _⟩
      case measure => simp [intOf]; omega
    · obtain rfl : k = m := by omega
      have hbad := unhide HM
      generalize (es.getD k (0, 0)) = ed at *
      obtain ⟨x, y⟩ := ed
      simp only [badB, decide_eq_true_eq] at hbad d0 d1
      by_cases hx : v ≤ x
      · clear hbad
        go_wp2
        go_ret2
        exact ⟨rfl, (((Below.refl _ _).alloc (Nat.le_refl _) _).trans ((unhide HB2).mono (by omega))).alloc (by omega) _⟩
      · have hy : v ≤ y := by omega
        clear hbad
        have hx2 : x < v := by omega
        go_wp2
        go_ret2
        exact ⟨rfl, (((Below.refl _ _).alloc (Nat.le_refl _) _).trans ((unhide HB2).mono (by omega))).alloc (by omega) _⟩
end Go.Proofs.YtdcfhdpbpfgohaaDoor

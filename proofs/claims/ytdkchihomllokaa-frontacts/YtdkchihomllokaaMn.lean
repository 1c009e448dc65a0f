/-
  The contracts of slices.Min and slices.Reverse at ints. Conditions: the rows lie in memory as told; the one that is reversed is a row of cells that may be written.
-/
import Derived.Test.YtdkchihomllokaaBase
import Derived.WalkLawsBesides
namespace Go.Proofs.Ytdkchihomllokaa
open Go.RowKit
set_option linter.unusedVariables false
set_option maxRecDepth 20000

/-- the least of the first k -/
def IsMin (xs : List Int) (k : Nat) (m : Int) : Prop := (∃ j, j < k ∧ xs.getD j 0 = m) ∧ ∀ j, j < k → m ≤ xs.getD j 0
theorem IsMin.one {xs : List Int} {y : Int} (h : xs.getD 0 0 = y) : IsMin xs 1 y := by
  refine ⟨⟨0, by omega, h⟩, fun j hj => ?_⟩
  obtain rfl : j = 0 := by omega
  rw [h]
  exact Int.le_refl _
theorem IsMin.step {xs : List Int} {k : Nat} {m : Int} (h : IsMin xs k m) : IsMin xs (k + 1) (min m (xs.getD k 0)) := by
  obtain ⟨⟨j, hj, hm⟩, h2⟩ := h
  by_cases hc : m ≤ xs.getD k 0
  · rw [Int.min_eq_left hc]
    refine ⟨⟨j, by omega, hm⟩, fun i hi => ?_⟩
    by_cases hik : i < k
    · exact h2 i hik
    · obtain rfl : i = k := by omega
      exact hc
  · rw [Int.min_eq_right (by omega)]
    refine ⟨⟨k, by omega, rfl⟩, fun i hi => ?_⟩
    by_cases hik : i < k
    · have := h2 i hik; omega
    · obtain rfl : i = k := by omega
      exact Int.le_refl _

set_option maxHeartbeats 1000000 in
theorem min_any (w : World) (a : Option Addr) (n c : Nat) (xs : List Int) (h : Ns w a n xs) (h1 : 1 ≤ n) :
    Calls Try.prog 67 #[.slice a n c] w fun e w' => (∃ m, e = .returned (.int .i64 m) ∧ IsMin xs n m) ∧ w' = w := by
  obtain ⟨hl, hn, hc⟩ := h
  have HC := hide hc
  have HL := hide hl
  obtain ⟨g, off, ha, hg, d0⟩ := hc 0 (by omega)
  subst ha
  obtain ⟨y, hy⟩ : ∃ y, xs.getD 0 0 = y := ⟨_, rfl⟩
  rw [hy, Nat.add_zero] at d0
  have HY := hide hy
  clear hc hl hy
  have h1' : (1 : Int) ≤ (n : Int) := by omega
  go_enter Try.func67, Try.ntmps67
  go_wp2
  go_loop [3, 4] (fun mm i => ∃ (k : Nat) (m : Int), i = .int .i64 k ∧ k ≤ n ∧ 1 ≤ k ∧ mm = .int .i64 m ∧ Hid (IsMin xs k m)) (fun mm i => n - (intOf i).toNat)
  case atStart => exact ⟨1, y, rfl, by omega, by omega, rfl, IsMin.one (unhide HY)⟩
  case round =>
    obtain ⟨k, m, rfl, hk, hk1, rfl, HM⟩ := hrel
    by_cases hlt : k < n
    · obtain ⟨g2, off2, ha, hg2, d2⟩ := unhide HC k hlt
      obtain ⟨rfl, rfl⟩ : g = g2 ∧ off = off2 := by simpa using ha
      clear ha
      obtain ⟨z, hz⟩ : ∃ y, xs.getD k 0 = y := ⟨_, rfl⟩
      rw [hz] at d2
      have HZ := hide hz
      clear hz
      have hlt2 : (k : Int) < (n : Int) := by omega
      go_wp2
      go_round
      case rel =>
        refine ⟨k + 1, min m z, by go_num, by omega, by omega, ?_, ?_⟩
        · first | rfl | go_num
        · have := (unhide HM).step
          rw [unhide HZ] at this
          exact this
      case measure => simp [intOf]; omega
    · go_wp2
      go_ret
      obtain rfl : k = n := by omega
      exact ⟨⟨m, rfl, unhide HM⟩, rfl⟩

/-- a row of ints that may be written: at g, from off on -/
def RowAt (w : World) (g off n : Nat) (f : Nat → Int) : Prop := ∃ cur, w.heap[g]? = some (.cells cur 3 (0, 0)) ∧ ∀ t, t < n → cur[off + t]? = some (.int .i64 (f t))
theorem RowAt.cell {w : World} {g off n : Nat} {f : Nat → Int} (h : RowAt w g off n f) {t : Nat} (ht : t < n) : w.cell? ⟨g, off + t, none⟩ = some (.int .i64 (f t)) := by
  obtain ⟨cur, h1, h2⟩ := h
  simp [World.cell?, h1, h2 t ht]
theorem RowAt.fz {w : World} {g off n : Nat} {f : Nat → Int} (h : RowAt w g off n f) (o : Nat) : w.frozen? ⟨g, o, none⟩ = false := by
  obtain ⟨cur, h1, h2⟩ := h
  simp [World.frozen?, h1]
theorem RowAt.set {w : World} {g off n : Nat} {f : Nat → Int} (h : RowAt w g off n f) (p : Nat) (v : Int) : RowAt (w.setCell ⟨g, off + p, none⟩ (.int .i64 v)) g off n (fun t => if t = p then v else f t) := by
  obtain ⟨cur, h1, h2⟩ := h
  refine ⟨cur.setIfInBounds (off + p) (.int .i64 v), by simp [World.setCell, Array.getElem?_modify, h1], fun t ht => ?_⟩
  rw [Array.getElem?_setIfInBounds]
  have hb := (Array.getElem?_eq_some_iff.1 (h2 t ht)).1
  by_cases htp : t = p
  · subst htp
    simp [hb]
  · rw [if_neg (by omega)]
    simp [htp, h2 t ht]
theorem RowAt.drewN {w : World} {g off n : Nat} {f : Nat → Int} (h : RowAt w g off n f) (m : Nat) : RowAt (w.drewN m) g off n f := h
theorem RowAt.lt {w : World} {g off n : Nat} {f : Nat → Int} (h : RowAt w g off n f) : g < w.heap.size := by
  obtain ⟨cur, h1, h2⟩ := h
  exact (Array.getElem?_eq_some_iff.1 h1).1

/-- Nothing but block b has turned. -/
structure Adv (b : Nat) (w w' : World) : Prop where
  os : w'.os = w.os
  tape : w'.tape = w.tape
  output : w'.output = w.output
  size : w'.heap.size = w.heap.size
  block : ∀ k, k ≠ b → w'.heap[k]? = w.heap[k]?
theorem Adv.refl (b : Nat) (w : World) : Adv b w w := ⟨rfl, rfl, rfl, rfl, fun _ _ => rfl⟩
theorem Adv.trans {b : Nat} {u v w : World} (h : Adv b u v) (k : Adv b v w) : Adv b u w :=
  ⟨k.os.trans h.os, k.tape.trans h.tape, k.output.trans h.output, k.size.trans h.size, fun i hi => (k.block i hi).trans (h.block i hi)⟩
theorem Adv.drewN {b : Nat} {u w : World} (h : Adv b u w) (n : Nat) : Adv b u (w.drewN n) := ⟨h.os, h.tape, h.output, h.size, h.block⟩
theorem Adv.drew {b : Nat} {u w : World} (h : Adv b u w) : Adv b u w.drew := ⟨h.os, h.tape, h.output, h.size, h.block⟩
theorem Adv.setCell {b : Nat} {u w : World} (h : Adv b u w) (o : Nat) (v : Value) : Adv b u (w.setCell ⟨b, o, none⟩ v) :=
  h.trans ⟨rfl, rfl, rfl, by simp [World.setCell], fun k hk => Below.heap_setCell _ _ _ _ hk⟩
theorem Adv.below {b B : Nat} {u w : World} (h : Adv b u w) (hB : B ≤ b) : Below B u w :=
  ⟨h.os, h.tape, h.output, Nat.le_of_eq h.size.symm, fun k hk => h.block k (by omega)⟩

/-- the first k and the last k have changed places -/
def revTo (n k : Nat) (f : Nat → Int) (t : Nat) : Int := if t < k ∨ n - k ≤ t then f (n - 1 - t) else f t

theorem revTo_step {n k : Nat} (f : Nat → Int) (hk : k + k + 1 < n) (t : Nat) (ht : t < n) :
    (if t = n - 1 - k then revTo n k f k else if t = k then revTo n k f (n - 1 - k) else revTo n k f t) = revTo n (k + 1) f t := by
  unfold revTo
  by_cases h1 : t = n - 1 - k
  · subst h1
    rw [if_pos rfl, if_neg (by omega), if_pos (by omega)]
    congr 1
    omega
  · rw [if_neg h1]
    by_cases h2 : t = k
    · subst h2
      rw [if_pos rfl, if_neg (by omega), if_pos (by omega)]
    · rw [if_neg h2]
      by_cases h3 : t < k ∨ n - k ≤ t
      · rw [if_pos h3, if_pos (by omega)]
      · rw [if_neg h3, if_neg (by omega)]
theorem revTo_end {n k : Nat} (f : Nat → Int) (hk : n ≤ k + k + 1) (t : Nat) (ht : t < n) : revTo n k f t = f (n - 1 - t) := by
  unfold revTo
  by_cases h3 : t < k ∨ n - k ≤ t
  · rw [if_pos h3]
  · rw [if_neg h3]
    congr 1
    omega
theorem RowAt.congr {w : World} {g off n : Nat} {f f' : Nat → Int} (h : RowAt w g off n f) (he : ∀ t, t < n → f t = f' t) : RowAt w g off n f' := by
  obtain ⟨cur, h1, h2⟩ := h
  exact ⟨cur, h1, fun t ht => by rw [h2 t ht, he t ht]⟩

set_option maxHeartbeats 2000000 in
theorem reverse_any (w : World) (g off n c : Nat) (f : Nat → Int) (h : RowAt w g off n f) (h1 : 1 ≤ n) (hn : n ≤ 1000000) :
    Calls Try.prog 66 #[.slice (some ⟨g, off, none⟩) n c] w fun e w' => e = .returned (.tuple #[]) ∧ RowAt w' g off n (fun t => f (n - 1 - t)) ∧ Adv g w w' := by
  have HR := hide h
  clear h
  go_enter Try.func66, Try.ntmps66
  go_wp2
  go_loopw [2, 3] (fun i j wr => ∃ k : Nat, i = .int .i64 k ∧ j = .int .i64 ((n : Int) - 1 - k) ∧ k + k ≤ n ∧ Hid (RowAt wr g off n (revTo n k f)) ∧ Adv g w wr) (fun i j wr => n - (intOf i).toNat)
  case atStart => exact ⟨0, rfl, by go_num, by omega, (unhide HR).congr (fun t ht => by unfold revTo; rw [if_neg (by omega)]), Adv.refl _ _⟩
  case round =>
    obtain ⟨k, rfl, rfl, hk, HX, hadv⟩ := hrel
    have HADV := hide hadv
    clear hadv
    by_cases hlt : k + k + 1 < n
    · obtain ⟨m, hm⟩ : ∃ m : Nat, m = n - 1 - k := ⟨_, rfl⟩
      have e1 : (n : Int) - 1 - (k : Int) = (m : Int) := by omega
      have hkm : (k : Int) < (m : Int) := by omega
      have hmn : (m : Int) < (n : Int) := by omega
      have hmn2 : m < n := by omega
      have hkm2 : k < m := by omega
      have hkn : k < n := by omega
      have c0 := (unhide HX).cell (t := k) hkn
      have c1 := (unhide HX).cell (t := m) hmn2
      have f0 := (unhide HX).fz (off + k)
      have f1 := (unhide HX).fz (off + m)
      have HM := hide hm
      rw [e1]
      clear hm e1
      go_wp2
      go_region
      all_goals go_wp2
      all_goals go_roundw
      all_goals first
        | (simp [intOf]; omega)
        | (refine ⟨k + 1, by go_num, by have := unhide HM; go_num, by omega, ?_, (((unhide HADV).drew).setCell _ _).setCell _ _⟩
           refine RowAt.congr (((show RowAt wr.drew g off n (revTo n k f) from unhide HX).set k (revTo n k f m)).set m (revTo n k f k)) (fun t ht => ?_)
           have := revTo_step f hlt t ht
           rw [← unhide HM] at this
           exact this)
    · have hle : ((n : Int) - 1 - (k : Int)) ≤ (k : Int) := by omega
      go_wp2
      go_end0
      exact ⟨rfl, (unhide HX).congr (fun t ht => revTo_end f (by omega) t ht), unhide HADV⟩
end Go.Proofs.Ytdkchihomllokaa

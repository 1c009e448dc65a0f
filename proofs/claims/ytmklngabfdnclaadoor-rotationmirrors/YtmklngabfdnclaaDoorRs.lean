/-
  Lists of numbers that are one, begun elsewhere perhaps; the contracts of slices.Equal and of the document's Same. Conditions: the lists lie in memory as told.
-/
import Derived.Test.YtmklngabfdnclaaDoorMay
namespace Go.Proofs.YtmklngabfdnclaaDoor
open Go.RowKit
set_option linter.unusedVariables false
set_option maxRecDepth 20000

/-- from place k on, around, the one is the other -/
def RotAt (a b : List Int) (k : Nat) : Prop := ∀ i, i < b.length → a.getD ((i + k) % b.length) 0 = b.getD i 0
/-- one list, begun elsewhere perhaps -/
def RotL (a b : List Int) : Prop := a.length = b.length ∧ (b.length = 0 ∨ ∃ k, k < b.length ∧ RotAt a b k)
def rotB (a b : List Int) : Bool := decide (a.length = b.length) && (decide (b.length = 0) || (List.range b.length).any fun k => (List.range b.length).all fun i => decide (a.getD ((i + k) % b.length) 0 = b.getD i 0))
theorem rotB_true {a b : List Int} : rotB a b = true ↔ RotL a b := by
  unfold rotB RotL RotAt
  simp only [Bool.and_eq_true, Bool.or_eq_true, decide_eq_true_eq, List.any_eq_true, List.all_eq_true, List.mem_range]
theorem rotB_yes {a b : List Int} (h : RotL a b) : rotB a b = true := rotB_true.2 h
theorem rotB_no {a b : List Int} (h : ¬ RotL a b) : rotB a b = false := by
  cases hb : rotB a b with
  | false => rfl
  | true => exact absurd (rotB_true.1 hb) h

/-- the way in which the program holds lists against each other -/
def CutAt (a b : List Int) (k : Nat) : Prop := a.take (b.length - k) = b.drop k ∧ a.drop (b.length - k) = b.take k
theorem getD_eq {xs : List Int} {i : Nat} (h : i < xs.length) : xs.getD i 0 = xs[i] := by simp [List.getD, h]
theorem ext_getD {xs ys : List Int} (hl : xs.length = ys.length) (h : ∀ i, i < ys.length → xs.getD i 0 = ys.getD i 0) : xs = ys := by
  apply List.ext_getElem hl
  intro i h1 h2
  have := h i h2
  rwa [getD_eq h1, getD_eq h2] at this
theorem getD_take {xs : List Int} {n i : Nat} (h : i < n) : (xs.take n).getD i 0 = xs.getD i 0 := by
  simp [List.getD, h]
theorem getD_drop {xs : List Int} {n i : Nat} : (xs.drop n).getD i 0 = xs.getD (n + i) 0 := by
  simp [List.getD, List.getElem?_drop]
theorem cut_rot {a b : List Int} (hl : a.length = b.length) {k : Nat} (hk : k < b.length) : CutAt a b k ↔ RotAt a b ((b.length - k) % b.length) := by
  have key : ∀ i, i < b.length → (i + (b.length - k) % b.length) % b.length = if k ≤ i then i - k else i + b.length - k := by
    intro i hi
    by_cases h0 : k = 0
    · subst h0
      simp [Nat.mod_self, Nat.mod_eq_of_lt hi]
    · rw [Nat.mod_eq_of_lt (show b.length - k < b.length by omega)]
      split
      · rw [show i + (b.length - k) = (i - k) + b.length by omega, Nat.add_mod_right, Nat.mod_eq_of_lt (by omega)]
      · rw [Nat.mod_eq_of_lt (by omega)]
        omega
  constructor
  · rintro ⟨h1, h2⟩ i hi
    rw [key i hi]
    split
    · rename_i hki
      have : (a.take (b.length - k)).getD (i - k) 0 = (b.drop k).getD (i - k) 0 := by rw [h1]
      rw [getD_take (by omega), getD_drop, show k + (i - k) = i by omega] at this
      exact this
    · rename_i hki
      have : (a.drop (b.length - k)).getD i 0 = (b.take k).getD i 0 := by rw [h2]
      rw [getD_take (by omega), getD_drop] at this
      rw [← this]
      congr 1
      omega
  · intro h
    constructor
    · refine ext_getD (by simp; omega) fun i hi => ?_
      simp at hi
      rw [getD_take (by omega), getD_drop]
      have := h (k + i) (by omega)
      rw [key (k + i) (by omega), if_pos (by omega), show k + i - k = i by omega] at this
      exact this
    · refine ext_getD (by simp; omega) fun i hi => ?_
      simp at hi
      rw [getD_take (by omega), getD_drop]
      have := h i (by omega)
      rw [key i (by omega), if_neg (by omega)] at this
      rw [← this]
      congr 1
      omega
theorem rotL_cut {a b : List Int} (hl : a.length = b.length) : RotL a b ↔ (b.length = 0 ∨ ∃ k, k < b.length ∧ CutAt a b k) := by
  constructor
  · rintro ⟨_, h | ⟨k, hk, h⟩⟩
    · exact .inl h
    · refine .inr ⟨(b.length - k) % b.length, Nat.mod_lt _ (by omega), ?_⟩
      rw [cut_rot hl (Nat.mod_lt _ (by omega))]
      have : (b.length - (b.length - k) % b.length) % b.length = k := by
        by_cases h0 : k = 0
        · subst h0
          simp
        · rw [Nat.mod_eq_of_lt (show b.length - k < b.length by omega), show b.length - (b.length - k) = k by omega, Nat.mod_eq_of_lt hk]
      rw [this]
      exact h
  · rintro (h | ⟨k, hk, h⟩)
    · exact ⟨hl, .inl h⟩
    · exact ⟨hl, .inr ⟨_, Nat.mod_lt _ (by omega), (cut_rot hl hk).1 h⟩⟩

set_option maxHeartbeats 1000000 in
/-- slices.Equal of ints: it only reads -/
theorem equal_any (w : World) (a1 a2 : Option Addr) (n1 n2 c1 c2 : Nat) (xs ys : List Int) (h1 : Ns w a1 n1 xs) (h2 : Ns w a2 n2 ys) :
    Calls Tryd.prog 38 #[.slice a1 n1 c1, .slice a2 n2 c2] w fun e w' => e = .returned (.bool (decide (xs = ys))) ∧ ∃ m, w' = w.drewN m := by
  obtain ⟨hl1, hn1, hc1⟩ := h1
  obtain ⟨hl2, hn2, hc2⟩ := h2
  have HC1 := hide hc1
  have HC2 := hide hc2
  have HL1 := hide hl1
  have HL2 := hide hl2
  clear hc1 hc2 hl1 hl2
  by_cases hn : n1 = n2
  case neg =>
    have t1 : ((n1 : Int) != (n2 : Int)) = true := by simp; omega
    go_enter Tryd.func38, Tryd.ntmps38
    go_wp2_with fail
    go_ret
    refine ⟨ret_b (by
      have : ¬ xs = ys := fun h => hn (by rw [← unhide HL1, ← unhide HL2, h])
      simp [this]), 0, rfl⟩
  subst hn
  have t1 : ((n1 : Int) != (n1 : Int)) = false := by simp
  go_enter Tryd.func38, Tryd.ntmps38
  go_wp2_with fail
  go_loopw [13] (fun i wr => ∃ k m : Nat, i = .int .i64 k ∧ k ≤ n1 ∧ wr = w.drewN m ∧ Hid (∀ j, j < k → xs.getD j 0 = ys.getD j 0)) (fun i wr => n1 - (intOf i).toNat)
  case atStart => exact ⟨0, 0, rfl, by omega, rfl, fun j h => by omega⟩
  case round =>
    obtain ⟨k, m, rfl, hk, rfl, HA⟩ := hrel
    by_cases hlt : k < n1
    · obtain ⟨g, off, ha, hg, d0⟩ := unhide HC1 k hlt
      obtain ⟨g2, off2, ha2, hg2, d2⟩ := unhide HC2 k hlt
      subst ha
      subst ha2
      obtain ⟨x, hx⟩ : ∃ x, xs.getD k 0 = x := ⟨_, rfl⟩
      obtain ⟨y, hy⟩ : ∃ y, ys.getD k 0 = y := ⟨_, rfl⟩
      rw [hx] at d0
      rw [hy] at d2
      have HX := hide hx
      have HY := hide hy
      clear hx hy
      have hlt2 : (k : Int) < (n1 : Int) := by omega
      by_cases hxy : x = y
      · subst hxy
        have t2 : (x != x) = false := by simp
        go_wp2_with fail
        go_quiet (fail)
        go_wp2_with fail
        go_roundw
        case rel =>
          refine ⟨k + 1, _, by go_num, by omega, rfl, fun j hj => ?_⟩
          by_cases hjk : j = k
          · rw [hjk, unhide HX, unhide HY]
          · exact unhide HA j (by omega)
        case measure => simp [intOf]; omega
      · have t2 : (x != y) = true := by simp [hxy]
        have HNE := hide (show ¬ xs = ys from fun h => hxy (by rw [← unhide HX, ← unhide HY, h]))
        clear hxy
        go_wp2_with fail
        go_quiet (fail)
        go_wp2_with fail
        go_ret
        exact ⟨ret_b (by simp [unhide HNE]), _, World.drewN_drewN _ _ _⟩
    · obtain rfl : k = n1 := by omega
      go_wp2_with fail
      go_ret
      exact ⟨ret_b (by
        have : xs = ys := ext_getD (by rw [unhide HL1, unhide HL2]) (by rw [unhide HL2]; exact unhide HA)
        simp [this]), _, rfl⟩

end Go.Proofs.YtmklngabfdnclaaDoor


/-
  The contracts of slices.Sort and Equal at ints, and of isSame. Conditions: rows of numbers as told.
-/
import Derived.Test.YtdkchihomllokaaShelf
import Derived.Test.YtdkchihomllokaaCli
import Derived.Sort.OwnSortedInts
namespace Go.Proofs.Ytdkchihomllokaa
open Go.RowKit Go.Sort
set_option linter.unusedVariables false
set_option maxRecDepth 20000

theorem getD_eq {xs : List Int} {i : Nat} (h : i < xs.length) : xs.getD i 0 = xs[i] := by simp [List.getD, h]
theorem ext_getD {xs ys : List Int} (hl : xs.length = ys.length) (h : ∀ i, i < ys.length → xs.getD i 0 = ys.getD i 0) : xs = ys := by
  apply List.ext_getElem hl
  intro i h1 h2
  have := h i h2
  rwa [getD_eq h1, getD_eq h2] at this

set_option maxHeartbeats 1000000 in
/-- slices.Equal of ints: it only reads -/
theorem equal_any (w : World) (a1 a2 : Option Addr) (n1 n2 c1 c2 : Nat) (xs ys : List Int) (h1 : Ns w a1 n1 xs) (h2 : Ns w a2 n2 ys) :
    Calls Try.prog 58 #[.slice a1 n1 c1, .slice a2 n2 c2] w fun e w' => e = .returned (.bool (decide (xs = ys))) ∧ ∃ m, w' = w.drewN m := by
  obtain ⟨hl1, hn1, hc1⟩ := h1
  obtain ⟨hl2, hn2, hc2⟩ := h2
  have HC1 := hide hc1
  have HC2 := hide hc2
  have HL1 := hide hl1
  have HL2 := hide hl2
  clear hc1 hc2 hl1 hl2
  by_cases hn : n1 = n2
  case neg =>
    have t1 : ((n1 : Int) != (n2 : Int)) = true := by simp; omega
    go_enter Try.func58, Try.ntmps58
    go_wp2_with fail
    go_ret
    refine ⟨ret_b (by
      have : ¬ xs = ys := fun h => hn (by rw [← unhide HL1, ← unhide HL2, h])
      simp [this]), 0, rfl⟩
  subst hn
  have t1 : ((n1 : Int) != (n1 : Int)) = false := by simp
  go_enter Try.func58, Try.ntmps58
  go_wp2_with fail
  go_loopw [13] (fun i wr => ∃ k m : Nat, i = .int .i64 k ∧ k ≤ n1 ∧ wr = w.drewN m ∧ Hid (∀ j, j < k → xs.getD j 0 = ys.getD j 0)) (fun i wr => n1 - (intOf i).toNat)
  case atStart => exact ⟨0, 0, rfl, by omega, rfl, fun j h => by omega⟩
  case round =>
    obtain ⟨k, m, rfl, hk, rfl, HA⟩ := hrel
    by_cases hlt : k < n1
    · obtain ⟨g, off, ha, hg, d0⟩ := unhide HC1 k hlt
      obtain ⟨g2, off2, ha2, hg2, d2⟩ := unhide HC2 k hlt
      subst ha
      subst ha2
      obtain ⟨x, hx⟩ : ∃ x, xs.getD k 0 = x := ⟨_, rfl⟩
      obtain ⟨y, hy⟩ : ∃ y, ys.getD k 0 = y := ⟨_, rfl⟩
      rw [hx] at d0
      rw [hy] at d2
      have HX := hide hx
      have HY := hide hy
      clear hx hy
      have hlt2 : (k : Int) < (n1 : Int) := by omega
      by_cases hxy : x = y
      · subst hxy
        have t2 : (x != x) = false := by simp
        go_wp2_with fail
        go_quiet (fail)
        go_wp2_with fail
        go_roundw
        case rel =>
          refine ⟨k + 1, _, by go_num, by omega, rfl, fun j hj => ?_⟩
          by_cases hjk : j = k
          · rw [hjk, unhide HX, unhide HY]
          · exact unhide HA j (by omega)
        case measure => simp [intOf]; omega
      · have t2 : (x != y) = true := by simp [hxy]
        have HNE := hide (show ¬ xs = ys from fun h => hxy (by rw [← unhide HX, ← unhide HY, h]))
        clear hxy
        go_wp2_with fail
        go_quiet (fail)
        go_wp2_with fail
        go_ret
        exact ⟨ret_b (by simp [unhide HNE]), _, World.drewN_drewN _ _ _⟩
    · obtain rfl : k = n1 := by omega
      go_wp2_with fail
      go_ret
      exact ⟨ret_b (by
        have : xs = ys := ext_getD (by rw [unhide HL1, unhide HL2]) (by rw [unhide HL2]; exact unhide HA)
        simp [this]), _, rfl⟩

theorem own_shape' {w : World} {base : Nat} {e : TypeId} {size : Nat} {v : Value} {n : Nat} {xs : List Value} (h : w.ownsRow base e size v n xs) : ∃ a c, v = .slice a n c := by
  rcases h.2 with ⟨hv, h0⟩ | ⟨g, cap, cur, rfl, _⟩
  · exact ⟨none, 0, by rw [hv, h0]⟩
  · exact ⟨_, cap, rfl⟩
theorem Ns.of_below' {w w' : World} {a : Option Addr} {n : Nat} {xs : List Int} (h : Ns w a n xs) (hb : Below w.heap.size w w') : Ns w' a n xs := h.below hb
set_option maxHeartbeats 1000000 in
theorem clone_bigs (w : World) (p : Addr) (n c : Nat) (xs : List Int) (h : Ns w (some p) n xs) (hn : n * 8 ≤ 140737488355328) :
    Calls Try.prog 31 #[.slice (some p) n c] w fun e w' => (∃ v, e = .returned v ∧ w'.ownsRow w.heap.size 3 1 v n (zcells xs) ∧ v ≠ .slice none 0 0) ∧ Below w.heap.size w w' := by
  obtain ⟨i0, hi0, hz0, hz1, hz2⟩ := info_parts info3
  have HI := hide hi0
  have HZ0 := hide hz0
  have HZ1 := hide hz1
  have HZ2 := hide hz2
  have HN := hide h
  have hxl : xs.length = n := h.1
  have HXL := hide hxl
  clear hi0 hz0 hz1 hz2 h hxl
  have q28 : ∀ (w : World) (a : Option Addr) (n c n' c' : Nat), (binOp .eql 34 (.slice a n c) (.slice none n' c')).run Try.prog w = .ok (.bool a.isNone) w := fun w a n c n' c' => Lib.run_eql_slice_nil w _ _ a n c n' c' Try.underlying34
  go_enter Try.func31, Try.ntmps31
  go_wp2_with (at_builtin; refine wpList_append_own _ rfl (.tmp 5) (.tmp 6) 34 rfl w.heap.size 3 i0 (.int .i64 0) 1 8 Try.underlying34 (unhide HI) (unhide HZ0) (unhide HZ1) (unhide HZ2) rfl (by decide) _ 0 [] rfl (owns_lit_empty w 3 1 w.heap.size (Nat.le_refl _)) p n c (zcells xs) rfl ?c1 ?c2 ?c3 ?c4 ?c5 ?c6 ?_)
  case c1 => rw [zcells_length, unhide HXL]; omega
  case c2 => exact ((unhide HN).below ((Below.refl _ _).alloc (Nat.le_refl _) _)).cells
  case c3 => exact zcells_one xs
  case c4 => unfold maxLen; omega
  case c5 => omega
  case c6 => simp
  intro v2 w4 hown4 hg4 hnil
  have HO := hide hown4
  have HG := hide hg4
  have HV := hide hnil
  clear hown4 hg4 hnil
  go_wp2
  go_ret
  refine ⟨⟨v2, rfl, ?_, ?_⟩, ?_⟩
  · have := unhide HO
    simpa using this
  · intro hv
    exact unhide HV hv
  · exact ((Below.refl _ _).alloc (Nat.le_refl _) _).grown (unhide HG) (by simp) (fun k hk => by simp [Value.ownBlock] at hk; omega)
theorem clone_big (w : World) (a : Option Addr) (n c : Nat) (xs : List Int) (h : Ns w a n xs) (hno : a = none → n = 0 ∧ c = 0) (hn : n * 8 ≤ 140737488355328) :
    Calls Try.prog 31 #[.slice a n c] w fun e w' => (∃ v, e = .returned v ∧ w'.ownsRow w.heap.size 3 1 v n (zcells xs)) ∧ Below w.heap.size w w' := by
  cases a with
  | none =>
    obtain ⟨rfl, rfl⟩ := hno rfl
    have hx : xs = [] := List.eq_nil_of_length_eq_zero h.1
    subst hx
    refine (clone_nil w).mono ?_
    rintro e w' ⟨rfl, rfl⟩
    exact ⟨⟨_, rfl, World.ownsRow_nil _ _ _ _⟩, Below.refl _ _⟩
  | some p =>
    refine (clone_bigs w p n c xs h hn).mono ?_
    rintro e w' ⟨⟨v, rfl, ho, _⟩, hb⟩
    exact ⟨⟨v, rfl, ho⟩, hb⟩
/-- a list of numbers, rising -/
def srtZ (xs : List Int) : List Int := xs.mergeSort fun x y => decide (x ≤ y)
theorem srtZ_perm (xs : List Int) : (srtZ xs).Perm xs := List.mergeSort_perm _ _

theorem sortZ_any (w : World) (base : Nat) (v : Value) (xs : List Int) (ho : w.ownsRow base 3 1 v xs.length (zcells xs)) (hb : xs.length < 4611686018427387904) (hbw : base ≤ w.heap.size) :
    Calls Try.prog 40 #[v] w fun e w' => e = .returned (.tuple #[]) ∧ w'.ownsRow base 3 1 v xs.length (zcells (srtZ xs)) ∧ Below base w w' := by
  by_cases hne : xs = []
  · subst hne
    obtain ⟨a, c, rfl⟩ := own_shape' ho
    refine (Try.slices_Sort_int_none a c w).mono ?_
    rintro e w' ⟨rfl, rfl⟩
    exact ⟨rfl, by rw [show srtZ [] = [] by simp [srtZ]]; exact ho, Below.refl _ _⟩
  have hpos : 0 < xs.length := List.length_pos_iff.2 hne
  rcases ho.2 with ⟨_, h0⟩ | ⟨g, cap, cur, rfl, hbase, hg, h1, h2, h3, h4⟩
  · omega
  · have hH : Holds (Value.int .i64) w g 0 xs.toArray := holds_of_blockI hg (by simpa [zcells] using h4)
    have hcon := Any.slices_Sort_int Try.lays189 g 0 cap xs w hH (Array.getElem?_eq_some_iff.1 hg).1 (by omega)
    refine Calls.mono (show Calls Try.prog 40 _ _ _ from hcon) ?_
    rintro e w' ⟨rfl, n, os, rfl⟩
    have hls : (srtZ xs).length = xs.length := (srtZ_perm xs).length_eq
    have hs := ownsRow_sortedI (n := n) (os := os) (ss := xs) (ts := srtZ xs) hls hbase hg (by omega) h2 h3
    exact ⟨rfl, hs, (Below.refl _ _).grown (grownBy_sortedI _) hbw fun k hk => by cases hk; exact hbase⟩

set_option maxHeartbeats 2000000 in
theorem isSame_any (w : World) (a b : Option Addr) (n c m d : Nat) (xs ys : List Int) (h1 : Ns w a n xs) (hno : a = none → n = 0 ∧ c = 0) (h2 : Ns w b m ys) (hn : n * 8 ≤ 140737488355328) :
    Calls Try.prog 35 #[.slice a n c, .slice b m d] w fun e w' => e = .returned (.bool (decide (srtZ xs = ys))) ∧ Below w.heap.size w w' := by
  have C := hide (clone_big w a n c xs h1 hno hn)
  have H2 := hide h2
  have HL := hide (show xs.length = n from h1.1)
  clear h1 h2
  go_enter Try.func35, Try.ntmps35
  go_wp2_with fail
  refine (unhide C).mono ?_
  rintro e w1 ⟨⟨v, rfl, ho⟩, hb1⟩
  have HB1 := hide hb1
  rw [← unhide HL] at ho
  have C2 := hide (sortZ_any w1 w.heap.size v xs ho (by rw [unhide HL]; omega) hb1.size)
  clear C ho hb1
  go_wp2_with fail
  refine (unhide C2).mono ?_
  rintro e w2 ⟨rfl, ho2, hb2⟩
  have HB2 := hide ((unhide HB1).trans hb2)
  obtain ⟨va, vc, hv, _, hN⟩ := ns_of_owns ho2 (by rw [unhide HL]; omega)
  subst hv
  have C3 := hide (equal_any w2 va b xs.length m vc d (srtZ xs) ys hN ((unhide H2).of_below' (unhide HB2)))
  obtain ⟨k, hk⟩ : ∃ k, xs.length = k := ⟨_, rfl⟩
  rw [hk] at C3 ⊢
  clear C2 ho2 hb2 hN hk
  go_wp2_with fail
  refine (unhide C3).mono ?_
  rintro e w3 ⟨rfl, q, rfl⟩
  go_wp2_with fail
  go_ret
  exact ⟨rfl, below_draws (unhide HB2) _⟩
end Go.Proofs.Ytdkchihomllokaa


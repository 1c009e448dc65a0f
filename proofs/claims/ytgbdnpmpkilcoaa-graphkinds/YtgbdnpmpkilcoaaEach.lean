/-
  The contracts of eachOnce and of the document's Each: whether a list has each number below another one once. Conditions: the list lies in memory as told.
-/
import Derived.Test.YtgbdnpmpkilcoaaCycL
import Derived.Test.YtgbdnpmpkilcoaaSm
namespace Go.Proofs.Ytgbdnpmpkilcoaa
open Go.RowKit
set_option linter.unusedVariables false

/-- each number below n once -/
def IsPerm (n : Nat) (xs : List Int) : Prop := xs.length = n ∧ xs.Nodup ∧ ∀ y ∈ xs, 0 ≤ y ∧ y < n
theorem all_perm : ∀ (n : Nat) (l : List Int), l.length = n → (∀ x : Nat, x < n → (x : Int) ∈ l) → l.Nodup ∧ ∀ y ∈ l, 0 ≤ y ∧ y < (n : Int) := by
  intro n
  induction n with
  | zero =>
    intro l hl _
    have : l = [] := List.length_eq_zero_iff.1 hl
    subst this
    simp
  | succ n ih =>
    intro l hl h
    have hm := h n (by omega)
    have hp := List.perm_cons_erase hm
    have hle : (l.erase (n : Int)).length = n := by rw [List.length_erase_of_mem hm]; omega
    obtain ⟨h1, h2⟩ := ih (l.erase (n : Int)) hle (fun x hx => (List.mem_erase_of_ne (by omega)).2 (h x (by omega)))
    constructor
    · rw [hp.nodup_iff, List.nodup_cons]
      exact ⟨fun hn => by have := h2 _ hn; omega, h1⟩
    · intro y hy
      rcases List.mem_cons.1 (hp.mem_iff.1 hy) with rfl | hy'
      · omega
      · have := h2 y hy'
        omega
theorem perm_all {n : Nat} {xs : List Int} (h : IsPerm n xs) (x : Nat) (hx : x < n) : (x : Int) ∈ xs := by
  obtain ⟨h1, h2, h3⟩ := h
  apply Classical.byContradiction
  intro hn
  have hnd : ((xs ++ [(x : Int)]).map Int.toNat).Nodup := by
    rw [List.Nodup, List.pairwise_map]
    have : (xs ++ [(x : Int)]).Nodup := by
      rw [List.nodup_append]
      refine ⟨h2, by simp, fun a ha b hb => ?_⟩
      simp at hb
      subst hb
      exact fun e => hn (e ▸ ha)
    refine List.Pairwise.imp_of_mem ?_ this
    intro a b ha hb hab he
    have f : ∀ y ∈ xs ++ [(x : Int)], 0 ≤ y := by
      intro y hy
      simp at hy
      rcases hy with hy | rfl
      · exact (h3 y hy).1
      · omega
    have := f a ha
    have := f b hb
    omega
  have := Pl.nodup_le n _ hnd (by
    intro y hy
    obtain ⟨z, hz, rfl⟩ := List.mem_map.1 hy
    simp at hz
    rcases hz with hz | rfl
    · have := h3 z hz; omega
    · omega)
  simp at this
  omega
theorem nodup_of_take {xs : List Int} (h : ∀ j, j < xs.length → xs.getD j 0 ∉ xs.take j) : xs.Nodup := by
  rw [List.Nodup, List.pairwise_iff_getElem]
  intro i j hi hj hij he
  apply h j hj
  have e : xs.getD j 0 = xs[j] := by simp [List.getD, hj]
  rw [e, ← he]
  exact List.mem_take_iff_getElem.2 ⟨i, by omega, rfl⟩
theorem take_of_nodup {xs : List Int} (h : xs.Nodup) {j : Nat} (hj : j < xs.length) : xs.getD j 0 ∉ xs.take j := by
  intro hm
  obtain ⟨i, hi, he⟩ := List.mem_take_iff_getElem.1 hm
  have e : xs.getD j 0 = xs[j] := by simp [List.getD, hj]
  rw [e] at he
  exact List.pairwise_iff_getElem.1 h i j (by omega) hj (by omega) he

set_option maxHeartbeats 2000000 in
theorem eachOnce_any (w : World) (a : Option Addr) (m c n : Nat) (xs : List Int) (h : Ns w a m xs) (hmc : m ≤ c) (hn : n ≤ 1000) :
    Calls Try.prog 42 #[.slice a m c, .int .i64 n] w fun e w' => Told (IsPerm n xs) e ∧ w' = w := by
  have HNS := hide h
  obtain ⟨hl, hm, hc⟩ := h
  have HC := hide hc
  have HL := hide hl
  clear hc hl
  by_cases hmn : m = n
  case neg =>
    have hb : ((m : Int) != (n : Int)) = true := by rw [bne_iff_ne]; omega
    go_enter Try.func42, Try.ntmps42
    go_wp2
    go_ret
    exact ⟨.no (fun hp => hmn (by rw [← unhide HL]; exact hp.1)), rfl⟩
  subst hmn
  have hb : ((m : Int) != (m : Int)) = false := by simp
  go_enter Try.func42, Try.ntmps42
  go_wp2
  go_loop [13] (fun i => ∃ k : Nat, i = .int .i64 k ∧ k ≤ m ∧ Hid (∀ j, j < k → inB (xs.getD j 0) m = true ∧ xs.getD j 0 ∉ xs.take j)) (fun i => m - (intOf i).toNat)
  case atStart => exact ⟨0, rfl, by omega, fun j hj => by omega⟩
  case round =>
    obtain ⟨k, rfl, hk, HA⟩ := hrel
    by_cases hlt : k < m
    · obtain ⟨g, off, ha, hg, d0⟩ := unhide HC k hlt
      have hNt := ns_take (unhide HNS) (p := k) (by omega)
      have HNT := hide hNt
      subst ha
      obtain ⟨y, hy⟩ : ∃ y, xs.getD k 0 = y := ⟨_, rfl⟩
      rw [hy] at d0
      have HY := hide hy
      have hlt2 : (k : Int) < (m : Int) := by omega
      have hkc : (k : Int) ≤ (c : Int) := by omega
      have hbad : (inB y m = false ∨ y ∈ xs.take k) → ¬ IsPerm m xs := by
        intro hb hp
        rcases hb with hb | hb
        · have := hp.2.2 y (by rw [← hy]; have hk' : k < xs.length := by rw [unhide HL]; exact hlt
                               simp [List.getD, hk'])
          simp [inB] at hb
          omega
        · rw [← hy] at hb
          exact take_of_nodup hp.2.1 (by rw [unhide HL]; exact hlt) hb
      have HBAD := hide hbad
      clear hy hNt hbad
      cases hi : inB y m with
      | false =>
        have HI := hide hi
        clear hi
        go_wp2_with (go_at_call 36; refine (within_any _ _ _).mono ?_; rintro e w' ⟨rfl, hw'⟩; obtain rfl := hw'.symm; rw [unhide HI])
        go_ret
        exact ⟨.no (unhide HBAD (.inl (unhide HI))), rfl⟩
      | true =>
        have HI := hide hi
        clear hi
        cases hin : decide (y ∈ xs.take k) with
        | true =>
          have HIN := hide hin
          clear hin
          go_wp2_with (first | (go_at_call 36; refine (within_any _ _ _).mono ?_; rintro e w' ⟨rfl, hw'⟩; obtain rfl := hw'.symm; rw [unhide HI]) | (go_at_call 45; refine (contains_any w _ k _ (xs.take k) y (unhide HNT)).mono ?_; rintro e w' ⟨rfl, hw'⟩; obtain rfl := hw'.symm; rw [unhide HIN]))
          go_ret
          exact ⟨.no (unhide HBAD (.inr (of_decide_eq_true (unhide HIN)))), rfl⟩
        | false =>
          have HIN := hide hin
          clear hin
          go_wp2_with (first | (go_at_call 36; refine (within_any _ _ _).mono ?_; rintro e w' ⟨rfl, hw'⟩; obtain rfl := hw'.symm; rw [unhide HI]) | (go_at_call 45; refine (contains_any w _ k _ (xs.take k) y (unhide HNT)).mono ?_; rintro e w' ⟨rfl, hw'⟩; obtain rfl := hw'.symm; rw [unhide HIN]))
          go_round
          case rel =>
            refine ⟨k + 1, by go_num, by omega, fun j hj => ?_⟩
            by_cases hjk : j < k
            · exact unhide HA j hjk
            · obtain rfl : j = k := by omega
              rw [unhide HY]
              exact ⟨unhide HI, of_decide_eq_false (unhide HIN)⟩
          case measure => simp [intOf]; omega
    · obtain rfl : k = m := by omega
      go_wp2
      go_ret
      refine ⟨.yes ⟨unhide HL, nodup_of_take (fun j hj => (unhide HA j (by rw [unhide HL] at hj; exact hj)).2), fun y hy => ?_⟩, rfl⟩
      obtain ⟨j, hj, rfl⟩ := List.mem_iff_getElem.1 hy
      have := (unhide HA j (by rw [unhide HL] at hj; exact hj)).1
      rw [show xs.getD j 0 = xs[j] by simp [List.getD, hj]] at this
      simpa [inB] using this

set_option maxHeartbeats 2000000 in
theorem each_any (w : World) (a : Option Addr) (m c n : Nat) (xs : List Int) (h : Ns w a m xs) (hn : n ≤ 1000) :
    Calls Try.prog 26 #[.slice a m c, .int .i64 n] w fun e w' => Told (IsPerm n xs) e ∧ w' = w := by
  have HNS := hide h
  have hl := h.1
  have HL := hide hl
  clear h hl
  by_cases hmn : m = n
  case neg =>
    have hb : ((m : Int) != (n : Int)) = true := by rw [bne_iff_ne]; omega
    go_enter Try.func26, Try.ntmps26
    go_wp2
    go_ret
    exact ⟨.no (fun hp => hmn (by rw [← unhide HL]; exact hp.1)), rfl⟩
  subst hmn
  have hb : ((m : Int) != (m : Int)) = false := by simp
  go_enter Try.func26, Try.ntmps26
  go_wp2
  go_loop [5] (fun i => ∃ k : Nat, i = .int .i64 k ∧ k ≤ m ∧ Hid (∀ j : Nat, j < k → (j : Int) ∈ xs)) (fun i => m - (intOf i).toNat)
  case atStart => exact ⟨0, rfl, by omega, fun j hj => by omega⟩
  case round =>
    obtain ⟨k, rfl, hk, HA⟩ := hrel
    by_cases hlt : k < m
    · have hlt2 : (k : Int) < (m : Int) := by omega
      by_cases hin : (k : Int) ∈ xs
      · have hx := (ix_nonneg xs k).2 hin
        have HIN := hide hin
        clear hin
        obtain ⟨r, hr⟩ : ∃ r, ix xs k = r := ⟨_, rfl⟩
        rw [hr] at hx
        have HR := hide hr
        clear hr
        have hr2 : ¬ r < 0 := by omega
        go_wp2_with (go_at_call 41; refine (has_any w _ m _ xs k (unhide HNS)).mono ?_; rintro e w' ⟨rfl, hw'⟩; obtain rfl := hw'.symm; rw [unhide HR])
        go_round
        case rel =>
          refine ⟨k + 1, by go_num, by omega, fun j hj => ?_⟩
          by_cases hjk : j < k
          · exact unhide HA j hjk
          · obtain rfl : j = k := by omega
            exact unhide HIN
        case measure => simp [intOf]; omega
      · have hx : ix xs k < 0 := by
          rcases Int.lt_or_le (ix xs k) 0 with h | h
          · exact h
          · exact absurd ((ix_nonneg xs k).1 h) hin
        have HIN := hide hin
        clear hin
        obtain ⟨r, hr⟩ : ∃ r, ix xs k = r := ⟨_, rfl⟩
        rw [hr] at hx
        have HR := hide hr
        clear hr
        go_wp2_with (go_at_call 41; refine (has_any w _ m _ xs k (unhide HNS)).mono ?_; rintro e w' ⟨rfl, hw'⟩; obtain rfl := hw'.symm; rw [unhide HR])
        go_ret
        exact ⟨.no (fun hp => unhide HIN (perm_all hp k hlt)), rfl⟩
    · obtain rfl : k = m := by omega
      go_wp2
      go_ret
      have := all_perm k xs (unhide HL) (unhide HA)
      exact ⟨.yes ⟨unhide HL, this.1, this.2⟩, rfl⟩
end Go.Proofs.Ytgbdnpmpkilcoaa

/-
  What the statements call: Good, SameItems, speaks. Conditions: as told.
-/
import Derived.Test.YtdkchihomllokaaPa9
import Derived.Test.YtdkchihomllokaaNw9
import Derived.Test.YtdkchihomllokaaRefChk
namespace Go.Proofs.Ytdkchihomllokaa
open Go.RowKit
set_option linter.unusedVariables false
set_option maxRecDepth 20000

set_option maxHeartbeats 2000000 in
/-- the document's Good, by what its Check tells -/
theorem good_is (w : World) (V : Int) (a : Option Addr) (n cap : Nat) (c : Int)
    (hchk : ∀ u, Below w.heap.size w u → Calls Try.prog 29 #[.agg #[.int .i64 V, .slice a n cap]] u fun e u' => (∃ p va m k, e = .returned (.tuple #[.int .i64 c, .int .i64 p, .slice va m k])) ∧ Below u.heap.size u u') :
    Calls Try.prog 9 #[.agg #[.int .i64 V, .slice a n cap]] w fun e w' => e = .returned (.bool (c == 0)) ∧ Below w.heap.size w w' := by
  have hb0 := b_al (w := w) (.cells #[.int .i64 V, .slice a n cap] 24)
  have C := hide (hchk _ hb0)
  have HB0 := hide hb0
  clear hchk hb0
  go_enter Try.func9, Try.ntmps9
  go_wp2_with fail
  refine (unhide C).mono ?_
  rintro e w1 ⟨⟨p, va, m, k, rfl⟩, hb1⟩
  have HB1 := hide ((unhide HB0).trans (hb1.mono (unhide HB0).size))
  clear C hb1
  go_wp2_with fail
  go_ret
  exact ⟨rfl, unhide HB1⟩
theorem fault_is {V : Nat} {es : List (Nat × Nat)} (hp : Plain V es) : ∃ c p l, IsFault V es c p l := by
  by_cases h1 : 0 ≤ lpI es
  · exact ⟨_, _, _, .inl ⟨h1, rfl, rfl, rfl⟩⟩
  · by_cases h2 : 0 ≤ twI es
    · exact ⟨_, _, _, .inr (.inl ⟨by omega, h2, rfl, rfl, rfl⟩)⟩
    · cases hs : Pl.start V es with
      | none =>
        by_cases h3 : 1 < (bare (Pl.ins es) V).length
        · exact ⟨_, _, _, .inr (.inr (.inr (.inl ⟨by omega, by omega, hs, rfl, rfl, h3, rfl⟩)))⟩
        · exact ⟨_, _, _, .inr (.inr (.inr (.inr ⟨by omega, by omega, hs, rfl, rfl, by omega, rfl⟩)))⟩
      | some a0 =>
        have hmin : ∀ l : List Nat, l ≠ [] → ∃ m, Pl.LeastAt l m := by
          intro l
          induction l with
          | nil => intro h; exact absurd rfl h
          | cons x l ih =>
            intro _
            by_cases hl : l = []
            · subst hl
              refine ⟨0, by simp, fun j hj => ?_⟩
              obtain rfl : j = 0 := by simpa using hj
              exact Nat.le_refl _
            · obtain ⟨m, hm1, hm2⟩ := ih hl
              by_cases hx : x ≤ l.getD m 0
              · refine ⟨0, by simp, fun j hj => ?_⟩
                cases j with
                | zero => exact Nat.le_refl _
                | succ j =>
                  have := hm2 j (by simpa using hj)
                  simp only [List.getD_cons_zero, List.getD_cons_succ]
                  omega
              · refine ⟨m + 1, by simpa using hm1, fun j hj => ?_⟩
                cases j with
                | zero =>
                  simp only [List.getD_cons_zero, List.getD_cons_succ]
                  omega
                | succ j =>
                  simp only [List.getD_cons_succ]
                  exact hm2 j (by simpa using hj)
        have hr : Pl.ring V es a0 ≠ [] := by
          have hw := Pl.Way.ends hp.ends (V + 1) [] a0 (Pl.Way.nil (start_left hs)) (by simp)
          intro he
          unfold Pl.ring at he
          rw [List.drop_eq_nil_iff] at he
          have hlt := List.findIdx_lt_length_of_exists (p := (· == (Pl.walkF V es (V + 1) [] a0).2)) ⟨_, hw.2, by simp⟩
          omega
        obtain ⟨m, hm⟩ := hmin _ hr
        exact ⟨_, _, _, .inr (.inr (.inl ⟨by omega, by omega, rfl, rfl, a0, m, hs, hm, rfl⟩))⟩

/-- a good graph has one source -/
theorem one_source {V : Nat} {es : List (Nat × Nat)} (hp : Plain V es) (h : IsFault V es 0 0 []) : ∃ src, bare (Pl.ins es) V = [src] := by
  have hh : Pl.start V es = none ∧ (bare (Pl.ins es) V).length ≤ 1 := by
    rcases h with ⟨_, h1, _⟩ | ⟨_, _, h1, _⟩ | ⟨_, _, h1, _⟩ | ⟨_, _, _, h1, _⟩ | ⟨_, _, h1, _, _, h2, _⟩
    · cases h1
    · cases h1
    · cases h1
    · cases h1
    · exact ⟨h1, h2⟩
  have h0 : 0 ∈ Pl.order V es := by
    have := List.find?_eq_none.1 hh.1 0 (List.mem_range.2 hp.v1)
    by_cases hm : 0 ∈ Pl.order V es
    · exact hm
    · exact absurd (Pl.lf_iff.2 hm) this
  cases hn : Pl.next V es [] with
  | none =>
    have : Pl.order V es = [] := Pl.peelF_stop V hn
    rw [this] at h0
    simp at h0
  | some x0 =>
    obtain ⟨h1, h2, _⟩ := Pl.next_some hn
    have hi : Pl.ins es x0 = [] := by
      rw [List.eq_nil_iff_forall_not_mem]
      intro i hi
      obtain ⟨hl, he⟩ := mem_ins.1 hi
      have := (Pl.ready_iff.1 h1).2 _ (Pl.at_mem hl) he
      simp at this
    have hb : x0 ∈ bare (Pl.ins es) V := by
      unfold bare
      exact List.mem_filter.2 ⟨List.mem_range.2 h2, by rw [hi]; rfl⟩
    rcases hl : bare (Pl.ins es) V with _ | ⟨s, r⟩
    · rw [hl] at hb; simp at hb
    · have := hh.2
      rw [hl] at this
      have : r = [] := by simpa using this
      rw [this]
      exact ⟨s, rfl⟩

set_option maxHeartbeats 2000000 in
theorem sameItems_yes (w : World) (a1 a2 : Option Addr) (c1 c2 : Nat) (l : List It) (h1 : Is w a1 l) (h2 : Is w a2 l) :
    Calls Try.prog 15 #[.slice a1 l.length c1, .slice a2 l.length c2] w fun e w' => e = .returned (.bool true) ∧ Below w.heap.size w w' := by
  have H1 := hide h1
  have H2 := hide h2
  obtain ⟨n, hn⟩ : ∃ n, l.length = n := ⟨_, rfl⟩
  have hn47 : n ≤ 140737488355328 := by have := h1.2.1; omega
  have HN := hide hn
  rw [hn]
  have t1 : ((n : Int) != (n : Int)) = false := by simp
  clear h1 h2 hn
  go_enter Try.func15, Try.ntmps15
  go_wp2_with fail
  go_loopw [5] (fun i wr => ∃ k m : Nat, i = .int .i64 k ∧ k ≤ n ∧ wr = w.drewN m) (fun i wr => n - (intOf i).toNat)
  case atStart => exact ⟨0, 0, rfl, by omega, rfl⟩
  case round =>
    obtain ⟨k, m, rfl, hk, rfl⟩ := hrel
    by_cases hlt : k < n
    · obtain ⟨g, off, ha, hg, c0, k0, d0⟩ := (unhide H1).at (show k < l.length by rw [unhide HN]; exact hlt)
      obtain ⟨g2, off2, ha2, hg2, c02, k02, d02⟩ := (unhide H2).at (show k < l.length by rw [unhide HN]; exact hlt)
      subst ha
      subst ha2
      generalize l.getD k (0, 0, 0) = it at c0 k0 d0 c02 k02 d02
      obtain ⟨x, y, z⟩ := it
      simp only at c0 k0 d0 c02 k02 d02
      have hkn : (k : Int) < (n : Int) := by omega
      have hwk : IntKind.i64.wrap ((k : Int) + 1) = (k : Int) + 1 := by rw [IntKind.wrap_i64]; omega
      go_wp2_with fail
      go_quiet (fail)
      go_wp2_with fail
      go_roundw
      case rel => exact ⟨k + 1, _, by go_num, by omega, rfl⟩
      case measure => simp [intOf]; omega
    · obtain rfl : k = n := by omega
      go_wp2_with fail
      go_ret
      exact ⟨rfl, below_draws (Below.refl _ _) _⟩
end Go.Proofs.Ytdkchihomllokaa


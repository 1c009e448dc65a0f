/-
  The contracts of slices.Clone at ints and at edges, and of slices.Min. Conditions: the rows lie in memory as told.
-/
import Derived.Test.YtdkchihomllokaaBase
import Derived.WalkLawsBesides
import Derived.Laws.AppendOwnNone
namespace Go.Proofs.Ytdkchihomllokaa
open Go.RowKit
set_option linter.unusedVariables false

theorem Ns.cells {w : World} {p : Addr} {n : Nat} {xs : List Int} (h : Ns w (some p) n xs) : ∀ j u, (zcells xs)[j]? = some u → w.cell? (p.add j) = some u := by
  obtain ⟨h1, h2, h3⟩ := h
  intro j u hj
  have hlt : j < n := by have := (List.getElem?_eq_some_iff.1 hj).1; rw [zcells_length] at this; omega
  obtain ⟨g, off, ha, hg, c⟩ := h3 j hlt
  obtain rfl := Option.some.inj ha
  rw [Addr.add_lit, c, ← hj]
  simp [zcells, show j < xs.length by omega]
theorem zcells_one (xs : List Int) : ∀ u ∈ zcells xs, u.oneCell' = true := by
  intro u hu
  obtain ⟨x, _, rfl⟩ := List.mem_map.1 hu
  rfl
theorem ecells_one (xs : List (Int × Int)) : ∀ u ∈ ecells xs, u.oneCell' = true := by
  intro u hu
  obtain ⟨x, _, hx⟩ := List.mem_flatMap.1 hu
  simp at hx
  rcases hx with rfl | rfl <;> rfl
theorem Es.cells {B : Nat} {w : World} {p : Addr} {n : Nat} {es : List (Int × Int)} (h : Es B w (some p) n es) : ∀ j u, (ecells es)[j]? = some u → w.cell? (p.add j) = some u := by
  obtain ⟨h1, h2, h3⟩ := h
  intro j u hj
  have hlt : j < n * 2 := by have := (List.getElem?_eq_some_iff.1 hj).1; rw [ecells_length] at this; omega
  obtain ⟨g, off, ha, _, hg, c0, c1⟩ := h3 (j / 2) (by omega)
  obtain rfl := Option.some.inj ha
  have he := ecells_at es (j / 2) (by omega)
  rw [Addr.add_lit]
  by_cases hp : j % 2 = 0
  · rw [show j = j / 2 * 2 by omega] at hj ⊢
    rw [he.1] at hj
    rw [c0, hj]
  · rw [show j = j / 2 * 2 + 1 by omega] at hj ⊢
    rw [he.2] at hj
    rw [← Nat.add_assoc, c1, hj]

theorem owns_lit_empty (w : World) (e : TypeId) (size : Nat) (base : Nat) (hb : base ≤ w.heap.size) : (w.alloc (.cells #[] e)).ownsRow base e size (.slice (some ⟨w.heap.size, 0, none⟩) 0 0) 0 [] :=
  World.ownsRow_made w #[] 0 hb (by unfold maxLen; omega) (by simp)

set_option maxHeartbeats 1000000 in
theorem clone_nil (w : World) : Calls Try.prog 31 #[.slice none 0 0] w fun e w' => e = .returned (.slice none 0 0) ∧ w' = w := by
  have q28 : ∀ (w : World) (a : Option Addr) (n c n' c' : Nat), (binOp .eql 34 (.slice a n c) (.slice none n' c')).run Try.prog w = .ok (.bool a.isNone) w := fun w a n c n' c' => Lib.run_eql_slice_nil w _ _ a n c n' c' Try.underlying34
  go_enter Try.func31, Try.ntmps31
  go_wp2
  go_ret
  exact ⟨rfl, rfl⟩

set_option maxHeartbeats 1000000 in
theorem clone_some (w : World) (p : Addr) (n c : Nat) (xs : List Int) (h : Ns w (some p) n xs) (hn : n ≤ 1000000) :
    Calls Try.prog 31 #[.slice (some p) n c] w fun e w' => (∃ v, e = .returned v ∧ w'.ownsRow w.heap.size 3 1 v n (zcells xs) ∧ v ≠ .slice none 0 0) ∧ Below w.heap.size w w' := by
  obtain ⟨i0, hi0, hz0, hz1, hz2⟩ := info_parts info3
  have HI := hide hi0
  have HZ0 := hide hz0
  have HZ1 := hide hz1
  have HZ2 := hide hz2
  have HN := hide h
  have hxl : xs.length = n := h.1
  have HXL := hide hxl
  clear hi0 hz0 hz1 hz2 h hxl
  have q28 : ∀ (w : World) (a : Option Addr) (n c n' c' : Nat), (binOp .eql 34 (.slice a n c) (.slice none n' c')).run Try.prog w = .ok (.bool a.isNone) w := fun w a n c n' c' => Lib.run_eql_slice_nil w _ _ a n c n' c' Try.underlying34
  go_enter Try.func31, Try.ntmps31
  go_wp2_with (at_builtin; refine wpList_append_own _ rfl (.tmp 5) (.tmp 6) 34 rfl w.heap.size 3 i0 (.int .i64 0) 1 8 Try.underlying34 (unhide HI) (unhide HZ0) (unhide HZ1) (unhide HZ2) rfl (by decide) _ 0 [] rfl (owns_lit_empty w 3 1 w.heap.size (Nat.le_refl _)) p n c (zcells xs) rfl ?c1 ?c2 ?c3 ?c4 ?c5 ?c6 ?_)
  case c1 => rw [zcells_length, unhide HXL]; omega
  case c2 => exact ((unhide HN).below ((Below.refl _ _).alloc (Nat.le_refl _) _)).cells
  case c3 => exact zcells_one xs
  case c4 => unfold maxLen; omega
  case c5 => omega
  case c6 => simp
  intro v2 w4 hown4 hg4 hnil
  have HO := hide hown4
  have HG := hide hg4
  have HV := hide hnil
  clear hown4 hg4 hnil
  go_wp2
  go_ret
  refine ⟨⟨v2, rfl, ?_, ?_⟩, ?_⟩
  · have := unhide HO
    simpa using this
  · intro hv
    exact unhide HV hv
  · exact ((Below.refl _ _).alloc (Nat.le_refl _) _).grown (unhide HG) (by simp) (fun k hk => by simp [Value.ownBlock] at hk; omega)

set_option maxHeartbeats 1000000 in
theorem cloneE_nil (w : World) : Calls Try.prog 50 #[.slice none 0 0] w fun e w' => e = .returned (.slice none 0 0) ∧ w' = w := by
  have q22 : ∀ (w : World) (a : Option Addr) (n c n' c' : Nat), (binOp .eql 22 (.slice a n c) (.slice none n' c')).run Try.prog w = .ok (.bool a.isNone) w := fun w a n c n' c' => Lib.run_eql_slice_nil w _ _ a n c n' c' Try.underlying22
  go_enter Try.func50, Try.ntmps50
  go_wp2
  go_ret
  exact ⟨rfl, rfl⟩

set_option maxHeartbeats 1000000 in
theorem cloneE_some (w : World) (p : Addr) (n c : Nat) (xs : List (Int × Int)) {B : Nat} (h : Es B w (some p) n xs) (hn : n ≤ 1000000) :
    Calls Try.prog 50 #[.slice (some p) n c] w fun e w' => (∃ v, e = .returned v ∧ w'.ownsRow w.heap.size 62 2 v n (ecells xs) ∧ v ≠ .slice none 0 0) ∧ Below w.heap.size w w' := by
  obtain ⟨i0, hi0, hz0, hz1, hz2⟩ := info_parts info54
  have HI := hide hi0
  have HZ0 := hide hz0
  have HZ1 := hide hz1
  have HZ2 := hide hz2
  have HN := hide h
  have hxl : xs.length = n := h.1
  have HXL := hide hxl
  clear hi0 hz0 hz1 hz2 h hxl
  have q22 : ∀ (w : World) (a : Option Addr) (n c n' c' : Nat), (binOp .eql 22 (.slice a n c) (.slice none n' c')).run Try.prog w = .ok (.bool a.isNone) w := fun w a n c n' c' => Lib.run_eql_slice_nil w _ _ a n c n' c' Try.underlying22
  go_enter Try.func50, Try.ntmps50
  go_wp2_with (at_builtin; refine wpList_append_own _ rfl (.tmp 5) (.tmp 6) 22 rfl w.heap.size 62 i0 (.agg #[.int .i64 0, .int .i64 0]) 2 16 Try.underlying22 (unhide HI) (unhide HZ0) (unhide HZ1) (unhide HZ2) rfl (by decide) _ 0 [] rfl (owns_lit_empty w 62 2 w.heap.size (Nat.le_refl _)) p n c (ecells xs) rfl ?c1 ?c2 ?c3 ?c4 ?c5 ?c6 ?_)
  case c1 => rw [ecells_length, unhide HXL]
  case c2 => exact ((unhide HN).below ((Below.refl _ _).alloc (Nat.le_refl _) _)).cells
  case c3 => exact ecells_one xs
  case c4 => unfold maxLen; omega
  case c5 => omega
  case c6 => simp
  intro v2 w4 hown4 hg4 hnil
  have HO := hide hown4
  have HG := hide hg4
  have HV := hide hnil
  clear hown4 hg4 hnil
  go_wp2
  go_ret
  refine ⟨⟨v2, rfl, ?_, ?_⟩, ?_⟩
  · have := unhide HO
    simpa using this
  · intro hv
    exact unhide HV hv
  · exact ((Below.refl _ _).alloc (Nat.le_refl _) _).grown (unhide HG) (by simp) (fun k hk => by simp [Value.ownBlock] at hk; omega)
end Go.Proofs.Ytdkchihomllokaa

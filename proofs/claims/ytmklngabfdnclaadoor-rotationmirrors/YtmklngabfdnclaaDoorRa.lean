/-
  The contracts of the document's At, of great, and of the document's Right. Conditions: the graph and the lists lie in memory as told.
-/
import Derived.Test.YtmklngabfdnclaaDoorGe
import Derived.Test.YtmklngabfdnclaaDoorRefMay
namespace Go.Proofs.YtmklngabfdnclaaDoor
open Go.RowKit
set_option linter.unusedVariables false
set_option maxRecDepth 20000

set_option maxHeartbeats 2000000 in
theorem at_any (w : World) (V : Int) (a : Option Addr) (n cap : Nat) (es : List (Int × Int)) {B : Nat} (h : Es B w a n es) (j : Nat) (hj : j < 2 * n) (hn : n ≤ 128) :
    Calls Tryd.prog 22 #[.agg #[.int .i64 V, .slice a n cap], .int .i64 (j : Nat)] w fun e w' => e = .returned (.int .i64 (atI es j)) ∧ Below w.heap.size w w' := by
  have HB0 := hide (Bg.start w (.int .i64 V) (.slice a n cap))
  have hi : j / 2 < n := by omega
  obtain ⟨g, off, ha, _, hg, c0, c1⟩ := h.2.2 (j / 2) hi
  subst ha
  have HAT := hide (show atI es j = if j % 2 = 0 then (es.getD (j / 2) (0, 0)).1 else (es.getD (j / 2) (0, 0)).2 from rfl)
  obtain ⟨⟨x, y⟩, hxy⟩ : ∃ e, es.getD (j / 2) (0, 0) = e := ⟨_, rfl⟩
  rw [hxy] at c0 c1 HAT
  simp only at c0 c1
  obtain ⟨g0, g1⟩ := (unhide HB0).cells
  have d0 : (w.alloc (.cells #[.int .i64 V, .slice (some ⟨g, off, none⟩) n cap] 24)).cell? ⟨g, off + j / 2 * 2, none⟩ = some (.int .i64 x) := by rw [(unhide HB0).bel.cell (p := ⟨g, off + j / 2 * 2, none⟩) hg]; exact c0
  have d1 : (w.alloc (.cells #[.int .i64 V, .slice (some ⟨g, off, none⟩) n cap] 24)).cell? ⟨g, off + j / 2 * 2 + 1, none⟩ = some (.int .i64 y) := by rw [(unhide HB0).bel.cell (p := ⟨g, off + j / 2 * 2 + 1, none⟩) hg]; exact c1
  have hq : ((j : Nat) : Int).tdiv 2 = ((j / 2 : Nat) : Int) := by rw [show (2 : Int) = ((2 : Nat) : Int) from rfl, ← Int.ofNat_tdiv]
  have hw : IntKind.i64.wrap ((j / 2 : Nat) : Int) = ((j / 2 : Nat) : Int) := by rw [IntKind.wrap_i64]; omega
  have hi2 : ((j / 2 : Nat) : Int) < (n : Int) := by omega
  have hr : ((j : Nat) : Int).tmod 2 = ((j % 2 : Nat) : Int) := by rw [show (2 : Int) = ((2 : Nat) : Int) from rfl, ← Int.ofNat_tmod]
  have hwr : IntKind.i64.wrap ((j % 2 : Nat) : Int) = ((j % 2 : Nat) : Int) := by rw [IntKind.wrap_i64]; omega
  clear c0 c1 hxy h
  by_cases h0 : j % 2 = 0
  · have t1 : (((j % 2 : Nat) : Int) == 0) = true := by simp [h0]
    have HA := hide (show atI es j = x by rw [unhide HAT, if_pos h0])
    clear HAT
    generalize j / 2 = i at *
    generalize j % 2 = r at *
    clear h0
    go_enter Tryd.func22, Tryd.ntmps22
    go_wp2_with fail
    go_ret
    exact ⟨ret_i (unhide HA).symm, (unhide HB0).bel⟩
  · have t1 : (((j % 2 : Nat) : Int) == 0) = false := by rw [beq_eq_false_iff_ne]; omega
    have HA := hide (show atI es j = y by rw [unhide HAT, if_neg h0])
    clear HAT
    generalize j / 2 = i at *
    generalize j % 2 = r at *
    clear h0
    go_enter Tryd.func22, Tryd.ntmps22
    go_wp2_with fail
    go_ret
    exact ⟨ret_i (unhide HA).symm, (unhide HB0).bel⟩

/-- rows of rows that came in: where they are few, their slices; where a slice is short, its numbers -/
def Rq (w : World) (a : Option Addr) (n : Nat) (rs : List (List Int)) : Prop :=
  rs.length = n ∧ (n ≤ 1000 → ∀ k, k < n → ∃ g off la lc, a = some ⟨g, off, none⟩ ∧ g < w.heap.size ∧ w.cell? ⟨g, off + k, none⟩ = some (.slice la (rs.getD k []).length lc) ∧ (rs.getD k []).length ≤ lc ∧ ((rs.getD k []).length ≤ 1000 → Ns w la (rs.getD k []).length (rs.getD k [])))
theorem Rq.below {w w' : World} {a : Option Addr} {n : Nat} {rs : List (List Int)} (h : Rq w a n rs) (hb : Below w.heap.size w w') : Rq w' a n rs := by
  refine ⟨h.1, fun hn k hk => ?_⟩
  obtain ⟨g, off, la, lc, ha, hg, c0, hc, hs⟩ := h.2 hn k hk
  exact ⟨g, off, la, lc, ha, Nat.lt_of_lt_of_le hg hb.size, by rw [hb.cell (p := ⟨g, off + k, none⟩) hg]; exact c0, hc, fun hl => (hs hl).below hb⟩
theorem Rq.rr {w : World} {a : Option Addr} {n : Nat} {rs : List (List Int)} (h : Rq w a n rs) (hn : n ≤ 1000) (hl : ∀ k, k < n → (rs.getD k []).length ≤ 1000) : Rr w a n rs := by
  refine ⟨h.1, by omega, fun k hk => ?_⟩
  obtain ⟨g, off, la, lc, ha, hg, c0, hc, hs⟩ := h.2 hn k hk
  exact ⟨g, off, la, lc, ha, hg, c0, hc, hs (hl k hk)⟩
/-- too great to be looked at -/
def GreatP (n m : Nat) (rs : List (List Int)) : Prop := 60 < n ∨ 70 < m ∨ ∃ k, k < m ∧ 200 < (rs.getD k []).length

set_option maxHeartbeats 4000000 in
theorem great_any (w : World) (V : Int) (a : Option Addr) (n cap : Nat) (ra : Option Addr) (m rc : Nat) (rs : List (List Int)) (hr : Rq w ra m rs) :
    Calls Tryd.prog 7 #[.agg #[.int .i64 V, .slice a n cap], .slice ra m rc] w fun e w' => Told (GreatP n m rs) e ∧ Below w.heap.size w w' := by
  have HB0 := hide (Bg.start w (.int .i64 V) (.slice a n cap))
  have HR := hide hr
  obtain ⟨g0, g1⟩ := (unhide HB0).cells
  clear hr
  by_cases h1 : n ≤ 60
  case neg =>
    have t1 : (60 : Int) < (n : Int) := by omega
    go_enter Tryd.func7, Tryd.ntmps7
    go_wp2_with fail
    go_ret
    exact ⟨Told.yes (.inl (by omega)), (unhide HB0).bel⟩
  have t1 : decide ((60 : Int) < (n : Int)) = false := decide_eq_false (by omega)
  have t1' : ¬ (60 : Int) < (n : Int) := by omega
  by_cases h2 : m ≤ 70
  case neg =>
    have t2 : (70 : Int) < (m : Int) := by omega
    go_enter Tryd.func7, Tryd.ntmps7
    go_wp2_with fail
    go_ret
    exact ⟨Told.yes (.inr (.inl (by omega))), (unhide HB0).bel⟩
  have t2 : decide ((70 : Int) < (m : Int)) = false := decide_eq_false (by omega)
  have t2' : ¬ (70 : Int) < (m : Int) := by omega
  go_enter Tryd.func7, Tryd.ntmps7
  go_wp2_with fail
  clear g0 g1
  go_loopw [18] (fun i wr => ∃ k : Nat, i = .int .i64 k ∧ k ≤ m ∧ wr = w.alloc (.cells #[.int .i64 V, .slice a n cap] 24) ∧ Hid (∀ j, j < k → (rs.getD j []).length ≤ 200)) (fun i wr => m - (intOf i).toNat)
  case atStart => exact ⟨0, rfl, by omega, rfl, fun j hj => by omega⟩
  case round =>
    obtain ⟨k, rfl, hk, rfl, HS⟩ := hrel
    by_cases hkm : k < m
    · have hkm2 : (k : Int) < (m : Int) := by omega
      obtain ⟨gr, or, la, lc, ha, hgr, d0, hlc, hls⟩ := ((unhide HR).below (unhide HB0).bel).2 (by omega) k hkm
      subst ha
      obtain ⟨l, hl⟩ : ∃ l, (rs.getD k []).length = l := ⟨_, rfl⟩
      rw [hl] at d0
      have HL := hide hl
      clear hlc hls hl
      by_cases h3 : l ≤ 200
      · have t3 : ¬ (200 : Int) < (l : Int) := by omega
        have HS2 := hide (show ∀ j, j < k + 1 → (rs.getD j []).length ≤ 200 from fun j hj => by
          by_cases hjk : j = k
          · rw [hjk, unhide HL]; exact h3
          · exact unhide HS j (by omega))
        go_wp2_with fail
        go_roundw
        case rel => exact ⟨k + 1, by go_num, by omega, (by first | rfl | trivial), HS2⟩
        case measure => simp [intOf]; omega
      · have t3 : (200 : Int) < (l : Int) := by omega
        go_wp2_with fail
        go_ret
        exact ⟨Told.yes (.inr (.inr ⟨k, hkm, by rw [unhide HL]; omega⟩)), (unhide HB0).bel⟩
    · obtain rfl : k = m := by omega
      go_wp2_with fail
      go_ret
      refine ⟨Told.no ?_, (unhide HB0).bel⟩
      rintro (h | h | ⟨j, hj, h⟩)
      · omega
      · omega
      · have := unhide HS j hj
        omega
end Go.Proofs.YtmklngabfdnclaaDoor


/-
  The contracts of the program's standing and Right: whether lists are a rotation. Conditions: the graph and the lists lie in memory as told.
-/
import Derived.Test.YtmklngabfdnclaaDoorTf
namespace Go.Proofs.YtmklngabfdnclaaDoor
open Go.RowKit
set_option linter.unusedVariables false
set_option maxRecDepth 20000

/-- at which vertex a half edge stands -/
def atI (es : List (Int × Int)) (h : Nat) : Int := if h % 2 = 0 then (es.getD (h / 2) (0, 0)).1 else (es.getD (h / 2) (0, 0)).2
def stL (es : List (Int × Int)) : List Int := es.flatMap fun e => [e.1, e.2]
theorem stL_snoc (es : List (Int × Int)) (x y : Int) : stL (es ++ [(x, y)]) = stL es ++ [x, y] := by simp [stL]
theorem stL_length (es : List (Int × Int)) : (stL es).length = 2 * es.length := by
  induction es with
  | nil => rfl
  | cons e es ih =>
    have : stL (e :: es) = e.1 :: e.2 :: stL es := by simp [stL]
    rw [this]
    simp [ih]
    omega
theorem stL_getD (es : List (Int × Int)) : ∀ h, h < 2 * es.length → (stL es).getD h 0 = atI es h := by
  induction es with
  | nil => intro h hh; simp at hh
  | cons e es ih =>
    intro h hh
    have e1 : stL (e :: es) = e.1 :: e.2 :: stL es := by simp [stL]
    rw [e1]
    match h with
    | 0 => simp [atI]
    | 1 => simp [atI]
    | h + 2 =>
      have := ih h (by simp at hh; omega)
      unfold atI at this ⊢
      rw [show (h + 2) / 2 = h / 2 + 1 by omega, show (h + 2) % 2 = h % 2 by omega]
      simpa using this
theorem stL_map (es : List (Int × Int)) {n : Nat} (hn : es.length = n) : stL es = (List.range (2 * n)).map (atI es) := by
  refine ext_getD (by rw [stL_length]; simp [hn]) fun i hi => ?_
  simp at hi
  rw [stL_getD es i (by omega)]
  simp [List.getD, hi]

set_option maxHeartbeats 4000000 in
theorem standing_any (w : World) (V : Int) (a : Option Addr) (n cap : Nat) (es : List (Int × Int)) {B : Nat} (h : Es B w a n es) (hn : n ≤ 128) :
    Calls Tryd.prog 24 #[.agg #[.int .i64 V, .slice a n cap]] w fun e w' => (∃ v, e = .returned v ∧ w'.ownsRow w.heap.size 3 1 v (2 * n) (zcells (stL es))) ∧ Below w.heap.size w w' := by
  have hl := h.1
  have HE := hide h
  have HB0 := hide (Bg.start w (.int .i64 V) (.slice a n cap))
  have HO0 := hide (show (w.alloc (.cells #[.int .i64 V, .slice a n cap] 24)).ownsRow w.heap.size 3 1 (.slice none 0 0) (2 * 0) (zcells (stL (es.take 0))) from World.ownsRow_nil _ _ _ _)
  have HLE := hide hl
  obtain ⟨i0, hi0, hz0, hz1, hz2⟩ := info_parts info3
  have HI := hide hi0
  have HZ0 := hide hz0
  have HZ1 := hide hz1
  have HZ2 := hide hz2
  clear hi0 hz0 hz1 hz2 h hl
  obtain ⟨g0, g1⟩ := (unhide HB0).cells
  go_enter Tryd.func24, Tryd.ntmps24
  go_wp2_with fail
  clear g0 g1
  go_loopw [3, 9] (fun v i wr => ∃ k : Nat, i = .int .i64 k ∧ k ≤ n ∧ Hid (wr.ownsRow w.heap.size 3 1 v (2 * k) (zcells (stL (es.take k)))) ∧ Hid (Below w.heap.size w wr)) (fun v i wr => n - (intOf i).toNat)
  case atStart => exact ⟨0, rfl, by omega, HO0, hide (unhide HB0).bel⟩
  case round =>
    clear HO0 HB0
    obtain ⟨k, rfl, hk, HO, HB⟩ := hrel
    by_cases hkn : k < n
    · have hkn2 : (k : Int) < (n : Int) := by omega
      obtain ⟨g, off, ha, _, hg, c0, c1⟩ := (unhide HE).2.2 k hkn
      subst ha
      obtain ⟨⟨x, y⟩, hxy⟩ : ∃ e, es.getD k (0, 0) = e := ⟨_, rfl⟩
      rw [hxy] at c0 c1
      simp only at c0 c1
      have d0 : wr.cell? ⟨g, off + k * 2, none⟩ = some (.int .i64 x) := by rw [(unhide HB).cell (p := ⟨g, off + k * 2, none⟩) hg]; exact c0
      have d1 : wr.cell? ⟨g, off + k * 2 + 1, none⟩ = some (.int .i64 y) := by rw [(unhide HB).cell (p := ⟨g, off + k * 2 + 1, none⟩) hg]; exact c1
      have hsz := (unhide HB).size
      have hgr : g < wr.heap.size := by omega
      have hst : stL (es.take (k + 1)) = stL (es.take k) ++ [x, y] := by
        rw [← stL_snoc]
        congr 1
        have hk' : k < es.length := by rw [unhide HLE]; exact hkn
        rw [List.take_succ_eq_append_getElem hk']
        congr 2
        simpa [List.getD, hk'] using hxy
      have HST := hide hst
      have HO1 := hide (((unhide HO).alloc (.cells #[.int .i64 x, .int .i64 y] 44)).alloc (.cells #[.int .i64 x, .int .i64 y] 3))
      have HB1 := hide ((((unhide HB).alloc hsz (.cells #[.int .i64 x, .int .i64 y] 44))).alloc (by simp; omega) (.cells #[.int .i64 x, .int .i64 y] 3))
      clear c0 c1 hxy hst
      go_wp2_with (at_builtin; refine wpList_append_own _ rfl (.tmp 13) (.tmp 18) 36 rfl w.heap.size 3 i0 (.int .i64 0) 1 8 Tryd.underlying36 (unhide HI) (unhide HZ0) (unhide HZ1) (unhide HZ2) rfl (by decide) u3 (2 * k) (zcells (stL (es.take k))) rfl (unhide HO1) ⟨wr.heap.size + 1, 0, none⟩ 2 2 [.int .i64 x, .int .i64 y] rfl rfl ?a2 (two_i x y) ?a3 ?a4 ?a5 ?_)
      case a2 => exact fun j u hj => by have := cell_two_new (wr.alloc (.cells #[.int .i64 x, .int .i64 y] 44)) (.int .i64 x) (.int .i64 y) 3 j u hj; simpa using this
      case a3 => unfold maxLen; omega
      case a4 => omega
      case a5 => simp; omega
      intro v2 w7 hown7 hg7 _
      rw [show zcells (stL (es.take k)) ++ [Value.int .i64 x, .int .i64 y] = zcells (stL (es.take (k + 1))) by rw [unhide HST]; simp [zcells]] at hown7
      rw [show 2 * k + 2 = 2 * (k + 1) by omega] at hown7
      have HO7 := hide hown7
      have HB7 := hide ((unhide HB1).grown hg7 (by simp; omega) fun t ht => ((unhide HO).lt t ht).1)
      clear hown7 hg7 HB1 HO1
      go_wp2_with fail
      go_roundw
      case rel => exact ⟨k + 1, by go_num, by omega, HO7, HB7⟩
      case measure => simp [intOf]; omega
    · obtain rfl : k = n := by omega
      have htk : es.take k = es := List.take_of_length_le (by rw [unhide HLE]; exact Nat.le_refl _)
      rw [htk] at HO
      go_wp2_with fail
      go_ret
      exact ⟨⟨_, rfl, unhide HO⟩, unhide HB⟩
end Go.Proofs.YtmklngabfdnclaaDoor


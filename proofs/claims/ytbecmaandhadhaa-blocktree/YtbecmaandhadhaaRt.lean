/-
  The contract of the document's At: has a block an edge at a vertex? Conditions: the graph and the block lie in memory as told, the block's edges are edges.
-/
import Derived.Test.YtbecmaandhadhaaRk0
import Derived.Deep.RegionHeld3
namespace Go.Proofs.Ytbecmaandhadhaa.pt
open Go.RowKit
set_option linter.unusedVariables false
set_option maxRecDepth 20000

/-- an edge of the list is at x -/
def AtB (es : List (Nat × Nat)) (bl : List Nat) (x : Int) : Prop := ∃ j, j ∈ bl ∧ (((es.getD j (0, 0)).1 : Int) = x ∨ ((es.getD j (0, 0)).2 : Int) = x)

set_option maxHeartbeats 4000000 in
theorem refat_any (w : World) (V : Int) (a : Option Addr) (n cap : Nat) (es : List (Nat × Nat)) {B : Nat} (h : Es B w a n (toI es)) (hne : es.length = n) (hn : n ≤ 1000) (ba : Option Addr) (m bc : Nat) (bl : List Nat) (hb : Ns w ba m (toIs bl)) (hbe : ∀ j ∈ bl, j < es.length) (x : Int) :
    Calls Try.prog 17 #[.agg #[.int .i64 V, .slice a n cap], .slice ba m bc, .int .i64 x] w fun e w' => Told (AtB es bl x) e ∧ Below w.heap.size w w' := by
  have hml : bl.length = m := by have := hb.1; rwa [toIs_length] at this
  have hmb : m ≤ 140737488355328 := hb.2.1
  have HE := hide h
  have HN := hide hne
  have HNB := hide hb
  have HBE := hide hbe
  have HML := hide hml
  have HB0 := hide (Bg.start w (.int .i64 V) (.slice a n cap))
  clear h hne hb hbe hml
  go_enter Try.func17, Try.ntmps17
  go_wp2_with fail
  go_loopw [7] (fun i wr => ∃ k : Nat, i = .int .i64 k ∧ k ≤ m ∧ Hid (∀ t, t < k → ¬ (((es.getD (bl.getD t 0) (0, 0)).1 : Int) = x ∨ ((es.getD (bl.getD t 0) (0, 0)).2 : Int) = x)) ∧ Hid (Bg w wr (.int .i64 V) (.slice a n cap))) (fun i wr => m - (intOf i).toNat)
  case atStart => exact ⟨0, rfl, by omega, (fun t ht => by omega), HB0⟩
  case round =>
    clear HB0
    obtain ⟨k, rfl, hk, HNO, HB⟩ := hrel
    obtain ⟨g0, g1⟩ := (unhide HB).cells
    by_cases hlt : k < m
    · have hlt2 : (k : Int) < (m : Int) := by omega
      obtain ⟨gl, ol, hla, hgl, cl⟩ := (unhide HNB).2.2 k hlt
      subst hla
      rw [toIs_getD] at cl
      have hkb : k < bl.length := by rw [unhide HML]; exact hlt
      have hmem : bl.getD k 0 ∈ bl := by simp [List.getD, hkb]
      have hj := unhide HBE _ hmem
      obtain ⟨j, hje⟩ : ∃ j, bl.getD k 0 = j := ⟨_, rfl⟩
      have HJE := hide hje
      rw [hje] at cl hj hmem
      have HMEM := hide hmem
      obtain ⟨g, off, ha, hg, c0, c1⟩ := es_at (i := j) (by have := unhide HE; rw [← unhide HN] at this; exact this) hj
      subst ha
      obtain ⟨⟨p, q⟩, hpq⟩ : ∃ e, es.getD j (0, 0) = e := ⟨_, rfl⟩
      rw [hpq] at c0 c1
      have HPQ := hide hpq
      simp only at c0 c1
      have d0 : wr.cell? ⟨g, off + j * 2, none⟩ = some (.int .i64 (p : Nat)) := by rw [(unhide HB).bel.cell (p := ⟨g, off + j * 2, none⟩) hg]; exact c0
      have d1 : wr.cell? ⟨g, off + j * 2 + 1, none⟩ = some (.int .i64 (q : Nat)) := by rw [(unhide HB).bel.cell (p := ⟨g, off + j * 2 + 1, none⟩) hg]; exact c1
      have d2 : wr.cell? ⟨gl, ol + k, none⟩ = some (.int .i64 (j : Nat)) := by rw [(unhide HB).bel.cell (p := ⟨gl, ol + k, none⟩) hgl]; exact cl
      have hj2 : (j : Int) < (n : Int) := by rw [unhide HN] at hj; omega
      have hj3 : (0 : Int) ≤ (j : Int) := by omega
      have hwr := (unhide HB).lt
      have hgr : g < wr.heap.size := by omega
      have hglr : gl < wr.heap.size := by omega
      clear cl c0 c1 hje hpq hmem hj
      go_wp2_with fail
      go_region_held3 (fun u => u.cell? ⟨w.heap.size, 1, none⟩ = some (.slice (some ⟨g, off, none⟩) n cap) ∧ u.cell? ⟨gl, ol + k, none⟩ = some (.int .i64 (j : Nat)) ∧ u.cell? ⟨g, off + j * 2, none⟩ = some (.int .i64 (p : Nat)) ∧ u.cell? ⟨g, off + j * 2 + 1, none⟩ = some (.int .i64 (q : Nat))) (go_keep) (fail)
      have HBW := hide ((unhide HB).step (show Below wr.heap.size wr (wr.alloc (.cells #[.int .i64 (p : Int), .int .i64 (q : Int)] 40)).drew from (b_al _).drew))
      by_cases hp : (p : Int) = x
      · have t1 : ((p : Int) == x) = true := by simp [hp]
        have HY := hide (show AtB es bl x from ⟨j, unhide HMEM, .inl (by rw [unhide HPQ]; exact hp)⟩)
        clear hp
        go_wp2_with fail
        go_ret
        exact ⟨Told.yes (unhide HY), (unhide HBW).bel⟩
      · have t1 : ((p : Int) == x) = false := by rw [beq_eq_false_iff_ne]; exact hp
        by_cases hq : (q : Int) = x
        · have t2 : ((q : Int) == x) = true := by simp [hq]
          have HY := hide (show AtB es bl x from ⟨j, unhide HMEM, .inr (by rw [unhide HPQ]; exact hq)⟩)
          clear hp hq
          go_wp2_with fail
          go_ret
          exact ⟨Told.yes (unhide HY), (unhide HBW).bel⟩
        · have t2 : ((q : Int) == x) = false := by rw [beq_eq_false_iff_ne]; exact hq
          have HNO2 := hide (show ∀ t, t < k + 1 → ¬ (((es.getD (bl.getD t 0) (0, 0)).1 : Int) = x ∨ ((es.getD (bl.getD t 0) (0, 0)).2 : Int) = x) from fun t ht => by
            by_cases htk : t = k
            · rw [htk, unhide HJE, unhide HPQ]
              rintro (h | h)
              · exact hp h
              · exact hq h
            · exact unhide HNO t (by omega))
          clear hp hq
          go_wp2_with fail
          go_roundw
          case rel => exact ⟨k + 1, by go_num, by omega, HNO2, HBW⟩
          case measure => simp [intOf]; omega
    · obtain rfl : k = m := by omega
      go_wp2_with fail
      go_ret
      refine ⟨Told.no ?_, (unhide HB).bel⟩
      rintro ⟨j, hj, hh⟩
      obtain ⟨t, ht, rfl⟩ := List.mem_iff_getElem.1 hj
      have hg : bl.getD t 0 = bl[t] := by simp [List.getD, ht]
      refine unhide HNO t (by rw [← unhide HML]; exact ht) ?_
      rw [hg]
      exact hh
end Go.Proofs.Ytbecmaandhadhaa.pt


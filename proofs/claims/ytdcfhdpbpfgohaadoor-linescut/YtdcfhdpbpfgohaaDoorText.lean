/-
  The contract of lines.Text at a graph of small numbers: the text of the graph. Conditions: the graph lies in memory as told, all its numbers are 0 to 999,999, it has at most 1,000 edges, and strconv's table is as its text lays it.
-/
import Derived.Test.YtdcfhdpbpfgohaaDoorLine
import Derived.Test.YtdcfhdpbpfgohaaDoorTexts
import Derived.Test.YtdcfhdpbpfgohaaDoorGraph
namespace Go.Proofs.YtdcfhdpbpfgohaaDoor
open Go.RowKit
set_option linter.unusedVariables false

/-- a builder made at a place, while others stay -/
theorem builder_at (w : World) (b : Nat) (h : w.heap.size = b) (B : Nat) (hB : B ≤ b) : Lib.IsBuilder 41 5 B b [] (w.alloc (.cells #[.pointer none, .slice none 0 0] 41)) := by
  subst h
  exact .inl ⟨hB, _, (MapKept.heap_alloc w _).1, World.ownsRow_nil _ _ _ _, by simp [Value.ownBlock]⟩

theorem cell_two_new0 (w : World) (x y : Value) (t : TypeId) (b : Nat) (h : w.heap.size = b) : (w.alloc (.cells #[x, y] t)).cell? ⟨b, 0, none⟩ = some x := by
  subst h
  rw [Lib.cell_of_heap (MapKept.heap_alloc w _).1]; rfl
theorem cell_two_new1 (w : World) (x y : Value) (t : TypeId) (b : Nat) (h : w.heap.size = b) : (w.alloc (.cells #[x, y] t)).cell? ⟨b, 1, none⟩ = some y := by
  subst h
  rw [Lib.cell_of_heap (MapKept.heap_alloc w _).1]; rfl

set_option maxHeartbeats 2000000 in
theorem text_any (w : World) (V : Nat) (a : Option Addr) (n cap : Nat) (es : List (Nat × Nat)) {B : Nat} (h : Es B w a n (toI es)) (hV : V ≤ 999999) (hn : n ≤ 1000)
    (hs : ∀ e ∈ es, e.1 ≤ 999999 ∧ e.2 ≤ 999999) (ht : Tab w) :
    Calls Tryd.prog 7 #[.agg #[.int .i64 V, .slice a n cap]] w fun e w' => e = .returned (.string ⟨(Pl.text V es).toArray⟩) ∧ Below w.heap.size w w' := by
  have hes : es.length = n := by simpa [toI] using h.1
  have HE := hide h
  have HT := hide ht
  have HS := hide hs
  have HL := hide hes
  clear h ht hs hes
  go_enter Tryd.func7, Tryd.ntmps7
  go_wp2_with fail
  have hb0 : Below (w.heap.size + 1) (w.alloc (.cells #[.int .i64 V, .slice a n cap] 24)) (((w.alloc (.cells #[.int .i64 V, .slice a n cap] 24)).alloc (.cells #[.pointer none, .slice none 0 0] 41)).alloc (.cells #[.int .i64 V, .int .i64 n] 3)) :=
    ((Below.refl _ _).alloc (by simp) _).alloc (by simp) _
  have hu0 : Lib.IsBuilder 41 5 (w.heap.size + 1) (w.heap.size + 1) (Lib.byteCells []) (((w.alloc (.cells #[.int .i64 V, .slice a n cap] 24)).alloc (.cells #[.pointer none, .slice none 0 0] 41)).alloc (.cells #[.int .i64 V, .int .i64 n] 3)) :=
    builder_below (builder_at _ _ (by simp) _ (Nat.le_refl _)) ((Below.refl _ _).alloc (Nat.le_refl _) _)
  have hbw : Below w.heap.size w (w.alloc (.cells #[.int .i64 V, .slice a n cap] 24)) := (Below.refl _ _).alloc (Nat.le_refl _) _
  have ht0 := tab_below (unhide HT) (hbw.trans (hb0.mono (by omega)))
  have hr := line_two _ (w.heap.size + 1 + 1) 2 [V, n] rfl (by intro x hx; simp at hx; omega) (by simp) (fun k hk => by
    match k, hk with
    | 0, _ => exact cell_two_new0 _ _ _ _ _ (by simp)
    | 1, _ => exact cell_two_new1 _ _ _ _ _ (by simp)) ht0
  refine hr.mono ?_
  rintro e w1 ⟨rfl, hb1⟩
  have hs1 := hb1.size
  have HU1 := hide (builder_below hu0 hb1)
  have HB1 := hide (hb0.trans (hb1.mono (by simp)))
  have HW := hide hbw
  clear hb0 hu0 hbw ht0 hr hb1
  simp at hs1
  have hline : (Pl.row [V, n] ++ [10]).length ≤ 15 := Pl.line2_len (e := (V, n)) ⟨hV, by omega⟩
  have HLI := hide hline
  clear hline
  go_wp2_with fail
  refine (write_l _ _ _ _ w1 (unhide HU1) (by simp) (by have := unhide HLI; omega) (by omega)).mono ?_
  rintro e w2 ⟨⟨v, rfl⟩, hu2, hb2⟩
  have hs2 := hb2.size
  have HU2 := hide hu2
  have HB2 := hide ((unhide HB1).trans hb2)
  clear hu2 hb2 HU1 HB1
  have d1 : w2.cell? ⟨w.heap.size, 1, none⟩ = some (.slice a n cap) := by
    rw [(unhide HB2).cell (p := ⟨w.heap.size, 1, none⟩) (by simp)]
    exact cell_two_new1 _ _ _ _ _ rfl
  go_wp2_with fail
  go_loopw [17] (fun q wr => ∃ k : Nat, q = .int .i64 k ∧ k ≤ n ∧ Lib.IsBuilder 41 5 (w.heap.size + 1) (w.heap.size + 1) (Lib.byteCells (Pl.line2 (V, n) ++ Pl.body (es.take k))) wr ∧ Below (w.heap.size + 1) (w.alloc (.cells #[.int .i64 V, .slice a n cap] 24)) wr) (fun q wr => n - (intOf q).toNat)
  case atStart => exact ⟨0, rfl, by omega, by simpa [Pl.body, Pl.line2] using unhide HU2, unhide HB2⟩
  case round =>
    obtain ⟨k, rfl, hk, hbu, hb⟩ := hrel
    have hbs := hb.size
    simp at hbs
    have HB := hide hb
    have HU := hide hbu
    have hbl : (Pl.body (es.take k)).length ≤ 15000 := by
      have := Pl.body_len (es.take k) (fun x hx => unhide HS x (List.mem_of_mem_take hx))
      rw [List.length_take] at this
      omega
    clear hbu d1 HU2 HB2 hs2 hs1
    by_cases hlt : k < n
    · obtain ⟨g, off, ha, _, hg, d0, d1⟩ := (unhide HE).2.2 k hlt
      rw [toI_getD] at d0 d1
      have hk2 : k < es.length := by rw [unhide HL]; exact hlt
      obtain ⟨ed, hx⟩ : ∃ x, es.getD k (0, 0) = x := ⟨_, rfl⟩
      have hxl : ed.1 ≤ 999999 ∧ ed.2 ≤ 999999 := unhide HS ed (by rw [← hx]; simp [hk2])
      have hsn : es.take (k + 1) = es.take k ++ [ed] := by
        rw [List.take_succ_eq_append_getElem hk2, ← hx]
        simp [hk2]
      rw [hx] at d0 d1
      obtain ⟨x, y⟩ := ed
      simp only at d0 d1 hxl
      have HSN := hide hsn
      have e0 : wr.cell? ⟨g, off + k * 2, none⟩ = some (.int .i64 x) := by rw [cell_box hb hg]; exact d0
      have e1 : wr.cell? ⟨g, off + k * 2 + 1, none⟩ = some (.int .i64 y) := by rw [cell_box hb hg]; exact d1
      subst ha
      have hgr : g < wr.heap.size := by omega
      clear hb hx hsn d0 d1
      go_wp2_with fail
      have hb0 : Below wr.heap.size wr ((wr.alloc (.cells #[.int .i64 x, .int .i64 y] 38)).alloc (.cells #[.int .i64 x, .int .i64 y] 3)) :=
        ((Below.refl _ _).alloc (Nat.le_refl _) _).alloc (by simp) _
      have ht0 := tab_below (unhide HT) (((unhide HW).trans ((unhide HB).mono (by omega))).trans (hb0.mono (by omega)))
      have hr := line_two _ (wr.heap.size + 1) 2 [x, y] rfl (by intro z hz; simp at hz; omega) (by simp) (fun k hk => by
        match k, hk with
        | 0, _ => exact cell_two_new0 _ _ _ _ _ (by simp)
        | 1, _ => exact cell_two_new1 _ _ _ _ _ (by simp)) ht0
      refine hr.mono ?_
      rintro e w1 ⟨rfl, hb1⟩
      have hs1 := hb1.size
      have HB0 := hide (hb0.trans (hb1.mono (by simp; omega)))
      clear hb0 ht0 hr hb1
      simp at hs1
      have HU1 := hide (builder_below (unhide HU) (unhide HB0))
      have HB1 := hide ((unhide HB).trans ((unhide HB0).mono (by omega)))
      have hline : (Pl.row [x, y] ++ [10]).length ≤ 15 := Pl.line2_len (e := (x, y)) hxl
      have HLI2 := hide hline
      clear hline
      go_wp2_with fail
      refine (write_l _ _ _ _ w1 (unhide HU1) (by have h1 : (Pl.line2 (V, n)).length ≤ 15 := unhide HLI; rw [List.length_append]; omega) (by have := unhide HLI2; omega) (by omega)).mono ?_
      rintro e w2 ⟨⟨v, rfl⟩, hu2, hb2⟩
      have hs2 := hb2.size
      have HU2 := hide hu2
      have HB2 := hide ((unhide HB1).trans hb2)
      clear hu2 hb2 HU1 HB1
      go_wp2_with fail
      go_roundw
      case rel =>
        refine ⟨k + 1, by go_num, by omega, ?_, unhide HB2⟩
        rw [unhide HSN, Pl.body_snoc, ← List.append_assoc]
        exact unhide HU2
      case measure => simp [intOf]; omega
    · obtain rfl : k = n := by omega
      have htk : es.take k = es := List.take_of_length_le (by rw [unhide HL]; exact Nat.le_refl _)
      rw [htk] at HU
      clear hb
      go_wp2_with fail
      refine (Tryd.Builder_String_any _ _ _ wr (unhide HU) (by omega)).mono ?_
      rintro e w2 ⟨rfl, hb2⟩
      have HB2 := hide ((unhide HB).trans hb2)
      clear hb2
      go_wp2_with fail
      go_ret
      refine ⟨?_, (unhide HW).trans ((unhide HB2).mono (by omega))⟩
      rw [Pl.text, unhide HL]
      rfl
end Go.Proofs.YtdcfhdpbpfgohaaDoor

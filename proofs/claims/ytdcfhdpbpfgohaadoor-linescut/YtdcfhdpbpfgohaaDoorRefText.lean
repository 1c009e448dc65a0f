/-
  The contract of the document's own Text at a graph of small numbers: the text of the graph. Conditions: the graph lies in memory as told, all its numbers are 0 to 999,999, it has at most 1,000 edges.
-/
import Derived.Test.YtdcfhdpbpfgohaaDoorInt
import Derived.Test.YtdcfhdpbpfgohaaDoorTexts
import Derived.Test.YtdcfhdpbpfgohaaDoorGraph
import Derived.BigQuiet
namespace Go.Proofs.YtdcfhdpbpfgohaaDoor
open Go.RowKit
set_option linter.unusedVariables false

set_option maxHeartbeats 2000000 in
theorem refText_any (w : World) (V : Nat) (a : Option Addr) (n cap : Nat) (es : List (Nat × Nat)) {B : Nat} (h : Es B w a n (toI es)) (hV : V ≤ 999999) (hn : n ≤ 1000)
    (hs : ∀ e ∈ es, e.1 ≤ 999999 ∧ e.2 ≤ 999999) :
    Calls Tryd.prog 10 #[.agg #[.int .i64 V, .slice a n cap]] w fun e w' => e = .returned (.string ⟨(Pl.text V es).toArray⟩) ∧ Below w.heap.size w w' := by
  have hes : es.length = n := by simpa [toI] using h.1
  have HE := hide h
  have HS := hide hs
  have HL := hide hes
  clear h hs hes
  have hd1 := Pl.dec_len hV
  have hd2 := Pl.dec_len (n := n) (by omega)
  go_enter Tryd.func10, Tryd.ntmps10
  go_wp2_with fail
  go_quiet (first | exact Calls.quiet_of_same (int_any _ _ (by omega)) | fail)
  go_wp2_with fail
  go_loopw [3, 4] (fun t q wr => ∃ (k : Nat) (s : ByteArray), t = .string s ∧ q = .int .i64 k ∧ k ≤ n ∧ s.data.toList = Pl.line2 (V, n) ++ Pl.body (es.take k) ∧ Below (w.heap.size + 1) (w.alloc (.cells #[.int .i64 V, .slice a n cap] 24)) wr) (fun t q wr => n - (intOf q).toNat)
  case atStart => exact ⟨0, _, rfl, rfl, by omega, by simp [Pl.line2_eq, Pl.body], ⟨rfl, rfl, rfl, Nat.le_refl _, fun _ _ => rfl⟩⟩
  case round =>
    obtain ⟨k, s, rfl, rfl, hk, hsl, hb⟩ := hrel
    have d2 : wr.cell? ⟨w.heap.size, 1, none⟩ = some (.slice a n cap) := by rw [hb.cell (p := ⟨w.heap.size, 1, none⟩) (Nat.lt_succ_self _)]; simp
    have HB := hide hb
    have hln := Pl.line2_len (e := (V, n)) ⟨hV, by simp; omega⟩
    have hbl : (Pl.body (es.take k)).length ≤ 15000 := by
      have := Pl.body_len (es.take k) (fun x hx => unhide HS x (List.mem_of_mem_take hx))
      rw [List.length_take] at this
      omega
    have hss : s.size ≤ 15015 := by
      rw [← size_list, hsl, List.length_append]
      omega
    have HSL := hide hsl
    clear hsl hln hbl
    by_cases hlt : k < n
    · obtain ⟨g, off, ha, _, hg, d0, d1⟩ := (unhide HE).2.2 k hlt
      rw [toI_getD] at d0 d1
      have hk2 : k < es.length := by rw [unhide HL]; exact hlt
      obtain ⟨ed, hx⟩ : ∃ x, es.getD k (0, 0) = x := ⟨_, rfl⟩
      have hxl : ed.1 ≤ 999999 ∧ ed.2 ≤ 999999 := unhide HS ed (by rw [← hx]; simp [hk2])
      have hsn : es.take (k + 1) = es.take k ++ [ed] := by
        rw [List.take_succ_eq_append_getElem hk2, ← hx]
        simp [hk2]
      rw [hx] at d0 d1
      obtain ⟨x, y⟩ := ed
      simp only at d0 d1 hxl
      have HSN := hide hsn
      have e0 : wr.cell? ⟨g, off + k * 2, none⟩ = some (.int .i64 x) := by rw [cell_box hb hg]; exact d0
      have e1 : wr.cell? ⟨g, off + k * 2 + 1, none⟩ = some (.int .i64 y) := by rw [cell_box hb hg]; exact d1
      subst ha
      have hd3 := Pl.dec_len hxl.1
      have hd4 := Pl.dec_len hxl.2
      have hlt2 : (k : Int) < (n : Int) := by omega
      clear hx hsn d0 d1 hb
      go_wp2_with fail
      have hx6 := hxl.1
      have hy6 := hxl.2
      go_quiet (first | exact Calls.quiet_of_same (int_any _ _ hx6) | exact Calls.quiet_of_same (int_any _ _ hy6) | fail)
      go_wp2_with fail
      go_roundw
      case rel =>
        refine ⟨k + 1, _, rfl, by go_num, by omega, ?_, (unhide HB).trans ⟨rfl, rfl, rfl, Nat.le_refl _, fun _ _ => rfl⟩⟩
        rw [unhide HSN, Pl.body_snoc, ← List.append_assoc, ← unhide HSL, Pl.line2_eq]
        simp
      case measure => simp [intOf]; omega
    · obtain rfl : k = n := by omega
      have htk : es.take k = es := List.take_of_length_le (by rw [unhide HL]; exact Nat.le_refl _)
      rw [htk] at HSL
      clear hb
      go_wp2_with fail
      go_ret
      refine ⟨ret_s (bytes_ext ?_), ((Below.refl _ _).alloc (Nat.le_refl _) _).trans ((unhide HB).mono (by omega))⟩
      rw [unhide HSL, Pl.text, unhide HL]
end Go.Proofs.YtdcfhdpbpfgohaaDoor

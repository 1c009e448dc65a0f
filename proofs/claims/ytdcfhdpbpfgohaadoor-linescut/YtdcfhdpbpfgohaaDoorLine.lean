/-
  The contract of lines.line at two numbers: their decimal digits, a blank between them, a line's end. Conditions: both are 0 to 999,999; the table that strconv reads is as its text lays it.
-/
import Derived.Test.YtdcfhdpbpfgohaaDoorBuilder
import Derived.Test.YtdcfhdpbpfgohaaDoorDec
import Derived.Test.YtdcfhdpbpfgohaaDoorReader
import Derived.Lib.AppendIntMem
import Derived.Lib.SmallJoins
namespace Go.Proofs.YtdcfhdpbpfgohaaDoor
open Go.RowKit
set_option linter.unusedVariables false

abbrev Tab (w : World) : Prop := Lib.TabIs Tryd.prog w "internal/strconv.uint64pow10" .u64 Lib.pow10Tab
theorem gPow : Tryd.prog.globalNamed "internal/strconv.uint64pow10" = some 0 := by kernel_rfl
theorem tab_below {w w' : World} (h : Tab w) (hb : Below w.heap.size w w') : Tab w' := Joins.tab_stays gPow h hb (Nat.le_refl _)

theorem digs_lib (f : Nat) : ∀ u, 0 < f → u < 10 ^ f → Pl.digs f u = Lib.decDigits u := by
  induction f with
  | zero => intro u h; omega
  | succ f ih =>
    intro u _ h
    rw [Lib.decDigits]
    unfold Pl.digs
    split
    · rfl
    · rename_i h10
      cases f with
      | zero => simp at h; omega
      | succ f =>
        rw [ih (u / 10) (by omega) (by rw [Nat.div_lt_iff_lt_mul (by decide)]; rw [Nat.pow_succ] at h; exact h)]
        rfl
theorem itoa_dec (n : Nat) (hn : n ≤ 999999) : Lib.itoa (n : Int) = Pl.dec n := by
  rw [Lib.itoa_nonneg]
  exact (digs_lib 20 n (by decide) (by omega)).symm

theorem itoa_at (w : World) (n : Nat) (hn : n ≤ 999999) (ht : Tab w) :
    Calls Tryd.prog 22 #[.int .i64 n] w fun e w' => e = .returned (.string ⟨(Pl.dec n).toArray⟩) ∧ Below w.heap.size w w' := by
  refine (Tryd.strconv_Itoa n (by omega) (by omega) w ht).mono ?_
  rintro e w' ⟨rfl, k, os, rfl⟩
  rw [itoa_dec n hn]
  exact ⟨rfl, Lib.below_grow _ w (Nat.le_refl _) k os⟩

theorem builder_new (w : World) : Lib.IsBuilder 41 5 w.heap.size w.heap.size [] (w.alloc (.cells #[.pointer none, .slice none 0 0] 41)) :=
  .inl ⟨Nat.le_refl _, _, (MapKept.heap_alloc w _).1, World.ownsRow_nil _ _ _ _, by simp [Value.ownBlock]⟩

/-- a builder stays as it is while others make memory, or turn what lies elsewhere -/
theorem builder_below {B b : Nat} {bs : List Value} {w w' : World} (h : Lib.IsBuilder 41 5 B b bs w) (hb : Below w.heap.size w w') : Lib.IsBuilder 41 5 B b bs w' := by
  have key : ∀ p, Lib.BuilderAt 41 5 B b p bs w → Lib.BuilderAt 41 5 B b p bs w' := by
    rintro p ⟨h1, v, h2, h3, h4⟩
    have hlt : b < w.heap.size := (Array.getElem?_eq_some_iff.1 h2).1
    refine ⟨h1, v, by rw [hb.block b hlt]; exact h2, ?_, h4⟩
    refine h3.kept (row := none) ⟨hb.os, hb.tape, hb.output, hb.size, fun k hk _ => hb.block k hk⟩ ?_
    cases hv : v.ownBlock with
    | none => exact .inl rfl
    | some g => exact .inr (by simp)
  rcases h with h | h
  · exact .inl (key _ h)
  · exact .inr (key _ h)

/-- one more byte, and more bytes, onto a builder -/
theorem write_c (B b : Nat) (l : List UInt8) (c : UInt8) (w : World) (h : Lib.IsBuilder 41 5 B b (Lib.byteCells l) w) (hlen : l.length ≤ 1000000) (hBw : B ≤ w.heap.size) :
    Calls Tryd.prog 21 #[.pointer (some ⟨b, 0, none⟩), .int .u8 c.toNat] w fun e w' => e = .returned .nilIface ∧ (Lib.IsBuilder 41 5 B b (Lib.byteCells (l ++ [c])) w' ∧ Below B w w') := by
  refine (write_byte B b _ c.toNat w h (by rw [Lib.byteCells_length]; omega) hBw).mono ?_
  rintro e w' ⟨rfl, h1, h2⟩
  refine ⟨rfl, .inr ?_, h2⟩
  rw [Lib.byteCells_append]
  exact h1
theorem write_l (B b : Nat) (l m : List UInt8) (w : World) (h : Lib.IsBuilder 41 5 B b (Lib.byteCells l) w) (hlen : l.length ≤ 1000000) (hm : m.length ≤ 1000000) (hBw : B ≤ w.heap.size) :
    Calls Tryd.prog 12 #[.pointer (some ⟨b, 0, none⟩), .string ⟨m.toArray⟩] w fun e w' => (∃ v, e = .returned v) ∧ (Lib.IsBuilder 41 5 B b (Lib.byteCells (l ++ m)) w' ∧ Below B w w') := by
  have hsz : (ByteArray.mk m.toArray).size = m.length := by simp [ByteArray.size]
  refine (write_string B b _ ⟨m.toArray⟩ w h (by rw [Lib.byteCells_length, hsz]; omega) hBw).mono ?_
  rintro e w' ⟨rfl, h1, h2⟩
  refine ⟨⟨_, rfl⟩, .inr ?_, h2⟩
  rw [Lib.byteCells_append]
  exact h1

set_option maxHeartbeats 2000000 in
theorem line_two (w : World) (g cap : Nat) (ys : List Nat) (hl : ys.length = 2) (hy : ∀ x ∈ ys, x ≤ 999999) (hg : g < w.heap.size)
    (hc : ∀ k, k < 2 → w.cell? ⟨g, k, none⟩ = some (.int .i64 (ys.getD k 0))) (ht : Tab w) :
    Calls Tryd.prog 13 #[.slice (some ⟨g, 0, none⟩) 2 cap] w fun e w' => e = .returned (.string ⟨(Pl.row ys ++ [10]).toArray⟩) ∧ Below w.heap.size w w' := by
  have HC := hide hc
  have HT := hide ht
  have HY := hide hy
  have HL := hide hl
  clear hc ht hy hl
  go_enter Tryd.func13, Tryd.ntmps13
  go_wp2_with fail
  go_loopw [8] (fun q wr => ∃ k : Nat, q = .int .i64 k ∧ k ≤ 2 ∧ Lib.IsBuilder 41 5 w.heap.size w.heap.size (Lib.byteCells (Pl.row (ys.take k))) wr ∧ Below w.heap.size w wr) (fun q wr => 2 - (intOf q).toNat)
  case atStart => exact ⟨0, rfl, by omega, builder_new w, (Below.refl _ _).alloc (Nat.le_refl _) _⟩
  case round =>
    obtain ⟨k, rfl, hk, hbu, hb⟩ := hrel
    have hbs := hb.size
    have HB := hide hb
    have HU := hide hbu
    have hrl : (Pl.row (ys.take k)).length ≤ 14 := by
      have := Pl.row_len (ys.take k) (fun x hx => unhide HY x (List.mem_of_mem_take hx))
      rw [List.length_take] at this
      omega
    by_cases hlt : k < 2
    · have d0 : wr.cell? ⟨g, k, none⟩ = some (.int .i64 (ys.getD k 0)) := by rw [hb.cell (p := ⟨g, k, none⟩) hg]; exact unhide HC k hlt
      obtain ⟨x, hx⟩ : ∃ x, ys.getD k 0 = x := ⟨_, rfl⟩
      have hk2 : k < ys.length := by rw [unhide HL]; exact hlt
      have hxl : x ≤ 999999 := unhide HY x (by rw [← hx]; simp [hk2])
      rw [hx] at d0
      have hsn : ys.take (k + 1) = ys.take k ++ [x] := by
        rw [List.take_succ_eq_append_getElem hk2, ← hx]
        simp [hk2]
      have HSN := hide hsn
      have hdl := Pl.dec_len hxl
      have HDL := hide hdl
      clear hx hsn hb hbu hdl
      by_cases hk0 : 0 < k
      · go_wp2_with fail
        refine (write_c _ _ _ 32 wr (unhide HU) (by omega) hbs).mono ?_
        rintro e w1 ⟨rfl, hu1, hb1⟩
        have hs1 := hb1.size
        have HU1 := hide hu1
        have HB1 := hide ((unhide HB).trans hb1)
        clear hu1 hb1
        go_wp2_with fail
        refine (itoa_at w1 x hxl (tab_below (unhide HT) (unhide HB1))).mono ?_
        rintro e w2 ⟨rfl, hb2⟩
        have hs2 := hb2.size
        have HU2 := hide (builder_below (unhide HU1) hb2)
        have HB2 := hide ((unhide HB1).trans (hb2.mono (by omega)))
        clear hb2
        go_wp2_with fail
        refine (write_l _ _ _ _ w2 (unhide HU2) (by simp; omega) (by have := unhide HDL; omega) (by omega)).mono ?_
        rintro e w3 ⟨⟨v, rfl⟩, hu3, hb3⟩
        have HU3 := hide hu3
        have HB3 := hide ((unhide HB2).trans hb3)
        clear hu3 hb3
        go_wp2_with fail
        go_round
        case rel =>
          refine ⟨k + 1, by go_num, by omega, ?_, unhide HB3⟩
          rw [unhide HSN, Pl.row_snoc, if_neg (by intro h; have := congrArg List.length h; rw [List.length_take, unhide HL] at this; simp at this; omega)]
          have h3 := unhide HU3
          rw [List.append_assoc] at h3
          exact h3
        case measure => simp [intOf]; omega
      · obtain rfl : k = 0 := by omega
        go_wp2_with fail
        refine (itoa_at wr x hxl (tab_below (unhide HT) (unhide HB))).mono ?_
        rintro e w2 ⟨rfl, hb2⟩
        have hs2 := hb2.size
        have HU2 := hide (builder_below (unhide HU) hb2)
        have HB2 := hide ((unhide HB).trans (hb2.mono (by omega)))
        clear hb2
        go_wp2_with fail
        refine (write_l _ _ _ _ w2 (unhide HU2) (by omega) (by have := unhide HDL; omega) (by omega)).mono ?_
        rintro e w3 ⟨⟨v, rfl⟩, hu3, hb3⟩
        have HU3 := hide hu3
        have HB3 := hide ((unhide HB2).trans hb3)
        clear hu3 hb3
        go_wp2_with fail
        go_round
        case rel =>
          refine ⟨0 + 1, by go_num, by omega, ?_, unhide HB3⟩
          rw [unhide HSN]
          exact unhide HU3
        case measure => simp [intOf]
    · obtain rfl : k = 2 := by omega
      have htk : ys.take 2 = ys := List.take_of_length_le (by rw [unhide HL]; decide)
      rw [htk] at HU
      rw [htk] at hrl
      clear hb hbu
      go_wp2_with fail
      refine (write_c _ _ _ 10 wr (unhide HU) (by omega) hbs).mono ?_
      rintro e w1 ⟨rfl, hu1, hb1⟩
      have hs1 := hb1.size
      have HU1 := hide hu1
      have HB1 := hide ((unhide HB).trans hb1)
      clear hu1 hb1
      go_wp2_with fail
      refine (Tryd.Builder_String_any _ _ _ w1 (unhide HU1) (by omega)).mono ?_
      rintro e w2 ⟨rfl, hb2⟩
      have HB2 := hide ((unhide HB1).trans hb2)
      clear hb2
      go_wp2_with fail
      go_ret
      exact ⟨rfl, unhide HB2⟩
end Go.Proofs.YtdcfhdpbpfgohaaDoor

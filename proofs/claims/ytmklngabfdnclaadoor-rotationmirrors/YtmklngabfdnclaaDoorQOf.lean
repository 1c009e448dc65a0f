/-
  The contracts of reach.Of, Has, least, and math/bits.TrailingZeros64. Conditions: the numbers lie in memory as told; the table of math/bits holds what its initialiser lays.
-/
import Derived.Test.YtmklngabfdnclaaDoorQSet
import Derived.Test.YtmklngabfdnclaaDoorSm
import Derived.Laws.Bits64b
namespace Go.Proofs.YtmklngabfdnclaaDoor.pt
open Go.RowKit
set_option linter.unusedVariables false

theorem ret_u {x y : Int} (h : x = y) : Ending.returned (.int .u64 x) = .returned (.int .u64 y) := by rw [h]
theorem take_succ_getD (xs : List Int) (k : Nat) (h : k < xs.length) : xs.take (k + 1) = xs.take k ++ [xs.getD k 0] := by
  rw [List.take_add_one]
  simp [List.getD, h]
theorem bitI_in {x : Int} (h0 : 0 ≤ x) (h1 : x < 64) : bitI x = 2 ^ x.toNat := by simp [bitI, h0, h1]
theorem bitI_out {x : Int} (h : ¬ (0 ≤ x ∧ x < 64)) : bitI x = 0 := by simp [bitI, h]
theorem wrap_bit {x : Int} (h0 : 0 ≤ x) (h1 : x < 64) : IntKind.u64.wrap (2 ^ x.toNat) = ((bitI x : Nat) : Int) := by
  rw [bitI_in h0 h1, IntKind.wrap_u64]
  have := bitI_lt x
  rw [bitI_in h0 h1] at this
  rw [show ((2 : Int) ^ x.toNat) = ((2 ^ x.toNat : Nat) : Int) by simp]
  generalize 2 ^ x.toNat = y at *
  omega

set_option maxHeartbeats 1000000 in
theorem of_any (w : World) (a : Option Addr) (n c : Nat) (xs : List Int) (h : Ns w a n xs) :
    Calls Tryd.prog 20 #[.slice a n c] w fun e w' => e = .returned (.int .u64 (ofS xs : Nat)) ∧ w' = w := by
  obtain ⟨hl, hn, hc⟩ := h
  have HC := hide hc
  have HL := hide hl
  clear hc hl
  go_enter Tryd.func20, Tryd.ntmps20
  go_wp2
  go_loop [3, 8] (fun s i => ∃ k : Nat, i = .int .i64 k ∧ k ≤ n ∧ s = .int .u64 (ofS (xs.take k) : Nat)) (fun s i => n - (intOf i).toNat)
  case atStart => exact ⟨0, rfl, by omega, by simp [ofS]⟩
  case round =>
    obtain ⟨k, rfl, hk, rfl⟩ := hrel
    by_cases hlt : k < n
    · obtain ⟨g, off, ha, hg, d0⟩ := unhide HC k hlt
      subst ha
      have hs : ofS (xs.take (k + 1)) = ofS (xs.take k) ||| bitI (xs.getD k 0) := by rw [take_succ_getD xs k (by rw [unhide HL]; exact hlt), ofS_snoc]
      have hsl := ofS_lt (xs.take k)
      have HS := hide hs
      clear hs
      generalize xs.getD k 0 = x at *
      generalize ofS (xs.take k) = s at *
      have hlt2 : (k : Int) < (n : Int) := by omega
      by_cases h0 : 0 ≤ x
      · by_cases h1 : x < 64
        · go_wp2
          refine ⟨⟨k + 1, by go_num, by omega, ?_⟩, by simp [intOf]; omega⟩
          rw [unhide HS, wrap_bit h0 h1, u64_or_nat s _ hsl (bitI_lt x)]
        · have h1' : 64 ≤ x := by omega
          go_wp2
          refine ⟨⟨k + 1, by go_num, by omega, ?_⟩, by simp [intOf]; omega⟩
          rw [unhide HS, bitI_out (by omega), Nat.or_zero]
      · have d1 : decide (0 ≤ x) = false := decide_eq_false h0
        go_wp2
        refine ⟨⟨k + 1, by go_num, by omega, ?_⟩, by simp [intOf]; omega⟩
        rw [unhide HS, bitI_out (by omega), Nat.or_zero]
    · obtain rfl : k = n := by omega
      have ht : xs.take k = xs := by rw [← unhide HL, List.take_length]
      rw [ht]
      clear ht HL HC
      go_wp2
      go_ret
      exact ⟨ret_u rfl, rfl⟩

theorem ns_one (w : World) (x : Int) : Ns (w.alloc (.cells #[.int .i64 x] 3)) (some ⟨w.heap.size, 0, none⟩) 1 [x] := by
  refine ⟨rfl, by decide, fun k hk => ⟨w.heap.size, 0, rfl, by simp, ?_⟩⟩
  have := (MapKept.heap_alloc w (.cells #[.int .i64 x] 3)).1
  simp only [World.cell?, this]
  match k, hk with
  | 0, _ => rfl
theorem ns_two (w : World) (x y : Int) : Ns (w.alloc (.cells #[.int .i64 x, .int .i64 y] 3)) (some ⟨w.heap.size, 0, none⟩) 2 [x, y] := by
  refine ⟨rfl, by decide, fun k hk => ⟨w.heap.size, 0, rfl, by simp, ?_⟩⟩
  have := (MapKept.heap_alloc w (.cells #[.int .i64 x, .int .i64 y] 3)).1
  simp only [World.cell?, this]
  match k, hk with
  | 0, _ => rfl
  | 1, _ => rfl

set_option maxHeartbeats 1000000 in
theorem has_any (w : World) (s : Nat) (hs : s < 18446744073709551616) (x : Int) :
    Calls Tryd.prog 33 #[.int .u64 s, .int .i64 x] w fun e w' => e = .returned (.bool (hasI s x)) ∧ Below w.heap.size w w' := by
  have hb : bits .and .u64 (s : Int) ((ofS [x] : Nat) : Int) = ((s &&& bitI x : Nat) : Int) := by rw [ofS_one, u64_and_nat s _ hs (bitI_lt x)]
  go_enter Tryd.func33, Tryd.ntmps33
  go_wp2_with fail
  refine (of_any _ _ 1 1 [x] (ns_one w x)).mono ?_
  rintro e w1 ⟨rfl, rfl⟩
  go_wp2
  go_ret
  refine ⟨ret_b ?_, (Below.refl _ _).alloc (Nat.le_refl _) _⟩
  rw [Bool.eq_iff_iff]
  simp [hasI]

/-- the table of math/bits as its initialiser lays it -/
def Tab (w : World) : Prop := 0 < w.heap.size ∧ ∀ j, j < 64 → w.cell? ⟨0, j, none⟩ = some (.int .u8 (Lib.deBruijn64tab.getD j 0 : Nat))
theorem Tab.below {w w' : World} (h : Tab w) (hb : Below w.heap.size w w') : Tab w' :=
  ⟨Nat.lt_of_lt_of_le h.1 hb.size, fun j hj => by rw [hb.cell (p := ⟨0, j, none⟩) h.1]; exact h.2 j hj⟩
theorem Tab.belowB {B : Nat} {w w' : World} (h : Tab w) (hB : 0 < B) (hs : w.heap.size ≤ w'.heap.size) (hb : Below B w w') : Tab w' :=
  ⟨Nat.lt_of_lt_of_le h.1 hs, fun j hj => by rw [hb.cell (p := ⟨0, j, none⟩) hB]; exact h.2 j hj⟩
theorem Tab.alloc {w : World} (h : Tab w) (o : Obj) : Tab (w.alloc o) := h.below ((Below.refl _ _).alloc (Nat.le_refl _) _)

theorem tz_key (x a : Nat) (hx : x < 18446744073709551616) (hx0 : x ≠ 0) (hlow : x &&& (18446744073709551616 - x) = a) :
    IntKind.u64.wrap (bits BinOp.and IntKind.u64 (x : Int) (IntKind.u64.wrap (-(x : Int))) * 285870213051353865) / 288230376151711744 = ((a * 285870213051353865 % 18446744073709551616 / 288230376151711744 : Nat) : Int) := by
  have e1 : IntKind.u64.wrap (-(x : Int)) = ((18446744073709551616 - x : Nat) : Int) := by rw [IntKind.wrap_u64]; omega
  rw [e1, u64_and_nat x _ hx (by omega), hlow, IntKind.wrap_u64]
  omega

set_option maxHeartbeats 1000000 in
theorem tz_core (w : World) (x k idx : Nat) (hx0 : ((x : Int) == 0) = false)
    (key : IntKind.u64.wrap (bits BinOp.and IntKind.u64 (x : Int) (IntKind.u64.wrap (-(x : Int))) * 285870213051353865) / 288230376151711744 = (idx : Int))
    (hi : idx < 64) (hk : k < 64) (hcell : w.cell? ⟨0, idx, none⟩ = some (.int .u8 k)) :
    Calls Tryd.prog 40 #[.int .u64 x] w fun e w' => e = .returned (.int .i64 k) ∧ w' = w := by
  go_enter Tryd.func40, Tryd.ntmps40
  go_wp2_with (simp only [key])
  go_ret
  exact ⟨rfl, rfl⟩
theorem tz_any (w : World) (hT : Tab w) (x : Nat) (hx : x < 18446744073709551616) (hx0 : x ≠ 0) :
    Calls Tryd.prog 40 #[.int .u64 x] w fun e w' => e = .returned (.int .i64 (Lib.ctz 64 x : Nat)) ∧ w' = w := by
  obtain ⟨hlow, hk⟩ := Lib.lowest_bit 64 x hx0 hx
  obtain ⟨hi, htab⟩ := Lib.deBruijn64_at _ hk
  have hb : ((x : Int) == 0) = false := by simp; omega
  refine tz_core w x _ _ hb (tz_key x _ hx hx0 hlow) hi hk ?_
  rw [hT.2 _ hi, htab]

set_option maxHeartbeats 1000000 in
theorem least_any (w : World) (hT : Tab w) (x : Nat) (hx : x < 18446744073709551616) (hx0 : x ≠ 0) :
    Calls Tryd.prog 39 #[.int .u64 x] w fun e w' => e = .returned (.int .i64 (Lib.ctz 64 x : Nat)) ∧ w' = w := by
  have hwx : IntKind.u64.wrap (x : Int) = (x : Int) := by rw [IntKind.wrap_u64]; omega
  have hk := (least_spec hx hx0).1
  go_enter Tryd.func39, Tryd.ntmps39
  go_wp2_with fail
  refine (tz_any w hT x hx hx0).mono ?_
  rintro e w1 ⟨rfl, rfl⟩
  obtain ⟨k, hk2⟩ : ∃ k, Lib.ctz 64 x = k := ⟨_, rfl⟩
  rw [hk2] at hk ⊢
  have HK := hide hk2
  clear hk2
  go_wp2
  go_ret
  exact ⟨ret_i (by rw [unhide HK]), rfl⟩
end Go.Proofs.YtmklngabfdnclaaDoor.pt

/-
  Sets of 64 bits as plain numbers: what Of, Has, the least one and the unions come to. No conditions.
-/
import Derived.Test.YtefagplbpbkpgaaDoorJ1
import Derived.Laws.BitsAllLaws
import Derived.Lib.TrailingZeros
import Derived.Laws.Bits64b
import Derived.OwnWalk
namespace Go.Proofs.YtefagplbpbkpgaaDoor.pt
open Go.RowKit
set_option linter.unusedVariables false

/-- one bit, of those that may be -/
def bitI (x : Int) : Nat := if 0 ≤ x ∧ x < 64 then 2 ^ x.toNat else 0
theorem bitI_lt (x : Int) : bitI x < 18446744073709551616 := by
  unfold bitI
  split
  · exact Nat.lt_of_lt_of_le (Nat.pow_lt_pow_right (by omega) (show x.toNat < 64 by omega)) (by decide)
  · decide
theorem or_lt {a b : Nat} (ha : a < 18446744073709551616) (hb : b < 18446744073709551616) : a ||| b < 18446744073709551616 := Nat.or_lt_two_pow (n := 64) ha hb
theorem and_lt (a : Nat) {b : Nat} (hb : b < 18446744073709551616) : a &&& b < 18446744073709551616 := Nat.and_lt_two_pow (n := 64) a hb
theorem and_lt' {a : Nat} (ha : a < 18446744073709551616) (b : Nat) : a &&& b < 18446744073709551616 := by rw [Nat.and_comm]; exact and_lt b ha
/-- what is left without some -/
def dif (a b : Nat) : Nat := a &&& (18446744073709551615 - b)
theorem dif_lt {a : Nat} (ha : a < 18446744073709551616) (b : Nat) : dif a b < 18446744073709551616 := and_lt' ha _
theorem testBit_big {a : Nat} (ha : a < 18446744073709551616) {j : Nat} (hj : 64 ≤ j) : a.testBit j = false :=
  Nat.testBit_lt_two_pow (Nat.lt_of_lt_of_le ha (Nat.pow_le_pow_right (by omega) hj : 2 ^ 64 ≤ 2 ^ j))
theorem testBit_bitI (x : Int) (j : Nat) : (bitI x).testBit j = decide (j < 64 ∧ (j : Int) = x) := by
  unfold bitI
  split
  · rename_i h
    rw [Nat.testBit_two_pow]
    congr 1
    apply propext
    omega
  · rename_i h
    simp
    omega
theorem testBit_dif (a b j : Nat) (hb : b < 18446744073709551616) : (dif a b).testBit j = (a.testBit j && (decide (j < 64) && !b.testBit j)) := by
  unfold dif
  rw [Nat.testBit_and, show 18446744073709551615 - b = 2 ^ 64 - (b + 1) by omega, Nat.testBit_two_pow_sub_succ (n := 64) hb]
theorem set_ext {a b : Nat} (ha : a < 18446744073709551616) (hb : b < 18446744073709551616) (h : ∀ j, j < 64 → a.testBit j = b.testBit j) : a = b := by
  apply Nat.eq_of_testBit_eq
  intro j
  by_cases hj : j < 64
  · exact h j hj
  · rw [testBit_big ha (by omega), testBit_big hb (by omega)]

theorem snoc_ind {α : Type} {P : List α → Prop} (h0 : P []) (h1 : ∀ xs x, P xs → P (xs ++ [x])) (xs : List α) : P xs := by
  have : ∀ ys : List α, P ys.reverse := by
    intro ys
    induction ys with
    | nil => exact h0
    | cons y ys ih => rw [List.reverse_cons]; exact h1 _ _ ih
  have := this xs.reverse
  rwa [List.reverse_reverse] at this

/-- the set of numbers -/
def ofS (xs : List Int) : Nat := xs.foldl (fun s x => s ||| bitI x) 0
theorem ofS_snoc (xs : List Int) (x : Int) : ofS (xs ++ [x]) = ofS xs ||| bitI x := by simp [ofS]
theorem ofS_nil : ofS [] = 0 := rfl
theorem ofS_lt (xs : List Int) : ofS xs < 18446744073709551616 := by
  induction xs using snoc_ind with
  | h0 => decide
  | h1 xs x ih => rw [ofS_snoc]; exact or_lt ih (bitI_lt x)
theorem testBit_ofS (xs : List Int) (j : Nat) : (ofS xs).testBit j = decide (j < 64 ∧ (j : Int) ∈ xs) := by
  induction xs using snoc_ind with
  | h0 => simp [ofS]
  | h1 xs x ih =>
    rw [ofS_snoc, Nat.testBit_or, ih, testBit_bitI]
    simp only [List.mem_append, List.mem_singleton]
    by_cases h1 : j < 64 <;> by_cases h2 : (j : Int) ∈ xs <;> by_cases h3 : (j : Int) = x <;> simp [h1, h2, h3]
theorem ofS_one (x : Int) : ofS [x] = bitI x := by simp [ofS]

/-- whether a vertex is there -/
def hasI (s : Nat) (x : Int) : Bool := decide (s &&& bitI x ≠ 0)
theorem and_bit_ne (s : Nat) (x : Int) : s &&& bitI x ≠ 0 ↔ 0 ≤ x ∧ x < 64 ∧ s.testBit x.toNat = true := by
  constructor
  · intro h
    obtain ⟨j, hj⟩ := Nat.exists_testBit_of_ne_zero h
    rw [Nat.testBit_and, testBit_bitI] at hj
    simp at hj
    obtain ⟨h1, h2, h3⟩ := hj
    subst h3
    exact ⟨by omega, by omega, by simpa using h1⟩
  · rintro ⟨h1, h2, h3⟩ h0
    have : (s &&& bitI x).testBit x.toNat = true := by
      rw [Nat.testBit_and, testBit_bitI, h3]
      simp
      omega
    rw [h0] at this
    simp at this
theorem hasI_iff (s : Nat) (x : Int) : hasI s x = true ↔ 0 ≤ x ∧ x < 64 ∧ s.testBit x.toNat = true := by
  simp only [hasI, decide_eq_true_eq]
  exact and_bit_ne s x
theorem hasI_nat {s : Nat} (hs : s < 18446744073709551616) (x : Nat) : hasI s (x : Int) = s.testBit x := by
  rw [Bool.eq_iff_iff, hasI_iff]
  constructor
  · rintro ⟨_, _, h⟩; simpa using h
  · intro h
    by_cases hx : x < 64
    · exact ⟨by omega, by omega, by simpa using h⟩
    · rw [testBit_big hs (by omega)] at h
      cases h

/-- the least one -/
theorem least_spec {s : Nat} (hs : s < 18446744073709551616) (h0 : s ≠ 0) : Lib.ctz 64 s < 64 ∧ s.testBit (Lib.ctz 64 s) = true ∧ ∀ j, j < Lib.ctz 64 s → s.testBit j = false := by
  obtain ⟨m, hm, hk⟩ := Lib.ctzFrom_spec 64 s (by omega) hs
  have hc : Lib.ctz 64 s = Lib.ctzFrom 64 s := by simp [Lib.ctz, h0]
  rw [hc]
  generalize Lib.ctzFrom 64 s = k at *
  subst hm
  refine ⟨hk, ?_, fun j hj => ?_⟩
  · rw [Nat.mul_comm, Nat.testBit_mul_two_pow]
    simp
  · rw [Nat.mul_comm, Nat.testBit_mul_two_pow]
    simp
    omega
end Go.Proofs.YtefagplbpbkpgaaDoor.pt
/-
  The contracts of reach.Of, Has, least, and math/bits.TrailingZeros64. Conditions: the numbers lie in memory as told; the table of math/bits holds what its initialiser lays.
-/
namespace Go.Proofs.YtefagplbpbkpgaaDoor.pt
open Go.RowKit
set_option linter.unusedVariables false

theorem ret_u {x y : Int} (h : x = y) : Ending.returned (.int .u64 x) = .returned (.int .u64 y) := by rw [h]
theorem take_succ_getD (xs : List Int) (k : Nat) (h : k < xs.length) : xs.take (k + 1) = xs.take k ++ [xs.getD k 0] := by
  rw [List.take_add_one]
  simp [List.getD, h]
theorem bitI_in {x : Int} (h0 : 0 ≤ x) (h1 : x < 64) : bitI x = 2 ^ x.toNat := by simp [bitI, h0, h1]
theorem bitI_out {x : Int} (h : ¬ (0 ≤ x ∧ x < 64)) : bitI x = 0 := by simp [bitI, h]
theorem wrap_bit {x : Int} (h0 : 0 ≤ x) (h1 : x < 64) : IntKind.u64.wrap (2 ^ x.toNat) = ((bitI x : Nat) : Int) := by
  rw [bitI_in h0 h1, IntKind.wrap_u64]
  have := bitI_lt x
  rw [bitI_in h0 h1] at this
  rw [show ((2 : Int) ^ x.toNat) = ((2 ^ x.toNat : Nat) : Int) by simp]
  generalize 2 ^ x.toNat = y at *
  omega

set_option maxHeartbeats 1000000 in
theorem of_any (w : World) (a : Option Addr) (n c : Nat) (xs : List Int) (h : Ns w a n xs) :
    Calls Tryd.prog 46 #[.slice a n c] w fun e w' => e = .returned (.int .u64 (ofS xs : Nat)) ∧ w' = w := by
  obtain ⟨hl, hn, hc⟩ := h
  have HC := hide hc
  have HL := hide hl
  clear hc hl
  go_enter Tryd.func46, Tryd.ntmps46
  go_wp2
  go_loop [3, 8] (fun s i => ∃ k : Nat, i = .int .i64 k ∧ k ≤ n ∧ s = .int .u64 (ofS (xs.take k) : Nat)) (fun s i => n - (intOf i).toNat)
  case atStart => exact ⟨0, rfl, by omega, by simp [ofS]⟩
  case round =>
    obtain ⟨k, rfl, hk, rfl⟩ := hrel
    by_cases hlt : k < n
    · obtain ⟨g, off, ha, hg, d0⟩ := unhide HC k hlt
      subst ha
      have hs : ofS (xs.take (k + 1)) = ofS (xs.take k) ||| bitI (xs.getD k 0) := by rw [take_succ_getD xs k (by rw [unhide HL]; exact hlt), ofS_snoc]
      have hsl := ofS_lt (xs.take k)
      have HS := hide hs
      clear hs
      generalize xs.getD k 0 = x at *
      generalize ofS (xs.take k) = s at *
      have hlt2 : (k : Int) < (n : Int) := by omega
      by_cases h0 : 0 ≤ x
      · by_cases h1 : x < 64
        · go_wp2
          refine ⟨⟨k + 1, by go_num, by omega, ?_⟩, by simp [intOf]; omega⟩
          rw [unhide HS, wrap_bit h0 h1, u64_or_nat s _ hsl (bitI_lt x)]
        · have h1' : 64 ≤ x := by omega
          go_wp2
          refine ⟨⟨k + 1, by go_num, by omega, ?_⟩, by simp [intOf]; omega⟩
          rw [unhide HS, bitI_out (by omega), Nat.or_zero]
      · have d1 : decide (0 ≤ x) = false := decide_eq_false h0
        go_wp2
        refine ⟨⟨k + 1, by go_num, by omega, ?_⟩, by simp [intOf]; omega⟩
        rw [unhide HS, bitI_out (by omega), Nat.or_zero]
    · obtain rfl : k = n := by omega
      have ht : xs.take k = xs := by rw [← unhide HL, List.take_length]
      rw [ht]
      clear ht HL HC
      go_wp2
      go_ret
      exact ⟨ret_u rfl, rfl⟩

theorem ns_one (w : World) (x : Int) : Ns (w.alloc (.cells #[.int .i64 x] 3)) (some ⟨w.heap.size, 0, none⟩) 1 [x] := by
  refine ⟨rfl, by decide, fun k hk => ⟨w.heap.size, 0, rfl, by simp, ?_⟩⟩
  have := (MapKept.heap_alloc w (.cells #[.int .i64 x] 3)).1
  simp only [World.cell?, this]
  match k, hk with
  | 0, _ => rfl
theorem ns_two (w : World) (x y : Int) : Ns (w.alloc (.cells #[.int .i64 x, .int .i64 y] 3)) (some ⟨w.heap.size, 0, none⟩) 2 [x, y] := by
  refine ⟨rfl, by decide, fun k hk => ⟨w.heap.size, 0, rfl, by simp, ?_⟩⟩
  have := (MapKept.heap_alloc w (.cells #[.int .i64 x, .int .i64 y] 3)).1
  simp only [World.cell?, this]
  match k, hk with
  | 0, _ => rfl
  | 1, _ => rfl

set_option maxHeartbeats 1000000 in
theorem has_any (w : World) (s : Nat) (hs : s < 18446744073709551616) (x : Int) :
    Calls Tryd.prog 63 #[.int .u64 s, .int .i64 x] w fun e w' => e = .returned (.bool (hasI s x)) ∧ Below w.heap.size w w' := by
  have hb : bits .and .u64 (s : Int) ((ofS [x] : Nat) : Int) = ((s &&& bitI x : Nat) : Int) := by rw [ofS_one, u64_and_nat s _ hs (bitI_lt x)]
  go_enter Tryd.func63, Tryd.ntmps63
  go_wp2_with fail
  refine (of_any _ _ 1 1 [x] (ns_one w x)).mono ?_
  rintro e w1 ⟨rfl, rfl⟩
  go_wp2
  go_ret
  refine ⟨ret_b ?_, (Below.refl _ _).alloc (Nat.le_refl _) _⟩
  rw [Bool.eq_iff_iff]
  simp [hasI]

/-- the table of math/bits as its initialiser lays it -/
def Tab (w : World) : Prop := 0 < w.heap.size ∧ ∀ j, j < 64 → w.cell? ⟨0, j, none⟩ = some (.int .u8 (Lib.deBruijn64tab.getD j 0 : Nat))
theorem Tab.below {w w' : World} (h : Tab w) (hb : Below w.heap.size w w') : Tab w' :=
  ⟨Nat.lt_of_lt_of_le h.1 hb.size, fun j hj => by rw [hb.cell (p := ⟨0, j, none⟩) h.1]; exact h.2 j hj⟩
theorem Tab.belowB {B : Nat} {w w' : World} (h : Tab w) (hB : 0 < B) (hs : w.heap.size ≤ w'.heap.size) (hb : Below B w w') : Tab w' :=
  ⟨Nat.lt_of_lt_of_le h.1 hs, fun j hj => by rw [hb.cell (p := ⟨0, j, none⟩) hB]; exact h.2 j hj⟩
theorem Tab.alloc {w : World} (h : Tab w) (o : Obj) : Tab (w.alloc o) := h.below ((Below.refl _ _).alloc (Nat.le_refl _) _)

theorem tz_key (x a : Nat) (hx : x < 18446744073709551616) (hx0 : x ≠ 0) (hlow : x &&& (18446744073709551616 - x) = a) :
    IntKind.u64.wrap (bits BinOp.and IntKind.u64 (x : Int) (IntKind.u64.wrap (-(x : Int))) * 285870213051353865) / 288230376151711744 = ((a * 285870213051353865 % 18446744073709551616 / 288230376151711744 : Nat) : Int) := by
  have e1 : IntKind.u64.wrap (-(x : Int)) = ((18446744073709551616 - x : Nat) : Int) := by rw [IntKind.wrap_u64]; omega
  rw [e1, u64_and_nat x _ hx (by omega), hlow, IntKind.wrap_u64]
  omega

set_option maxHeartbeats 1000000 in
theorem tz_core (w : World) (x k idx : Nat) (hx0 : ((x : Int) == 0) = false)
    (key : IntKind.u64.wrap (bits BinOp.and IntKind.u64 (x : Int) (IntKind.u64.wrap (-(x : Int))) * 285870213051353865) / 288230376151711744 = (idx : Int))
    (hi : idx < 64) (hk : k < 64) (hcell : w.cell? ⟨0, idx, none⟩ = some (.int .u8 k)) :
    Calls Tryd.prog 74 #[.int .u64 x] w fun e w' => e = .returned (.int .i64 k) ∧ w' = w := by
  go_enter Tryd.func74, Tryd.ntmps74
  go_wp2_with (simp only [key])
  go_ret
  exact ⟨rfl, rfl⟩
theorem tz_any (w : World) (hT : Tab w) (x : Nat) (hx : x < 18446744073709551616) (hx0 : x ≠ 0) :
    Calls Tryd.prog 74 #[.int .u64 x] w fun e w' => e = .returned (.int .i64 (Lib.ctz 64 x : Nat)) ∧ w' = w := by
  obtain ⟨hlow, hk⟩ := Lib.lowest_bit 64 x hx0 hx
  obtain ⟨hi, htab⟩ := Lib.deBruijn64_at _ hk
  have hb : ((x : Int) == 0) = false := by simp; omega
  refine tz_core w x _ _ hb (tz_key x _ hx hx0 hlow) hi hk ?_
  rw [hT.2 _ hi, htab]

set_option maxHeartbeats 1000000 in
theorem least_any (w : World) (hT : Tab w) (x : Nat) (hx : x < 18446744073709551616) (hx0 : x ≠ 0) :
    Calls Tryd.prog 73 #[.int .u64 x] w fun e w' => e = .returned (.int .i64 (Lib.ctz 64 x : Nat)) ∧ w' = w := by
  have hwx : IntKind.u64.wrap (x : Int) = (x : Int) := by rw [IntKind.wrap_u64]; omega
  have hk := (least_spec hx hx0).1
  go_enter Tryd.func73, Tryd.ntmps73
  go_wp2_with fail
  refine (tz_any w hT x hx hx0).mono ?_
  rintro e w1 ⟨rfl, rfl⟩
  obtain ⟨k, hk2⟩ : ∃ k, Lib.ctz 64 x = k := ⟨_, rfl⟩
  rw [hk2] at hk ⊢
  have HK := hide hk2
  clear hk2
  go_wp2
  go_ret
  exact ⟨ret_i (by rw [unhide HK]), rfl⟩
end Go.Proofs.YtefagplbpbkpgaaDoor.pt
/-
  Rows in memory: such as may be written, such as are only read; graphs whose edges' ends are vertices; a box that a function lays first. No conditions.
-/
namespace Go.Proofs.YtefagplbpbkpgaaDoor.pt
open Go.RowKit
set_option linter.unusedVariables false

/-- a block of cells that may be written: what the first n of them hold -/
def Row (w : World) (g : Nat) (ty : TypeId) (n : Nat) (f : Nat → Value) : Prop := ∃ cur, w.heap[g]? = some (.cells cur ty (0, 0)) ∧ ∀ t, t < n → cur[t]? = some (f t)
def upd {α : Type} (f : Nat → α) (j : Nat) (v : α) (i : Nat) : α := if i = j then v else f i
theorem upd_same {α : Type} (f : Nat → α) (j : Nat) (v : α) : upd f j v j = v := if_pos rfl
theorem upd_other {α : Type} (f : Nat → α) {j i : Nat} (v : α) (h : i ≠ j) : upd f j v i = f i := if_neg h
theorem Row.cell {w : World} {g n : Nat} {ty : TypeId} {f : Nat → Value} (h : Row w g ty n f) {t : Nat} (ht : t < n) : w.cell? ⟨g, t, none⟩ = some (f t) := by
  obtain ⟨cur, h1, h2⟩ := h
  simp [World.cell?, h1, h2 t ht]
theorem Row.fz {w : World} {g n : Nat} {ty : TypeId} {f : Nat → Value} (h : Row w g ty n f) (o : Nat) : w.frozen? ⟨g, o, none⟩ = false := by
  obtain ⟨cur, h1, h2⟩ := h
  simp [World.frozen?, h1]
theorem Row.set {w : World} {g n : Nat} {ty : TypeId} {f : Nat → Value} (h : Row w g ty n f) (p : Nat) (v : Value) : Row (w.setCell ⟨g, p, none⟩ v) g ty n (upd f p v) := by
  obtain ⟨cur, h1, h2⟩ := h
  refine ⟨cur.setIfInBounds p v, by simp [World.setCell, Array.getElem?_modify, h1], fun t ht => ?_⟩
  rw [Array.getElem?_setIfInBounds]
  have hb := (Array.getElem?_eq_some_iff.1 (h2 t ht)).1
  by_cases htp : t = p
  · subst htp
    simp [hb, upd]
  · rw [if_neg (fun e => htp e.symm)]
    simp [upd, htp, h2 t ht]
theorem Row.lt {w : World} {g n : Nat} {ty : TypeId} {f : Nat → Value} (h : Row w g ty n f) : g < w.heap.size := by
  obtain ⟨cur, h1, h2⟩ := h
  exact (Array.getElem?_eq_some_iff.1 h1).1
theorem Row.keep {w w' : World} {g n : Nat} {ty : TypeId} {f : Nat → Value} (h : Row w g ty n f) (he : w'.heap[g]? = w.heap[g]?) : Row w' g ty n f := by
  obtain ⟨cur, h1, h2⟩ := h
  exact ⟨cur, by rw [he]; exact h1, h2⟩
theorem Row.below {w w' : World} {g n : Nat} {ty : TypeId} {f : Nat → Value} (h : Row w g ty n f) (hb : Below w.heap.size w w') : Row w' g ty n f :=
  h.keep (hb.block g h.lt)
theorem Row.congr {w : World} {g n : Nat} {ty : TypeId} {f f' : Nat → Value} (h : Row w g ty n f) (he : ∀ t, t < n → f t = f' t) : Row w g ty n f' := by
  obtain ⟨cur, h1, h2⟩ := h
  exact ⟨cur, h1, fun t ht => by rw [h2 t ht, he t ht]⟩
theorem Row.of_owns {w : World} {base g n cap : Nat} {ty : TypeId} {z : Value} (h : w.ownsRow base ty 1 (.slice (some ⟨g, 0, none⟩) n cap) n (List.replicate n z)) : Row w g ty n (fun _ => z) := by
  rcases h.2 with ⟨hv, _⟩ | ⟨g', cap', cur, hv, hb, hg, h1, h2, h3, h4⟩
  · cases hv
  · cases hv
    refine ⟨cur, hg, fun t ht => ?_⟩
    have : (cur.toList.take (n * 1))[t]? = (List.replicate n z)[t]? := by rw [h4]
    rw [List.getElem?_take] at this
    simpa [ht] using this
/-- sets, bools that may be written -/
abbrev RowU (w : World) (g n : Nat) (f : Nat → Nat) : Prop := Row w g 76 n fun t => .int .u64 (f t : Nat)
abbrev RowB (w : World) (g n : Nat) (f : Nat → Bool) : Prop := Row w g 4 n fun t => .bool (f t)
theorem RowU.set {w : World} {g n : Nat} {f : Nat → Nat} (h : RowU w g n f) (p v : Nat) : RowU (w.setCell ⟨g, p, none⟩ (.int .u64 (v : Nat))) g n (upd f p v) :=
  (Row.set h p (.int .u64 (v : Nat))).congr fun t ht => by unfold upd; split <;> rfl
theorem RowB.set {w : World} {g n : Nat} {f : Nat → Bool} (h : RowB w g n f) (p : Nat) (v : Bool) : RowB (w.setCell ⟨g, p, none⟩ (.bool v)) g n (upd f p v) :=
  (Row.set h p (.bool v)).congr fun t ht => by unfold upd; split <;> rfl

/-- sets, bools that are only read -/
def Us (w : World) (a : Option Addr) (n : Nat) (f : Nat → Nat) : Prop :=
  n ≤ 1000000 ∧ ∀ k, k < n → ∃ g off, a = some ⟨g, off, none⟩ ∧ g < w.heap.size ∧ w.cell? ⟨g, off + k, none⟩ = some (.int .u64 (f k : Nat))
def Bs (w : World) (a : Option Addr) (n : Nat) (f : Nat → Bool) : Prop :=
  n ≤ 1000000 ∧ ∀ k, k < n → ∃ g off, a = some ⟨g, off, none⟩ ∧ g < w.heap.size ∧ w.cell? ⟨g, off + k, none⟩ = some (.bool (f k))
theorem Us.below {w w' : World} {a : Option Addr} {n : Nat} {f : Nat → Nat} (h : Us w a n f) (hb : Below w.heap.size w w') : Us w' a n f := by
  refine ⟨h.1, fun k hk => ?_⟩
  obtain ⟨g, off, ha, hg, c0⟩ := h.2 k hk
  exact ⟨g, off, ha, Nat.lt_of_lt_of_le hg hb.size, by rw [hb.cell (p := ⟨g, off + k, none⟩) hg]; exact c0⟩
theorem Bs.below {w w' : World} {a : Option Addr} {n : Nat} {f : Nat → Bool} (h : Bs w a n f) (hb : Below w.heap.size w w') : Bs w' a n f := by
  refine ⟨h.1, fun k hk => ?_⟩
  obtain ⟨g, off, ha, hg, c0⟩ := h.2 k hk
  exact ⟨g, off, ha, Nat.lt_of_lt_of_le hg hb.size, by rw [hb.cell (p := ⟨g, off + k, none⟩) hg]; exact c0⟩
theorem RowU.read {w : World} {g n : Nat} {f : Nat → Nat} (h : RowU w g n f) (hn : n ≤ 1000000) : Us w (some ⟨g, 0, none⟩) n f :=
  ⟨hn, fun k hk => ⟨g, 0, rfl, h.lt, by rw [Nat.zero_add]; exact h.cell hk⟩⟩
theorem RowB.read {w : World} {g n : Nat} {f : Nat → Bool} (h : RowB w g n f) (hn : n ≤ 1000000) : Bs w (some ⟨g, 0, none⟩) n f :=
  ⟨hn, fun k hk => ⟨g, 0, rfl, h.lt, by rw [Nat.zero_add]; exact h.cell hk⟩⟩

/-- a graph that may be, its edges' ends as plain numbers -/
structure Plain (V : Nat) (es : List (Nat × Nat)) : Prop where
  v1 : 1 ≤ V
  v64 : V ≤ 64
  n128 : es.length ≤ 128
  ends : ∀ e ∈ es, e.1 < V ∧ e.2 < V
theorem getD_mem {es : List (Nat × Nat)} {i : Nat} (hi : i < es.length) : es.getD i (0, 0) ∈ es := by
  simp [List.getD, hi]
theorem Plain.at {V : Nat} {es : List (Nat × Nat)} (h : Plain V es) {i : Nat} (hi : i < es.length) : (es.getD i (0, 0)).1 < V ∧ (es.getD i (0, 0)).2 < V := h.ends _ (getD_mem hi)
theorem es_at {B : Nat} {w : World} {a : Option Addr} {es : List (Nat × Nat)} (h : Es B w a es.length (toI es)) {i : Nat} (hi : i < es.length) :
    ∃ g off, a = some ⟨g, off, none⟩ ∧ g < w.heap.size ∧ w.cell? ⟨g, off + i * 2, none⟩ = some (.int .i64 ((es.getD i (0, 0)).1 : Nat)) ∧ w.cell? ⟨g, off + i * 2 + 1, none⟩ = some (.int .i64 ((es.getD i (0, 0)).2 : Nat)) := by
  obtain ⟨g, off, ha, _, hg, c0, c1⟩ := h.2.2 i hi
  rw [toI_getD] at c0 c1
  exact ⟨g, off, ha, hg, c0, c1⟩

/-- a box of a graph, laid first: it stands while others make memory -/
structure Bg (w wk : World) (x y : Value) : Prop where
  bel : Below w.heap.size w wk
  gb : wk.heap[w.heap.size]? = some (.cells #[x, y] 24 (0, 0))
theorem Bg.start (w : World) (x y : Value) : Bg w (w.alloc (.cells #[x, y] 24)) x y := ⟨(Below.refl _ _).alloc (Nat.le_refl _) _, (MapKept.heap_alloc w _).1⟩
theorem Bg.lt {w wk : World} {x y : Value} (h : Bg w wk x y) : w.heap.size < wk.heap.size := (Array.getElem?_eq_some_iff.1 h.gb).1
theorem Bg.step {w wk wk' : World} {x y : Value} (h : Bg w wk x y) (hb : Below wk.heap.size wk wk') : Bg w wk' x y :=
  ⟨h.bel.trans (hb.mono h.bel.size), by rw [hb.block _ h.lt]; exact h.gb⟩
theorem Bg.stepB {w wk wk' : World} {x y : Value} {B : Nat} (h : Bg w wk x y) (hB : w.heap.size < B) (hb : Below B wk wk') : Bg w wk' x y :=
  ⟨h.bel.trans (hb.mono (by omega)), by rw [hb.block _ hB]; exact h.gb⟩
theorem Bg.cells {w wk : World} {x y : Value} (h : Bg w wk x y) : wk.cell? ⟨w.heap.size, 0, none⟩ = some x ∧ wk.cell? ⟨w.heap.size, 1, none⟩ = some y := by
  simp [World.cell?, h.gb]

theorem info25 : (Tryd.prog.info? 76).map (fun i => (i.zero, i.size, i.bytes)) = some (some (.int .u64 0), 1, 8) := by kernel_rfl
end Go.Proofs.YtefagplbpbkpgaaDoor.pt
/-
  The contract of reach.heads: for each vertex the set of the heads of the edges from it. Conditions: the edges lie in memory as told, their ends are vertices.
-/
namespace Go.Proofs.YtefagplbpbkpgaaDoor.pt
open Go.RowKit
set_option linter.unusedVariables false

/-- the heads of the edges from a vertex -/
def hdS (es : List (Nat × Nat)) (x : Nat) : Nat := ofS ((es.filter fun e => e.1 == x).map fun e => (e.2 : Int))
theorem hdS_lt (es : List (Nat × Nat)) (x : Nat) : hdS es x < 18446744073709551616 := ofS_lt _
theorem testBit_hdS (es : List (Nat × Nat)) (x j : Nat) : (hdS es x).testBit j = decide (j < 64 ∧ (x, j) ∈ es) := by
  unfold hdS
  rw [testBit_ofS]
  congr 1
  apply propext
  simp only [List.mem_map, List.mem_filter, beq_iff_eq]
  constructor
  · rintro ⟨h, ⟨p, q⟩, ⟨h1, rfl⟩, h2⟩
    refine ⟨h, ?_⟩
    have : q = j := by simp at h2; omega
    subst this
    exact h1
  · rintro ⟨h, h1⟩
    exact ⟨h, (x, j), ⟨h1, rfl⟩, rfl⟩
theorem hdS_snoc (es : List (Nat × Nat)) (p q x : Nat) : hdS (es ++ [(p, q)]) x = if x = p then hdS es x ||| bitI (q : Int) else hdS es x := by
  unfold hdS
  rw [List.filter_append]
  by_cases h : x = p
  · subst h
    simp [ofS_snoc]
  · have h' : ¬ p = x := fun e => h e.symm
    simp [h, h']
theorem take_snoc (es : List (Nat × Nat)) (k : Nat) (h : k < es.length) : es.take (k + 1) = es.take k ++ [es.getD k (0, 0)] := by
  rw [List.take_add_one]
  simp [List.getD, h]
theorem hdS_step (es : List (Nat × Nat)) (k p q : Nat) (h : k < es.length) (he : es.getD k (0, 0) = (p, q)) : hdS (es.take (k + 1)) = upd (hdS (es.take k)) p (hdS (es.take k) p ||| bitI (q : Int)) := by
  funext x
  rw [take_snoc es k h, he, hdS_snoc]
  unfold upd
  split
  · rename_i hx; rw [hx]
  · rfl

/-- all ways come to one goal -/
theorem in_one {G p : Prop} (h : G) (k : G → p) : p := k h
theorem ns_one' (w : World) (x : Int) (g : Nat) (hg : g = w.heap.size) : Ns (w.alloc (.cells #[.int .i64 x] 3)) (some ⟨g, 0, none⟩) 1 [x] := by
  subst hg
  exact ns_one w x

end Go.Proofs.YtefagplbpbkpgaaDoor.pt
/-
  The contract of Set.All: the vertices of a set, rising. Conditions: the table of math/bits holds what its initialiser lays.
-/
namespace Go.Proofs.YtefagplbpbkpgaaDoor.pt
open Go.RowKit
set_option linter.unusedVariables false

/-- the vertices of a set below m, rising -/
def lowS (s m : Nat) : List Nat := (List.range m).filter fun j => s.testBit j
def allS (s : Nat) : List Nat := lowS s 64
theorem lowS_len (s m : Nat) : (lowS s m).length ≤ m := by
  have := List.length_filter_le (fun j => s.testBit j) (List.range m)
  simpa [lowS] using this
theorem lowS_mem (s m j : Nat) : j ∈ lowS s m ↔ j < m ∧ s.testBit j = true := by simp [lowS]
theorem lowS_gap (s m k : Nat) (hmk : m ≤ k) (hz : ∀ j, m ≤ j → j < k → s.testBit j = false) : lowS s k = lowS s m := by
  obtain ⟨d, rfl⟩ : ∃ d, k = m + d := ⟨k - m, by omega⟩
  induction d with
  | zero => rfl
  | succ d ih =>
    have h1 := ih (by omega) (fun j h1 h2 => hz j h1 (by omega))
    have h2 := hz (m + d) (by omega) (by omega)
    rw [← h1]
    unfold lowS
    rw [show m + (d + 1) = m + d + 1 by omega, List.range_succ, List.filter_append]
    simp [h2]
theorem lowS_step (s m k : Nat) (hmk : m ≤ k) (hz : ∀ j, m ≤ j → j < k → s.testBit j = false) (hk : s.testBit k = true) : lowS s (k + 1) = lowS s m ++ [k] := by
  rw [← lowS_gap s m k hmk hz]
  unfold lowS
  rw [List.range_succ, List.filter_append]
  simp [hk]
theorem dif_less {t k : Nat} (hk : k < 64) (hb : t.testBit k = true) : dif t (bitI (k : Int)) < t := by
  have h1 : dif t (bitI (k : Int)) ≤ t := Nat.and_le_left
  have h2 : dif t (bitI (k : Int)) ≠ t := by
    intro h
    have := testBit_dif t (bitI (k : Int)) k (bitI_lt _)
    rw [h, hb, testBit_bitI] at this
    simp [hk] at this
  omega
theorem one_int (k : Nat) : ∀ u ∈ [Value.int .i64 (k : Int)], u.oneCell' = true := by
  intro u hu
  simp only [List.mem_singleton] at hu
  subst hu
  rfl

end Go.Proofs.YtefagplbpbkpgaaDoor.pt
/-
  The contract of reach.spread: all that can be come to from a set. Conditions: the steps lie in memory as told, and lead to vertices; the table of math/bits holds what its initialiser lays.
-/
namespace Go.Proofs.YtefagplbpbkpgaaDoor.pt
open Go.RowKit
set_option linter.unusedVariables false

/-- what can be come to by steps -/
def Star (R : Nat → Nat → Prop) (i k : Nat) : Prop := ∀ S : Nat → Prop, S i → (∀ a b, S a → R a b → S b) → S k
theorem Star.refl {R : Nat → Nat → Prop} {i : Nat} : Star R i i := fun _ h _ => h
theorem Star.step {R : Nat → Nat → Prop} {i j k : Nat} (h : Star R i j) (hr : R j k) : Star R i k := fun S h0 hs => hs j k (h S h0 hs) hr
theorem Star.ind {R : Nat → Nat → Prop} {i k : Nat} (h : Star R i k) {S : Nat → Prop} (h0 : S i) (hs : ∀ a b, Star R i a → S a → R a b → S b) : S k :=
  (h (fun x => Star R i x ∧ S x) ⟨.refl, h0⟩ fun a b ha hr => ⟨ha.1.step hr, hs a b ha.1 ha.2 hr⟩).2
theorem Star.trans {R : Nat → Nat → Prop} {i j k : Nat} (h : Star R i j) (h2 : Star R j k) : Star R i k := h2 (fun x => Star R i x) h fun _ _ ha hr => ha.step hr
theorem Star.mono {R R' : Nat → Nat → Prop} (hR : ∀ i j, R i j → R' i j) {i j : Nat} (h : Star R i j) : Star R' i j := h (fun x => Star R' i x) .refl fun _ _ ha hr => ha.step (hR _ _ hr)
theorem Star.head {R : Nat → Nat → Prop} {i j k : Nat} (h : R i j) (h2 : Star R j k) : Star R i k := (Star.refl.step h).trans h2
/-- a step by a table of sets -/
def By (f : Nat → Nat) (i j : Nat) : Prop := (f i).testBit j = true
/-- the set of all that can be come to from a set -/
def IsSpread (f : Nat → Nat) (s0 t : Nat) : Prop := t < 18446744073709551616 ∧ ∀ j, t.testBit j = true ↔ ∃ i, s0.testBit i = true ∧ Star (By f) i j
theorem IsSpread.only {f : Nat → Nat} {s0 t t' : Nat} (h : IsSpread f s0 t) (h' : IsSpread f s0 t') : t = t' := by
  refine set_ext h.1 h'.1 fun j _ => ?_
  rw [Bool.eq_iff_iff, h.2, h'.2]

structure SpInv (f : Nat → Nat) (V s0 s o : Nat) : Prop where
  sub : ∀ j, o.testBit j = true → s.testBit j = true
  base : ∀ j, s0.testBit j = true → s.testBit j = true
  clo : ∀ i j, s.testBit i = true → o.testBit i = false → (f i).testBit j = true → s.testBit j = true
  rch : ∀ j, s.testBit j = true → ∃ i, s0.testBit i = true ∧ Star (By f) i j
  bnd : ∀ j, s.testBit j = true → j < V
theorem SpInv.start {f : Nat → Nat} {V s0 : Nat} (h : ∀ j, s0.testBit j = true → j < V) : SpInv f V s0 s0 s0 :=
  ⟨fun _ h => h, fun _ h => h, fun i j h1 h2 => (by rw [h1] at h2; cases h2), fun j h => ⟨j, h, .refl⟩, h⟩
theorem SpInv.next {f : Nat → Nat} {V s0 s o x : Nat} (h : SpInv f V s0 s o) (hs : s < 18446744073709551616) (ho : o < 18446744073709551616) (hx : o.testBit x = true) (hfx : f x < 18446744073709551616) (hfb : ∀ j, (f x).testBit j = true → j < V) (hV : V ≤ 64) :
    SpInv f V s0 (s ||| dif (f x) s) (dif o (bitI (x : Int)) ||| dif (f x) s) := by
  have hsx := h.sub x hx
  have hx64 : x < 64 := Nat.lt_of_lt_of_le (h.bnd x hsx) hV
  have hfr : ∀ j, (dif (f x) s).testBit j = true ↔ (f x).testBit j = true ∧ s.testBit j = false := fun j => by
    rw [testBit_dif _ _ _ hs]
    by_cases hj : j < 64
    · cases h1 : (f x).testBit j <;> cases h2 : s.testBit j <;> simp [hj]
    · rw [testBit_big hfx (by omega)]
      simp
  have hop : ∀ j, (dif o (bitI (x : Int))).testBit j = true ↔ o.testBit j = true ∧ j ≠ x := fun j => by
    rw [testBit_dif _ _ _ (bitI_lt _), testBit_bitI]
    by_cases hj : j < 64
    · cases h1 : o.testBit j <;> by_cases h2 : j = x <;> simp [hj, h2]
      intro h3
      omega
    · rw [testBit_big ho (by omega)]
      simp
  have hor : ∀ a b j : Nat, (a ||| b).testBit j = true ↔ a.testBit j = true ∨ b.testBit j = true := fun a b j => by rw [Nat.testBit_or]; simp
  constructor
  · intro j hj
    rw [hor] at hj ⊢
    rcases hj with hj | hj
    · exact .inl (h.sub j ((hop j).1 hj).1)
    · exact .inr hj
  · intro j hj
    rw [hor]
    exact .inl (h.base j hj)
  · intro i j hi hoi hij
    rw [hor] at hi ⊢
    have hno : ¬ ((dif o (bitI (x : Int)) ||| dif (f x) s).testBit i = true) := by rw [hoi]; simp
    rw [hor] at hno
    have h1 : s.testBit i = true := by
      rcases hi with hi | hi
      · exact hi
      · exact absurd (.inr hi) hno
    by_cases hix : i = x
    · subst hix
      cases hsj : s.testBit j with
      | true => exact .inl rfl
      | false => exact .inr ((hfr j).2 ⟨hij, hsj⟩)
    · left
      refine h.clo i j h1 ?_ hij
      cases hoi2 : o.testBit i with
      | false => rfl
      | true => exact absurd (.inl ((hop i).2 ⟨hoi2, hix⟩)) hno
  · intro j hj
    rw [hor] at hj
    rcases hj with hj | hj
    · exact h.rch j hj
    · obtain ⟨i, hi, hs⟩ := h.rch x hsx
      exact ⟨i, hi, hs.step ((hfr j).1 hj).1⟩
  · intro j hj
    rw [hor] at hj
    rcases hj with hj | hj
    · exact h.bnd j hj
    · exact hfb j ((hfr j).1 hj).1
theorem SpInv.done {f : Nat → Nat} {V s0 s : Nat} (h : SpInv f V s0 s 0) (hs : s < 18446744073709551616) : IsSpread f s0 s := by
  refine ⟨hs, fun j => ⟨h.rch j, ?_⟩⟩
  rintro ⟨i, hi, hst⟩
  exact hst.ind (S := fun x => s.testBit x = true) (h.base _ hi) fun a b _ ih hr => h.clo _ _ ih (by simp) hr
theorem or_grows {s t : Nat} (hs : s < 18446744073709551616) (ht : t < 18446744073709551616) (h : dif t s ≠ 0) : s < s ||| dif t s := by
  have h1 : s ≤ s ||| dif t s := Nat.left_le_or
  have h2 : s ≠ s ||| dif t s := by
    intro he
    obtain ⟨j, hj⟩ := Nat.exists_testBit_of_ne_zero h
    have h3 : (s ||| dif t s).testBit j = true := by rw [Nat.testBit_or, hj]; simp
    rw [← he] at h3
    rw [testBit_dif _ _ _ hs, h3] at hj
    simp at hj
  omega

set_option maxHeartbeats 4000000 in
theorem spread_any (w : World) (hT : Tab w) (V c : Nat) (a : Option Addr) (f : Nat → Nat) (s0 : Nat) (hs0 : s0 < 18446744073709551616) (hU : Us w a V f) (hV : V ≤ 64) (hf : ∀ x, x < V → f x < 18446744073709551616)
    (hfb : ∀ x, x < V → ∀ j, (f x).testBit j = true → j < V) (hb0 : ∀ j, s0.testBit j = true → j < V) :
    Calls Tryd.prog 64 #[.int .u64 s0, .slice a V c] w fun e w' => (∃ t : Nat, e = .returned (.int .u64 t) ∧ IsSpread f s0 t) ∧ Below w.heap.size w w' := by
  have HT := hide hT
  have HU := hide hU
  have HF := hide hf
  have HFB := hide hfb
  have HS0 := hide (SpInv.start (f := f) hb0)
  clear hT hU hf hfb hb0
  go_enter Tryd.func64, Tryd.ntmps64
  go_wp2
  go_loopw [0, 5] (fun sv ov wr => ∃ s o : Nat, sv = .int .u64 s ∧ ov = .int .u64 o ∧ s < 18446744073709551616 ∧ o < 18446744073709551616 ∧ Hid (SpInv f V s0 s o) ∧ Hid (Below w.heap.size w wr)) (fun sv ov wr => (18446744073709551616 - (intOf sv).toNat) * 18446744073709551616 + (intOf ov).toNat)
  case atStart => exact ⟨s0, s0, rfl, rfl, hs0, hs0, HS0, Below.refl _ _⟩
  case round =>
    obtain ⟨s, o, rfl, rfl, hs, ho, HI, HB⟩ := hrel
    have hsz := (unhide HB).size
    by_cases h0 : o = 0
    · subst h0
      go_wp2_with fail
      go_ret
      exact ⟨⟨s, rfl, (unhide HI).done hs⟩, unhide HB⟩
    · have hne : ((o : Int) != 0) = true := by simp; omega
      obtain ⟨hk, hb, _⟩ := least_spec ho h0
      go_wp2_with fail
      refine (least_any wr ((unhide HT).below (unhide HB)) o ho h0).mono ?_
      rintro e w1 ⟨rfl, hw1⟩
      obtain rfl := hw1.symm
      clear hw1
      generalize Lib.ctz 64 o = x at *
      have hxV : x < V := (unhide HI).bnd x ((unhide HI).sub x hb)
      obtain ⟨g, off, ha, hg, c0⟩ := (unhide HU).2 x hxV
      subst ha
      have d0 : wr.cell? ⟨g, off + x, none⟩ = some (.int .u64 (f x : Nat)) := by rw [(unhide HB).cell (p := ⟨g, off + x, none⟩) hg]; exact c0
      clear c0
      have hfx := unhide HF x hxV
      have HN := hide ((unhide HI).next hs ho hb hfx (unhide HFB x hxV) hV)
      have hgr := or_grows hs hfx
      have hdl : dif o (bitI (x : Int)) < o := dif_less hk hb
      obtain ⟨fx, hfe⟩ : ∃ y, f x = y := ⟨_, rfl⟩
      rw [hfe] at d0 hfx HN hgr
      have hfr := dif_lt hfx s
      have e1 : bits .andNot .u64 (fx : Int) (s : Int) = ((dif fx s : Nat) : Int) := by rw [u64_andNot_nat _ _ hfx hs]; rfl
      have e2 : bits .or .u64 (s : Int) ((dif fx s : Nat) : Int) = ((s ||| dif fx s : Nat) : Int) := u64_or_nat _ _ hs hfr
      have e3 : bits .andNot .u64 (o : Int) ((ofS [(x : Int)] : Nat) : Int) = ((dif o (bitI x) : Nat) : Int) := by rw [ofS_one, u64_andNot_nat _ _ ho (bitI_lt _)]; rfl
      have e4 : bits .or .u64 ((dif o (bitI x) : Nat) : Int) ((dif fx s : Nat) : Int) = ((dif o (bitI x) ||| dif fx s : Nat) : Int) := u64_or_nat _ _ (dif_lt ho _) hfr
      have hx2 : (x : Int) < (V : Int) := by omega
      have HGR := hide hgr
      have HDL := hide hdl
      have hs' := or_lt hs hfr
      have ho' := or_lt (dif_lt ho (bitI (x : Int))) hfr
      have HDZ := hide (show dif fx s = 0 → dif o (bitI (x : Int)) ||| dif fx s = dif o (bitI (x : Int)) ∧ s ||| dif fx s = s from fun h => by rw [h]; simp)
      clear hgr hdl hfe
      generalize dif fx s = fr at *
      generalize dif o (bitI (x : Int)) = o1 at *
      go_wp2_with fail
      refine (of_any _ _ 1 1 [(x : Int)] (ns_one wr x)).mono ?_
      rintro e w5 ⟨rfl, hw5⟩
      obtain rfl := hw5.symm
      clear hw5
      go_wp2_with fail
      go_roundw
      case rel => exact ⟨s ||| fr, o1 ||| fr, rfl, rfl, hs', ho', HN, (unhide HB).alloc hsz _⟩
      case measure =>
        simp only [intOf, Int.toNat_natCast]
        by_cases hz : fr = 0
        · obtain ⟨h1, h2⟩ := unhide HDZ hz
          have := unhide HDL
          rw [h1, h2]
          omega
        · have := unhide HGR hz
          omega
end Go.Proofs.YtefagplbpbkpgaaDoor.pt

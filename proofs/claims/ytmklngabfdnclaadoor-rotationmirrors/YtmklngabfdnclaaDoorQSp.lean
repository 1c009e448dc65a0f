/-
  The contract of reach.spread: all that can be come to from a set. Conditions: the steps lie in memory as told, and lead to vertices; the table of math/bits holds what its initialiser lays.
-/
import Derived.Test.YtmklngabfdnclaaDoorQHd
import Derived.Test.YtmklngabfdnclaaDoorQAll
namespace Go.Proofs.YtmklngabfdnclaaDoor.pt
open Go.RowKit
set_option linter.unusedVariables false

/-- what can be come to by steps -/
def Star (R : Nat → Nat → Prop) (i k : Nat) : Prop := ∀ S : Nat → Prop, S i → (∀ a b, S a → R a b → S b) → S k
theorem Star.refl {R : Nat → Nat → Prop} {i : Nat} : Star R i i := fun _ h _ => h
theorem Star.step {R : Nat → Nat → Prop} {i j k : Nat} (h : Star R i j) (hr : R j k) : Star R i k := fun S h0 hs => hs j k (h S h0 hs) hr
theorem Star.ind {R : Nat → Nat → Prop} {i k : Nat} (h : Star R i k) {S : Nat → Prop} (h0 : S i) (hs : ∀ a b, Star R i a → S a → R a b → S b) : S k :=
  (h (fun x => Star R i x ∧ S x) ⟨.refl, h0⟩ fun a b ha hr => ⟨ha.1.step hr, hs a b ha.1 ha.2 hr⟩).2
theorem Star.trans {R : Nat → Nat → Prop} {i j k : Nat} (h : Star R i j) (h2 : Star R j k) : Star R i k := h2 (fun x => Star R i x) h fun _ _ ha hr => ha.step hr
theorem Star.mono {R R' : Nat → Nat → Prop} (hR : ∀ i j, R i j → R' i j) {i j : Nat} (h : Star R i j) : Star R' i j := h (fun x => Star R' i x) .refl fun _ _ ha hr => ha.step (hR _ _ hr)
theorem Star.head {R : Nat → Nat → Prop} {i j k : Nat} (h : R i j) (h2 : Star R j k) : Star R i k := (Star.refl.step h).trans h2
/-- a step by a table of sets -/
def By (f : Nat → Nat) (i j : Nat) : Prop := (f i).testBit j = true
/-- the set of all that can be come to from a set -/
def IsSpread (f : Nat → Nat) (s0 t : Nat) : Prop := t < 18446744073709551616 ∧ ∀ j, t.testBit j = true ↔ ∃ i, s0.testBit i = true ∧ Star (By f) i j
theorem IsSpread.only {f : Nat → Nat} {s0 t t' : Nat} (h : IsSpread f s0 t) (h' : IsSpread f s0 t') : t = t' := by
  refine set_ext h.1 h'.1 fun j _ => ?_
  rw [Bool.eq_iff_iff, h.2, h'.2]

structure SpInv (f : Nat → Nat) (V s0 s o : Nat) : Prop where
  sub : ∀ j, o.testBit j = true → s.testBit j = true
  base : ∀ j, s0.testBit j = true → s.testBit j = true
  clo : ∀ i j, s.testBit i = true → o.testBit i = false → (f i).testBit j = true → s.testBit j = true
  rch : ∀ j, s.testBit j = true → ∃ i, s0.testBit i = true ∧ Star (By f) i j
  bnd : ∀ j, s.testBit j = true → j < V
theorem SpInv.start {f : Nat → Nat} {V s0 : Nat} (h : ∀ j, s0.testBit j = true → j < V) : SpInv f V s0 s0 s0 :=
  ⟨fun _ h => h, fun _ h => h, fun i j h1 h2 => (by rw [h1] at h2; cases h2), fun j h => ⟨j, h, .refl⟩, h⟩
theorem SpInv.next {f : Nat → Nat} {V s0 s o x : Nat} (h : SpInv f V s0 s o) (hs : s < 18446744073709551616) (ho : o < 18446744073709551616) (hx : o.testBit x = true) (hfx : f x < 18446744073709551616) (hfb : ∀ j, (f x).testBit j = true → j < V) (hV : V ≤ 64) :
    SpInv f V s0 (s ||| dif (f x) s) (dif o (bitI (x : Int)) ||| dif (f x) s) := by
  have hsx := h.sub x hx
  have hx64 : x < 64 := Nat.lt_of_lt_of_le (h.bnd x hsx) hV
  have hfr : ∀ j, (dif (f x) s).testBit j = true ↔ (f x).testBit j = true ∧ s.testBit j = false := fun j => by
    rw [testBit_dif _ _ _ hs]
    by_cases hj : j < 64
    · cases h1 : (f x).testBit j <;> cases h2 : s.testBit j <;> simp [hj]
    · rw [testBit_big hfx (by omega)]
      simp
  have hop : ∀ j, (dif o (bitI (x : Int))).testBit j = true ↔ o.testBit j = true ∧ j ≠ x := fun j => by
    rw [testBit_dif _ _ _ (bitI_lt _), testBit_bitI]
    by_cases hj : j < 64
    · cases h1 : o.testBit j <;> by_cases h2 : j = x <;> simp [hj, h2]
      intro h3
      omega
    · rw [testBit_big ho (by omega)]
      simp
  have hor : ∀ a b j : Nat, (a ||| b).testBit j = true ↔ a.testBit j = true ∨ b.testBit j = true := fun a b j => by rw [Nat.testBit_or]; simp
  constructor
  · intro j hj
    rw [hor] at hj ⊢
    rcases hj with hj | hj
    · exact .inl (h.sub j ((hop j).1 hj).1)
    · exact .inr hj
  · intro j hj
    rw [hor]
    exact .inl (h.base j hj)
  · intro i j hi hoi hij
    rw [hor] at hi ⊢
    have hno : ¬ ((dif o (bitI (x : Int)) ||| dif (f x) s).testBit i = true) := by rw [hoi]; simp
    rw [hor] at hno
    have h1 : s.testBit i = true := by
      rcases hi with hi | hi
      · exact hi
      · exact absurd (.inr hi) hno
    by_cases hix : i = x
    · subst hix
      cases hsj : s.testBit j with
      | true => exact .inl rfl
      | false => exact .inr ((hfr j).2 ⟨hij, hsj⟩)
    · left
      refine h.clo i j h1 ?_ hij
      cases hoi2 : o.testBit i with
      | false => rfl
      | true => exact absurd (.inl ((hop i).2 ⟨hoi2, hix⟩)) hno
  · intro j hj
    rw [hor] at hj
    rcases hj with hj | hj
    · exact h.rch j hj
    · obtain ⟨i, hi, hs⟩ := h.rch x hsx
      exact ⟨i, hi, hs.step ((hfr j).1 hj).1⟩
  · intro j hj
    rw [hor] at hj
    rcases hj with hj | hj
    · exact h.bnd j hj
    · exact hfb j ((hfr j).1 hj).1
theorem SpInv.done {f : Nat → Nat} {V s0 s : Nat} (h : SpInv f V s0 s 0) (hs : s < 18446744073709551616) : IsSpread f s0 s := by
  refine ⟨hs, fun j => ⟨h.rch j, ?_⟩⟩
  rintro ⟨i, hi, hst⟩
  exact hst.ind (S := fun x => s.testBit x = true) (h.base _ hi) fun a b _ ih hr => h.clo _ _ ih (by simp) hr
theorem or_grows {s t : Nat} (hs : s < 18446744073709551616) (ht : t < 18446744073709551616) (h : dif t s ≠ 0) : s < s ||| dif t s := by
  have h1 : s ≤ s ||| dif t s := Nat.left_le_or
  have h2 : s ≠ s ||| dif t s := by
    intro he
    obtain ⟨j, hj⟩ := Nat.exists_testBit_of_ne_zero h
    have h3 : (s ||| dif t s).testBit j = true := by rw [Nat.testBit_or, hj]; simp
    rw [← he] at h3
    rw [testBit_dif _ _ _ hs, h3] at hj
    simp at hj
  omega

set_option maxHeartbeats 4000000 in
theorem spread_any (w : World) (hT : Tab w) (V c : Nat) (a : Option Addr) (f : Nat → Nat) (s0 : Nat) (hs0 : s0 < 18446744073709551616) (hU : Us w a V f) (hV : V ≤ 64) (hf : ∀ x, x < V → f x < 18446744073709551616)
    (hfb : ∀ x, x < V → ∀ j, (f x).testBit j = true → j < V) (hb0 : ∀ j, s0.testBit j = true → j < V) :
    Calls Tryd.prog 34 #[.int .u64 s0, .slice a V c] w fun e w' => (∃ t : Nat, e = .returned (.int .u64 t) ∧ IsSpread f s0 t) ∧ Below w.heap.size w w' := by
  have HT := hide hT
  have HU := hide hU
  have HF := hide hf
  have HFB := hide hfb
  have HS0 := hide (SpInv.start (f := f) hb0)
  clear hT hU hf hfb hb0
  go_enter Tryd.func34, Tryd.ntmps34
  go_wp2
  go_loopw [0, 5] (fun sv ov wr => ∃ s o : Nat, sv = .int .u64 s ∧ ov = .int .u64 o ∧ s < 18446744073709551616 ∧ o < 18446744073709551616 ∧ Hid (SpInv f V s0 s o) ∧ Hid (Below w.heap.size w wr)) (fun sv ov wr => (18446744073709551616 - (intOf sv).toNat) * 18446744073709551616 + (intOf ov).toNat)
  case atStart => exact ⟨s0, s0, rfl, rfl, hs0, hs0, HS0, Below.refl _ _⟩
  case round =>
    obtain ⟨s, o, rfl, rfl, hs, ho, HI, HB⟩ := hrel
    have hsz := (unhide HB).size
    by_cases h0 : o = 0
    · subst h0
      go_wp2_with fail
      go_ret
      exact ⟨⟨s, rfl, (unhide HI).done hs⟩, unhide HB⟩
    · have hne : ((o : Int) != 0) = true := by simp; omega
      obtain ⟨hk, hb, _⟩ := least_spec ho h0
      go_wp2_with fail
      refine (least_any wr ((unhide HT).below (unhide HB)) o ho h0).mono ?_
      rintro e w1 ⟨rfl, hw1⟩
      obtain rfl := hw1.symm
      clear hw1
      generalize Lib.ctz 64 o = x at *
      have hxV : x < V := (unhide HI).bnd x ((unhide HI).sub x hb)
      obtain ⟨g, off, ha, hg, c0⟩ := (unhide HU).2 x hxV
      subst ha
      have d0 : wr.cell? ⟨g, off + x, none⟩ = some (.int .u64 (f x : Nat)) := by rw [(unhide HB).cell (p := ⟨g, off + x, none⟩) hg]; exact c0
      clear c0
      have hfx := unhide HF x hxV
      have HN := hide ((unhide HI).next hs ho hb hfx (unhide HFB x hxV) hV)
      have hgr := or_grows hs hfx
      have hdl : dif o (bitI (x : Int)) < o := dif_less hk hb
      obtain ⟨fx, hfe⟩ : ∃ y, f x = y := ⟨_, rfl⟩
      rw [hfe] at d0 hfx HN hgr
      have hfr := dif_lt hfx s
      have e1 : bits .andNot .u64 (fx : Int) (s : Int) = ((dif fx s : Nat) : Int) := by rw [u64_andNot_nat _ _ hfx hs]; rfl
      have e2 : bits .or .u64 (s : Int) ((dif fx s : Nat) : Int) = ((s ||| dif fx s : Nat) : Int) := u64_or_nat _ _ hs hfr
      have e3 : bits .andNot .u64 (o : Int) ((ofS [(x : Int)] : Nat) : Int) = ((dif o (bitI x) : Nat) : Int) := by rw [ofS_one, u64_andNot_nat _ _ ho (bitI_lt _)]; rfl
      have e4 : bits .or .u64 ((dif o (bitI x) : Nat) : Int) ((dif fx s : Nat) : Int) = ((dif o (bitI x) ||| dif fx s : Nat) : Int) := u64_or_nat _ _ (dif_lt ho _) hfr
      have hx2 : (x : Int) < (V : Int) := by omega
      have HGR := hide hgr
      have HDL := hide hdl
      have hs' := or_lt hs hfr
      have ho' := or_lt (dif_lt ho (bitI (x : Int))) hfr
      have HDZ := hide (show dif fx s = 0 → dif o (bitI (x : Int)) ||| dif fx s = dif o (bitI (x : Int)) ∧ s ||| dif fx s = s from fun h => by rw [h]; simp)
      clear hgr hdl hfe
      generalize dif fx s = fr at *
      generalize dif o (bitI (x : Int)) = o1 at *
      go_wp2_with fail
      refine (of_any _ _ 1 1 [(x : Int)] (ns_one wr x)).mono ?_
      rintro e w5 ⟨rfl, hw5⟩
      obtain rfl := hw5.symm
      clear hw5
      go_wp2_with fail
      go_roundw
      case rel => exact ⟨s ||| fr, o1 ||| fr, rfl, rfl, hs', ho', HN, (unhide HB).alloc hsz _⟩
      case measure =>
        simp only [intOf, Int.toNat_natCast]
        by_cases hz : fr = 0
        · obtain ⟨h1, h2⟩ := unhide HDZ hz
          have := unhide HDL
          rw [h1, h2]
          omega
        · have := unhide HGR hz
          omega
end Go.Proofs.YtmklngabfdnclaaDoor.pt


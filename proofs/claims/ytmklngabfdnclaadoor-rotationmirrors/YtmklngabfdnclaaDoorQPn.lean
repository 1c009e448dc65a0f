/-
  Graphs that may be as plain numbers; ways along edges; what spread from one vertex comes to. Conditions: the graph lies in memory as told.
-/
import Derived.Test.YtmklngabfdnclaaDoorQSp
import Derived.Test.YtmklngabfdnclaaDoorMay
import Derived.Test.YtmklngabfdnclaaDoorRefMay
namespace Go.Proofs.YtmklngabfdnclaaDoor.pt
open Go.RowKit
set_option linter.unusedVariables false

theorem plain_of_good {V : Int} {n : Nat} {zs : List (Int × Int)} (hl : zs.length = n) (h : Good V n zs) : ∃ (v : Nat) (es : List (Nat × Nat)), V = v ∧ zs = toI es ∧ n = es.length ∧ Plain v es := by
  obtain ⟨h1, h2, h3, h4⟩ := h
  refine ⟨V.toNat, zs.map fun e => (e.1.toNat, e.2.toNat), by omega, ?_, by simp [hl], by omega, by omega, by simp; omega, ?_⟩
  · apply List.ext_getElem
    · simp [toI]
    · intro i hi _
      have := h4 i (by omega)
      rw [show zs.getD i (0, 0) = zs[i] by simp [List.getD, hi]] at this
      unfold OkE at this
      apply Prod.ext
      · simp [toI]; omega
      · simp [toI]; omega
  · intro e he
    obtain ⟨z, hz, rfl⟩ := List.mem_map.1 he
    obtain ⟨i, hi, rfl⟩ := List.mem_iff_getElem.1 hz
    have := h4 i (by omega)
    rw [show zs.getD i (0, 0) = zs[i] by simp [List.getD, hi]] at this
    unfold OkE at this
    simp
    omega
theorem good_of_plain {v : Nat} {es : List (Nat × Nat)} (h : Plain v es) : Good (v : Int) es.length (toI es) := by
  refine ⟨by have := h.v1; omega, by have := h.v64; omega, h.n128, fun k hk => ?_⟩
  rw [toI_getD]
  have := h.at hk
  refine ⟨?_, ?_, ?_, ?_⟩ <;> dsimp only <;> omega

theorem may_yes (w : World) (V : Nat) (a : Option Addr) (cap : Nat) (es : List (Nat × Nat)) {B : Nat} (h : Es B w a es.length (toI es)) (hp : Plain V es) :
    Calls Tryd.prog 23 #[.agg #[.int .i64 V, .slice a es.length cap]] w fun e w' => e = .returned (.bool true) ∧ Below w.heap.size w w' := by
  refine (may_any w V a es.length cap (toI es) h).mono ?_
  rintro e w' ⟨⟨r, rfl, hr⟩, hb⟩
  exact ⟨by rw [hr.2 (good_of_plain hp)], hb⟩
theorem may_no (w : World) (V : Int) (a : Option Addr) (n cap : Nat) (zs : List (Int × Int)) {B : Nat} (h : Es B w a n zs) (hno : ¬ Good V n zs) :
    Calls Tryd.prog 23 #[.agg #[.int .i64 V, .slice a n cap]] w fun e w' => e = .returned (.bool false) ∧ Below w.heap.size w w' := by
  refine (may_any w V a n cap zs h).mono ?_
  rintro e w' ⟨⟨r, rfl, hr⟩, hb⟩
  refine ⟨?_, hb⟩
  cases r with
  | false => rfl
  | true => exact absurd (hr.1 rfl) hno

/-- an edge -/
def Via (es : List (Nat × Nat)) (u v : Nat) : Prop := (u, v) ∈ es
theorem by_hd {V : Nat} {es : List (Nat × Nat)} (hp : Plain V es) (u v : Nat) : By (hdS es) u v ↔ Via es u v := by
  unfold By Via
  rw [testBit_hdS]
  simp only [decide_eq_true_eq]
  constructor
  · exact fun h => h.2
  · intro h
    have := (hp.ends _ h).2
    have := hp.v64
    exact ⟨by dsimp only at *; omega, h⟩
theorem star_hd {V : Nat} {es : List (Nat × Nat)} (hp : Plain V es) (u v : Nat) : Star (By (hdS es)) u v ↔ Star (Via es) u v :=
  ⟨Star.mono fun i j => (by_hd hp i j).1, Star.mono fun i j => (by_hd hp i j).2⟩
theorem hd_bnd {V : Nat} {es : List (Nat × Nat)} (hp : Plain V es) (x : Nat) : ∀ j, (hdS es x).testBit j = true → j < V := by
  intro j hj
  exact (hp.ends _ ((by_hd hp x j).1 hj)).2
theorem spread_one {f : Nat → Nat} {x t : Nat} (h : IsSpread f (ofS [(x : Int)]) t) (hx : x < 64) (j : Nat) : t.testBit j = true ↔ Star (By f) x j := by
  rw [h.2]
  constructor
  · rintro ⟨i, hi, hs⟩
    rw [ofS_one, testBit_bitI] at hi
    simp at hi
    have : i = x := by omega
    subst this
    exact hs
  · intro hs
    exact ⟨x, by rw [ofS_one, testBit_bitI]; simp [hx], hs⟩
theorem one_bnd {V x : Nat} (hx : x < V) : ∀ j, (ofS [(x : Int)]).testBit j = true → j < V := by
  intro j hj
  rw [ofS_one, testBit_bitI] at hj
  simp at hj
  omega
/-- what a vertex reaches, as a set -/
def ReachSet (es : List (Nat × Nat)) (x t : Nat) : Prop := t < 18446744073709551616 ∧ ∀ j, t.testBit j = true ↔ Star (Via es) x j
theorem ReachSet.of {V : Nat} {es : List (Nat × Nat)} (hp : Plain V es) {x t : Nat} (hx : x < V) (h : IsSpread (hdS es) (ofS [(x : Int)]) t) : ReachSet es x t := by
  refine ⟨h.1, fun j => ?_⟩
  rw [spread_one h (by have := hp.v64; omega), star_hd hp]
theorem ReachSet.only {es : List (Nat × Nat)} {x t t' : Nat} (h : ReachSet es x t) (h' : ReachSet es x t') : t = t' := by
  refine set_ext h.1 h'.1 fun j _ => ?_
  rw [Bool.eq_iff_iff, h.2, h'.2]
theorem star_bnd {V : Nat} {es : List (Nat × Nat)} (hp : Plain V es) {x j : Nat} (hx : x < V) (h : Star (Via es) x j) : j < V := by
  exact h.ind (S := fun x => x < V) hx fun a b _ _ hr => (hp.ends _ hr).2

/-- all edges but one -/
def but (es : List (Nat × Nat)) (i : Nat) : List (Nat × Nat) := es.take i ++ es.drop (i + 1)
theorem but_len {es : List (Nat × Nat)} {i : Nat} (h : i < es.length) : (but es i).length = es.length - 1 := by
  unfold but
  simp
  omega
theorem but_sub {es : List (Nat × Nat)} {i : Nat} {e : Nat × Nat} (h : e ∈ but es i) : e ∈ es := by
  unfold but at h
  rcases List.mem_append.1 h with h | h
  · exact List.mem_of_mem_take h
  · exact List.mem_of_mem_drop h
theorem but_plain {V : Nat} {es : List (Nat × Nat)} (hp : Plain V es) {i : Nat} (h : i < es.length) : Plain V (but es i) :=
  ⟨hp.v1, hp.v64, by have := hp.n128; rw [but_len h]; omega, fun e he => hp.ends e (but_sub he)⟩
/-- beside an edge there is another way -/
def Trv (es : List (Nat × Nat)) (i : Nat) : Prop := Star (Via (but es i)) (es.getD i (0, 0)).1 (es.getD i (0, 0)).2
/-- the edges below k beside which there is another way, rising -/
def IsTr (es : List (Nat × Nat)) (k : Nat) (l : List Nat) : Prop := ∃ p : Nat → Bool, (∀ i, i < k → (p i = true ↔ Trv es i)) ∧ l = (List.range k).filter p
theorem filter_congr' {p q : Nat → Bool} {k : Nat} (h : ∀ i, i < k → p i = q i) : (List.range k).filter p = (List.range k).filter q :=
  List.filter_congr fun i hi => h i (List.mem_range.1 hi)
theorem IsTr.nil (es : List (Nat × Nat)) : IsTr es 0 [] := ⟨fun _ => false, fun i hi => by omega, rfl⟩
theorem IsTr.len {es : List (Nat × Nat)} {k : Nat} {l : List Nat} (h : IsTr es k l) : l.length ≤ k := by
  obtain ⟨p, _, rfl⟩ := h
  have := List.length_filter_le p (List.range k)
  simpa using this
theorem IsTr.mem {es : List (Nat × Nat)} {k : Nat} {l : List Nat} (h : IsTr es k l) (i : Nat) : i ∈ l ↔ i < k ∧ Trv es i := by
  obtain ⟨p, hp, rfl⟩ := h
  simp only [List.mem_filter, List.mem_range]
  constructor
  · rintro ⟨h1, h2⟩; exact ⟨h1, (hp i h1).1 h2⟩
  · rintro ⟨h1, h2⟩; exact ⟨h1, (hp i h1).2 h2⟩
theorem IsTr.only {es : List (Nat × Nat)} {k : Nat} {l l' : List Nat} (h : IsTr es k l) (h' : IsTr es k l') : l = l' := by
  obtain ⟨p, hp, rfl⟩ := h
  obtain ⟨q, hq, rfl⟩ := h'
  exact filter_congr' fun i hi => by rw [Bool.eq_iff_iff, hp i hi, hq i hi]
theorem IsTr.yes {es : List (Nat × Nat)} {k : Nat} {l : List Nat} (h : IsTr es k l) (ht : Trv es k) : IsTr es (k + 1) (l ++ [k]) := by
  obtain ⟨p, hp, rfl⟩ := h
  refine ⟨upd p k true, fun i hi => ?_, ?_⟩
  · unfold upd
    split
    · rename_i h; subst h; simp [ht]
    · exact hp i (by omega)
  · rw [List.range_succ, List.filter_append, filter_congr' (q := p) (k := k) fun i hi => upd_other _ _ (by omega)]
    simp [upd_same]
theorem IsTr.no {es : List (Nat × Nat)} {k : Nat} {l : List Nat} (h : IsTr es k l) (ht : ¬ Trv es k) : IsTr es (k + 1) l := by
  obtain ⟨p, hp, rfl⟩ := h
  refine ⟨upd p k false, fun i hi => ?_, ?_⟩
  · unfold upd
    split
    · rename_i h; subst h; simp [ht]
    · exact hp i (by omega)
  · rw [List.range_succ, List.filter_append, filter_congr' (q := p) (k := k) fun i hi => upd_other _ _ (by omega)]
    simp [upd_same]
end Go.Proofs.YtmklngabfdnclaaDoor.pt



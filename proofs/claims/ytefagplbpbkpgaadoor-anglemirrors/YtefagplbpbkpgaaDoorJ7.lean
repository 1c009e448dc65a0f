/-
  Graphs that may be as plain numbers; ways along edges; what spread from one vertex comes to. Conditions: the graph lies in memory as told.
-/
import Derived.Test.YtefagplbpbkpgaaDoorJ5
import Derived.Test.YtefagplbpbkpgaaDoorJ2
import Derived.Test.YtefagplbpbkpgaaDoorJ6
import Derived.Test.YtefagplbpbkpgaaDoorJ3
namespace Go.Proofs.YtefagplbpbkpgaaDoor.pt
open Go.RowKit
set_option linter.unusedVariables false

theorem plain_of_good {V : Int} {n : Nat} {zs : List (Int × Int)} (hl : zs.length = n) (h : Good V n zs) : ∃ (v : Nat) (es : List (Nat × Nat)), V = v ∧ zs = toI es ∧ n = es.length ∧ Plain v es := by
  obtain ⟨h1, h2, h3, h4⟩ := h
  refine ⟨V.toNat, zs.map fun e => (e.1.toNat, e.2.toNat), by omega, ?_, by simp [hl], by omega, by omega, by simp; omega, ?_⟩
  · apply List.ext_getElem
    · simp [toI]
    · intro i hi _
      have := h4 i (by omega)
      rw [show zs.getD i (0, 0) = zs[i] by simp [List.getD, hi]] at this
      unfold OkE at this
      apply Prod.ext
      · simp [toI]; omega
      · simp [toI]; omega
  · intro e he
    obtain ⟨z, hz, rfl⟩ := List.mem_map.1 he
    obtain ⟨i, hi, rfl⟩ := List.mem_iff_getElem.1 hz
    have := h4 i (by omega)
    rw [show zs.getD i (0, 0) = zs[i] by simp [List.getD, hi]] at this
    unfold OkE at this
    simp
    omega
theorem good_of_plain {v : Nat} {es : List (Nat × Nat)} (h : Plain v es) : Good (v : Int) es.length (toI es) := by
  refine ⟨by have := h.v1; omega, by have := h.v64; omega, h.n128, fun k hk => ?_⟩
  rw [toI_getD]
  have := h.at hk
  refine ⟨?_, ?_, ?_, ?_⟩ <;> dsimp only <;> omega

theorem may_yes (w : World) (V : Nat) (a : Option Addr) (cap : Nat) (es : List (Nat × Nat)) {B : Nat} (h : Es B w a es.length (toI es)) (hp : Plain V es) :
    Calls Tryd.prog 59 #[.agg #[.int .i64 V, .slice a es.length cap]] w fun e w' => e = .returned (.bool true) ∧ Below w.heap.size w w' := by
  refine (may_any w V a es.length cap (toI es) h).mono ?_
  rintro e w' ⟨⟨r, rfl, hr⟩, hb⟩
  exact ⟨by rw [hr.2 (good_of_plain hp)], hb⟩
theorem may_no (w : World) (V : Int) (a : Option Addr) (n cap : Nat) (zs : List (Int × Int)) {B : Nat} (h : Es B w a n zs) (hno : ¬ Good V n zs) :
    Calls Tryd.prog 59 #[.agg #[.int .i64 V, .slice a n cap]] w fun e w' => e = .returned (.bool false) ∧ Below w.heap.size w w' := by
  refine (may_any w V a n cap zs h).mono ?_
  rintro e w' ⟨⟨r, rfl, hr⟩, hb⟩
  refine ⟨?_, hb⟩
  cases r with
  | false => rfl
  | true => exact absurd (hr.1 rfl) hno

/-- an edge -/
def Via (es : List (Nat × Nat)) (u v : Nat) : Prop := (u, v) ∈ es
theorem by_hd {V : Nat} {es : List (Nat × Nat)} (hp : Plain V es) (u v : Nat) : By (hdS es) u v ↔ Via es u v := by
  unfold By Via
  rw [testBit_hdS]
  simp only [decide_eq_true_eq]
  constructor
  · exact fun h => h.2
  · intro h
    have := (hp.ends _ h).2
    have := hp.v64
    exact ⟨by dsimp only at *; omega, h⟩
theorem star_hd {V : Nat} {es : List (Nat × Nat)} (hp : Plain V es) (u v : Nat) : Star (By (hdS es)) u v ↔ Star (Via es) u v :=
  ⟨Star.mono fun i j => (by_hd hp i j).1, Star.mono fun i j => (by_hd hp i j).2⟩
theorem hd_bnd {V : Nat} {es : List (Nat × Nat)} (hp : Plain V es) (x : Nat) : ∀ j, (hdS es x).testBit j = true → j < V := by
  intro j hj
  exact (hp.ends _ ((by_hd hp x j).1 hj)).2
theorem spread_one {f : Nat → Nat} {x t : Nat} (h : IsSpread f (ofS [(x : Int)]) t) (hx : x < 64) (j : Nat) : t.testBit j = true ↔ Star (By f) x j := by
  rw [h.2]
  constructor
  · rintro ⟨i, hi, hs⟩
    rw [ofS_one, testBit_bitI] at hi
    simp at hi
    have : i = x := by omega
    subst this
    exact hs
  · intro hs
    exact ⟨x, by rw [ofS_one, testBit_bitI]; simp [hx], hs⟩
theorem one_bnd {V x : Nat} (hx : x < V) : ∀ j, (ofS [(x : Int)]).testBit j = true → j < V := by
  intro j hj
  rw [ofS_one, testBit_bitI] at hj
  simp at hj
  omega
/-- what a vertex reaches, as a set -/
def ReachSet (es : List (Nat × Nat)) (x t : Nat) : Prop := t < 18446744073709551616 ∧ ∀ j, t.testBit j = true ↔ Star (Via es) x j
theorem ReachSet.of {V : Nat} {es : List (Nat × Nat)} (hp : Plain V es) {x t : Nat} (hx : x < V) (h : IsSpread (hdS es) (ofS [(x : Int)]) t) : ReachSet es x t := by
  refine ⟨h.1, fun j => ?_⟩
  rw [spread_one h (by have := hp.v64; omega), star_hd hp]
theorem ReachSet.only {es : List (Nat × Nat)} {x t t' : Nat} (h : ReachSet es x t) (h' : ReachSet es x t') : t = t' := by
  refine set_ext h.1 h'.1 fun j _ => ?_
  rw [Bool.eq_iff_iff, h.2, h'.2]
theorem star_bnd {V : Nat} {es : List (Nat × Nat)} (hp : Plain V es) {x j : Nat} (hx : x < V) (h : Star (Via es) x j) : j < V := by
  exact h.ind (S := fun x => x < V) hx fun a b _ _ hr => (hp.ends _ hr).2

/-- all edges but one -/
def but (es : List (Nat × Nat)) (i : Nat) : List (Nat × Nat) := es.take i ++ es.drop (i + 1)
theorem but_len {es : List (Nat × Nat)} {i : Nat} (h : i < es.length) : (but es i).length = es.length - 1 := by
  unfold but
  simp
  omega
theorem but_sub {es : List (Nat × Nat)} {i : Nat} {e : Nat × Nat} (h : e ∈ but es i) : e ∈ es := by
  unfold but at h
  rcases List.mem_append.1 h with h | h
  · exact List.mem_of_mem_take h
  · exact List.mem_of_mem_drop h
theorem but_plain {V : Nat} {es : List (Nat × Nat)} (hp : Plain V es) {i : Nat} (h : i < es.length) : Plain V (but es i) :=
  ⟨hp.v1, hp.v64, by have := hp.n128; rw [but_len h]; omega, fun e he => hp.ends e (but_sub he)⟩
/-- beside an edge there is another way -/
def Trv (es : List (Nat × Nat)) (i : Nat) : Prop := Star (Via (but es i)) (es.getD i (0, 0)).1 (es.getD i (0, 0)).2
/-- the edges below k beside which there is another way, rising -/
def IsTr (es : List (Nat × Nat)) (k : Nat) (l : List Nat) : Prop := ∃ p : Nat → Bool, (∀ i, i < k → (p i = true ↔ Trv es i)) ∧ l = (List.range k).filter p
theorem filter_congr' {p q : Nat → Bool} {k : Nat} (h : ∀ i, i < k → p i = q i) : (List.range k).filter p = (List.range k).filter q :=
  List.filter_congr fun i hi => h i (List.mem_range.1 hi)
theorem IsTr.nil (es : List (Nat × Nat)) : IsTr es 0 [] := ⟨fun _ => false, fun i hi => by omega, rfl⟩
theorem IsTr.len {es : List (Nat × Nat)} {k : Nat} {l : List Nat} (h : IsTr es k l) : l.length ≤ k := by
  obtain ⟨p, _, rfl⟩ := h
  have := List.length_filter_le p (List.range k)
  simpa using this
theorem IsTr.mem {es : List (Nat × Nat)} {k : Nat} {l : List Nat} (h : IsTr es k l) (i : Nat) : i ∈ l ↔ i < k ∧ Trv es i := by
  obtain ⟨p, hp, rfl⟩ := h
  simp only [List.mem_filter, List.mem_range]
  constructor
  · rintro ⟨h1, h2⟩; exact ⟨h1, (hp i h1).1 h2⟩
  · rintro ⟨h1, h2⟩; exact ⟨h1, (hp i h1).2 h2⟩
theorem IsTr.only {es : List (Nat × Nat)} {k : Nat} {l l' : List Nat} (h : IsTr es k l) (h' : IsTr es k l') : l = l' := by
  obtain ⟨p, hp, rfl⟩ := h
  obtain ⟨q, hq, rfl⟩ := h'
  exact filter_congr' fun i hi => by rw [Bool.eq_iff_iff, hp i hi, hq i hi]
theorem IsTr.yes {es : List (Nat × Nat)} {k : Nat} {l : List Nat} (h : IsTr es k l) (ht : Trv es k) : IsTr es (k + 1) (l ++ [k]) := by
  obtain ⟨p, hp, rfl⟩ := h
  refine ⟨upd p k true, fun i hi => ?_, ?_⟩
  · unfold upd
    split
    · rename_i h; subst h; simp [ht]
    · exact hp i (by omega)
  · rw [List.range_succ, List.filter_append, filter_congr' (q := p) (k := k) fun i hi => upd_other _ _ (by omega)]
    simp [upd_same]
theorem IsTr.no {es : List (Nat × Nat)} {k : Nat} {l : List Nat} (h : IsTr es k l) (ht : ¬ Trv es k) : IsTr es (k + 1) l := by
  obtain ⟨p, hp, rfl⟩ := h
  refine ⟨upd p k false, fun i hi => ?_, ?_⟩
  · unfold upd
    split
    · rename_i h; subst h; simp [ht]
    · exact hp i (by omega)
  · rw [List.range_succ, List.filter_append, filter_congr' (q := p) (k := k) fun i hi => upd_other _ _ (by omega)]
    simp [upd_same]
end Go.Proofs.YtefagplbpbkpgaaDoor.pt
/-
  What hangs together without some vertices, as plain mathematics: steps both ways, the least of each part, tables of neighbours. No conditions.
-/
namespace Go.Proofs.YtefagplbpbkpgaaDoor.pt
open Go.RowKit
set_option linter.unusedVariables false

/-- an edge that counts, either way -/
def Bd (es : List (Nat × Nat)) (wo : Nat → Bool) (u v : Nat) : Prop := ∃ e, e ∈ es ∧ wo e.1 = false ∧ wo e.2 = false ∧ (e = (u, v) ∨ e = (v, u))
theorem Bd.symm {es : List (Nat × Nat)} {wo : Nat → Bool} {u v : Nat} (h : Bd es wo u v) : Bd es wo v u := by
  obtain ⟨e, h1, h2, h3, h4⟩ := h
  exact ⟨e, h1, h2, h3, h4.symm⟩
theorem Bd.free {es : List (Nat × Nat)} {wo : Nat → Bool} {u v : Nat} (h : Bd es wo u v) : wo u = false ∧ wo v = false := by
  obtain ⟨e, h1, h2, h3, rfl | rfl⟩ := h
  · exact ⟨h2, h3⟩
  · exact ⟨h3, h2⟩
theorem Bd.bnd {V : Nat} {es : List (Nat × Nat)} (hp : Plain V es) {wo : Nat → Bool} {u v : Nat} (h : Bd es wo u v) : u < V ∧ v < V := by
  obtain ⟨e, h1, h2, h3, rfl | rfl⟩ := h
  · exact hp.ends _ h1
  · exact (hp.ends _ h1).symm
theorem Star.symm' {R : Nat → Nat → Prop} (hR : ∀ u v, R u v → R v u) {i j : Nat} (h : Star R i j) : Star R j i :=
  h.ind (S := fun x => Star R x i) .refl fun a b _ ha hr => Star.head (hR a b hr) ha
abbrev Conn (es : List (Nat × Nat)) (wo : Nat → Bool) : Nat → Nat → Prop := Star (Bd es wo)
theorem Conn.symm {es : List (Nat × Nat)} {wo : Nat → Bool} {u v : Nat} (h : Star (Bd es wo) u v) : Star (Bd es wo) v u := Star.symm' (fun _ _ h => h.symm) h
theorem Conn.free {es : List (Nat × Nat)} {wo : Nat → Bool} {u v : Nat} (h : Star (Bd es wo) u v) (hu : wo u = false) : wo v = false :=
  h.ind (S := fun x => wo x = false) hu fun a b _ _ hr => hr.free.2
theorem Conn.bnd {V : Nat} {es : List (Nat × Nat)} (hp : Plain V es) {wo : Nat → Bool} {u v : Nat} (h : Star (Bd es wo) u v) (hu : u < V) : v < V :=
  h.ind (S := fun x => x < V) hu fun a b _ _ hr => (hr.bnd hp).2
/-- the least of its part -/
def Rep (es : List (Nat × Nat)) (wo : Nat → Bool) (x : Nat) : Prop := wo x = false ∧ ∀ y, y < x → ¬ Star (Bd es wo) x y
theorem rep_ex (es : List (Nat × Nat)) (wo : Nat → Bool) (x : Nat) (hx : wo x = false) : ∃ y, y ≤ x ∧ Star (Bd es wo) x y ∧ Rep es wo y := by
  induction x using Nat.strongRecOn with
  | ind x ih =>
    by_cases h : ∃ y, y < x ∧ Star (Bd es wo) x y
    · obtain ⟨y, hy, hs⟩ := h
      obtain ⟨z, hz, hs2, hr⟩ := ih y hy (Conn.free hs hx)
      exact ⟨z, by omega, hs.trans hs2, hr⟩
    · exact ⟨x, Nat.le_refl _, .refl, hx, fun y hy hs => h ⟨y, hy, hs⟩⟩
theorem Rep.only {es : List (Nat × Nat)} {wo : Nat → Bool} {x y : Nat} (hx : Rep es wo x) (hy : Rep es wo y) (h : Star (Bd es wo) x y) : x = y := by
  have h1 := hx.2 y
  have h2 := hy.2 x
  by_cases hlt : y < x
  · exact absurd h (h1 hlt)
  · by_cases hlt2 : x < y
    · exact absurd (Conn.symm h) (h2 hlt2)
    · omega
theorem rep_iff {es : List (Nat × Nat)} {wo : Nat → Bool} {x : Nat} (hx : wo x = false) : Rep es wo x ↔ ¬ ∃ r, r < x ∧ Rep es wo r ∧ Star (Bd es wo) r x := by
  constructor
  · rintro h ⟨r, hr, _, hs⟩
    exact h.2 r hr (Conn.symm hs)
  · intro h
    obtain ⟨y, hy, hs, hr⟩ := rep_ex es wo x hx
    by_cases hyx : y = x
    · subst hyx; exact hr
    · exact absurd ⟨y, by omega, hr, Conn.symm hs⟩ h

/-- the table of neighbours -/
def bsF (es : List (Nat × Nat)) (wo : Nat → Bool) : Nat → Nat :=
  es.foldl (fun f e => if (wo e.1 || wo e.2) = true then f else upd (upd f e.1 (f e.1 ||| bitI (e.2 : Int))) e.2 (upd f e.1 (f e.1 ||| bitI (e.2 : Int)) e.2 ||| bitI (e.1 : Int))) (fun _ => 0)
theorem bsF_snoc (es : List (Nat × Nat)) (wo : Nat → Bool) (p q : Nat) : bsF (es ++ [(p, q)]) wo = if (wo p || wo q) = true then bsF es wo else upd (upd (bsF es wo) p (bsF es wo p ||| bitI (q : Int))) q (upd (bsF es wo) p (bsF es wo p ||| bitI (q : Int)) q ||| bitI (p : Int)) := by
  simp [bsF]
theorem bsF_lt (es : List (Nat × Nat)) (wo : Nat → Bool) (x : Nat) : bsF es wo x < 18446744073709551616 := by
  induction es using snoc_ind generalizing x with
  | h0 => simp [bsF]
  | h1 es e ih =>
    obtain ⟨p, q⟩ := e
    rw [bsF_snoc]
    split
    · exact ih x
    · unfold upd
      by_cases h1 : x = q
      · rw [if_pos h1]
        refine or_lt ?_ (bitI_lt _)
        split
        · exact or_lt (ih p) (bitI_lt _)
        · exact ih q
      · rw [if_neg h1]
        split
        · exact or_lt (ih p) (bitI_lt _)
        · exact ih x
theorem bd_snoc (es : List (Nat × Nat)) (wo : Nat → Bool) (p q x j : Nat) : Bd (es ++ [(p, q)]) wo x j ↔ Bd es wo x j ∨ (wo p = false ∧ wo q = false ∧ ((x = p ∧ j = q) ∨ (x = q ∧ j = p))) := by
  constructor
  · rintro ⟨e, he, h1, h2, h3⟩
    rcases List.mem_append.1 he with he | he
    · exact .inl ⟨e, he, h1, h2, h3⟩
    · simp at he
      subst he
      refine .inr ⟨h1, h2, ?_⟩
      rcases h3 with h3 | h3
      · simp at h3; exact .inl ⟨h3.1.symm, h3.2.symm⟩
      · simp at h3; exact .inr ⟨h3.2.symm, h3.1.symm⟩
  · rintro (⟨e, he, h⟩ | ⟨h1, h2, h3⟩)
    · exact ⟨e, List.mem_append_left _ he, h⟩
    · refine ⟨(p, q), by simp, h1, h2, ?_⟩
      rcases h3 with ⟨rfl, rfl⟩ | ⟨rfl, rfl⟩
      · exact .inl rfl
      · exact .inr rfl
theorem testBit_bsF (es : List (Nat × Nat)) (wo : Nat → Bool) (x j : Nat) : (bsF es wo x).testBit j = true ↔ j < 64 ∧ Bd es wo x j := by
  induction es using snoc_ind generalizing x j with
  | h0 =>
    simp only [bsF, List.foldl_nil, Nat.zero_testBit]
    constructor
    · intro h; cases h
    · rintro ⟨_, e, he, _⟩; cases he
  | h1 es e ih =>
    obtain ⟨p, q⟩ := e
    have hor : ∀ a b : Nat, (a ||| b).testBit j = true ↔ a.testBit j = true ∨ b.testBit j = true := fun a b => by rw [Nat.testBit_or]; simp
    have hbit : ∀ y : Nat, (bitI (y : Int)).testBit j = true ↔ j < 64 ∧ j = y := fun y => by
      rw [testBit_bitI]
      simp
      omega
    rw [bsF_snoc, bd_snoc]
    split
    · rename_i hw
      rw [ih]
      have hn : ¬ (wo p = false ∧ wo q = false) := by
        rintro ⟨h1, h2⟩
        simp [h1, h2] at hw
      exact ⟨fun h => ⟨h.1, .inl h.2⟩, fun h => ⟨h.1, h.2.resolve_right fun h3 => hn ⟨h3.1, h3.2.1⟩⟩⟩
    · rename_i hw
      have hw' : wo p = false ∧ wo q = false := by
        cases h1 : wo p <;> cases h2 : wo q <;> simp_all
      unfold upd
      by_cases hxq : x = q
      · subst hxq
        rw [if_pos rfl, hor, hbit]
        by_cases hxp : x = p
        · subst hxp
          rw [if_pos rfl, hor, hbit, ih]
          constructor
          · rintro ((⟨h1, h2⟩ | ⟨h1, h2⟩) | ⟨h1, h2⟩)
            · exact ⟨h1, .inl h2⟩
            · exact ⟨h1, .inr ⟨hw'.1, hw'.2, .inl ⟨rfl, h2⟩⟩⟩
            · exact ⟨h1, .inr ⟨hw'.1, hw'.2, .inl ⟨rfl, h2⟩⟩⟩
          · rintro ⟨h1, h2 | ⟨_, _, ⟨_, h2⟩ | ⟨_, h2⟩⟩⟩
            · exact .inl (.inl ⟨h1, h2⟩)
            · exact .inl (.inr ⟨h1, h2⟩)
            · exact .inl (.inr ⟨h1, h2⟩)
        · rw [if_neg hxp, ih]
          constructor
          · rintro (⟨h1, h2⟩ | ⟨h1, h2⟩)
            · exact ⟨h1, .inl h2⟩
            · exact ⟨h1, .inr ⟨hw'.1, hw'.2, .inr ⟨rfl, h2⟩⟩⟩
          · rintro ⟨h1, h2 | ⟨_, _, ⟨h2, _⟩ | ⟨_, h2⟩⟩⟩
            · exact .inl ⟨h1, h2⟩
            · exact absurd h2 hxp
            · exact .inr ⟨h1, h2⟩
      · rw [if_neg hxq]
        by_cases hxp : x = p
        · subst hxp
          rw [if_pos rfl, hor, hbit, ih]
          constructor
          · rintro (⟨h1, h2⟩ | ⟨h1, h2⟩)
            · exact ⟨h1, .inl h2⟩
            · exact ⟨h1, .inr ⟨hw'.1, hw'.2, .inl ⟨rfl, h2⟩⟩⟩
          · rintro ⟨h1, h2 | ⟨_, _, ⟨_, h2⟩ | ⟨h2, _⟩⟩⟩
            · exact .inl ⟨h1, h2⟩
            · exact .inr ⟨h1, h2⟩
            · exact absurd h2 hxq
        · rw [if_neg hxp, ih]
          constructor
          · rintro ⟨h1, h2⟩
            exact ⟨h1, .inl h2⟩
          · rintro ⟨h1, h2 | ⟨_, _, ⟨h2, _⟩ | ⟨h2, _⟩⟩⟩
            · exact ⟨h1, h2⟩
            · exact absurd h2 hxp
            · exact absurd h2 hxq
theorem by_bs {V : Nat} {es : List (Nat × Nat)} (hp : Plain V es) (wo : Nat → Bool) (u v : Nat) : By (bsF es wo) u v ↔ Bd es wo u v := by
  unfold By
  rw [testBit_bsF]
  exact ⟨fun h => h.2, fun h => ⟨by have := (h.bnd hp).2; have := hp.v64; omega, h⟩⟩
theorem bs_bnd {V : Nat} {es : List (Nat × Nat)} (hp : Plain V es) (wo : Nat → Bool) (x : Nat) : ∀ j, (bsF es wo x).testBit j = true → j < V := by
  intro j hj
  exact (((testBit_bsF es wo x j).1 hj).2.bnd hp).2
/-- the parts as sets; which vertices are the least of theirs -/
structure IsPt (V : Nat) (es : List (Nat × Nat)) (wo : Nat → Bool) (C : Nat → Nat) (rp : Nat → Bool) : Prop where
  lt : ∀ x, x < V → C x < 18446744073709551616
  bit : ∀ x, x < V → ∀ j, (C x).testBit j = true ↔ Star (Bd es wo) x j
  rep : ∀ x, x < V → (rp x = true ↔ Rep es wo x)
theorem pt_ex {V : Nat} {es : List (Nat × Nat)} (hp : Plain V es) (wo : Nat → Bool) : ∃ C rp, IsPt V es wo C rp := by
  classical
  refine ⟨fun x => ofS (((List.range V).filter fun j => decide (Star (Bd es wo) x j)).map fun (j : Nat) => (j : Int)), fun x => decide (Rep es wo x), fun x hx => ofS_lt _, fun x hx j => ?_, fun x hx => by simp⟩
  have hv := hp.v64
  rw [testBit_ofS]
  simp only [decide_eq_true_eq, List.mem_map, List.mem_filter, List.mem_range]
  constructor
  · rintro ⟨h1, i, ⟨h2, h3⟩, h4⟩
    have : i = j := by omega
    subst this
    exact h3
  · intro h
    have hj := Conn.bnd hp h hx
    exact ⟨by omega, j, ⟨hj, h⟩, rfl⟩
theorem IsPt.spread {V : Nat} {es : List (Nat × Nat)} (hp : Plain V es) {wo : Nat → Bool} {C : Nat → Nat} {rp : Nat → Bool} (h : IsPt V es wo C rp) {x t : Nat} (hx : x < V) (hs : IsSpread (bsF es wo) (ofS [(x : Int)]) t) : t = C x := by
  refine set_ext hs.1 (h.lt x hx) fun j _ => ?_
  rw [Bool.eq_iff_iff, spread_one hs (by have := hp.v64; omega), h.bit x hx]
  exact ⟨Star.mono fun i j => (by_bs hp wo i j).1, Star.mono fun i j => (by_bs hp wo i j).2⟩
end Go.Proofs.YtefagplbpbkpgaaDoor.pt
/-
  How many rounds a function that is one to one has, and that a change of two places makes one more or one fewer. No conditions beyond each theorem's own.
-/
namespace Go.Proofs.YtefagplbpbkpgaaDoor
open Go.RowKit
set_option linter.unusedVariables false
set_option maxRecDepth 20000

/-- two numbers change places -/
def sw (a b j : Nat) : Nat := if j = a then b else if j = b then a else j
theorem sw_a (a b : Nat) : sw a b a = b := by simp [sw]
theorem sw_b (a b : Nat) : sw a b b = a := by unfold sw; split <;> simp_all
theorem sw_o {a b j : Nat} (h1 : j ≠ a) (h2 : j ≠ b) : sw a b j = j := by simp [sw, h1, h2]
theorem sw_sw (a b j : Nat) : sw a b (sw a b j) = j := by
  by_cases h1 : j = a
  · rw [h1, sw_a, sw_b]
  · by_cases h2 : j = b
    · rw [h2, sw_b, sw_a]
    · rw [sw_o h1 h2, sw_o h1 h2]
theorem sw_lt {a b H j : Nat} (ha : a < H) (hb : b < H) (hj : j < H) : sw a b j < H := by
  unfold sw
  split
  · exact hb
  · split
    · exact ha
    · exact hj
/-- how many rounds -/
def cyc (N : Nat → Nat) (H : Nat) : Nat := ((List.range H).filter fun h => isLeast N H h).length
theorem cyc_faces (N : Nat → Nat) (H : Nat) : (facesF N H H).length = cyc N H := by simp [facesF, cyc]
theorem Pm.swap {N : Nat → Nat} {H a b : Nat} (p : Pm N H) (ha : a < H) (hb : b < H) : Pm (fun j => N (sw a b j)) H := by
  refine ⟨fun j hj => p.lt _ (sw_lt ha hb hj), fun i j hi hj h => ?_⟩
  have := p.inj _ _ (sw_lt ha hb hi) (sw_lt ha hb hj) h
  have h2 := congrArg (sw a b) this
  rwa [sw_sw, sw_sw] at h2
/-- a set that is closed holds the rounds of all that it has -/
theorem orb_in {N : Nat → Nat} {H h : Nat} {U : Nat → Prop} (hU : ∀ j, U j → U (N j)) (h0 : U h) : ∀ j ∈ orb N H h, U j := by
  intro j hj
  obtain ⟨t, ht, rfl⟩ := mem_orb.1 hj
  clear hj ht
  induction t with
  | zero => exact h0
  | succ t ih => exact hU _ ih
theorem Pm.orb_n {N : Nat → Nat} {H : Nat} (p : Pm N H) {h j : Nat} (hh : h < H) (hj : j ∈ orb N H h) : N j ∈ orb N H h := p.trans hh hj (p.orb_it (p.orb_lt hh j hj) 1)
theorem Pm.mem_self {N : Nat → Nat} {H : Nat} (p : Pm N H) {h : Nat} (hh : h < H) : h ∈ orb N H h := p.orb_it hh 0

section
variable {N : Nat → Nat} {H a b : Nat}

/-- along the other's round to its end -/
theorem merge_run (p : Pm N H) (ha : a < H) (hb : b < H) (hab : b ∉ orb N H a) : ∀ t, t ≤ pr N H b → it (fun j => N (sw a b j)) (t + 1) a = it N (t + 1) b := by
  have hpr := p.pr hb
  intro t
  induction t with
  | zero => intro _; show N (sw a b a) = N b; rw [sw_a]
  | succ t ih =>
    intro ht
    show N (sw a b (it (fun j => N (sw a b j)) (t + 1) a)) = N (it N (t + 1) b)
    rw [ih (by omega), sw_o]
    · intro e
      have h1 := p.orb_it hb (t + 1)
      rw [e] at h1
      exact hab (p.sym hb h1)
    · exact hpr.2.2 t (by omega)
theorem merge_b (p : Pm N H) (ha : a < H) (hb : b < H) (hab : b ∉ orb N H a) : b ∈ orb (fun j => N (sw a b j)) H a := by
  have h1 := merge_run p ha hb hab (pr N H b) (Nat.le_refl _)
  rw [(p.pr hb).2.1] at h1
  have h2 := (p.swap ha hb).orb_it ha (pr N H b + 1)
  rw [h1] at h2
  exact h2
theorem sw_comm (a b j : Nat) : sw a b j = sw b a j := by
  unfold sw
  split <;> split <;> simp_all
theorem swap_comm (N : Nat → Nat) (a b : Nat) : (fun j => N (sw a b j)) = fun j => N (sw b a j) := by funext j; rw [sw_comm]
/-- all of the other's round is in one's own then -/
theorem merge_all (p : Pm N H) (ha : a < H) (hb : b < H) (hab : b ∉ orb N H a) : ∀ j ∈ orb N H b, j ∈ orb (fun j => N (sw a b j)) H a := by
  intro j hj
  have hpr := p.pr hb
  obtain ⟨t, ht, rfl⟩ := mem_orb.1 hj
  cases t with
  | zero => exact merge_b p ha hb hab
  | succ t =>
    have h1 := merge_run p ha hb hab t (by omega)
    have h2 := (p.swap ha hb).orb_it ha (t + 1)
    rw [h1] at h2
    exact h2
theorem merge_orb (p : Pm N H) (ha : a < H) (hb : b < H) (hab : b ∉ orb N H a) {j : Nat} : j ∈ orb (fun j => N (sw a b j)) H a ↔ (j ∈ orb N H a ∨ j ∈ orb N H b) := by
  have p' := p.swap ha hb
  have hba : a ∉ orb N H b := fun h => hab (p.sym hb h)
  constructor
  · refine orb_in (U := fun j => j ∈ orb N H a ∨ j ∈ orb N H b) ?_ (.inl (p.mem_self ha)) j
    rintro j (h | h)
    · by_cases h1 : j = a
      · subst h1; show N (sw j b j) ∈ _ ∨ _; rw [sw_a]; exact .inr (p.orb_n hb (p.mem_self hb))
      · have h2 : j ≠ b := fun e => hab (e ▸ h)
        show N (sw a b j) ∈ _ ∨ _
        rw [sw_o h1 h2]
        exact .inl (p.orb_n ha h)
    · by_cases h1 : j = b
      · subst h1; show N (sw a j j) ∈ _ ∨ _; rw [sw_b]; exact .inl (p.orb_n ha (p.mem_self ha))
      · have h2 : j ≠ a := fun e => hba (e ▸ h)
        show N (sw a b j) ∈ _ ∨ _
        rw [sw_o h2 h1]
        exact .inr (p.orb_n hb h)
  · rintro (h | h)
    · have h1 := merge_all p hb ha hba j h
      rw [← swap_comm] at h1
      exact p'.trans ha (merge_b p ha hb hab) h1
    · exact merge_all p ha hb hab j h
/-- what is in neither round stays as it was -/
theorem merge_far (p : Pm N H) (ha : a < H) (hb : b < H) {h : Nat} (hh : h < H) (h1 : h ∉ orb N H a) (h2 : h ∉ orb N H b) {j : Nat} : j ∈ orb (fun j => N (sw a b j)) H h ↔ j ∈ orb N H h := by
  have p' := p.swap ha hb
  have key : ∀ t, it (fun j => N (sw a b j)) t h = it N t h := by
    intro t
    induction t with
    | zero => rfl
    | succ t ih =>
      show N (sw a b (it (fun j => N (sw a b j)) t h)) = N (it N t h)
      rw [ih, sw_o]
      · exact fun e => h1 (p.sym hh (by have := p.orb_it hh t; rwa [e] at this))
      · exact fun e => h2 (p.sym hh (by have := p.orb_it hh t; rwa [e] at this))
  constructor
  · intro hj
    obtain ⟨t, _, rfl⟩ := mem_orb.1 hj
    rw [key]
    exact p.orb_it hh t
  · intro hj
    obtain ⟨t, _, rfl⟩ := mem_orb.1 hj
    rw [← key]
    exact p'.orb_it hh t
/-- the least of a round -/
theorem Pm.least {N : Nat → Nat} {H : Nat} (p : Pm N H) {h : Nat} (hh : h < H) : ∃ l, l ∈ orb N H h ∧ isLeast N H l = true := by
  have : ∀ n h, h ≤ n → h < H → ∃ l, l ∈ orb N H h ∧ isLeast N H l = true := by
    intro n
    induction n with
    | zero =>
      intro h hn hh
      have : h = 0 := by omega
      subst this
      exact ⟨0, p.mem_self hh, isLeast_iff.2 fun j _ => by omega⟩
    | succ n ih =>
      intro h hn hh
      by_cases hl : isLeast N H h = true
      · exact ⟨h, p.mem_self hh, hl⟩
      · rw [isLeast_iff] at hl
        obtain ⟨j, hj⟩ := Classical.not_forall.1 hl
        obtain ⟨hj1, hj2⟩ := Classical.not_imp.1 hj
        obtain ⟨l, h1, h2⟩ := ih j (by omega) (p.orb_lt hh j hj1)
        exact ⟨l, p.trans hh hj1 h1, h2⟩
  exact this h h (Nat.le_refl _) hh
theorem filter_one {q r : Nat → Bool} {m : Nat} : ∀ {l : List Nat}, l.Nodup → m ∈ l → r m = true → q m = false → (∀ h ∈ l, h ≠ m → q h = r h) → (l.filter q).length + 1 = (l.filter r).length := by
  intro l
  induction l with
  | nil => intro _ h; simp at h
  | cons c t ih =>
    intro hn hm h1 h2 h3
    rw [List.nodup_cons] at hn
    by_cases hc : c = m
    · subst hc
      have : t.filter q = t.filter r := List.filter_congr fun h hh => h3 h (by simp [hh]) (fun e => hn.1 (e ▸ hh))
      rw [List.filter_cons, List.filter_cons, h1, h2, this]
      simp
    · have hm' : m ∈ t := by
        rcases List.mem_cons.1 hm with h | h
        · exact absurd h.symm hc
        · exact h
      have := ih hn.2 hm' h1 h2 fun h hh => h3 h (by simp [hh])
      have hcq := h3 c (by simp) hc
      rw [List.filter_cons, List.filter_cons, hcq]
      cases r c <;> simp <;> omega
theorem cyc_merge (p : Pm N H) (ha : a < H) (hb : b < H) (hab : b ∉ orb N H a) : cyc (fun j => N (sw a b j)) H + 1 = cyc N H := by
  have p' := p.swap ha hb
  obtain ⟨la, hla, hlla⟩ := p.least ha
  obtain ⟨lb, hlb, hllb⟩ := p.least hb
  have hlaH := p.orb_lt ha la hla
  have hlbH := p.orb_lt hb lb hlb
  have hne : la ≠ lb := fun e => by
    subst e
    exact hab (p.trans ha hla (p.sym hb hlb))
  have hba : a ∉ orb N H b := fun h => hab (p.sym hb h)
  -- the round of anything in either
  have hU : ∀ h, (h ∈ orb N H a ∨ h ∈ orb N H b) → ∀ j, (j ∈ orb (fun j => N (sw a b j)) H h ↔ (j ∈ orb N H a ∨ j ∈ orb N H b)) := by
    intro h hh j
    have h1 := (merge_orb p ha hb hab).2 hh
    have hH := p'.orb_lt ha h h1
    constructor
    · intro h2
      exact (merge_orb p ha hb hab).1 (p'.trans ha h1 h2)
    · intro h2
      exact p'.trans hH (p'.sym ha h1) ((merge_orb p ha hb hab).2 h2)
  have lea : ∀ h, h ∈ orb N H a → la ≤ h := fun h hh => isLeast_iff.1 hlla h (p.trans hlaH (p.sym ha hla) hh)
  have leb : ∀ h, h ∈ orb N H b → lb ≤ h := fun h hh => isLeast_iff.1 hllb h (p.trans hlbH (p.sym hb hlb) hh)
  have main : ∀ m s, ((m = la ∧ s = lb) ∨ (m = lb ∧ s = la)) → s < m → cyc (fun j => N (sw a b j)) H + 1 = cyc N H := by
    intro m s hms hsm
    have hmU : m ∈ orb N H a ∨ m ∈ orb N H b := by rcases hms with ⟨rfl, _⟩ | ⟨rfl, _⟩; exact .inl hla; exact .inr hlb
    have hsU : s ∈ orb N H a ∨ s ∈ orb N H b := by rcases hms with ⟨_, rfl⟩ | ⟨_, rfl⟩; exact .inr hlb; exact .inl hla
    have hml : isLeast N H m = true := by rcases hms with ⟨rfl, _⟩ | ⟨rfl, _⟩; exact hlla; exact hllb
    have hmH : m < H := by rcases hms with ⟨rfl, _⟩ | ⟨rfl, _⟩; exact hlaH; exact hlbH
    refine filter_one (m := m) List.nodup_range (by simpa using hmH) hml ?_ ?_
    · cases hc : isLeast (fun j => N (sw a b j)) H m with
      | false => rfl
      | true =>
        have := isLeast_iff.1 hc s ((hU m hmU s).2 hsU)
        omega
    · intro h hh hhm
      have hhH : h < H := by simpa using hh
      rw [Bool.eq_iff_iff, isLeast_iff, isLeast_iff]
      by_cases h1 : h ∈ orb N H a ∨ h ∈ orb N H b
      · constructor
        · intro h2 j hj
          refine h2 j ((hU h h1 j).2 ?_)
          rcases h1 with h1 | h1
          · exact .inl (p.trans ha h1 hj)
          · exact .inr (p.trans hb h1 hj)
        · intro h2 j hj
          -- h is the least of its own round: it is la or lb, so s
          have hhs : h = s := by
            rcases h1 with h1 | h1
            · have e1 := h2 la (p.trans hhH (p.sym ha h1) hla)
              have e2 := lea h h1
              rcases hms with ⟨rfl, rfl⟩ | ⟨rfl, rfl⟩ <;> omega
            · have e1 := h2 lb (p.trans hhH (p.sym hb h1) hlb)
              have e2 := leb h h1
              rcases hms with ⟨rfl, rfl⟩ | ⟨rfl, rfl⟩ <;> omega
          subst hhs
          rcases (hU h h1 j).1 hj with h3 | h3
          · have := lea j h3
            rcases hms with ⟨rfl, rfl⟩ | ⟨rfl, rfl⟩ <;> omega
          · have := leb j h3
            rcases hms with ⟨rfl, rfl⟩ | ⟨rfl, rfl⟩ <;> omega
      · have h2 : h ∉ orb N H a := fun e => h1 (.inl e)
        have h3 : h ∉ orb N H b := fun e => h1 (.inr e)
        constructor
        · intro h4 j hj
          exact h4 j ((merge_far p ha hb hhH h2 h3).2 hj)
        · intro h4 j hj
          exact h4 j ((merge_far p ha hb hhH h2 h3).1 hj)
  rcases Nat.lt_or_ge la lb with h | h
  · exact main lb la (.inr ⟨rfl, rfl⟩) h
  · exact main la lb (.inl ⟨rfl, rfl⟩) (by omega)
/-- two of one round are parted -/
theorem split_out (p : Pm N H) (ha : a < H) (hb : b < H) (hne : a ≠ b) (hab : b ∈ orb N H a) : b ∉ orb (fun j => N (sw a b j)) H a := by
  obtain ⟨h1, h2, h3⟩ := p.pr ha
  obtain ⟨s, hs, hsb⟩ := mem_orb.1 hab
  have hs0 : 0 < s := Nat.pos_of_ne_zero fun e => by subst e; exact hne hsb
  intro hc
  have := orb_in (N := fun j => N (sw a b j)) (U := fun j => ∃ t, s < t ∧ t ≤ pr N H a + 1 ∧ it N t a = j) (by
    rintro j ⟨t, ht1, ht2, rfl⟩
    by_cases hte : t = pr N H a + 1
    · subst hte
      refine ⟨s + 1, by omega, by omega, ?_⟩
      rw [h2]
      show N (it N s a) = N (sw a b a)
      rw [sw_a, hsb]
    · refine ⟨t + 1, by omega, by omega, ?_⟩
      show N (it N t a) = N (sw a b (it N t a))
      rw [sw_o]
      · intro e
        refine h3 (t - 1) (by omega) ?_
        rw [show t - 1 + 1 = t by omega]
        exact e
      · intro e
        rw [← hsb] at e
        refine h3 (t - s - 1) (by omega) ?_
        rw [show t - s - 1 + 1 = t - s by omega]
        exact p.back ha (by omega) e.symm) ⟨pr N H a + 1, by omega, Nat.le_refl _, h2⟩ b hc
  obtain ⟨t, ht1, ht2, hte⟩ := this
  rw [← hsb] at hte
  by_cases htp : t = pr N H a + 1
  · subst htp
    rw [h2] at hte
    exact hne (hte.trans hsb)
  · refine h3 (t - s - 1) (by omega) ?_
    rw [show t - s - 1 + 1 = t - s by omega]
    exact p.back ha (by omega) hte.symm
theorem cyc_split (p : Pm N H) (ha : a < H) (hb : b < H) (hne : a ≠ b) (hab : b ∈ orb N H a) : cyc (fun j => N (sw a b j)) H = cyc N H + 1 := by
  have h1 := cyc_merge (p.swap ha hb) ha hb (split_out p ha hb hne hab)
  have h2 : (fun j => (fun j => N (sw a b j)) (sw a b j)) = N := by funext j; show N (sw a b (sw a b j)) = N j; rw [sw_sw]
  rw [h2] at h1
  exact h1.symm
/-- one more, or one fewer -/
theorem cyc_swap (p : Pm N H) (ha : a < H) (hb : b < H) (hne : a ≠ b) : cyc (fun j => N (sw a b j)) H = cyc N H + 1 ∨ cyc (fun j => N (sw a b j)) H + 1 = cyc N H := by
  by_cases hab : b ∈ orb N H a
  · exact .inl (cyc_split p ha hb hne hab)
  · exact .inr (cyc_merge p ha hb hab)
end
end Go.Proofs.YtefagplbpbkpgaaDoor
/-
  Vertices, edges, faces, parts: the count of handles is a number, never less than nought. No conditions beyond each theorem's own.
-/
namespace Go.Proofs.YtefagplbpbkpgaaDoor.pt
open Go.RowKit
set_option linter.unusedVariables false
set_option maxRecDepth 20000

theorem inj_len {R : Nat → Nat → Prop} : ∀ (l1 l2 : List Nat), l1.Nodup → (∀ v ∈ l1, ∃ y ∈ l2, R v y) → (∀ v v' y, v ∈ l1 → v' ∈ l1 → R v y → R v' y → v = v') → l1.length ≤ l2.length := by
  intro l1
  induction l1 with
  | nil => intro l2 _ _ _; simp
  | cons v t ih =>
    intro l2 hn hm hi
    obtain ⟨y, hy, hR⟩ := hm v (by simp)
    rw [List.nodup_cons] at hn
    have := ih (l2.erase y) hn.2 (fun v' hv' => by
      obtain ⟨y', hy', hR'⟩ := hm v' (by simp [hv'])
      refine ⟨y', ?_, hR'⟩
      by_cases e : y' = y
      · subst e
        have := hi v v' y' (by simp) (by simp [hv']) hR hR'
        subst this
        exact absurd hv' hn.1
      · exact (List.mem_erase_of_ne e).2 hy') (fun a b c ha hb => hi a b c (by simp [ha]) (by simp [hb]))
    rw [List.length_erase_of_mem hy] at this
    have hpos := List.length_pos_of_mem hy
    simp
    omega

abbrev S0 (es : List (Nat × Nat)) : Nat → Nat → Prop := Star (Bd es fun _ => false)
abbrev R0 (es : List (Nat × Nat)) (v : Nat) : Prop := Rep es (fun _ => false) v
theorem bd0 {es : List (Nat × Nat)} {u v : Nat} : Bd es (fun _ => false) u v ↔ ((u, v) ∈ es ∨ (v, u) ∈ es) := by
  constructor
  · rintro ⟨e, he, _, _, h | h⟩
    · rw [h] at he; exact .inl he
    · rw [h] at he; exact .inr he
  · rintro (h | h)
    · exact ⟨_, h, rfl, rfl, .inl rfl⟩
    · exact ⟨_, h, rfl, rfl, .inr rfl⟩
theorem s0_more {es : List (Nat × Nat)} {e : Nat × Nat} {x y : Nat} (h : S0 es x y) : S0 (es ++ [e]) x y := Star.mono (fun i j h => by
  rw [bd0] at h ⊢
  rcases h with h | h
  · exact .inl (by simp [h])
  · exact .inr (by simp [h])) h
theorem s0_edge {es : List (Nat × Nat)} {u v : Nat} : S0 (es ++ [(u, v)]) u v := Star.refl.step (bd0.2 (.inl (by simp)))
theorem s0_snoc {es : List (Nat × Nat)} {u v x y : Nat} : S0 (es ++ [(u, v)]) x y ↔ (S0 es x y ∨ (S0 es x u ∧ S0 es v y) ∨ (S0 es x v ∧ S0 es u y)) := by
  constructor
  · intro h
    refine h (fun y => S0 es x y ∨ (S0 es x u ∧ S0 es v y) ∨ (S0 es x v ∧ S0 es u y)) (.inl .refl) ?_
    intro a b ha hr
    rw [bd0] at hr
    simp only [List.mem_append, List.mem_singleton, Prod.mk.injEq] at hr
    have hstep : ∀ {p : Nat}, S0 es p a → Bd es (fun _ => false) a b → S0 es p b := fun h1 h2 => h1.step h2
    rcases hr with (hr | ⟨rfl, rfl⟩) | (hr | ⟨rfl, rfl⟩)
    · have hb : Bd es (fun _ => false) a b := bd0.2 (.inl hr)
      rcases ha with h1 | ⟨h1, h2⟩ | ⟨h1, h2⟩
      · exact .inl (hstep h1 hb)
      · exact .inr (.inl ⟨h1, hstep h2 hb⟩)
      · exact .inr (.inr ⟨h1, hstep h2 hb⟩)
    · rcases ha with h1 | ⟨h1, h2⟩ | ⟨h1, h2⟩
      · exact .inr (.inl ⟨h1, .refl⟩)
      · exact .inr (.inl ⟨h1, .refl⟩)
      · exact .inl h1
    · have hb : Bd es (fun _ => false) a b := bd0.2 (.inr hr)
      rcases ha with h1 | ⟨h1, h2⟩ | ⟨h1, h2⟩
      · exact .inl (hstep h1 hb)
      · exact .inr (.inl ⟨h1, hstep h2 hb⟩)
      · exact .inr (.inr ⟨h1, hstep h2 hb⟩)
    · rcases ha with h1 | ⟨h1, h2⟩ | ⟨h1, h2⟩
      · exact .inr (.inr ⟨h1, .refl⟩)
      · exact .inl h1
      · exact .inr (.inr ⟨h1, .refl⟩)
  · rintro (h | ⟨h1, h2⟩ | ⟨h1, h2⟩)
    · exact s0_more h
    · exact (s0_more h1).trans (s0_edge.trans (s0_more h2))
    · exact (s0_more h1).trans ((Conn.symm s0_edge).trans (s0_more h2))
/-- the parts, counted -/
def IsCnt (V : Nat) (es : List (Nat × Nat)) (c : Nat) : Prop := ∃ r : Nat → Bool, (∀ v, v < V → (r v = true ↔ R0 es v)) ∧ ((List.range V).filter r).length = c
theorem IsCnt.only {V : Nat} {es : List (Nat × Nat)} {c c' : Nat} (h : IsCnt V es c) (h' : IsCnt V es c') : c = c' := by
  obtain ⟨r, h1, rfl⟩ := h
  obtain ⟨r', h2, rfl⟩ := h'
  congr 1
  refine List.filter_congr fun v hv => ?_
  have hv := List.mem_range.1 hv
  rw [Bool.eq_iff_iff, h1 v hv, h2 v hv]
theorem IsCnt.nil (V : Nat) : IsCnt V [] V := by
  refine ⟨fun _ => true, fun v hv => ⟨fun _ => ⟨rfl, fun y hy hs => ?_⟩, fun _ => rfl⟩, by rw [List.filter_eq_self.2 (fun _ _ => rfl), List.length_range]⟩
  have : v = y := hs (fun z => v = z) rfl fun a b h1 hr => by
    rw [bd0] at hr
    simp at hr
  omega
theorem cnt_ex (V : Nat) (es : List (Nat × Nat)) : ∃ c, IsCnt V es c := by
  classical
  exact ⟨_, fun v => decide (R0 es v), fun v _ => decide_eq_true_iff, rfl⟩
/-- an edge within a part leaves their count, one between two makes it one less -/
theorem IsCnt.edge {V : Nat} {es : List (Nat × Nat)} {u v c : Nat} (h : IsCnt V es c) (hu : u < V) (hv : v < V) : (S0 es u v → IsCnt V (es ++ [(u, v)]) c) ∧ (¬ S0 es u v → 0 < c ∧ IsCnt V (es ++ [(u, v)]) (c - 1)) := by
  obtain ⟨r, h1, rfl⟩ := h
  constructor
  · intro hs
    refine ⟨r, fun x hx => ?_, rfl⟩
    rw [h1 x hx]
    have key : ∀ y, S0 (es ++ [(u, v)]) x y ↔ S0 es x y := fun y => by
      rw [s0_snoc]
      constructor
      · rintro (h | ⟨h2, h3⟩ | ⟨h2, h3⟩)
        · exact h
        · exact h2.trans (hs.trans h3)
        · exact h2.trans ((Conn.symm hs).trans h3)
      · exact .inl
    constructor
    · exact fun h => ⟨rfl, fun y hy hs' => h.2 y hy ((key y).1 hs')⟩
    · exact fun h => ⟨rfl, fun y hy hs' => h.2 y hy ((key y).2 hs')⟩
  · intro hs
    obtain ⟨ru, hru, hsu, hpu⟩ := rep_ex es (fun _ => false) u rfl
    obtain ⟨rv, hrv, hsv, hpv⟩ := rep_ex es (fun _ => false) v rfl
    have hne : ru ≠ rv := fun e => by
      subst e
      exact hs (hsu.trans (Conn.symm hsv))
    have lo : ∀ {z p : Nat}, R0 es p → S0 es p z → p ≤ z := fun {z p} hp hz => Nat.le_of_not_lt fun hlt => hp.2 z hlt hz
    obtain ⟨cc, r', hr', hcc⟩ := cnt_ex V (es ++ [(u, v)])
    have main : ∀ m s, ((m = ru ∧ s = rv) ∨ (m = rv ∧ s = ru)) → s < m → ((List.range V).filter r').length + 1 = ((List.range V).filter r).length := by
      intro m s hms hsm
      have hmV : m < V := by rcases hms with ⟨rfl, _⟩ | ⟨rfl, _⟩ <;> omega
      have hmR : R0 es m := by rcases hms with ⟨rfl, _⟩ | ⟨rfl, _⟩; exact hpu; exact hpv
      refine Go.Proofs.YtefagplbpbkpgaaDoor.filter_one (m := m) List.nodup_range (by simpa using hmV) ((h1 m hmV).2 hmR) ?_ ?_
      · cases hc : r' m with
        | false => rfl
        | true =>
          have := (hr' m hmV).1 hc
          refine absurd ?_ (this.2 s hsm)
          refine s0_snoc.2 ?_
          rcases hms with ⟨rfl, rfl⟩ | ⟨rfl, rfl⟩
          · exact .inr (.inl ⟨Conn.symm hsu, hsv⟩)
          · exact .inr (.inr ⟨Conn.symm hsv, hsu⟩)
      · intro x hx hxm
        have hxV := List.mem_range.1 hx
        rw [Bool.eq_iff_iff, hr' x hxV, h1 x hxV]
        constructor
        · exact fun h => ⟨rfl, fun y hy hs' => h.2 y hy (s0_more hs')⟩
        · refine fun h => ⟨rfl, fun y hy hs' => ?_⟩
          rcases s0_snoc.1 hs' with h2 | ⟨h2, h3⟩ | ⟨h2, h3⟩
          · exact h.2 y hy h2
          · have e1 : x = ru := Rep.only h hpu (h2.trans hsu)
            have e2 := lo hpv ((Conn.symm hsv).trans h3)
            rcases hms with ⟨e3, e4⟩ | ⟨e3, e4⟩ <;> omega
          · have e1 : x = rv := Rep.only h hpv (h2.trans hsv)
            have e2 := lo hpu ((Conn.symm hsu).trans h3)
            rcases hms with ⟨e3, e4⟩ | ⟨e3, e4⟩ <;> omega
    have hres : ((List.range V).filter r').length + 1 = ((List.range V).filter r).length := by
      rcases Nat.lt_or_ge ru rv with h | h
      · exact main rv ru (.inr ⟨rfl, rfl⟩) h
      · exact main ru rv (.inl ⟨rfl, rfl⟩) (by omega)
    exact ⟨by omega, r', hr', by omega⟩

/-- a rotation in plain numbers -/
structure Ro (V : Nat) (es : List (Nat × Nat)) (q : List (List Nat)) : Prop where
  len : q.length = V
  ends : ∀ i, i < es.length → (es.getD i (0, 0)).1 < V ∧ (es.getD i (0, 0)).2 < V
  lt : ∀ x, x < V → ∀ h ∈ q.getD x [], h < 2 * es.length
  st : ∀ x, x < V → ∀ h ∈ q.getD x [], (if h % 2 = 0 then (es.getD (h / 2) (0, 0)).1 else (es.getD (h / 2) (0, 0)).2) = x
  one : ∀ x, x < V → (q.getD x []).Nodup
  all : ∀ h, h < 2 * es.length → ∃ x, x < V ∧ h ∈ q.getD x []
/-- where a half edge stands -/
def stV (es : List (Nat × Nat)) (h : Nat) : Nat := if h % 2 = 0 then (es.getD (h / 2) (0, 0)).1 else (es.getD (h / 2) (0, 0)).2
theorem Ro.at {V : Nat} {es : List (Nat × Nat)} {q : List (List Nat)} (r : Ro V es q) {h : Nat} (hh : h < 2 * es.length) : stV es h < V ∧ h ∈ q.getD (stV es h) [] := by
  obtain ⟨x, hx, hm⟩ := r.all h hh
  have := r.st x hx h hm
  have e : stV es h = x := this
  rw [e]
  exact ⟨hx, hm⟩
/-- what comes next around its vertex -/
def suN (N : Nat → Nat) (j : Nat) : Nat := N (oth j)
theorem oth_inj {i j : Nat} (h : oth i = oth j) : i = j := by have := congrArg oth h; rwa [oth_oth, oth_oth] at this
section
variable {V : Nat} {es : List (Nat × Nat)} {q : List (List Nat)} {N : Nat → Nat}
theorem su_list (r : Ro V es q) (hN : Behind q N) {x i : Nat} (hx : x < V) (hi : i < (q.getD x []).length) : suN N ((q.getD x []).getD i 0) = (q.getD x []).getD ((i + 1) % (q.getD x []).length) 0 := hN x (by rw [r.len]; exact hx) i hi
theorem getD_in {l : List Nat} {i : Nat} (h : i < l.length) : l.getD i 0 ∈ l := by simp [List.getD, h]
theorem in_getD {l : List Nat} {h : Nat} (hm : h ∈ l) : ∃ i, i < l.length ∧ l.getD i 0 = h := by
  obtain ⟨i, hi, rfl⟩ := List.mem_iff_getElem.1 hm
  exact ⟨i, hi, by simp [List.getD, hi]⟩
theorem su_in (r : Ro V es q) (hN : Behind q N) {x h : Nat} (hx : x < V) (hm : h ∈ q.getD x []) : suN N h ∈ q.getD x [] := by
  obtain ⟨i, hi, rfl⟩ := in_getD hm
  rw [su_list r hN hx hi]
  exact getD_in (Nat.mod_lt _ (by omega))
theorem su_it (r : Ro V es q) (hN : Behind q N) {x i : Nat} (hx : x < V) (hi : i < (q.getD x []).length) : ∀ t, it (suN N) t ((q.getD x []).getD i 0) = (q.getD x []).getD ((i + t) % (q.getD x []).length) 0 := by
  intro t
  induction t with
  | zero => rw [Nat.add_zero, Nat.mod_eq_of_lt hi]; rfl
  | succ t ih =>
    show suN N (it (suN N) t _) = _
    rw [ih, su_list r hN hx (Nat.mod_lt _ (by omega))]
    congr 1
    rw [Nat.mod_add_mod, Nat.add_assoc]
theorem Pm.oth {H : Nat} (p : Pm N (2 * H)) : Pm (suN N) (2 * H) := ⟨fun j hj => p.lt _ (oth_lt hj), fun i j hi hj h => oth_inj (p.inj _ _ (oth_lt hi) (oth_lt hj) h)⟩
/-- the rounds of what comes next are the lists that aren't empty -/
theorem cyc_su (r : Ro V es q) (hN : Behind q N) (p : Pm (suN N) (2 * es.length)) : cyc (suN N) (2 * es.length) = ((List.range V).filter fun x => decide (q.getD x [] ≠ [])).length := by
  have horb : ∀ x, x < V → ∀ h ∈ q.getD x [], ∀ j ∈ orb (suN N) (2 * es.length) h, j ∈ q.getD x [] := fun x hx h hm => orb_in (U := fun j => j ∈ q.getD x []) (fun j hj => su_in r hN hx hj) hm
  have hreach : ∀ x, x < V → ∀ h ∈ q.getD x [], ∀ j ∈ q.getD x [], j ∈ orb (suN N) (2 * es.length) h := fun x hx h hm j hj => by
    obtain ⟨i, hi, rfl⟩ := in_getD hm
    obtain ⟨k, hk, rfl⟩ := in_getD hj
    have h1 := su_it r hN hx hi (k + (q.getD x []).length - i)
    rw [show i + (k + (q.getD x []).length - i) = k + (q.getD x []).length by omega, Nat.add_mod_right, Nat.mod_eq_of_lt hk] at h1
    rw [← h1]
    exact p.orb_it (r.lt x hx _ hm) _
  have hone : ∀ x y h, x < V → y < V → h ∈ q.getD x [] → h ∈ q.getD y [] → x = y := fun x y h hx hy h1 h2 => (r.st x hx h h1).symm.trans (r.st y hy h h2)
  refine Nat.le_antisymm ?_ ?_
  · refine inj_len (R := fun h x => x < V ∧ h ∈ q.getD x []) _ _ (List.nodup_range.sublist List.filter_sublist) (fun h hh => ?_) ?_
    · have hhH := List.mem_range.1 (List.mem_filter.1 hh).1
      obtain ⟨x, hx, hm⟩ := r.all h hhH
      refine ⟨x, ?_, hx, hm⟩
      rw [List.mem_filter, List.mem_range]
      refine ⟨hx, ?_⟩
      simp only [decide_eq_true_eq]
      intro e
      rw [e] at hm
      simp at hm
    · rintro h h' x hh hh' ⟨hx, hm⟩ ⟨_, hm'⟩
      have l1 := isLeast_iff.1 (List.mem_filter.1 hh).2 h' (hreach x hx h hm h' hm')
      have l2 := isLeast_iff.1 (List.mem_filter.1 hh').2 h (hreach x hx h' hm' h hm)
      omega
  · refine inj_len (R := fun x h => x < V ∧ h ∈ q.getD x []) _ _ (List.nodup_range.sublist List.filter_sublist) (fun x hx => ?_) ?_
    · rw [List.mem_filter, List.mem_range] at hx
      obtain ⟨hxV, hne⟩ := hx
      simp only [decide_eq_true_eq] at hne
      obtain ⟨h0, hm0⟩ := List.exists_mem_of_ne_nil _ hne
      have h0H := r.lt x hxV h0 hm0
      obtain ⟨l, hl, hll⟩ := p.least h0H
      refine ⟨l, ?_, hxV, horb x hxV h0 hm0 l hl⟩
      rw [List.mem_filter, List.mem_range]
      exact ⟨p.orb_lt h0H l hl, hll⟩
    · rintro x x' h hx hx' ⟨h1, h2⟩ ⟨h3, h4⟩
      exact hone x x' h h1 h3 h2 h4
theorem filter_split {f g : Nat → Bool} (h : ∀ x, f x = !g x) : ∀ l : List Nat, (l.filter f).length + (l.filter g).length = l.length := by
  intro l
  induction l with
  | nil => rfl
  | cons a t ih =>
    rw [List.filter_cons, List.filter_cons, h a, List.length_cons]
    cases g a <;> simp <;> omega
/-- the first k edges are crossed, the others aren't -/
def Nk (N : Nat → Nat) (k j : Nat) : Nat := if j < 2 * k then N j else suN N j
theorem nk_zero (N : Nat → Nat) : Nk N 0 = suN N := by funext j; simp [Nk]
theorem nk_succ (N : Nat → Nat) (k : Nat) : Nk N (k + 1) = fun j => Nk N k (sw (2 * k) (2 * k + 1) j) := by
  funext j
  unfold Nk
  by_cases h1 : j = 2 * k
  · subst h1
    rw [sw_a, if_pos (by omega), if_neg (by omega)]
    unfold suN
    congr 1
    unfold oth
    rw [if_neg (by omega)]
    omega
  · by_cases h2 : j = 2 * k + 1
    · subst h2
      rw [sw_b, if_pos (by omega), if_neg (by omega)]
      unfold suN
      congr 1
      unfold oth
      rw [if_pos (by omega)]
    · rw [sw_o h1 h2]
      by_cases h3 : j < 2 * k
      · rw [if_pos (by omega), if_pos h3]
      · rw [if_neg (by omega), if_neg h3]
theorem pm_nk {n : Nat} (p : Pm N (2 * n)) : ∀ k, k ≤ n → Pm (Nk N k) (2 * n) := by
  intro k
  induction k with
  | zero => intro _; rw [nk_zero]; exact Pm.oth p
  | succ k ih => intro hk; rw [nk_succ]; exact (ih (by omega)).swap (by omega) (by omega)
theorem it_congr {N M : Nat → Nat} {H : Nat} (p : Pm N H) (h : ∀ j, j < H → N j = M j) {x : Nat} (hx : x < H) : ∀ t, it N t x = it M t x := by
  intro t
  induction t with
  | zero => rfl
  | succ t ih => show N (it N t x) = M (it M t x); rw [← ih]; exact h _ (p.it_lt hx t)
theorem cyc_congr {N M : Nat → Nat} {H : Nat} (p : Pm N H) (h : ∀ j, j < H → N j = M j) : cyc N H = cyc M H := by
  unfold cyc
  congr 1
  refine List.filter_congr fun x hx => ?_
  have hx := List.mem_range.1 hx
  have hpr : Go.Proofs.YtefagplbpbkpgaaDoor.pr N H x = Go.Proofs.YtefagplbpbkpgaaDoor.pr M H x := by
    unfold Go.Proofs.YtefagplbpbkpgaaDoor.pr
    congr 2
    funext t
    rw [it_congr p h hx (t + 1)]
  unfold isLeast orb
  rw [hpr]
  congr 1
  exact List.map_congr_left fun t _ => it_congr p h hx t
theorem stV_oth {es : List (Nat × Nat)} {j k : Nat} (hj : j < 2 * k) (hk : k ≤ es.length) : Bd (es.take k) (fun _ => false) (stV es j) (stV es (oth j)) := by
  rw [bd0]
  have hi : j / 2 < (es.take k).length := by rw [List.length_take]; omega
  have hm : es.getD (j / 2) (0, 0) ∈ es.take k := by
    have e : es.getD (j / 2) (0, 0) = (es.take k)[j / 2] := by
      rw [List.getElem_take]
      simp [List.getD, show j / 2 < es.length by omega]
    rw [e]
    exact List.getElem_mem hi
  unfold stV oth
  by_cases h0 : j % 2 = 0
  · rw [if_pos h0, if_pos h0, if_neg (by omega), show (j + 1) / 2 = j / 2 by omega]
    exact .inl hm
  · rw [if_neg h0, if_neg h0, if_pos (by omega), show (j - 1) / 2 = j / 2 by omega]
    exact .inr hm
theorem stV_su (r : Ro V es q) (hN : Behind q N) {j : Nat} (hj : j < 2 * es.length) : stV es (suN N j) = stV es j := by
  obtain ⟨h1, h2⟩ := r.at hj
  exact r.st _ h1 _ (su_in r hN h1 h2)
/-- along the rounds one stays in one part -/
theorem nk_part (r : Ro V es q) (hN : Behind q N) {k : Nat} (hk : k ≤ es.length) {j : Nat} (hj : j < 2 * es.length) : S0 (es.take k) (stV es j) (stV es (Nk N k j)) := by
  unfold Nk
  by_cases h : j < 2 * k
  · rw [if_pos h]
    have e : N j = suN N (oth j) := by unfold suN; rw [oth_oth]
    rw [e, stV_su r hN (oth_lt hj)]
    exact Star.refl.step (stV_oth h hk)
  · rw [if_neg h, stV_su r hN hj]
    exact .refl
theorem take_snoc' {es : List (Nat × Nat)} {k : Nat} (hk : k < es.length) : es.take (k + 1) = es.take k ++ [(stV es (2 * k), stV es (2 * k + 1))] := by
  rw [List.take_succ_eq_append_getElem hk]
  congr 2
  unfold stV
  rw [if_pos (by omega), if_neg (by omega), show 2 * k / 2 = k by omega, show (2 * k + 1) / 2 = k by omega]
  simp [List.getD, hk]
/-- twice the parts and the edges are the vertices, the faces, the lists that are empty, and twice the handles -/
theorem euler (r : Ro V es q) (hN : Behind q N) (p : Pm N (2 * es.length)) {c : Nat} (hc : IsCnt V es c) : ∃ m, 2 * c + es.length = V + cyc N (2 * es.length) + ((List.range V).filter fun x => decide (q.getD x [] = [])).length + 2 * m := by
  have key : ∀ k, k ≤ es.length → ∃ c m, IsCnt V (es.take k) c ∧ 2 * c + k = V + cyc (Nk N k) (2 * es.length) + ((List.range V).filter fun x => decide (q.getD x [] = [])).length + 2 * m := by
    intro k
    induction k with
    | zero =>
      intro _
      refine ⟨V, 0, by simpa using IsCnt.nil V, ?_⟩
      rw [nk_zero, cyc_su r hN (Pm.oth p)]
      have := filter_split (f := fun x => decide (q.getD x [] ≠ [])) (g := fun x => decide (q.getD x [] = [])) (fun x => by simp) (List.range V)
      rw [List.length_range] at this
      omega
    | succ k ih =>
      intro hk
      obtain ⟨c, m, h1, h2⟩ := ih (by omega)
      have pk := pm_nk p k (by omega)
      have ha : 2 * k < 2 * es.length := by omega
      have hb : 2 * k + 1 < 2 * es.length := by omega
      have hend := h1.edge (r.at ha).1 (r.at hb).1
      rw [← take_snoc' (by omega)] at hend
      rw [nk_succ]
      by_cases hs : S0 (es.take k) (stV es (2 * k)) (stV es (2 * k + 1))
      · rcases cyc_swap pk ha hb (by omega) with h3 | h3
        · exact ⟨c, m, hend.1 hs, by omega⟩
        · exact ⟨c, m + 1, hend.1 hs, by omega⟩
      · obtain ⟨h4, h5⟩ := hend.2 hs
        have h6 := cyc_merge pk ha hb (fun hm => hs (by
          have := orb_in (N := Nk N k) (H := 2 * es.length) (h := 2 * k) (U := fun j => j < 2 * es.length ∧ S0 (es.take k) (stV es (2 * k)) (stV es j)) (fun j hj => ⟨pk.lt j hj.1, hj.2.trans (nk_part r hN (by omega) hj.1)⟩) ⟨ha, .refl⟩ _ hm
          exact this.2))
        exact ⟨c - 1, m, h5, by omega⟩
  obtain ⟨c', m, h1, h2⟩ := key es.length (Nat.le_refl _)
  rw [List.take_length] at h1
  have := hc.only h1
  subst this
  refine ⟨m, ?_⟩
  rw [cyc_congr (pm_nk p es.length (Nat.le_refl _)) (M := N) (fun j hj => by unfold Nk; rw [if_pos hj])] at h2
  exact h2
end
end Go.Proofs.YtefagplbpbkpgaaDoor.pt
/-
  A rotation in plain numbers out of one in memory: its lists, what comes behind what, that it is one to one. No conditions beyond each theorem's own.
-/
namespace Go.Proofs.YtefagplbpbkpgaaDoor.pt
open Go.RowKit
set_option linter.unusedVariables false
set_option maxRecDepth 20000

/-- what comes behind a half edge along its face -/
def nxF (es : List (Nat × Nat)) (q : List (List Nat)) (j : Nat) : Nat :=
  (q.getD (stV es (oth j)) []).getD (((q.getD (stV es (oth j)) []).idxOf (oth j) + 1) % (q.getD (stV es (oth j)) []).length) 0
theorem idx_of {l : List Nat} (hn : l.Nodup) {i : Nat} (hi : i < l.length) : l.idxOf (l.getD i 0) = i := by
  have e : l.getD i 0 = l[i] := by simp [List.getD, hi]
  rw [e]
  exact hn.idxOf_getElem i hi
theorem nx_behind {V : Nat} {es : List (Nat × Nat)} {q : List (List Nat)} (r : Ro V es q) : Behind q (nxF es q) := by
  intro x hx i hi
  have hx' : x < V := by rw [← r.len]; exact hx
  have hm := getD_in hi
  have hst : stV es ((q.getD x []).getD i 0) = x := r.st x hx' _ hm
  unfold nxF
  rw [oth_oth, hst, idx_of (r.one x hx') hi]
theorem mod_succ_inj {n a b : Nat} (ha : a < n) (hb : b < n) (h : (a + 1) % n = (b + 1) % n) : a = b := by
  have f : ∀ c, c < n → (c + 1) % n = if c + 1 = n then 0 else c + 1 := fun c hc => by
    split
    · rename_i e; rw [e]; exact Nat.mod_self n
    · exact Nat.mod_eq_of_lt (by omega)
  rw [f a ha, f b hb] at h
  split at h <;> split at h <;> omega
theorem getD_inj {l : List Nat} (hn : l.Nodup) {a b : Nat} (ha : a < l.length) (hb : b < l.length) (h : l.getD a 0 = l.getD b 0) : a = b := by
  rw [← idx_of hn ha, ← idx_of hn hb, h]
theorem nx_pm {V : Nat} {es : List (Nat × Nat)} {q : List (List Nat)} (r : Ro V es q) {N : Nat → Nat} (hN : Behind q N) : Pm N (2 * es.length) := by
  have key : ∀ j, j < 2 * es.length → ∃ x i, x < V ∧ i < (q.getD x []).length ∧ (q.getD x []).getD i 0 = oth j ∧ N j = (q.getD x []).getD ((i + 1) % (q.getD x []).length) 0 := by
    intro j hj
    obtain ⟨x, hx, hm⟩ := r.all (oth j) (oth_lt hj)
    obtain ⟨i, hi, he⟩ := in_getD hm
    refine ⟨x, i, hx, hi, he, ?_⟩
    have := hN x (by rw [r.len]; exact hx) i hi
    rwa [he, oth_oth] at this
  refine ⟨fun j hj => ?_, fun i j hi hj h => ?_⟩
  · obtain ⟨x, i, hx, hi, _, e⟩ := key j hj
    rw [e]
    exact r.lt x hx _ (getD_in (Nat.mod_lt _ (by omega)))
  · obtain ⟨x, a, hx, ha, e1, e2⟩ := key i hi
    obtain ⟨y, b, hy, hb, e3, e4⟩ := key j hj
    have m1 : N i ∈ q.getD x [] := by rw [e2]; exact getD_in (Nat.mod_lt _ (by omega))
    have m2 : N i ∈ q.getD y [] := by rw [h, e4]; exact getD_in (Nat.mod_lt _ (by omega))
    have hxy : x = y := (r.st x hx _ m1).symm.trans (r.st y hy _ m2)
    subst hxy
    rw [e2, e4] at h
    have hab := mod_succ_inj ha hb (getD_inj (r.one x hx) (Nat.mod_lt _ (by omega)) (Nat.mod_lt _ (by omega)) h)
    subst hab
    exact oth_inj (e1.symm.trans e3)
theorem Ro.cov {V : Nat} {es : List (Nat × Nat)} {q : List (List Nat)} (r : Ro V es q) : ∀ j, j < 2 * es.length → ∃ x i, x < q.length ∧ i < (q.getD x []).length ∧ oth ((q.getD x []).getD i 0) = j := by
  intro j hj
  obtain ⟨x, hx, hm⟩ := r.all (oth j) (oth_lt hj)
  obtain ⟨i, hi, he⟩ := in_getD hm
  exact ⟨x, i, by rw [r.len]; exact hx, hi, by rw [he, oth_oth]⟩
theorem Ro.lt' {V : Nat} {es : List (Nat × Nat)} {q : List (List Nat)} (r : Ro V es q) : ∀ x, x < q.length → ∀ i, i < (q.getD x []).length → (q.getD x []).getD i 0 < 2 * es.length := fun x hx i hi => r.lt x (by rw [← r.len]; exact hx) _ (getD_in hi)
theorem atI_toI (es : List (Nat × Nat)) (h : Nat) : atI (toI es) h = ((stV es h : Nat) : Int) := by
  unfold atI stV
  rw [toI_getD]
  split <;> rfl
/-- the lists of a rotation are lists of plain numbers -/
theorem ro_of {V : Nat} {es : List (Nat × Nat)} {rs : List (List Int)} (hp : Plain V es) (h : IsRot V es.length (toI es) rs) : ∃ q, rs = rowsI q ∧ Ro V es q := by
  have hlen : rs.length = V := by have := h.len; omega
  refine ⟨rs.map fun l => l.map Int.toNat, ?_, ?_⟩
  · unfold rowsI
    rw [List.map_map]
    symm
    refine (List.map_congr_left ?_).trans (List.map_id _)
    intro l hl
    obtain ⟨x, hx, rfl⟩ := List.mem_iff_getElem.1 hl
    show toIs (rs[x].map Int.toNat) = rs[x]
    unfold toIs
    rw [List.map_map]
    refine (List.map_congr_left ?_).trans (List.map_id _)
    intro z hz
    have := h.each x hx z (by simpa [List.getD, hx] using hz)
    show ((z.toNat : Nat) : Int) = z
    omega
  · have hget : ∀ x, (rs.map fun l => l.map Int.toNat).getD x [] = (rs.getD x []).map Int.toNat := fun x => by
      simp only [List.getD_eq_getElem?_getD, List.getElem?_map]
      cases rs[x]? <;> simp
    have hflat : (rs.map fun l => l.map Int.toNat).flatten = rs.flatten.map Int.toNat := by rw [List.map_flatten]
    have hb : ∀ z ∈ rs.flatten, 0 ≤ z ∧ z < 2 * (es.length : Int) := fun z hz => by
      rw [List.mem_flatten] at hz
      obtain ⟨l, hl, hm⟩ := hz
      obtain ⟨x, hx, rfl⟩ := List.mem_iff_getElem.1 hl
      have := h.each x hx z (by simpa [List.getD, hx] using hm)
      exact ⟨this.1, this.2.1⟩
    have hnd : (rs.flatten.map Int.toNat).Nodup := by
      rw [List.nodup_iff_pairwise_ne, List.pairwise_map]
      refine List.Pairwise.imp_of_mem ?_ h.nodup
      intro a b ha hb' hab e
      have := hb a ha
      have := hb b hb'
      omega
    refine ⟨by simp [hlen], fun i hi => hp.at hi, ?_, ?_, ?_, ?_⟩
    · intro x hx z hz
      rw [hget] at hz
      obtain ⟨y, hy, rfl⟩ := List.mem_map.1 hz
      have := h.each x (by omega) y hy
      omega
    · intro x hx z hz
      rw [hget] at hz
      obtain ⟨y, hy, rfl⟩ := List.mem_map.1 hz
      have := (h.each x (by omega) y hy).2.2
      rw [atI_toI] at this
      have e : stV es y.toNat = x := by omega
      exact e
    · intro x hx
      rw [hget]
      have hs : ((rs.getD x []).map Int.toNat).Sublist (rs.flatten.map Int.toNat) := by
        refine List.Sublist.map _ ?_
        have := upto_sub (rs := rs) (x := x) (i := (rs.getD x []).length) (by omega)
        unfold upto at this
        rw [List.take_length] at this
        exact (List.sublist_append_right _ _).trans this
      exact hnd.sublist hs
    · intro z hz
      refine Classical.byContradiction fun hno => ?_
      have hnot : z ∉ rs.flatten.map Int.toNat := by
        intro hm
        obtain ⟨y, hy, rfl⟩ := List.mem_map.1 hm
        rw [List.mem_flatten] at hy
        obtain ⟨l, hl, hyl⟩ := hy
        obtain ⟨x, hx, rfl⟩ := List.mem_iff_getElem.1 hl
        refine hno ⟨x, by omega, ?_⟩
        rw [hget]
        exact List.mem_map.2 ⟨y, by simpa [List.getD, hx] using hyl, rfl⟩
      have := nodup_le (2 * es.length) (z :: rs.flatten.map Int.toNat) (by rw [List.nodup_cons]; exact ⟨hnot, hnd⟩) (by
        intro w hw
        rcases List.mem_cons.1 hw with rfl | hw
        · exact hz
        · obtain ⟨y, hy, rfl⟩ := List.mem_map.1 hw
          have := hb y hy
          omega)
      have ha := h.all
      rw [List.length_cons, List.length_map] at this
      omega
end Go.Proofs.YtefagplbpbkpgaaDoor.pt

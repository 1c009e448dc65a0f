/-
  What hangs together without some vertices, as plain mathematics: steps both ways, the least of each part, tables of neighbours. No conditions.
-/
import Derived.Test.YtmklngabfdnclaaDoorQPn
namespace Go.Proofs.YtmklngabfdnclaaDoor.pt
open Go.RowKit
set_option linter.unusedVariables false

/-- an edge that counts, either way -/
def Bd (es : List (Nat × Nat)) (wo : Nat → Bool) (u v : Nat) : Prop := ∃ e, e ∈ es ∧ wo e.1 = false ∧ wo e.2 = false ∧ (e = (u, v) ∨ e = (v, u))
theorem Bd.symm {es : List (Nat × Nat)} {wo : Nat → Bool} {u v : Nat} (h : Bd es wo u v) : Bd es wo v u := by
  obtain ⟨e, h1, h2, h3, h4⟩ := h
  exact ⟨e, h1, h2, h3, h4.symm⟩
theorem Bd.free {es : List (Nat × Nat)} {wo : Nat → Bool} {u v : Nat} (h : Bd es wo u v) : wo u = false ∧ wo v = false := by
  obtain ⟨e, h1, h2, h3, rfl | rfl⟩ := h
  · exact ⟨h2, h3⟩
  · exact ⟨h3, h2⟩
theorem Bd.bnd {V : Nat} {es : List (Nat × Nat)} (hp : Plain V es) {wo : Nat → Bool} {u v : Nat} (h : Bd es wo u v) : u < V ∧ v < V := by
  obtain ⟨e, h1, h2, h3, rfl | rfl⟩ := h
  · exact hp.ends _ h1
  · exact (hp.ends _ h1).symm
theorem Star.symm' {R : Nat → Nat → Prop} (hR : ∀ u v, R u v → R v u) {i j : Nat} (h : Star R i j) : Star R j i :=
  h.ind (S := fun x => Star R x i) .refl fun a b _ ha hr => Star.head (hR a b hr) ha
abbrev Conn (es : List (Nat × Nat)) (wo : Nat → Bool) : Nat → Nat → Prop := Star (Bd es wo)
theorem Conn.symm {es : List (Nat × Nat)} {wo : Nat → Bool} {u v : Nat} (h : Star (Bd es wo) u v) : Star (Bd es wo) v u := Star.symm' (fun _ _ h => h.symm) h
theorem Conn.free {es : List (Nat × Nat)} {wo : Nat → Bool} {u v : Nat} (h : Star (Bd es wo) u v) (hu : wo u = false) : wo v = false :=
  h.ind (S := fun x => wo x = false) hu fun a b _ _ hr => hr.free.2
theorem Conn.bnd {V : Nat} {es : List (Nat × Nat)} (hp : Plain V es) {wo : Nat → Bool} {u v : Nat} (h : Star (Bd es wo) u v) (hu : u < V) : v < V :=
  h.ind (S := fun x => x < V) hu fun a b _ _ hr => (hr.bnd hp).2
/-- the least of its part -/
def Rep (es : List (Nat × Nat)) (wo : Nat → Bool) (x : Nat) : Prop := wo x = false ∧ ∀ y, y < x → ¬ Star (Bd es wo) x y
theorem rep_ex (es : List (Nat × Nat)) (wo : Nat → Bool) (x : Nat) (hx : wo x = false) : ∃ y, y ≤ x ∧ Star (Bd es wo) x y ∧ Rep es wo y := by
  induction x using Nat.strongRecOn with
  | ind x ih =>
    by_cases h : ∃ y, y < x ∧ Star (Bd es wo) x y
    · obtain ⟨y, hy, hs⟩ := h
      obtain ⟨z, hz, hs2, hr⟩ := ih y hy (Conn.free hs hx)
      exact ⟨z, by omega, hs.trans hs2, hr⟩
    · exact ⟨x, Nat.le_refl _, .refl, hx, fun y hy hs => h ⟨y, hy, hs⟩⟩
theorem Rep.only {es : List (Nat × Nat)} {wo : Nat → Bool} {x y : Nat} (hx : Rep es wo x) (hy : Rep es wo y) (h : Star (Bd es wo) x y) : x = y := by
  have h1 := hx.2 y
  have h2 := hy.2 x
  by_cases hlt : y < x
  · exact absurd h (h1 hlt)
  · by_cases hlt2 : x < y
    · exact absurd (Conn.symm h) (h2 hlt2)
    · omega
theorem rep_iff {es : List (Nat × Nat)} {wo : Nat → Bool} {x : Nat} (hx : wo x = false) : Rep es wo x ↔ ¬ ∃ r, r < x ∧ Rep es wo r ∧ Star (Bd es wo) r x := by
  constructor
  · rintro h ⟨r, hr, _, hs⟩
    exact h.2 r hr (Conn.symm hs)
  · intro h
    obtain ⟨y, hy, hs, hr⟩ := rep_ex es wo x hx
    by_cases hyx : y = x
    · subst hyx; exact hr
    · exact absurd ⟨y, by omega, hr, Conn.symm hs⟩ h

/-- the table of neighbours -/
def bsF (es : List (Nat × Nat)) (wo : Nat → Bool) : Nat → Nat :=
  es.foldl (fun f e => if (wo e.1 || wo e.2) = true then f else upd (upd f e.1 (f e.1 ||| bitI (e.2 : Int))) e.2 (upd f e.1 (f e.1 ||| bitI (e.2 : Int)) e.2 ||| bitI (e.1 : Int))) (fun _ => 0)
theorem bsF_snoc (es : List (Nat × Nat)) (wo : Nat → Bool) (p q : Nat) : bsF (es ++ [(p, q)]) wo = if (wo p || wo q) = true then bsF es wo else upd (upd (bsF es wo) p (bsF es wo p ||| bitI (q : Int))) q (upd (bsF es wo) p (bsF es wo p ||| bitI (q : Int)) q ||| bitI (p : Int)) := by
  simp [bsF]
theorem bsF_lt (es : List (Nat × Nat)) (wo : Nat → Bool) (x : Nat) : bsF es wo x < 18446744073709551616 := by
  induction es using snoc_ind generalizing x with
  | h0 => simp [bsF]
  | h1 es e ih =>
    obtain ⟨p, q⟩ := e
    rw [bsF_snoc]
    split
    · exact ih x
    · unfold upd
      by_cases h1 : x = q
      · rw [if_pos h1]
        refine or_lt ?_ (bitI_lt _)
        split
        · exact or_lt (ih p) (bitI_lt _)
        · exact ih q
      · rw [if_neg h1]
        split
        · exact or_lt (ih p) (bitI_lt _)
        · exact ih x
theorem bd_snoc (es : List (Nat × Nat)) (wo : Nat → Bool) (p q x j : Nat) : Bd (es ++ [(p, q)]) wo x j ↔ Bd es wo x j ∨ (wo p = false ∧ wo q = false ∧ ((x = p ∧ j = q) ∨ (x = q ∧ j = p))) := by
  constructor
  · rintro ⟨e, he, h1, h2, h3⟩
    rcases List.mem_append.1 he with he | he
    · exact .inl ⟨e, he, h1, h2, h3⟩
    · simp at he
      subst he
      refine .inr ⟨h1, h2, ?_⟩
      rcases h3 with h3 | h3
      · simp at h3; exact .inl ⟨h3.1.symm, h3.2.symm⟩
      · simp at h3; exact .inr ⟨h3.2.symm, h3.1.symm⟩
  · rintro (⟨e, he, h⟩ | ⟨h1, h2, h3⟩)
    · exact ⟨e, List.mem_append_left _ he, h⟩
    · refine ⟨(p, q), by simp, h1, h2, ?_⟩
      rcases h3 with ⟨rfl, rfl⟩ | ⟨rfl, rfl⟩
      · exact .inl rfl
      · exact .inr rfl
theorem testBit_bsF (es : List (Nat × Nat)) (wo : Nat → Bool) (x j : Nat) : (bsF es wo x).testBit j = true ↔ j < 64 ∧ Bd es wo x j := by
  induction es using snoc_ind generalizing x j with
  | h0 =>
    simp only [bsF, List.foldl_nil, Nat.zero_testBit]
    constructor
    · intro h; cases h
    · rintro ⟨_, e, he, _⟩; cases he
  | h1 es e ih =>
    obtain ⟨p, q⟩ := e
    have hor : ∀ a b : Nat, (a ||| b).testBit j = true ↔ a.testBit j = true ∨ b.testBit j = true := fun a b => by rw [Nat.testBit_or]; simp
    have hbit : ∀ y : Nat, (bitI (y : Int)).testBit j = true ↔ j < 64 ∧ j = y := fun y => by
      rw [testBit_bitI]
      simp
      omega
    rw [bsF_snoc, bd_snoc]
    split
    · rename_i hw
      rw [ih]
      have hn : ¬ (wo p = false ∧ wo q = false) := by
        rintro ⟨h1, h2⟩
        simp [h1, h2] at hw
      exact ⟨fun h => ⟨h.1, .inl h.2⟩, fun h => ⟨h.1, h.2.resolve_right fun h3 => hn ⟨h3.1, h3.2.1⟩⟩⟩
    · rename_i hw
      have hw' : wo p = false ∧ wo q = false := by
        cases h1 : wo p <;> cases h2 : wo q <;> simp_all
      unfold upd
      by_cases hxq : x = q
      · subst hxq
        rw [if_pos rfl, hor, hbit]
        by_cases hxp : x = p
        · subst hxp
          rw [if_pos rfl, hor, hbit, ih]
          constructor
          · rintro ((⟨h1, h2⟩ | ⟨h1, h2⟩) | ⟨h1, h2⟩)
            · exact ⟨h1, .inl h2⟩
            · exact ⟨h1, .inr ⟨hw'.1, hw'.2, .inl ⟨rfl, h2⟩⟩⟩
            · exact ⟨h1, .inr ⟨hw'.1, hw'.2, .inl ⟨rfl, h2⟩⟩⟩
          · rintro ⟨h1, h2 | ⟨_, _, ⟨_, h2⟩ | ⟨_, h2⟩⟩⟩
            · exact .inl (.inl ⟨h1, h2⟩)
            · exact .inl (.inr ⟨h1, h2⟩)
            · exact .inl (.inr ⟨h1, h2⟩)
        · rw [if_neg hxp, ih]
          constructor
          · rintro (⟨h1, h2⟩ | ⟨h1, h2⟩)
            · exact ⟨h1, .inl h2⟩
            · exact ⟨h1, .inr ⟨hw'.1, hw'.2, .inr ⟨rfl, h2⟩⟩⟩
          · rintro ⟨h1, h2 | ⟨_, _, ⟨h2, _⟩ | ⟨_, h2⟩⟩⟩
            · exact .inl ⟨h1, h2⟩
            · exact absurd h2 hxp
            · exact .inr ⟨h1, h2⟩
      · rw [if_neg hxq]
        by_cases hxp : x = p
        · subst hxp
          rw [if_pos rfl, hor, hbit, ih]
          constructor
          · rintro (⟨h1, h2⟩ | ⟨h1, h2⟩)
            · exact ⟨h1, .inl h2⟩
            · exact ⟨h1, .inr ⟨hw'.1, hw'.2, .inl ⟨rfl, h2⟩⟩⟩
          · rintro ⟨h1, h2 | ⟨_, _, ⟨_, h2⟩ | ⟨h2, _⟩⟩⟩
            · exact .inl ⟨h1, h2⟩
            · exact .inr ⟨h1, h2⟩
            · exact absurd h2 hxq
        · rw [if_neg hxp, ih]
          constructor
          · rintro ⟨h1, h2⟩
            exact ⟨h1, .inl h2⟩
          · rintro ⟨h1, h2 | ⟨_, _, ⟨h2, _⟩ | ⟨h2, _⟩⟩⟩
            · exact ⟨h1, h2⟩
            · exact absurd h2 hxp
            · exact absurd h2 hxq
theorem by_bs {V : Nat} {es : List (Nat × Nat)} (hp : Plain V es) (wo : Nat → Bool) (u v : Nat) : By (bsF es wo) u v ↔ Bd es wo u v := by
  unfold By
  rw [testBit_bsF]
  exact ⟨fun h => h.2, fun h => ⟨by have := (h.bnd hp).2; have := hp.v64; omega, h⟩⟩
theorem bs_bnd {V : Nat} {es : List (Nat × Nat)} (hp : Plain V es) (wo : Nat → Bool) (x : Nat) : ∀ j, (bsF es wo x).testBit j = true → j < V := by
  intro j hj
  exact (((testBit_bsF es wo x j).1 hj).2.bnd hp).2
/-- the parts as sets; which vertices are the least of theirs -/
structure IsPt (V : Nat) (es : List (Nat × Nat)) (wo : Nat → Bool) (C : Nat → Nat) (rp : Nat → Bool) : Prop where
  lt : ∀ x, x < V → C x < 18446744073709551616
  bit : ∀ x, x < V → ∀ j, (C x).testBit j = true ↔ Star (Bd es wo) x j
  rep : ∀ x, x < V → (rp x = true ↔ Rep es wo x)
theorem pt_ex {V : Nat} {es : List (Nat × Nat)} (hp : Plain V es) (wo : Nat → Bool) : ∃ C rp, IsPt V es wo C rp := by
  classical
  refine ⟨fun x => ofS (((List.range V).filter fun j => decide (Star (Bd es wo) x j)).map fun (j : Nat) => (j : Int)), fun x => decide (Rep es wo x), fun x hx => ofS_lt _, fun x hx j => ?_, fun x hx => by simp⟩
  have hv := hp.v64
  rw [testBit_ofS]
  simp only [decide_eq_true_eq, List.mem_map, List.mem_filter, List.mem_range]
  constructor
  · rintro ⟨h1, i, ⟨h2, h3⟩, h4⟩
    have : i = j := by omega
    subst this
    exact h3
  · intro h
    have hj := Conn.bnd hp h hx
    exact ⟨by omega, j, ⟨hj, h⟩, rfl⟩
theorem IsPt.spread {V : Nat} {es : List (Nat × Nat)} (hp : Plain V es) {wo : Nat → Bool} {C : Nat → Nat} {rp : Nat → Bool} (h : IsPt V es wo C rp) {x t : Nat} (hx : x < V) (hs : IsSpread (bsF es wo) (ofS [(x : Int)]) t) : t = C x := by
  refine set_ext hs.1 (h.lt x hx) fun j _ => ?_
  rw [Bool.eq_iff_iff, spread_one hs (by have := hp.v64; omega), h.bit x hx]
  exact ⟨Star.mono fun i j => (by_bs hp wo i j).1, Star.mono fun i j => (by_bs hp wo i j).2⟩
end Go.Proofs.YtmklngabfdnclaaDoor.pt


/-
  Plain mathematics: the blocks that a walk depth first tells are the blocks: two edges at a vertex are in one, if their other ends hang together without it, and so on. No conditions beyond each theorem's own.
-/
import Derived.Test.YtbecmaandhadhaaDs
namespace Go.Proofs.Ytbecmaandhadhaa.Df
open Go.Proofs.Ytbecmaandhadhaa.Pl
set_option linter.unusedVariables false

/-- a and b hang together without x -/
def Cn (es : Ed) (x a b : Nat) : Prop := ∀ R : Nat → Prop, R a → (∀ e u v, En es e u v → u ≠ x → v ≠ x → R u → R v) → R b
theorem Cn.refl (es : Ed) (x a : Nat) : Cn es x a a := fun R h _ => h
theorem Cn.trans {es : Ed} {x a b c : Nat} (h : Cn es x a b) (h' : Cn es x b c) : Cn es x a c := fun R h1 h2 => h' R (h R h1 h2) h2
theorem Cn.edge {es : Ed} {x a b e : Nat} (h : En es e a b) (ha : a ≠ x) (hb : b ≠ x) : Cn es x a b := fun R h1 h2 => h2 e a b h ha hb h1
theorem Cn.symm {es : Ed} {x a b : Nat} (h : Cn es x a b) : Cn es x b a :=
  h (fun y => Cn es x y a) (Cn.refl _ _ _) fun e u v he hu hv hc => (Cn.edge he.symm hv hu).trans hc
/-- two edges at a vertex whose other ends hang together without it -/
def SE (es : Ed) (i j : Nat) : Prop := ∃ x a b, En es i x a ∧ En es j x b ∧ Cn es x a b
/-- in one block -/
abbrev Bk (es : Ed) : Nat → Nat → Prop := Eqc (SE es)

/-- a walk that has come to its end -/
structure Fn (V : Nat) (es : Ed) (S : St) : Prop where
  gr : Gr V es
  inv : Inv es S
  done : ∀ v, v < V → S.fin v ≠ 0
theorem Fn.fin {V : Nat} {es : Ed} {S : St} (h : Fn V es S) {e u v : Nat} (he : En es e u v) : S.fin u ≠ 0 ∧ S.fin v ≠ 0 := ⟨h.done u (h.gr.lt he).1, h.done v (h.gr.lt he).2⟩
theorem Fn.anc {V : Nat} {es : Ed} {S : St} (h : Fn V es S) {e u v : Nat} (he : En es e u v) : S.come v ≤ S.fin u := (h.inv.nb e u v he (h.fin he).1).2
/-- up the tree -/
theorem Fn.up {V : Nat} {es : Ed} {S : St} (h : Fn V es S) {a x : Nat} (ha : S.fin a ≠ 0) : ∀ n v, S.come v = n → S.fin v ≠ 0 → S.come a ≤ S.come v → S.come v ≤ S.fin a → (S.come x < S.come a ∨ S.come v < S.come x) → Cn es x v a := by
  intro n
  induction n using Nat.strongRecOn with
  | ind n ih =>
    intro v hn hv h1 h2 h3
    by_cases hva : v = a
    · subst hva; exact Cn.refl _ _ _
    · have hv0 := (h.inv.fv v hv).1
      have ha0 := (h.inv.fv a ha).1
      have hlt : S.come a < S.come v := by
        have : S.come v ≠ S.come a := fun e => hva (h.inv.inj _ _ hv0 e)
        omega
      have hpe : S.pe v ≠ 0 := by
        intro h0
        have := (h.inv.rt v a hv0 h0 ha0 hlt).2
        omega
      obtain ⟨p1, p2, p3⟩ := h.inv.pr v hv0 hpe
      have hcl : S.come a ≤ S.come (S.par v) := by
        rcases h.inv.cl v a hv0 hpe ha0 hlt with h4 | ⟨_, h4⟩
        · exact h4
        · omega
      have hc := ih (S.come (S.par v)) (by omega) (S.par v) rfl (h.fin p1).2 hcl (by omega) (by omega)
      refine Cn.trans (Cn.edge p1 ?_ ?_) hc
      · intro e; subst e; omega
      · intro e; rw [e] at hcl p3; omega

theorem Fn.low_le {V : Nat} {es : Ed} {S : St} (h : Fn V es S) {c : Nat} (hc : S.fin c ≠ 0) : ∀ n v, S.come v = n → S.fin v ≠ 0 → S.come c ≤ S.come v → S.come v ≤ S.fin c → S.low c ≤ S.low v := by
  intro n
  induction n using Nat.strongRecOn with
  | ind n ih =>
    intro v hn hv h1 h2
    by_cases hva : v = c
    · subst hva; exact Nat.le_refl _
    · have hv0 := (h.inv.fv v hv).1
      have ha0 := (h.inv.fv c hc).1
      have hlt : S.come c < S.come v := by
        have : S.come v ≠ S.come c := fun e => hva (h.inv.inj _ _ hv0 e)
        omega
      have hpe : S.pe v ≠ 0 := by
        intro h0
        have := (h.inv.rt v c hv0 h0 ha0 hlt).2
        omega
      obtain ⟨p1, p2, p3⟩ := h.inv.pr v hv0 hpe
      have hcl : S.come c ≤ S.come (S.par v) := by
        rcases h.inv.cl v c hv0 hpe ha0 hlt with h4 | ⟨_, h4⟩
        · exact h4
        · omega
      have hpf := (h.fin p1).2
      have := ih (S.come (S.par v)) (by omega) (S.par v) rfl hpf hcl (by omega)
      exact Nat.le_trans this (h.inv.lw v hv hpe hpf)

/-- the tree's steps are steps of blocks -/
theorem Fn.se_of_ls {V : Nat} {es : Ed} {S : St} (h : Fn V es S) {i j : Nat} (hl : LS es S i j) : SE es i j := by
  rcases hl with ⟨v, h1, h2, h3, h4, h5, h6⟩ | ⟨v, u, h1, h2, h3, h4, h5, h6⟩
  · have hv0 := (h.inv.fv v h1).1
    obtain ⟨p1, p2, p3⟩ := h.inv.pr v hv0 h2
    obtain ⟨q1, q2, q3⟩ := h.inv.pr _ p2 h3
    rw [← h5, Nat.add_sub_cancel] at p1
    rw [← h6, Nat.add_sub_cancel] at q1
    refine ⟨S.par v, v, S.par (S.par v), p1.symm, q1, ?_⟩
    rcases h.inv.wt v h1 with hw | ⟨e, d, a, w1, w2, w3, w4, w5, w6, w7⟩
    · omega
    · have hda := h.anc w1.symm
      have c1 := h.up (x := S.par v) h1 _ d rfl w4 w2 w3 (.inl p3)
      have c2 : Cn es (S.par v) d a := Cn.edge w1 (fun e => by subst e; omega) (fun e => by subst e; omega)
      have hcl : S.come a ≤ S.come (S.par (S.par v)) := by
        rcases h.inv.cl _ a p2 h3 w6 (by omega) with h7 | ⟨_, h7⟩
        · exact h7
        · omega
      have c3 := h.up (x := S.par v) (h.fin w1).2 _ (S.par (S.par v)) rfl (h.fin q1).2 hcl (by omega) (.inr q3)
      exact c1.symm.trans (c2.trans c3.symm)
  · have hpe : S.pe v ≠ 0 := by omega
    obtain ⟨p1, p2, p3⟩ := h.inv.pr v h1 hpe
    rw [← h6, Nat.add_sub_cancel] at p1
    refine ⟨v, u, S.par v, h4.symm, p1, ?_⟩
    have ha := h.anc h4
    have hcl : S.come u ≤ S.come (S.par v) := by
      rcases h.inv.cl v u h1 hpe h2 h3 with h7 | ⟨_, h7⟩
      · exact h7
      · omega
    exact (h.up (x := v) (h.fin h4).1 _ (S.par v) rfl (h.fin p1).2 hcl (by omega) (.inr p3)).symm

/-- v lies below c, or is it -/
def Bl (S : St) (c v : Nat) : Prop := S.come c ≤ S.come v ∧ S.come v ≤ S.fin c
theorem Fn.child {V : Nat} {es : Ed} {S : St} (h : Fn V es S) {x : Nat} (hx : S.fin x ≠ 0) : ∀ n y, S.come y = n → S.fin y ≠ 0 → S.come x < S.come y → S.come y ≤ S.fin x → ∃ c, S.fin c ≠ 0 ∧ S.pe c ≠ 0 ∧ S.par c = x ∧ Bl S c y := by
  intro n
  induction n using Nat.strongRecOn with
  | ind n ih =>
    intro y hn hy h1 h2
    have hy0 := (h.inv.fv y hy).1
    have hx0 := (h.inv.fv x hx).1
    have hpe : S.pe y ≠ 0 := by
      intro h0
      have := (h.inv.rt y x hy0 h0 hx0 h1).2
      omega
    obtain ⟨p1, p2, p3⟩ := h.inv.pr y hy0 hpe
    have hcl : S.come x ≤ S.come (S.par y) := by
      rcases h.inv.cl y x hy0 hpe hx0 h1 with h4 | ⟨_, h4⟩
      · exact h4
      · omega
    by_cases hpx : S.par y = x
    · exact ⟨y, hy, hpe, hpx, Nat.le_refl _, (h.inv.fv y hy).2.1⟩
    · have hlt : S.come x < S.come (S.par y) := by
        have : S.come (S.par y) ≠ S.come x := fun e => hpx (h.inv.inj _ _ p2 e)
        omega
      have hpf := (h.fin p1).2
      obtain ⟨c, c1, c2, c3, c4, c5⟩ := ih (S.come (S.par y)) (by omega) (S.par y) rfl hpf hlt (by omega)
      refine ⟨c, c1, c2, c3, by omega, ?_⟩
      have hyp := h.anc p1.symm
      by_cases hcp : c = S.par y
      · rw [hcp]; exact hyp
      · have hlt2 : S.come c < S.come (S.par y) := by
          have : S.come (S.par y) ≠ S.come c := fun e => hcp (h.inv.inj _ _ p2 e).symm
          omega
        have := h.inv.lam c (S.par y) c1 hpf hlt2 c5
        omega
theorem Fn.child_one {V : Nat} {es : Ed} {S : St} (h : Fn V es S) {x c c' y : Nat} (hc : S.fin c ≠ 0 ∧ S.pe c ≠ 0 ∧ S.par c = x ∧ Bl S c y) (hc' : S.fin c' ≠ 0 ∧ S.pe c' ≠ 0 ∧ S.par c' = x ∧ Bl S c' y) : c = c' := by
  have key : ∀ c c', (S.fin c ≠ 0 ∧ S.pe c ≠ 0 ∧ S.par c = x ∧ Bl S c y) → (S.fin c' ≠ 0 ∧ S.pe c' ≠ 0 ∧ S.par c' = x ∧ Bl S c' y) → ¬ S.come c < S.come c' := by
    rintro c c' ⟨a1, a2, a3, a4, a5⟩ ⟨b1, b2, b3, b4, b5⟩ hlt
    have c0 := (h.inv.fv c a1).1
    have c0' := (h.inv.fv c' b1).1
    have hp := (h.inv.pr c c0 a2).2.2
    rw [a3] at hp
    rcases h.inv.cl c' c c0' b2 c0 hlt with h4 | ⟨_, h4⟩
    · rw [b3] at h4; omega
    · omega
  have k1 := key c c' hc hc'
  have k2 := key c' c hc' hc
  exact h.inv.inj _ _ (h.inv.fv c hc.1).1 (by omega)
theorem Fn.below_x {V : Nat} {es : Ed} {S : St} (h : Fn V es S) {x c y : Nat} (hc : S.fin c ≠ 0 ∧ S.pe c ≠ 0 ∧ S.par c = x ∧ Bl S c y) : S.fin x ≠ 0 ∧ S.come x < S.come c ∧ S.fin c ≤ S.fin x := by
  obtain ⟨a1, a2, a3, a4, a5⟩ := hc
  have c0 := (h.inv.fv c a1).1
  obtain ⟨p1, p2, p3⟩ := h.inv.pr c c0 a2
  rw [a3] at p1 p2 p3
  have hx := (h.fin p1).2
  exact ⟨hx, p3, h.inv.lam x c hx a1 p3 (h.anc p1.symm)⟩
/-- from y up to c, where the earliest time from y on is ahead of c -/
theorem Fn.chain {V : Nat} {es : Ed} {S : St} (h : Fn V es S) {c : Nat} (hc : S.fin c ≠ 0) (hpc : S.pe c ≠ 0) : ∀ n y, S.come y = n → S.fin y ≠ 0 → Bl S c y → S.low y < S.come c → S.pe y ≠ 0 ∧ Lk es S (S.pe y - 1) (S.pe c - 1) := by
  intro n
  induction n using Nat.strongRecOn with
  | ind n ih =>
    rintro y hn hy ⟨h1, h2⟩ h3
    by_cases hyc : y = c
    · subst hyc; exact ⟨hpc, Eqc.refl _ _⟩
    · have hy0 := (h.inv.fv y hy).1
      have hc0 := (h.inv.fv c hc).1
      have hlt : S.come c < S.come y := by
        have : S.come y ≠ S.come c := fun e => hyc (h.inv.inj _ _ hy0 e)
        omega
      have hpe : S.pe y ≠ 0 := by
        intro h0
        have := (h.inv.rt y c hy0 h0 hc0 hlt).2
        omega
      obtain ⟨p1, p2, p3⟩ := h.inv.pr y hy0 hpe
      have hcl : S.come c ≤ S.come (S.par y) := by
        rcases h.inv.cl y c hy0 hpe hc0 hlt with h4 | ⟨_, h4⟩
        · exact h4
        · omega
      have hpf := (h.fin p1).2
      have hlw := h.inv.lw y hy hpe hpf
      obtain ⟨i1, i2⟩ := ih (S.come (S.par y)) (by omega) (S.par y) rfl hpf ⟨hcl, by omega⟩ (by omega)
      exact ⟨hpe, (Eqc.of (.inl ⟨y, hy, hpe, i1, by omega, by omega, by omega⟩)).trans i2⟩

/-- what y is, seen from x: an edge of the block in that direction -/
def Q (es : Ed) (S : St) (x k y : Nat) : Prop :=
  (¬ (S.come x < S.come y ∧ S.come y ≤ S.fin x) ∧ S.pe x ≠ 0 ∧ Lk es S k (S.pe x - 1)) ∨ ∃ c, (S.fin c ≠ 0 ∧ S.pe c ≠ 0 ∧ S.par c = x ∧ Bl S c y) ∧ Lk es S k (S.pe c - 1)
theorem Fn.q_edge {V : Nat} {es : Ed} {S : St} (h : Fn V es S) {i x a : Nat} (he : En es i x a) : Q es S x i a := by
  obtain ⟨hx, ha⟩ := h.fin he
  have hx0 := (h.inv.fv x hx).1
  have ha0 := (h.inv.fv a ha).1
  have hne := he.ne h.gr.nl
  have hcne : S.come a ≠ S.come x := fun e => hne (h.inv.inj _ _ ha0 e).symm
  by_cases hlt : S.come a < S.come x
  · have hpx : S.pe x ≠ 0 := by
      intro h0
      have h1 := (h.inv.rt x a hx0 h0 ha0 hlt).2
      have h2 := h.anc he.symm
      omega
    refine .inl ⟨by omega, hpx, ?_⟩
    by_cases hi : i + 1 = S.pe x
    · rw [show S.pe x - 1 = i by omega]
      exact Eqc.refl _ _
    · exact Eqc.of (.inr ⟨x, a, hx0, ha0, hlt, he.symm, hi, by omega⟩)
  · have hax := h.anc he
    obtain ⟨c, hc⟩ := h.child hx _ a rfl ha (by omega) hax
    refine .inr ⟨c, hc, ?_⟩
    obtain ⟨bx1, bx2, bx3⟩ := h.below_x hc
    by_cases hi : i + 1 = S.pe a
    · have hpa : S.pe a ≠ 0 := by omega
      obtain ⟨p1, p2, p3⟩ := h.inv.pr a ha0 hpa
      rw [← hi, Nat.add_sub_cancel] at p1
      have hpar : S.par a = x := p1.other he.symm
      have : a = c := h.child_one ⟨ha, hpa, hpar, Nat.le_refl _, (h.inv.fv a ha).2.1⟩ hc
      rw [← this, show S.pe a - 1 = i by omega]
      exact Eqc.refl _ _
    · have hbk := h.inv.bk a i x ha he (by omega) hi
      obtain ⟨k1, k2⟩ := h.chain hc.1 hc.2.1 _ a rfl ha hc.2.2.2 (by omega)
      exact (Eqc.of (.inr ⟨a, x, ha0, hx0, by omega, he, hi, by omega⟩)).trans k2
theorem Fn.q_step {V : Nat} {es : Ed} {S : St} (h : Fn V es S) {k x e u v : Nat} (hxf : S.fin x ≠ 0) (he : En es e u v) (hu : u ≠ x) (hv : v ≠ x) (hq : Q es S x k u) : Q es S x k v := by
  obtain ⟨huf, hvf⟩ := h.fin he
  have hu0 := (h.inv.fv u huf).1
  have hv0 := (h.inv.fv v hvf).1
  have hx0 := (h.inv.fv x hxf).1
  have hune : S.come u ≠ S.come x := fun e => hu (h.inv.inj _ _ hu0 e)
  have hvne : S.come v ≠ S.come x := fun e => hv (h.inv.inj _ _ hv0 e)
  have huv := he.ne h.gr.nl
  have huvc : S.come u ≠ S.come v := fun e => huv (h.inv.inj _ _ hu0 e)
  rcases hq with ⟨q1, q2, q3⟩ | ⟨c, hc, q3⟩
  · by_cases hvx : S.come x < S.come v ∧ S.come v ≤ S.fin x
    · obtain ⟨c, hc⟩ := h.child hxf _ v rfl hvf hvx.1 hvx.2
      refine .inr ⟨c, hc, ?_⟩
      obtain ⟨bx1, bx2, bx3⟩ := h.below_x hc
      obtain ⟨hcf, hcp, hcr, hcb⟩ := hc
      have hlt : S.come u < S.come v := by
        by_cases h1 : S.come v < S.come u
        · have h2 := h.anc he.symm
          have h3 := h.inv.lam x v hxf hvf hvx.1 hvx.2
          omega
        · omega
      have hux : S.come u < S.come x := by omega
      have hne : e + 1 ≠ S.pe v := by
        intro h1
        have hpv : S.pe v ≠ 0 := by omega
        obtain ⟨p1, p2, p3⟩ := h.inv.pr v hv0 hpv
        rw [← h1, Nat.add_sub_cancel] at p1
        have hpar : S.par v = u := p1.other he.symm
        rcases h.inv.cl v x hv0 hpv hx0 hvx.1 with h4 | ⟨_, h4⟩
        · rw [hpar] at h4; omega
        · omega
      have hbk := h.inv.bk v e u hvf he hlt hne
      have hlc := h.low_le hcf _ v rfl hvf hcb.1 hcb.2
      exact q3.trans (Eqc.of (.inl ⟨c, hcf, hcp, by rw [hcr]; exact q2, by rw [hcr]; omega, by omega, by rw [hcr]; omega⟩)).symm
    · exact .inl ⟨hvx, q2, q3⟩
  · obtain ⟨bx1, bx2, bx3⟩ := h.below_x hc
    obtain ⟨hcf, hcp, hcr, hcb⟩ := hc
    by_cases hvb : Bl S c v
    · exact .inr ⟨c, ⟨hcf, hcp, hcr, hvb⟩, q3⟩
    · have hc0 := (h.inv.fv c hcf).1
      obtain ⟨hb1, hb2⟩ := hcb
      have hlt : S.come v < S.come u := by
        by_cases h1 : S.come u < S.come v
        · exfalso
          have h2 := h.anc he
          refine hvb ⟨by omega, ?_⟩
          by_cases hcu : c = u
          · rw [hcu]; exact h2
          · have h4 : S.come u ≠ S.come c := fun e => hcu (h.inv.inj _ _ hu0 e).symm
            have h3 := h.inv.lam c u hcf huf (by omega) hb2
            omega
        · omega
      have hvc : S.come v < S.come c := by
        by_cases h1 : S.come v < S.come c
        · exact h1
        · exact absurd ⟨by omega, by omega⟩ hvb
      have hfv := h.anc he.symm
      have hvx : S.come v < S.come x := by
        rcases h.inv.cl c v hc0 hcp hv0 hvc with h4 | ⟨_, h4⟩
        · rw [hcr] at h4; omega
        · omega
      have hne : e + 1 ≠ S.pe u := by
        intro h1
        have hpu : S.pe u ≠ 0 := by omega
        obtain ⟨p1, p2, p3⟩ := h.inv.pr u hu0 hpu
        rw [← h1, Nat.add_sub_cancel] at p1
        have hpar : S.par u = v := p1.other he
        by_cases hcu : c = u
        · rw [hcu, hpar] at hcr; exact hv hcr
        · have h4 : S.come u ≠ S.come c := fun e => hcu (h.inv.inj _ _ hu0 e).symm
          rcases h.inv.cl u c hu0 hpu hc0 (by omega) with h5 | ⟨_, h5⟩
          · rw [hpar] at h5; omega
          · omega
      have hbk := h.inv.bk u e v huf he.symm hlt hne
      have hlc := h.low_le hcf _ u rfl huf hb1 hb2
      have hpx : S.pe x ≠ 0 := by
        intro h0
        have := (h.inv.rt x v hx0 h0 hv0 hvx).2
        omega
      exact .inl ⟨by omega, hpx, q3.trans (Eqc.of (.inl ⟨c, hcf, hcp, by rw [hcr]; exact hpx, by rw [hcr]; omega, by omega, by rw [hcr]; omega⟩))⟩
/-- steps of blocks are the tree's -/
theorem Fn.lk_of_se {V : Nat} {es : Ed} {S : St} (h : Fn V es S) {i j : Nat} (hs : SE es i j) : Lk es S i j := by
  obtain ⟨x, a, b, h1, h2, h3⟩ := hs
  have hx := (h.fin h1).1
  have q1 : Q es S x i b := h3 (fun y => Q es S x i y) (h.q_edge h1) fun e u v he hu hv hq => h.q_step hx he hu hv hq
  have q2 : Q es S x j b := h.q_edge h2
  rcases q1 with ⟨a1, a2, a3⟩ | ⟨c, a1, a2⟩ <;> rcases q2 with ⟨b1, b2, b3⟩ | ⟨c', b1, b2⟩
  · exact a3.trans b3.symm
  · exfalso
    obtain ⟨x1, x2, x3⟩ := h.below_x b1
    obtain ⟨_, _, _, y1, y2⟩ := b1
    exact a1 ⟨by omega, by omega⟩
  · exfalso
    obtain ⟨x1, x2, x3⟩ := h.below_x a1
    obtain ⟨_, _, _, y1, y2⟩ := a1
    exact b1 ⟨by omega, by omega⟩
  · rw [h.child_one a1 b1] at a2
    exact a2.trans b2.symm
theorem Fn.lk_iff {V : Nat} {es : Ed} {S : St} (h : Fn V es S) {i j : Nat} : Lk es S i j ↔ Bk es i j :=
  ⟨fun h' => h'.mono fun i j h'' => h.se_of_ls h'', fun h' => h'.lift fun i j h'' => h.lk_of_se h''⟩

/-- at the head of the outer loop: all that was come to is done, nothing is open -/
structure Ou (es : Ed) (S : St) : Prop where
  inv : Inv es S
  done : ∀ v, S.come v ≠ 0 → S.fin v ≠ 0
  opn : S.opn = []
  nd : (all S).Nodup
  mem : ∀ e, e ∈ all S ↔ ∃ u v, En es e u v ∧ S.come u ≠ 0
  bl : ∀ B ∈ S.bks, B ≠ [] ∧ ∀ i ∈ B, ∀ j ∈ B, Lk es S i j
  tg1 : ∀ v, S.come v ≠ 0 → S.pe v ≠ 0 → S.low v < S.come (S.par v) → ∃ B ∈ S.bks, S.pe v - 1 ∈ B ∧ S.pe (S.par v) - 1 ∈ B
  tg2 : ∀ v e u, S.come v ≠ 0 → En es e u v → S.come u < S.come v → e + 1 ≠ S.pe v → ∃ B ∈ S.bks, e ∈ B ∧ S.pe v - 1 ∈ B
def St0 : St := ⟨0, fun _ => 0, [], [], fun _ => 0, fun _ => 0, fun _ => 0, fun _ => 0⟩
theorem ou_start (es : Ed) : Ou es St0 := by
  refine ⟨⟨by simp [St0], by simp [St0], by simp [St0], by simp [St0], by simp [St0], by simp [St0], by simp [St0], by simp [St0], by simp [St0], by simp [St0], by simp [St0], by simp [St0]⟩, by simp [St0], rfl, by simp [St0, all], by simp [St0, all], by simp [St0], by simp [St0], by simp [St0]⟩
theorem Ou.pre {es : Ed} {S : St} (h : Ou es S) {x : Nat} (hx : S.come x = 0) : Pre es x 0 S ∧ SPre es 0 S := by
  refine ⟨⟨h.inv, hx, fun h => absurd rfl h, fun _ => h.done⟩, h.nd, fun e he => .inr fun u v hen => ?_, fun h => absurd rfl h⟩
  obtain ⟨u', v', h1, h2⟩ := (h.mem e).1 he
  rcases hen.ends h1 with ⟨h3, h4⟩ | ⟨h3, h4⟩
  · rw [← h3]; exact h2
  · rw [← h4]; exact (h.inv.nb e u' v' h1 (h.done u' h2)).1
theorem unv_bound (V : Nat) (S : St) : unv V S ≤ V := by
  unfold unv
  have := List.length_filter_le (fun v => S.come v == 0) (List.range V)
  simpa using this
theorem Ou.step {V : Nat} {es : Ed} (hg : Gr V es) {S : St} (h : Ou es S) {x : Nat} (hxV : x < V) (hx : S.come x = 0) : Ou es (fromF es V x 0 S).2 ∧ Grew S (fromF es V x 0 S).2 ∧ (fromF es V x 0 S).2.come x ≠ 0 := by
  obtain ⟨hp, hs⟩ := h.pre hx
  have hpo := from_post hg V x 0 S hxV hp (unv_bound V S)
  obtain ⟨seg, nb, hso⟩ := from_spost hg V x 0 S hxV hp hs (unv_bound V S)
  generalize fromF es V x 0 S = r at *
  obtain ⟨lo, S'⟩ := r
  simp only at *
  have hseg : seg = [] := by
    cases seg with
    | nil => rfl
    | cons e l => exact absurd rfl (hso.lk e (by simp)).1
  subst hseg
  have hTg : ∀ i j, Tg 0 [] nb i j → ∃ B ∈ S'.bks, i ∈ B ∧ j ∈ B := by
    rintro i j (⟨h1 | h1, _⟩ | ⟨B, h1, h2⟩)
    · simp at h1
    · omega
    · exact ⟨B, by rw [hso.bks]; simp [h1], h2⟩
  refine ⟨⟨hpo.inv, ?_, ?_, hso.nd, ?_, ?_, ?_, ?_⟩, hpo.grew, by rw [hpo.xc]; omega⟩
  · intro v hv
    by_cases h0 : S.come v = 0
    · exact (hpo.grew.new v h0 hv).2
    · rw [(hpo.grew.keep v h0).2.1]
      exact h.done v h0
  · rw [hso.opn, h.opn, List.append_nil]
  · intro e
    rw [hso.mem e, h.mem e]
    constructor
    · rintro (⟨u, v, h1, h2⟩ | ⟨u, v, h1, h2, h3⟩)
      · exact ⟨u, v, h1, hpo.grew.vis h2⟩
      · exact ⟨u, v, h1, h3⟩
    · rintro ⟨u, v, h1, h2⟩
      by_cases h0 : S.come u = 0
      · exact .inr ⟨u, v, h1, h0, h2⟩
      · exact .inl ⟨u, v, h1, h0⟩
  · intro B hB
    rw [hso.bks] at hB
    rcases List.mem_append.1 hB with hB | hB
    · exact ⟨(h.bl B hB).1, fun i hi j hj => Lk.grew h.inv hpo.grew ((h.bl B hB).2 i hi j hj)⟩
    · exact hso.bl B hB
  · intro v hv hpv hlt
    by_cases h0 : S.come v = 0
    · have hvx : v ≠ x := fun e => by subst e; exact hpv hpo.xp
      exact hTg _ _ (hso.tg1 v h0 hv hvx hlt).1
    · obtain ⟨k1, k2, k3, k4, k5⟩ := hpo.grew.keep v h0
      rw [k4] at hpv
      obtain ⟨p1, p2, p3⟩ := h.inv.pr v h0 hpv
      obtain ⟨m1, m2, m3, m4, m5⟩ := hpo.grew.keep _ p2
      rw [k3, k5, m1] at hlt
      rw [k4, k5, m4]
      obtain ⟨B, b1, b2⟩ := h.tg1 v h0 hpv hlt
      exact ⟨B, by rw [hso.bks]; simp [b1], b2⟩
  · intro v e u hv hen hlt hne
    by_cases h0 : S.come v = 0
    · exact hTg _ _ (hso.tg2 v e u h0 hv hen hlt hne).1
    · obtain ⟨k1, k2, k3, k4, k5⟩ := hpo.grew.keep v h0
      have hu := (h.inv.nb e v u hen.symm (h.done v h0)).1
      rw [k1, (hpo.grew.keep u hu).1] at hlt
      rw [k4] at hne ⊢
      obtain ⟨B, b1, b2⟩ := h.tg2 v e u h0 hen hlt hne
      exact ⟨B, by rw [hso.bks]; simp [b1], b2⟩

/-- the outer loop -/
def outF (es : Ed) (V : Nat) : Nat → St
  | 0 => St0
  | k + 1 => if (outF es V k).come k = 0 then (fromF es V k 0 (outF es V k)).2 else outF es V k
theorem out_ou {V : Nat} {es : Ed} (hg : Gr V es) : ∀ k, k ≤ V → Ou es (outF es V k) ∧ ∀ v, v < k → (outF es V k).come v ≠ 0 := by
  intro k
  induction k with
  | zero => exact fun _ => ⟨ou_start es, fun v hv => by omega⟩
  | succ k ih =>
    intro hk
    obtain ⟨h1, h2⟩ := ih (by omega)
    unfold outF
    by_cases h0 : (outF es V k).come k = 0
    · rw [if_pos h0]
      obtain ⟨s1, s2, s3⟩ := h1.step hg (x := k) (by omega) h0
      refine ⟨s1, fun v hv => ?_⟩
      by_cases hvk : v = k
      · subst hvk; exact s3
      · exact s2.vis (h2 v (by omega))
    · rw [if_neg h0]
      refine ⟨h1, fun v hv => ?_⟩
      by_cases hvk : v = k
      · subst hvk; exact h0
      · exact h2 v (by omega)
theorem out_fn {V : Nat} {es : Ed} (hg : Gr V es) : Fn V es (outF es V V) ∧ Ou es (outF es V V) := by
  obtain ⟨h1, h2⟩ := out_ou hg V (Nat.le_refl _)
  exact ⟨⟨hg, h1.inv, fun v hv => h1.done v (h2 v hv)⟩, h1⟩

/-- lists that are the classes of a relation on the numbers below m -/
structure Cls (m : Nat) (r : Nat → Nat → Prop) (L : List (List Nat)) : Prop where
  nd : L.flatten.Nodup
  mem : ∀ e, e ∈ L.flatten ↔ e < m
  ne : ∀ B ∈ L, B ≠ []
  cls : ∀ B ∈ L, ∀ i ∈ B, ∀ j, j < m → (j ∈ B ↔ r i j)
theorem flat_one {L : List (List Nat)} (h : L.flatten.Nodup) {B C : List Nat} {e : Nat} (hB : B ∈ L) (hC : C ∈ L) (h1 : e ∈ B) (h2 : e ∈ C) : B = C := by
  induction L with
  | nil => simp at hB
  | cons A L ih =>
    rw [List.flatten_cons, List.nodup_append] at h
    obtain ⟨n1, n2, n3⟩ := h
    have far : ∀ D ∈ L, e ∈ A → e ∈ D → False := fun D hD ha hd => n3 e ha e (List.mem_flatten.2 ⟨D, hD, hd⟩) rfl
    rcases List.mem_cons.1 hB with eB | kB
    · rcases List.mem_cons.1 hC with eC | kC
      · exact eB.trans eC.symm
      · exact (far C kC (eB ▸ h1) h2).elim
    · rcases List.mem_cons.1 hC with eC | kC
      · exact (far B kB (eC ▸ h2) h1).elim
      · exact ih n2 kB kC
theorem out_cls {V : Nat} {es : Ed} (hg : Gr V es) : Cls es.length (Bk es) (outF es V V).bks := by
  obtain ⟨hf, ho⟩ := out_fn hg
  generalize outF es V V = S at *
  have hall : all S = S.bks.flatten := by unfold all; rw [ho.opn]; rfl
  have hnd : S.bks.flatten.Nodup := by rw [← hall]; exact ho.nd
  have hmem : ∀ e, e ∈ S.bks.flatten ↔ e < es.length := by
    intro e
    rw [← hall, ho.mem e]
    constructor
    · rintro ⟨u, v, h1, _⟩; exact h1.1
    · intro h1
      exact ⟨(at' es e).1, (at' es e).2, ⟨h1, .inl rfl⟩, (hf.inv.fv _ (hf.done _ (hg.ends e h1).1)).1⟩
  have hls : ∀ i j, LS es S i j → ∃ B ∈ S.bks, i ∈ B ∧ j ∈ B := by
    rintro i j (⟨v, h1, h2, h3, h4, h5, h6⟩ | ⟨v, u, h1, h2, h3, h4, h5, h6⟩)
    · have := ho.tg1 v (hf.inv.fv v h1).1 h2 h4
      rwa [show S.pe v - 1 = i by omega, show S.pe (S.par v) - 1 = j by omega] at this
    · have := ho.tg2 v i u h1 h4 h3 h5
      rwa [show S.pe v - 1 = j by omega] at this
  have hsb : ∀ i j, Lk es S i j → i = j ∨ ∃ B ∈ S.bks, i ∈ B ∧ j ∈ B := fun i j hl => hl (fun i j => i = j ∨ ∃ B ∈ S.bks, i ∈ B ∧ j ∈ B) (fun _ => .inl rfl)
    (by
      rintro i j (h | ⟨B, h1, h2, h3⟩)
      · exact .inl h.symm
      · exact .inr ⟨B, h1, h3, h2⟩)
    (by
      rintro i j k (rfl | ⟨B, h1, h2, h3⟩) h'
      · exact h'
      · rcases h' with rfl | ⟨C, c1, c2, c3⟩
        · exact .inr ⟨B, h1, h2, h3⟩
        · have := flat_one hnd h1 c1 h3 c2
          subst this
          exact .inr ⟨B, h1, h2, c3⟩)
    (fun i j h => .inr (hls i j h))
  refine ⟨hnd, hmem, fun B hB => (ho.bl B hB).1, fun B hB i hi j hj => ⟨fun h => hf.lk_iff.1 ((ho.bl B hB).2 i hi j h), fun h => ?_⟩⟩
  rcases hsb i j (hf.lk_iff.2 h) with rfl | ⟨C, c1, c2, c3⟩
  · exact hi
  · rw [flat_one hnd hB c1 hi c2]
    exact c3
end Go.Proofs.Ytbecmaandhadhaa.Df


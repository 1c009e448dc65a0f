/-
  Plain mathematics: the walk through a graph depth first, as a function on lists, and what it leaves of its tree. No conditions beyond each theorem's own.
-/
import Derived.Test.YtbecmaandhadhaaPl
namespace Go.Proofs.Ytbecmaandhadhaa.Df
open Go.Proofs.Ytbecmaandhadhaa.Pl
set_option linter.unusedVariables false

/-- e is an edge between u and v -/
def En (es : Ed) (e u v : Nat) : Prop := e < es.length ∧ (at' es e = (u, v) ∨ at' es e = (v, u))
theorem En.symm {es : Ed} {e u v : Nat} (h : En es e u v) : En es e v u := ⟨h.1, h.2.symm⟩
theorem En.other {es : Ed} {e u v v' : Nat} (h : En es e u v) (h' : En es e u v') : v = v' := by
  rcases h.2 with h1 | h1 <;> rcases h'.2 with h2 | h2 <;> rw [h1] at h2 <;> simp only [Prod.mk.injEq] at h2 <;> omega
theorem En.ends {es : Ed} {e u v a b : Nat} (h : En es e u v) (h' : En es e a b) : (a = u ∧ b = v) ∨ (a = v ∧ b = u) := by
  rcases h.2 with h1 | h1 <;> rcases h'.2 with h2 | h2 <;> rw [h1] at h2 <;> simp only [Prod.mk.injEq] at h2 <;> omega
/-- no edge has one end twice -/
def NoLoop (es : Ed) : Prop := ∀ i, i < es.length → (at' es i).1 ≠ (at' es i).2
theorem En.ne {es : Ed} (hn : NoLoop es) {e u v : Nat} (h : En es e u v) : u ≠ v := by
  have := hn e h.1
  rcases h.2 with h1 | h1 <;> rw [h1] at this <;> simp at this <;> omega

def adj (es : Ed) (x : Nat) : List Nat := outs es x ++ ins es x
def oth (es : Ed) (e x : Nat) : Nat := (at' es e).1 + (at' es e).2 - x
theorem mem_adj {es : Ed} {x e : Nat} : e ∈ adj es x ↔ e < es.length ∧ ((at' es e).1 = x ∨ (at' es e).2 = x) := by
  unfold adj outs ins
  rw [List.mem_append, mem_sel, mem_sel]
  simp only [beq_iff_eq]
  constructor
  · rintro (⟨h1, h2⟩ | ⟨h1, h2⟩)
    · exact ⟨h1, .inl h2⟩
    · exact ⟨h1, .inr h2⟩
  · rintro ⟨h1, h2 | h2⟩
    · exact .inl ⟨h1, h2⟩
    · exact .inr ⟨h1, h2⟩
theorem en_of_adj {es : Ed} {x e : Nat} (h : e ∈ adj es x) : En es e x (oth es e x) := by
  obtain ⟨h1, h2⟩ := mem_adj.1 h
  refine ⟨h1, ?_⟩
  unfold oth
  rcases h2 with h2 | h2
  · left
    rw [Prod.ext_iff]
    exact ⟨h2, by show (at' es e).2 = _; omega⟩
  · right
    rw [Prod.ext_iff]
    exact ⟨by show (at' es e).1 = _; omega, h2⟩
theorem adj_of_en {es : Ed} {x y e : Nat} (h : En es e x y) : e ∈ adj es x := by
  refine mem_adj.2 ⟨h.1, ?_⟩
  rcases h.2 with h2 | h2 <;> rw [h2] <;> simp
theorem oth_of_en {es : Ed} {x y e : Nat} (h : En es e x y) : oth es e x = y := En.other (en_of_adj (adj_of_en h)) h
theorem sel_nodup (es : Ed) (p : Nat × Nat → Bool) (k : Nat) : (sel es p k).Nodup := List.nodup_range.sublist List.filter_sublist
theorem adj_nodup {es : Ed} (hn : NoLoop es) (x : Nat) : (adj es x).Nodup := by
  unfold adj
  rw [List.nodup_append]
  refine ⟨sel_nodup _ _ _, sel_nodup _ _ _, ?_⟩
  intro a ha b hb e
  subst e
  obtain ⟨h1, h2⟩ := mem_sel.1 ha
  obtain ⟨_, h3⟩ := mem_sel.1 hb
  simp at h2 h3
  exact hn a h1 (by omega)

def upd (f : Nat → Nat) (j v i : Nat) : Nat := if i = j then v else f i
theorem upd_same (f : Nat → Nat) (j v : Nat) : upd f j v j = v := if_pos rfl
theorem upd_other (f : Nat → Nat) {j i : Nat} (v : Nat) (h : i ≠ j) : upd f j v i = f i := if_neg h

/-- where a walk is: the time, when each vertex was come to (0: not yet), open edges, blocks; and what is only thought of: by which edge (its number + 1; 0: none), from which vertex, the earliest time, the time of the end -/
structure St where
  time : Nat
  come : Nat → Nat
  opn : List Nat
  bks : List (List Nat)
  pe : Nat → Nat
  par : Nat → Nat
  low : Nat → Nat
  fin : Nat → Nat

/-- one edge at x is looked at -/
def stepF (rc : Nat → Nat → St → Nat × St) (es : Ed) (x b : Nat) (p : Nat × St) (e : Nat) : Nat × St :=
  if e + 1 = b ∨ p.2.come x < p.2.come (oth es e x) then p
  else if 0 < p.2.come (oth es e x) then (min p.1 (p.2.come (oth es e x)), { p.2 with opn := p.2.opn ++ [e] })
  else
    let r := rc (oth es e x) (e + 1) { p.2 with opn := p.2.opn ++ [e], par := upd p.2.par (oth es e x) x }
    (min p.1 r.1, if r.2.come x ≤ r.1 then { r.2 with bks := r.2.bks ++ [r.2.opn.drop p.2.opn.length], opn := r.2.opn.take p.2.opn.length } else r.2)
/-- x is come to -/
def enterF (x b : Nat) (S : St) : St := { S with time := S.time + 1, come := upd S.come x (S.time + 1), pe := upd S.pe x b }
/-- x is left -/
def leaveF (x : Nat) (r : Nat × St) : Nat × St := (r.1, { r.2 with low := upd r.2.low x r.1, fin := upd r.2.fin x r.2.time })
def fromF (es : Ed) : Nat → Nat → Nat → St → Nat × St
  | 0, x, b, S => (0, S)
  | f + 1, x, b, S => leaveF x ((adj es x).foldl (stepF (fromF es f) es x b) (S.time + 1, enterF x b S))

/-- what holds of the tree all the time -/
structure Inv (es : Ed) (S : St) : Prop where
  cle : ∀ v, S.come v ≤ S.time
  inj : ∀ u v, S.come u ≠ 0 → S.come u = S.come v → u = v
  fv : ∀ v, S.fin v ≠ 0 → S.come v ≠ 0 ∧ S.come v ≤ S.fin v ∧ S.fin v ≤ S.time
  nb : ∀ e u v, En es e u v → S.fin u ≠ 0 → S.come v ≠ 0 ∧ S.come v ≤ S.fin u
  lam : ∀ u v, S.fin u ≠ 0 → S.fin v ≠ 0 → S.come u < S.come v → S.come v ≤ S.fin u → S.fin v ≤ S.fin u
  gr : ∀ u z, S.fin u ≠ 0 → S.come z ≠ 0 → S.fin z = 0 → S.come u < S.come z → S.fin u < S.come z
  rt : ∀ v z, S.come v ≠ 0 → S.pe v = 0 → S.come z ≠ 0 → S.come z < S.come v → S.fin z ≠ 0 ∧ S.fin z < S.come v
  pr : ∀ v, S.come v ≠ 0 → S.pe v ≠ 0 → En es (S.pe v - 1) v (S.par v) ∧ S.come (S.par v) ≠ 0 ∧ S.come (S.par v) < S.come v
  cl : ∀ v z, S.come v ≠ 0 → S.pe v ≠ 0 → S.come z ≠ 0 → S.come z < S.come v → S.come z ≤ S.come (S.par v) ∨ (S.fin z ≠ 0 ∧ S.fin z < S.come v)
  bk : ∀ v e u, S.fin v ≠ 0 → En es e u v → S.come u < S.come v → e + 1 ≠ S.pe v → S.low v ≤ S.come u
  lw : ∀ v, S.fin v ≠ 0 → S.pe v ≠ 0 → S.fin (S.par v) ≠ 0 → S.low (S.par v) ≤ S.low v
  wt : ∀ v, S.fin v ≠ 0 → S.low v = S.come v ∨ ∃ e d a, En es e d a ∧ S.come v ≤ S.come d ∧ S.come d ≤ S.fin v ∧ S.fin d ≠ 0 ∧ S.come a = S.low v ∧ S.come a ≠ 0 ∧ S.come a < S.come v
theorem Inv.congr {es : Ed} {S S' : St} (h : Inv es S) (ht : S'.time = S.time) (hc : S'.come = S.come) (hp : S'.pe = S.pe) (hl : S'.low = S.low) (hf : S'.fin = S.fin) (hr : ∀ v, S.come v ≠ 0 → S'.par v = S.par v) : Inv es S' := by
  obtain ⟨t, c, o, k, p, r, l, f⟩ := S
  obtain ⟨t', c', o', k', p', r', l', f'⟩ := S'
  simp only at ht hc hp hl hf hr
  subst ht hc hp hl hf
  refine ⟨h.cle, h.inj, h.fv, h.nb, h.lam, h.gr, h.rt, ?_, ?_, h.bk, ?_, h.wt⟩
  · intro v h1 h2
    have := h.pr v h1 h2
    simp only at this ⊢
    rw [hr v h1]
    exact this
  · intro v z h1 h2 h3 h4
    have := h.cl v z h1 h2 h3 h4
    simp only at this ⊢
    rw [hr v h1]
    exact this
  · intro v h1 h2
    have hv := (h.fv v h1).1
    simp only at hv ⊢
    rw [hr v hv]
    exact h.lw v h1 h2

/-- all that was come to is as it was; what is new is done -/
structure Grew (S S' : St) : Prop where
  keep : ∀ v, S.come v ≠ 0 → S'.come v = S.come v ∧ S'.fin v = S.fin v ∧ S'.low v = S.low v ∧ S'.pe v = S.pe v ∧ S'.par v = S.par v
  time : S.time ≤ S'.time
  new : ∀ v, S.come v = 0 → S'.come v ≠ 0 → S.time < S'.come v ∧ S'.fin v ≠ 0
theorem Grew.refl (S : St) : Grew S S := ⟨fun v _ => ⟨rfl, rfl, rfl, rfl, rfl⟩, Nat.le_refl _, fun v h h' => absurd h h'⟩
theorem Grew.vis {S S' : St} (h : Grew S S') {v : Nat} (hv : S.come v ≠ 0) : S'.come v ≠ 0 := by rw [(h.keep v hv).1]; exact hv
theorem Grew.trans {S S' S'' : St} (h : Grew S S') (k : Grew S' S'') : Grew S S'' := by
  refine ⟨fun v hv => ?_, Nat.le_trans h.time k.time, fun v h0 h1 => ?_⟩
  · obtain ⟨a1, a2, a3, a4, a5⟩ := h.keep v hv
    obtain ⟨b1, b2, b3, b4, b5⟩ := k.keep v (h.vis hv)
    exact ⟨b1.trans a1, b2.trans a2, b3.trans a3, b4.trans a4, b5.trans a5⟩
  · by_cases hc : S'.come v = 0
    · have := k.new v hc h1
      have := h.time
      exact ⟨by omega, (k.new v hc h1).2⟩
    · obtain ⟨b1, b2, _⟩ := k.keep v hc
      rw [b1, b2]
      exact h.new v h0 hc
theorem Grew.congr {S S' T T' : St} (h : Grew S S') (ht : T.time = S.time) (hc : T.come = S.come) (hp : T.pe = S.pe) (hr : ∀ v, S.come v ≠ 0 → T.par v = S.par v) (hl : T.low = S.low) (hf : T.fin = S.fin)
    (ht' : T'.time = S'.time) (hc' : T'.come = S'.come) (hp' : T'.pe = S'.pe) (hr' : ∀ v, S.come v ≠ 0 → T'.par v = S'.par v) (hl' : T'.low = S'.low) (hf' : T'.fin = S'.fin) : Grew T T' := by
  refine ⟨fun v hv => ?_, by rw [ht, ht']; exact h.time, fun v h0 h1 => ?_⟩
  · rw [hc] at hv
    obtain ⟨a1, a2, a3, a4, a5⟩ := h.keep v hv
    rw [hc, hp, hl, hf, hc', hp', hl', hf', hr v hv, hr' v hv]
    exact ⟨a1, a2, a3, a4, a5⟩
  · rw [hc] at h0
    rw [hc'] at h1
    rw [ht, hc', hf']
    exact h.new v h0 h1

/-- what a walk from x asks -/
structure Pre (es : Ed) (x b : Nat) (S : St) : Prop where
  inv : Inv es S
  x0 : S.come x = 0
  some : b ≠ 0 → En es (b - 1) x (S.par x) ∧ S.come (S.par x) ≠ 0 ∧ S.fin (S.par x) = 0 ∧ ∀ z, S.come z ≠ 0 → S.fin z = 0 → S.come z ≤ S.come (S.par x)
  root : b = 0 → ∀ z, S.come z ≠ 0 → S.fin z ≠ 0
/-- what it leaves -/
structure Post (es : Ed) (x b : Nat) (S : St) (lo : Nat) (S' : St) : Prop where
  inv : Inv es S'
  grew : Grew S S'
  xc : S'.come x = S.time + 1
  xf : S'.fin x ≠ 0
  xt : S'.fin x = S'.time
  xl : S'.low x = lo
  xp : S'.pe x = b
  xr : S'.par x = S.par x

theorem fin0 {es : Ed} {S : St} (h : Inv es S) {v : Nat} (hv : S.come v = 0) : S.fin v = 0 := by
  cases hf : S.fin v with
  | zero => rfl
  | succ k => exact absurd hv (h.fv v (by omega)).1

/-- x is come to -/
theorem enter_inv {es : Ed} {x b : Nat} {S : St} (h : Pre es x b S) : Inv es (enterF x b S) := by
  have hi := h.inv
  have hx := h.x0
  have hxf := fin0 hi hx
  have hc : ∀ v, v ≠ x → (enterF x b S).come v = S.come v := fun v hv => upd_other _ _ hv
  have hcx : (enterF x b S).come x = S.time + 1 := upd_same _ _ _
  have hp : ∀ v, v ≠ x → (enterF x b S).pe v = S.pe v := fun v hv => upd_other _ _ hv
  have hpx : (enterF x b S).pe x = b := upd_same _ _ _
  have hfx : ∀ v, S.fin v ≠ 0 → v ≠ x := fun v hv e => hv (e ▸ hxf)
  have hvx : ∀ v, S.come v ≠ 0 → v ≠ x := fun v hv e => hv (e ▸ hx)
  refine ⟨?_, ?_, ?_, ?_, ?_, ?_, ?_, ?_, ?_, ?_, ?_, ?_⟩
  · intro v
    by_cases hv : v = x
    · subst hv; rw [hcx]; exact Nat.le_refl _
    · rw [hc v hv]; have := hi.cle v; show _ ≤ S.time + 1; omega
  · intro u v h0 he
    by_cases hu : u = x
    · subst hu
      by_cases hv : v = u
      · exact hv.symm
      · rw [hcx, hc v hv] at he
        have := hi.cle v
        omega
    · rw [hc u hu] at h0 he
      by_cases hv : v = x
      · subst hv
        rw [hcx] at he
        have := hi.cle u
        omega
      · rw [hc v hv] at he
        exact hi.inj u v h0 he
  · intro v hv
    have hv' : S.fin v ≠ 0 := hv
    rw [hc v (hfx v hv')]
    obtain ⟨h1, h2, h3⟩ := hi.fv v hv'
    exact ⟨h1, h2, by show _ ≤ S.time + 1; exact Nat.le_succ_of_le h3⟩
  · intro e u v he hu
    have hu' : S.fin u ≠ 0 := hu
    obtain ⟨h1, h2⟩ := hi.nb e u v he hu'
    rw [hc v (hvx v h1)]
    exact ⟨h1, h2⟩
  · intro u v hu hv
    have hu' : S.fin u ≠ 0 := hu
    have hv' : S.fin v ≠ 0 := hv
    rw [hc u (hfx u hu'), hc v (hfx v hv')]
    exact hi.lam u v hu' hv'
  · intro u z hu hz hz0
    have hu' : S.fin u ≠ 0 := hu
    rw [hc u (hfx u hu')]
    by_cases hzx : z = x
    · subst hzx
      rw [hcx]
      intro _
      have := (hi.fv u hu').2.2
      show S.fin u < _
      omega
    · rw [hc z hzx] at hz ⊢
      exact hi.gr u z hu' hz hz0
  · intro v z hv hp0 hz hlt
    by_cases hvx' : v = x
    · subst hvx'
      rw [hpx] at hp0
      have hzx : z ≠ v := fun e => by subst e; omega
      rw [hc z hzx] at hz
      have := h.root hp0 z hz
      refine ⟨this, ?_⟩
      rw [hcx]
      have := (hi.fv z this).2.2
      show S.fin z < _
      omega
    · rw [hc v hvx'] at hv hlt ⊢
      rw [hp v hvx'] at hp0
      by_cases hzx : z = x
      · subst hzx
        rw [hcx] at hlt
        have := hi.cle v
        omega
      · rw [hc z hzx] at hz hlt
        exact hi.rt v z hv hp0 hz hlt
  · intro v hv hp0
    by_cases hvx' : v = x
    · subst hvx'
      rw [hpx] at hp0 ⊢
      obtain ⟨h1, h2, _⟩ := h.some hp0
      have hne := hvx _ h2
      refine ⟨h1, ?_, ?_⟩
      · show (enterF v b S).come (S.par v) ≠ 0
        rw [hc _ hne]; exact h2
      · show (enterF v b S).come (S.par v) < _
        rw [hc _ hne, hcx]
        have := hi.cle (S.par v)
        omega
    · rw [hc v hvx'] at hv ⊢
      rw [hp v hvx'] at hp0 ⊢
      obtain ⟨h1, h2, h3⟩ := hi.pr v hv hp0
      have hne := hvx _ h2
      refine ⟨h1, ?_, ?_⟩
      · show (enterF x b S).come (S.par v) ≠ 0
        rw [hc _ hne]; exact h2
      · show (enterF x b S).come (S.par v) < _
        rw [hc _ hne]; exact h3
  · intro v z hv hp0 hz hlt
    by_cases hvx' : v = x
    · subst hvx'
      rw [hpx] at hp0
      obtain ⟨h1, h2, h3, h4⟩ := h.some hp0
      have hne := hvx _ h2
      have hzx : z ≠ v := fun e => by subst e; omega
      rw [hc z hzx] at hz ⊢
      show S.come z ≤ (enterF v b S).come (S.par v) ∨ _
      rw [hc _ hne, hcx]
      by_cases hz0 : S.fin z = 0
      · exact .inl (h4 z hz hz0)
      · right
        refine ⟨hz0, ?_⟩
        have := (hi.fv z hz0).2.2
        show S.fin z < _
        omega
    · rw [hc v hvx'] at hv hlt ⊢
      rw [hp v hvx'] at hp0
      obtain ⟨h1, h2, h3⟩ := hi.pr v hv hp0
      have hne := hvx _ h2
      show _ ≤ (enterF x b S).come (S.par v) ∨ _
      rw [hc _ hne]
      by_cases hzx : z = x
      · subst hzx
        rw [hcx] at hlt
        have := hi.cle v
        omega
      · rw [hc z hzx] at hz hlt ⊢
        exact hi.cl v z hv hp0 hz hlt
  · intro v e u hv he hlt hne
    have hv' : S.fin v ≠ 0 := hv
    rw [hp v (hfx v hv')] at hne
    have hu := (hi.nb e v u he.symm hv').1
    rw [hc u (hvx u hu), hc v (hfx v hv')] at hlt
    rw [hc u (hvx u hu)]
    exact hi.bk v e u hv' he hlt hne
  · intro v hv hp0 hpf
    have hv' : S.fin v ≠ 0 := hv
    rw [hp v (hfx v hv')] at hp0
    exact hi.lw v hv' hp0 hpf
  · intro v hv
    have hv' : S.fin v ≠ 0 := hv
    rw [hc v (hfx v hv')]
    rcases hi.wt v hv' with h1 | ⟨e, d, a, h1, h2, h3, h4, h5, h6, h7⟩
    · exact .inl h1
    · right
      refine ⟨e, d, a, h1, ?_⟩
      rw [hc d (hfx d h4), hc a (hvx a h6)]
      exact ⟨h2, h3, h4, h5, h6, h7⟩
theorem enter_grew {es : Ed} {x b : Nat} {S : St} (h : Pre es x b S) : ∀ v, S.come v ≠ 0 → (enterF x b S).come v = S.come v ∧ (enterF x b S).fin v = S.fin v ∧ (enterF x b S).low v = S.low v ∧ (enterF x b S).pe v = S.pe v ∧ (enterF x b S).par v = S.par v := by
  intro v hv
  have hne : v ≠ x := fun e => hv (e ▸ h.x0)
  exact ⟨upd_other _ _ hne, rfl, rfl, upd_other _ _ hne, rfl⟩

/-- while the edges at x are gone through: those of P are -/
structure Lp (es : Ed) (x b : Nat) (S1 : St) (P : List Nat) (lo : Nat) (S : St) : Prop where
  inv : Inv es S
  grew : Grew S1 S
  lox : lo ≤ S.come x
  seen : ∀ e ∈ P, S.come (oth es e x) ≠ 0 ∧ (S.come (oth es e x) < S.come x → e + 1 ≠ b → lo ≤ S.come (oth es e x))
  kids : ∀ v, S.come v ≠ 0 → S.pe v ≠ 0 → S.par v = x → S.fin v ≠ 0 ∧ lo ≤ S.low v
  wit : lo = S.come x ∨ ∃ e d a, En es e d a ∧ S.come x ≤ S.come d ∧ (d = x ∨ S.fin d ≠ 0) ∧ S.come a = lo ∧ S.come a ≠ 0 ∧ S.come a < S.come x
/-- x has just been come to, and is open; all others that are open were come to ahead of it -/
structure At (es : Ed) (x b : Nat) (S1 : St) : Prop where
  x1 : S1.come x ≠ 0
  xf : S1.fin x = 0
  xt : S1.come x = S1.time
  xp : S1.pe x = b
  top : ∀ z, S1.come z ≠ 0 → S1.fin z = 0 → S1.come z ≤ S1.come x
theorem At.now {es : Ed} {x b : Nat} {S1 : St} (h : At es x b S1) {S : St} (hg : Grew S1 S) : S.come x = S1.come x ∧ S.come x ≠ 0 ∧ S.fin x = 0 ∧ S.pe x = b ∧ ∀ z, S.come z ≠ 0 → S.fin z = 0 → S.come z ≤ S.come x := by
  obtain ⟨k1, k2, k3, k4, k5⟩ := hg.keep x h.x1
  refine ⟨k1, by rw [k1]; exact h.x1, by rw [k2]; exact h.xf, by rw [k4]; exact h.xp, fun z hz hz0 => ?_⟩
  by_cases hz1 : S1.come z = 0
  · exact absurd hz0 (hg.new z hz1 hz).2
  · obtain ⟨j1, j2, _⟩ := hg.keep z hz1
    rw [j1, k1]
    exact h.top z hz1 (by rw [← j2]; exact hz0)
theorem enter_at {es : Ed} {x b : Nat} {S : St} (h : Pre es x b S) : At es x b (enterF x b S) := by
  have hcx : (enterF x b S).come x = S.time + 1 := upd_same _ _ _
  refine ⟨by rw [hcx]; omega, fin0 h.inv h.x0, hcx, upd_same _ _ _, ?_⟩
  intro z _ _
  rw [hcx]
  by_cases hzx : z = x
  · subst hzx; rw [hcx]; exact Nat.le_refl _
  · have := h.inv.cle z
    rw [show (enterF x b S).come z = S.come z from upd_other _ _ hzx]
    omega
theorem enter_lp {es : Ed} {x b : Nat} {S : St} (h : Pre es x b S) : Lp es x b (enterF x b S) [] (S.time + 1) (enterF x b S) := by
  have hcx : (enterF x b S).come x = S.time + 1 := upd_same _ _ _
  refine ⟨enter_inv h, Grew.refl _, by rw [hcx]; exact Nat.le_refl _, by simp, ?_, .inl hcx.symm⟩
  intro v hv hp hr
  exfalso
  have hr' : S.par v = x := hr
  by_cases hvx : v = x
  · subst hvx
    have hp' : b ≠ 0 := by rwa [show (enterF v b S).pe v = b from upd_same _ _ _] at hp
    have := (h.some hp').2.1
    rw [hr'] at this
    exact this h.x0
  · rw [show (enterF x b S).come v = S.come v from upd_other _ _ hvx] at hv
    rw [show (enterF x b S).pe v = S.pe v from upd_other _ _ hvx] at hp
    have := (h.inv.pr v hv hp).2.1
    rw [hr'] at this
    exact this h.x0

theorem lp_skip {es : Ed} {x b : Nat} {S1 : St} {P : List Nat} {lo : Nat} {S : St} (ha : At es x b S1) (h : Lp es x b S1 P lo S) {e : Nat} (he : e ∈ adj es x) (hb : b ≠ 0 → En es (b - 1) x (S1.par x) ∧ S1.come (S1.par x) ≠ 0)
    (hs : e + 1 = b ∨ S.come x < S.come (oth es e x)) : Lp es x b S1 (P ++ [e]) lo S := by
  refine ⟨h.inv, h.grew, h.lox, ?_, h.kids, h.wit⟩
  intro e' he'
  simp at he'
  rcases he' with he' | rfl
  · exact h.seen e' he'
  · obtain ⟨n1, n2, n3, n4, n5⟩ := ha.now h.grew
    rcases hs with hs | hs
    · obtain ⟨h1, h2⟩ := hb (by omega)
      have : oth es e' x = S1.par x := oth_of_en (by rw [← hs] at h1; exact h1)
      rw [this]
      exact ⟨h.grew.vis h2, fun _ hne => absurd hs hne⟩
    · exact ⟨by omega, fun hlt => by omega⟩
theorem lp_back {es : Ed} {x b : Nat} {S1 : St} {P : List Nat} {lo : Nat} {S : St} (ha : At es x b S1) (hnl : NoLoop es) (h : Lp es x b S1 P lo S) {e : Nat} (he : e ∈ adj es x) {o : List Nat}
    (hs : ¬ (e + 1 = b ∨ S.come x < S.come (oth es e x))) (hc : 0 < S.come (oth es e x)) : Lp es x b S1 (P ++ [e]) (min lo (S.come (oth es e x))) { S with opn := o } := by
  have hen := en_of_adj he
  have hne := hen.ne hnl
  obtain ⟨n1, n2, n3, n4, n5⟩ := ha.now h.grew
  have hlt : S.come (oth es e x) < S.come x := by
    have : S.come (oth es e x) ≠ S.come x := fun e' => hne (h.inv.inj _ _ n2 e'.symm)
    have : ¬ S.come x < S.come (oth es e x) := fun h' => hs (.inr h')
    omega
  refine ⟨h.inv.congr rfl rfl rfl rfl rfl (fun _ _ => rfl), h.grew.congr rfl rfl rfl (fun _ _ => rfl) rfl rfl rfl rfl rfl (fun _ _ => rfl) rfl rfl, ?_, ?_, ?_, ?_⟩
  · have := h.lox
    show _ ≤ S.come x
    omega
  · intro e' he'
    simp at he'
    show S.come (oth es e' x) ≠ 0 ∧ (S.come (oth es e' x) < S.come x → _ → _ ≤ S.come (oth es e' x))
    rcases he' with he' | rfl
    · obtain ⟨h1, h2⟩ := h.seen e' he'
      refine ⟨h1, fun a1 a2 => ?_⟩
      have := h2 a1 a2
      omega
    · exact ⟨by omega, fun _ _ => by omega⟩
  · intro v h1 h2 h3
    obtain ⟨k1, k2⟩ := h.kids v h1 h2 h3
    refine ⟨k1, ?_⟩
    show _ ≤ S.low v
    omega
  · show min lo (S.come (oth es e x)) = S.come x ∨ ∃ e' d a, En es e' d a ∧ S.come x ≤ S.come d ∧ (d = x ∨ S.fin d ≠ 0) ∧ S.come a = min lo (S.come (oth es e x)) ∧ S.come a ≠ 0 ∧ S.come a < S.come x
    right
    by_cases hm : S.come (oth es e x) ≤ lo
    · exact ⟨e, x, oth es e x, hen, Nat.le_refl _, .inl rfl, by omega, by omega, hlt⟩
    · rcases h.wit with hw | ⟨e', d, a, w1, w2, w3, w4, w5, w6⟩
      · omega
      · exact ⟨e', d, a, w1, w2, w3, by omega, w5, w6⟩
/-- a vertex that wasn't come to yet: what the walk from it asks holds -/
theorem lp_pre {es : Ed} {x b : Nat} {S1 : St} {P : List Nat} {lo : Nat} {S : St} (ha : At es x b S1) (h : Lp es x b S1 P lo S) {e : Nat} (he : e ∈ adj es x) {o : List Nat} (hc : S.come (oth es e x) = 0) :
    Pre es (oth es e x) (e + 1) { S with opn := o, par := upd S.par (oth es e x) x } := by
  obtain ⟨n1, n2, n3, n4, n5⟩ := ha.now h.grew
  refine ⟨h.inv.congr rfl rfl rfl rfl rfl fun v hv => upd_other _ _ fun e' => hv (e' ▸ hc), hc, fun _ => ?_, fun h => by omega⟩
  have hr : ({ S with opn := o, par := upd S.par (oth es e x) x } : St).par (oth es e x) = x := upd_same _ _ _
  rw [hr]
  exact ⟨(en_of_adj he).symm, n2, n3, n5⟩
theorem lp_tree {es : Ed} {x b : Nat} {S1 : St} {P : List Nat} {lo : Nat} {S : St} (ha : At es x b S1) (h : Lp es x b S1 P lo S) {e : Nat} (he : e ∈ adj es x) {o : List Nat} (hc : S.come (oth es e x) = 0) {lr : Nat} {S' S'' : St}
    (hp : Post es (oth es e x) (e + 1) { S with opn := o, par := upd S.par (oth es e x) x } lr S') (ht : S''.time = S'.time) (hcc : S''.come = S'.come) (hpp : S''.pe = S'.pe) (hll : S''.low = S'.low) (hff : S''.fin = S'.fin) (hrr : S''.par = S'.par) :
    Lp es x b S1 (P ++ [e]) (min lo lr) S'' := by
  have hy : ∀ v, S.come v ≠ 0 → v ≠ oth es e x := fun v hv e' => hv (e' ▸ hc)
  have hg : Grew S S' := hp.grew.congr rfl rfl rfl (fun v hv => (upd_other _ _ (hy v hv)).symm) rfl rfl rfl rfl rfl (fun _ _ => rfl) rfl rfl
  have hg'' : Grew S1 S'' := (h.grew.trans hg).congr rfl rfl rfl (fun _ _ => rfl) rfl rfl ht hcc hpp (fun _ _ => by rw [hrr]) hll hff
  have hi'' : Inv es S'' := hp.inv.congr ht hcc hpp hll hff (fun _ _ => by rw [hrr])
  obtain ⟨n1, n2, n3, n4, n5⟩ := ha.now h.grew
  obtain ⟨m1, m2, m3, m4, m5⟩ := ha.now (h.grew.trans hg)
  have hcx : S'.come x = S.come x := (hg.keep x n2).1
  have hyc : S'.come (oth es e x) = S.time + 1 := hp.xc
  have hyr : S'.par (oth es e x) = x := hp.xr.trans (upd_same _ _ _)
  refine ⟨hi'', hg'', ?_, ?_, ?_, ?_⟩
  · rw [hcc, hcx]
    have := h.lox
    omega
  · intro e' he'
    simp at he'
    rw [hcc, hcx]
    rcases he' with he' | rfl
    · obtain ⟨h1, h2⟩ := h.seen e' he'
      rw [(hg.keep _ h1).1]
      refine ⟨h1, fun a1 a2 => ?_⟩
      have := h2 a1 a2
      omega
    · rw [hyc]
      refine ⟨by omega, fun hlt => ?_⟩
      have := h.inv.cle x
      omega
  · intro v hv hpv hrv
    rw [hcc] at hv
    rw [hpp] at hpv
    rw [hrr] at hrv
    rw [hff, hll]
    by_cases hv0 : S.come v = 0
    · obtain ⟨_, hvf⟩ := hg.new v hv0 hv
      refine ⟨hvf, ?_⟩
      by_cases hvy : v = oth es e x
      · subst hvy
        rw [hp.xl]
        omega
      · have hpr := (hp.inv.pr v hv hpv).1
        -- v is new, and its parent is x, which was come to ahead: only the one from which the walk began is so
        exfalso
        have hcl := hp.inv.cl v (oth es e x) hv hpv (by rw [hyc]; omega)
        have hlt : S'.come (oth es e x) < S'.come v := by
          have h1 := (hp.grew.new v hv0 hv).1
          have h2 : S'.come v ≠ S'.come (oth es e x) := fun e' => hvy (hp.inv.inj _ _ hv e')
          simp only at h1
          omega
        rw [hrv, hcx] at hcl
        have hxy : S.come x ≤ S.time := h.inv.cle x
        rcases hcl hlt with h1 | ⟨h1, h2⟩
        · omega
        · have h3 := hp.inv.cle v
          have h4 := hp.xt
          omega
    · obtain ⟨k1, k2, k3, k4, k5⟩ := hg.keep v hv0
      rw [k2, k3]
      obtain ⟨a1, a2⟩ := h.kids v hv0 (by rw [← k4]; exact hpv) (by rw [← k5]; exact hrv)
      exact ⟨a1, by omega⟩
  · rw [hcc, hff]
    by_cases hm : lo ≤ lr
    · rw [Nat.min_eq_left hm, hcx]
      rcases h.wit with hw | ⟨e', d, a, w1, w2, w3, w4, w5, w6⟩
      · exact .inl hw
      · right
        have hd : S.come d ≠ 0 := by omega
        obtain ⟨k1, k2, _⟩ := hg.keep d hd
        refine ⟨e', d, a, w1, by rw [k1]; exact w2, by rw [k2]; exact w3, ?_⟩
        rw [(hg.keep a w5).1]
        exact ⟨w4, w5, w6⟩
    · rw [Nat.min_eq_right (by omega), hcx]
      right
      have hlx := h.lox
      have hxt := h.inv.cle x
      have hxl := hp.xl
      rcases hp.inv.wt _ hp.xf with hw | ⟨e', d, a, w1, w2, w3, w4, w5, w6, w7⟩
      · omega
      · exact ⟨e', d, a, w1, by omega, .inr w4, by omega, w6, by omega⟩

/-- x is left -/
theorem leave_post {es : Ed} {x b : Nat} {S0 : St} {lo : Nat} {S : St} (hp : Pre es x b S0) (h : Lp es x b (enterF x b S0) (adj es x) lo S) : Post es x b S0 lo (leaveF x (lo, S)).2 := by
  have ha := enter_at hp
  have hi := h.inv
  obtain ⟨n1, n2, n3, n4, n5⟩ := ha.now h.grew
  have hx1 : S.come x = S0.time + 1 := n1.trans (upd_same _ _ _)
  have hpar : S.par x = S0.par x := (h.grew.keep x ha.x1).2.2.2.2
  have hf : ∀ v, v ≠ x → (leaveF x (lo, S)).2.fin v = S.fin v := fun v hv => upd_other _ _ hv
  have hfx : (leaveF x (lo, S)).2.fin x = S.time := upd_same _ _ _
  have hl : ∀ v, v ≠ x → (leaveF x (lo, S)).2.low v = S.low v := fun v hv => upd_other _ _ hv
  have hlx : (leaveF x (lo, S)).2.low x = lo := upd_same _ _ _
  have hxt := hi.cle x
  have hseen : ∀ e v, En es e x v → S.come v ≠ 0 ∧ (S.come v < S.come x → e + 1 ≠ b → lo ≤ S.come v) := fun e v he => by
    have := h.seen e (adj_of_en he)
    rwa [oth_of_en he] at this
  refine ⟨⟨hi.cle, hi.inj, ?_, ?_, ?_, ?_, ?_, hi.pr, ?_, ?_, ?_, ?_⟩, ?_, hx1, by rw [hfx]; omega, hfx, hlx, n4, hpar⟩
  · intro v hv
    by_cases hvx : v = x
    · subst hvx
      rw [hfx]
      exact ⟨n2, hxt, Nat.le_refl _⟩
    · rw [hf v hvx] at hv ⊢
      exact hi.fv v hv
  · intro e u v he hu
    by_cases hux : u = x
    · subst hux
      rw [hfx]
      exact ⟨(hseen e v he).1, hi.cle v⟩
    · rw [hf u hux] at hu ⊢
      exact hi.nb e u v he hu
  · intro u v hu hv
    by_cases hux : u = x
    · subst hux
      rw [hfx]
      intro _ _
      by_cases hvx : v = u
      · subst hvx; rw [hfx]; exact Nat.le_refl _
      · rw [hf v hvx] at hv ⊢
        exact (hi.fv v hv).2.2
    · rw [hf u hux] at hu ⊢
      by_cases hvx : v = x
      · subst hvx
        intro h1 h2
        have := hi.gr u v hu n2 n3 h1
        exact absurd h2 (by show ¬ S.come v ≤ S.fin u; omega)
      · rw [hf v hvx] at hv ⊢
        exact hi.lam u v hu hv
  · intro u z hu hz hz0
    have hzx : z ≠ x := fun e => by subst e; rw [hfx] at hz0; omega
    rw [hf z hzx] at hz0
    by_cases hux : u = x
    · subst hux
      intro h1
      have h1' : S.come u < S.come z := h1
      have := n5 z hz hz0
      omega
    · rw [hf u hux] at hu ⊢
      exact hi.gr u z hu hz hz0
  · intro v z hv hp0 hz hlt
    have := hi.rt v z hv hp0 hz hlt
    by_cases hzx : z = x
    · subst hzx; exact absurd n3 this.1
    · rw [hf z hzx]; exact this
  · intro v z hv hp0 hz hlt
    rcases hi.cl v z hv hp0 hz hlt with h1 | h1
    · exact .inl h1
    · right
      by_cases hzx : z = x
      · subst hzx; exact absurd n3 h1.1
      · rw [hf z hzx]; exact h1
  · intro v e u hv he hlt hne
    by_cases hvx : v = x
    · subst hvx
      rw [hlx]
      have hne' : e + 1 ≠ S.pe v := hne
      rw [n4] at hne'
      exact (hseen e u he.symm).2 hlt hne'
    · rw [hf v hvx] at hv
      rw [hl v hvx]
      exact hi.bk v e u hv he hlt hne
  · intro v hv hp0 hpf
    by_cases hpx : S.par v = x
    · have hv1 : S.come v ≠ 0 := by
        by_cases hvx : v = x
        · subst hvx; exact n2
        · rw [hf v hvx] at hv; exact (hi.fv v hv).1
      obtain ⟨k1, k2⟩ := h.kids v hv1 hp0 hpx
      show (leaveF x (lo, S)).2.low (S.par v) ≤ _
      rw [hpx, hlx]
      have hvx : v ≠ x := fun e => by subst e; exact k1 n3
      rw [hl v hvx]
      exact k2
    · have hpf' : S.fin (S.par v) ≠ 0 := by
        have : (leaveF x (lo, S)).2.fin (S.par v) ≠ 0 := hpf
        rwa [hf _ hpx] at this
      show (leaveF x (lo, S)).2.low (S.par v) ≤ _
      rw [hl _ hpx]
      by_cases hvx : v = x
      · subst hvx
        -- its parent is open still
        exfalso
        have hp0' : S.pe v ≠ 0 := hp0
        rw [n4] at hp0'
        obtain ⟨_, s2, s3, _⟩ := hp.some hp0'
        have hg := h.grew.keep (S0.par v) (by
          rw [show (enterF v b S0).come (S0.par v) = S0.come (S0.par v) from upd_other _ _ (fun e => s2 (by rw [e]; exact hp.x0))]
          exact s2)
        rw [hpar, hg.2.1] at hpf'
        exact hpf' s3
      · rw [hf v hvx] at hv
        rw [hl v hvx]
        exact hi.lw v hv hp0 hpf'
  · intro v hv
    by_cases hvx : v = x
    · subst hvx
      rw [hlx, hfx]
      rcases h.wit with hw | ⟨e', d, a, w1, w2, w3, w4, w5, w6⟩
      · exact .inl hw
      · right
        refine ⟨e', d, a, w1, w2, hi.cle d, ?_, w4, w5, w6⟩
        by_cases hdx : d = v
        · subst hdx; rw [hfx]; omega
        · rw [hf d hdx]
          exact w3.resolve_left hdx
    · rw [hf v hvx] at hv ⊢
      rw [hl v hvx]
      rcases hi.wt v hv with hw | ⟨e', d, a, w1, w2, w3, w4, w5⟩
      · exact .inl hw
      · right
        refine ⟨e', d, a, w1, w2, w3, ?_, w5⟩
        by_cases hdx : d = x
        · subst hdx; exact absurd n3 w4
        · rw [hf d hdx]; exact w4
  · refine ⟨fun v hv => ?_, ?_, fun v h0 h1 => ?_⟩
    · have hvx : v ≠ x := fun e => hv (e ▸ hp.x0)
      obtain ⟨e1, e2, e3, e4, e5⟩ := enter_grew hp v hv
      obtain ⟨k1, k2, k3, k4, k5⟩ := h.grew.keep v (by rw [e1]; exact hv)
      rw [hf v hvx, hl v hvx]
      exact ⟨k1.trans e1, k2.trans e2, k3.trans e3, k4.trans e4, k5.trans e5⟩
    · have := h.grew.time
      have h2 : (enterF x b S0).time = S0.time + 1 := rfl
      show S0.time ≤ S.time
      omega
    · by_cases hvx : v = x
      · subst hvx
        rw [hfx]
        show S0.time < S.come v ∧ _
        omega
      · have h0' : (enterF x b S0).come v = 0 := (upd_other _ _ hvx).trans h0
        obtain ⟨k1, k2⟩ := h.grew.new v h0' h1
        rw [hf v hvx]
        have h2 : (enterF x b S0).time = S0.time + 1 := rfl
        exact ⟨by show S0.time < S.come v; omega, k2⟩

/-- how many vertices aren't come to yet -/
def unv (V : Nat) (S : St) : Nat := ((List.range V).filter fun v => S.come v == 0).length
theorem unv_le {V : Nat} {S S' : St} (h : ∀ v, S.come v ≠ 0 → S'.come v ≠ 0) : unv V S' ≤ unv V S := by
  unfold unv
  rw [← List.countP_eq_length_filter, ← List.countP_eq_length_filter]
  refine List.countP_mono_left fun v _ hv => ?_
  simp at hv ⊢
  cases hs : S.come v with
  | zero => rfl
  | succ k => exact absurd hv (h v (by omega))
theorem unv_lt {V : Nat} {S S' : St} (h : ∀ v, S.come v ≠ 0 → S'.come v ≠ 0) {x : Nat} (hx : x < V) (h0 : S.come x = 0) (h1 : S'.come x ≠ 0) : unv V S' < unv V S := by
  unfold unv
  induction V with
  | zero => omega
  | succ V ih =>
    rw [List.range_succ, List.filter_append, List.filter_append, List.length_append, List.length_append]
    have hle := unv_le (V := V) h
    unfold unv at hle
    by_cases hxV : x = V
    · subst hxV
      have e1 : ([x].filter fun v => S'.come v == 0).length = 0 := by simp [h1]
      have e2 : ([x].filter fun v => S.come v == 0).length = 1 := by simp [h0]
      omega
    · have := ih (by omega)
      have e1 : ([V].filter fun v => S'.come v == 0).length ≤ ([V].filter fun v => S.come v == 0).length := by
        by_cases hV : S.come V = 0
        · simp [hV]
          exact List.length_filter_le _ [V]
        · simp [hV, h V hV]
      omega

theorem stepF_skip {rc : Nat → Nat → St → Nat × St} {es : Ed} {x b : Nat} {p : Nat × St} {e : Nat} (h : e + 1 = b ∨ p.2.come x < p.2.come (oth es e x)) : stepF rc es x b p e = p := if_pos h
theorem stepF_back {rc : Nat → Nat → St → Nat × St} {es : Ed} {x b : Nat} {p : Nat × St} {e : Nat} (h : ¬ (e + 1 = b ∨ p.2.come x < p.2.come (oth es e x))) (h' : 0 < p.2.come (oth es e x)) :
    stepF rc es x b p e = (min p.1 (p.2.come (oth es e x)), { p.2 with opn := p.2.opn ++ [e] }) := by
  unfold stepF
  rw [if_neg h, if_pos h']
theorem stepF_tree {rc : Nat → Nat → St → Nat × St} {es : Ed} {x b : Nat} {p : Nat × St} {e : Nat} (h : ¬ (e + 1 = b ∨ p.2.come x < p.2.come (oth es e x))) (h' : ¬ 0 < p.2.come (oth es e x)) {r : Nat × St}
    (hr : rc (oth es e x) (e + 1) { p.2 with opn := p.2.opn ++ [e], par := upd p.2.par (oth es e x) x } = r) :
    stepF rc es x b p e = (min p.1 r.1, if r.2.come x ≤ r.1 then { r.2 with bks := r.2.bks ++ [r.2.opn.drop p.2.opn.length], opn := r.2.opn.take p.2.opn.length } else r.2) := by
  unfold stepF
  rw [if_neg h, if_neg h']
  subst hr
  rfl

/-- the state behind so many edges -/
def loopF (es : Ed) (f x b : Nat) (S : St) (k : Nat) : Nat × St := ((adj es x).take k).foldl (stepF (fromF es f) es x b) (S.time + 1, enterF x b S)
theorem loopF_zero (es : Ed) (f x b : Nat) (S : St) : loopF es f x b S 0 = (S.time + 1, enterF x b S) := rfl
theorem loopF_succ {es : Ed} {f x b : Nat} {S : St} {k : Nat} (hk : k < (adj es x).length) : loopF es f x b S (k + 1) = stepF (fromF es f) es x b (loopF es f x b S k) ((adj es x).getD k 0) := by
  unfold loopF
  rw [List.take_add_one, List.foldl_append]
  simp [List.getD, hk]
theorem fromF_succ (es : Ed) (f x b : Nat) (S : St) : fromF es (f + 1) x b S = leaveF x (loopF es f x b S (adj es x).length) := by
  unfold loopF
  rw [List.take_length]
  rfl

structure Gr (V : Nat) (es : Ed) : Prop where
  nl : NoLoop es
  ends : ∀ i, i < es.length → (at' es i).1 < V ∧ (at' es i).2 < V
theorem Gr.lt {V : Nat} {es : Ed} (h : Gr V es) {e u v : Nat} (he : En es e u v) : u < V ∧ v < V := by
  have := h.ends e he.1
  rcases he.2 with h1 | h1 <;> rw [h1] at this <;> simp at this <;> omega

/-- the loop's end, by what the walks inside it leave -/
theorem loop_lp {V : Nat} {es : Ed} (hg : Gr V es) {f : Nat} (ih : ∀ x b S, x < V → Pre es x b S → unv V S ≤ f → Post es x b S (fromF es f x b S).1 (fromF es f x b S).2) {x b : Nat} {S : St} (hx : x < V) (hp : Pre es x b S) (hu : unv V S ≤ f + 1) :
    ∀ k, k ≤ (adj es x).length → Lp es x b (enterF x b S) ((adj es x).take k) (loopF es f x b S k).1 (loopF es f x b S k).2 := by
  have ha := enter_at hp
  intro k
  induction k with
  | zero =>
    intro _
    rw [loopF_zero, List.take_zero]
    exact enter_lp hp
  | succ k ihk =>
    intro hk
    have h := ihk (by omega)
    have hmem : (adj es x).getD k 0 ∈ adj es x := by simp [List.getD, show k < (adj es x).length by omega]
    have htk : (adj es x).take (k + 1) = (adj es x).take k ++ [(adj es x).getD k 0] := by
      rw [List.take_add_one]
      simp [List.getD, show k < (adj es x).length by omega]
    rw [loopF_succ (by omega), htk]
    generalize (adj es x).getD k 0 = e at *
    generalize loopF es f x b S k = p at *
    by_cases h1 : e + 1 = b ∨ p.2.come x < p.2.come (oth es e x)
    · rw [stepF_skip h1]
      refine lp_skip ha h hmem (fun hb => ?_) h1
      obtain ⟨s1, s2, _⟩ := hp.some hb
      exact ⟨s1, by
        show (enterF x b S).come (S.par x) ≠ 0
        rw [show (enterF x b S).come (S.par x) = S.come (S.par x) from upd_other _ _ (fun e => s2 (by rw [e]; exact hp.x0))]
        exact s2⟩
    · by_cases h2 : 0 < p.2.come (oth es e x)
      · rw [stepF_back h1 h2]
        exact lp_back ha hg.nl h hmem h1 h2
      · rw [stepF_tree h1 h2 rfl]
        have hc : p.2.come (oth es e x) = 0 := by omega
        have hpre := lp_pre (o := p.2.opn ++ [e]) ha h hmem hc
        have hlt := (hg.lt (en_of_adj hmem)).2
        have hun : unv V { p.2 with opn := p.2.opn ++ [e], par := upd p.2.par (oth es e x) x } ≤ f := by
          have h3 : unv V (enterF x b S) < unv V S := unv_lt (x := x) (fun v hv => by rw [(enter_grew hp v hv).1]; exact hv) hx hp.x0 ha.x1
          have h4 : unv V { p.2 with opn := p.2.opn ++ [e], par := upd p.2.par (oth es e x) x } ≤ unv V (enterF x b S) := unv_le fun v hv => h.grew.vis hv
          omega
        have hpost := ih _ _ _ hlt hpre hun
        generalize fromF es f (oth es e x) (e + 1) { p.2 with opn := p.2.opn ++ [e], par := upd p.2.par (oth es e x) x } = r at *
        refine lp_tree (S' := r.2) ha h hmem hc hpost ?_ ?_ ?_ ?_ ?_ ?_ <;> (split <;> rfl)
theorem from_post {V : Nat} {es : Ed} (hg : Gr V es) : ∀ f x b S, x < V → Pre es x b S → unv V S ≤ f → Post es x b S (fromF es f x b S).1 (fromF es f x b S).2 := by
  intro f
  induction f with
  | zero =>
    intro x b S hx hp hu
    exfalso
    have : x ∈ (List.range V).filter fun v => S.come v == 0 := by simp [hx, hp.x0]
    have := List.length_pos_of_mem this
    unfold unv at hu
    omega
  | succ f ih =>
    intro x b S hx hp hu
    rw [fromF_succ]
    have h := loop_lp hg ih hx hp hu _ (Nat.le_refl _)
    rw [List.take_length] at h
    exact leave_post hp h
end Go.Proofs.Ytbecmaandhadhaa.Df


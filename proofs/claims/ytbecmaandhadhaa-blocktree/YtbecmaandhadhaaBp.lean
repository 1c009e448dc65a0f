/-
  Plain mathematics: a block still hangs together without any one vertex. No conditions beyond each theorem's own.
-/
import Derived.Test.YtbecmaandhadhaaBs
namespace Go.Proofs.Ytbecmaandhadhaa.Df
open Go.Proofs.Ytbecmaandhadhaa.Pl
set_option linter.unusedVariables false

/-- a and b hang together within a set of vertices -/
def Cw (es : Ed) (U : Nat → Prop) (a b : Nat) : Prop := ∀ R : Nat → Prop, R a → (∀ e u v, En es e u v → U u → U v → R u → R v) → R b
theorem Cw.refl (es : Ed) (U : Nat → Prop) (a : Nat) : Cw es U a a := fun R h _ => h
theorem Cw.trans {es : Ed} {U : Nat → Prop} {a b c : Nat} (h : Cw es U a b) (h' : Cw es U b c) : Cw es U a c := fun R h1 h2 => h' R (h R h1 h2) h2
theorem Cw.edge {es : Ed} {U : Nat → Prop} {a b e : Nat} (h : En es e a b) (ha : U a) (hb : U b) : Cw es U a b := fun R h1 h2 => h2 e a b h ha hb h1
theorem Cw.symm {es : Ed} {U : Nat → Prop} {a b : Nat} (h : Cw es U a b) : Cw es U b a :=
  h (fun y => Cw es U y a) (Cw.refl _ _ _) fun e u v he hu hv hc => (Cw.edge he.symm hv hu).trans hc
theorem Cw.mono {es : Ed} {U U' : Nat → Prop} {a b : Nat} (h : Cw es U a b) (hU : ∀ u, U u → U' u) : Cw es U' a b := fun R h1 h2 => h R h1 fun e u v he hu hv => h2 e u v he (hU u hu) (hU v hv)
theorem Cw.cn {es : Ed} {U : Nat → Prop} {x a b : Nat} (h : Cw es U a b) (hU : ∀ u, U u → u ≠ x) : Cn es x a b := h.mono hU
/-- so many steps from b, or fewer, without x -/
def Lv (es : Ed) (x b : Nat) : Nat → Nat → Prop
  | 0, u => u = b
  | k + 1, u => Lv es x b k u ∨ ∃ e p, En es e u p ∧ u ≠ x ∧ p ≠ x ∧ Lv es x b k p
theorem Lv.up {es : Ed} {x b k u : Nat} (h : Lv es x b k u) : Lv es x b (k + 1) u := .inl h
theorem Lv.le {es : Ed} {x b k u : Nat} (h : Lv es x b k u) : ∀ j, Lv es x b (k + j) u
  | 0 => h
  | j + 1 => (Lv.le h j).up
theorem Lv.ne {es : Ed} {x b : Nat} (hb : b ≠ x) : ∀ {k u}, Lv es x b k u → u ≠ x
  | 0, u, h => by rw [show u = b from h]; exact hb
  | k + 1, u, .inl h => Lv.ne hb h
  | k + 1, u, .inr ⟨_, _, _, h, _⟩ => h
theorem Lv.cw {es : Ed} {x b : Nat} : ∀ {k u}, Lv es x b k u → Cw es (Lv es x b k) u b
  | 0, u, h => by rw [show u = b from h]; exact Cw.refl _ _ _
  | k + 1, u, .inl h => (Lv.cw h).mono fun _ h => h.up
  | k + 1, u, .inr ⟨e, p, he, h1, h2, hp⟩ => (Cw.edge he (.inr ⟨e, p, he, h1, h2, hp⟩) hp.up).trans ((Lv.cw hp).mono fun _ h => h.up)
theorem lv_ex {es : Ed} {x a b : Nat} (h : Cn es x a b) : ∃ k, Lv es x b k a :=
  h.symm (fun y => ∃ k, Lv es x b k y) ⟨0, rfl⟩ fun e u v he hu hv ⟨k, hk⟩ => ⟨k + 1, .inr ⟨e, u, he.symm, hv, hu, hk⟩⟩
theorem lv_least {es : Ed} {x b a : Nat} : ∀ k, Lv es x b k a → ∃ j, Lv es x b j a ∧ ∀ i, i < j → ¬ Lv es x b i a := by
  intro k
  induction k using Nat.strongRecOn with
  | ind k ih =>
    intro h
    by_cases hx : ∃ i, i < k ∧ Lv es x b i a
    · obtain ⟨i, hi, hl⟩ := hx
      exact ih i hi hl
    · exact ⟨k, h, fun i hi hl => hx ⟨i, hi, hl⟩⟩
/-- a and b hang together without x, by some of the edges -/
def Cc (es : Ed) (x : Nat) (P : Nat → Prop) (a b : Nat) : Prop := ∀ R : Nat → Prop, R a → (∀ e u v, P e → En es e u v → u ≠ x → v ≠ x → R u → R v) → R b
theorem Cc.refl (es : Ed) (x : Nat) (P : Nat → Prop) (a : Nat) : Cc es x P a a := fun R h _ => h
theorem Cc.trans {es : Ed} {x : Nat} {P : Nat → Prop} {a b c : Nat} (h : Cc es x P a b) (h' : Cc es x P b c) : Cc es x P a c := fun R h1 h2 => h' R (h R h1 h2) h2
theorem Cc.edge {es : Ed} {x : Nat} {P : Nat → Prop} {a b e : Nat} (hp : P e) (h : En es e a b) (ha : a ≠ x) (hb : b ≠ x) : Cc es x P a b := fun R h1 h2 => h2 e a b hp h ha hb h1
theorem Cc.symm {es : Ed} {x : Nat} {P : Nat → Prop} {a b : Nat} (h : Cc es x P a b) : Cc es x P b a :=
  h (fun y => Cc es x P y a) (Cc.refl _ _ _ _) fun e u v hp he hu hv hc => (Cc.edge hp he.symm hv hu).trans hc
theorem Cc.mono {es : Ed} {x : Nat} {P P' : Nat → Prop} {a b : Nat} (h : Cc es x P a b) (hP : ∀ e, P e → P' e) : Cc es x P' a b := fun R h1 h2 => h R h1 fun e u v hp => h2 e u v (hP e hp)

theorem round_step {es : Ed} {x b f : Nat} (hf : En es f x b) (hb : b ≠ x) : ∀ k a y e, Lv es x b k a → (∀ j, j < k → ¬ Lv es x b j a) → En es e y a → ¬ Lv es x b k y → Cw es (fun u => ¬ Lv es x b k u) y x → Bk es e f ∧ Cc es x (Bk es e) a b
  | 0, a, y, e, h, _, he, hy, hc => by
    have hab : a = b := h
    subst hab
    exact ⟨Eqc.of ⟨a, y, x, he.symm, hf.symm, hc.cn fun u hu => hu⟩, Cc.refl _ _ _ _⟩
  | k + 1, a, y, e, h, hl, he, hy, hc => by
    have hna := hl k (Nat.lt_succ_self k)
    rcases h with h | ⟨g, p, hg, hax, hpx, hp⟩
    · exact absurd h hna
    have hmin : ∀ j, j < k → ¬ Lv es x b j p := fun j hj hjp => hl (j + 1) (by omega) (.inr ⟨g, p, hg, hax, hpx, hjp⟩)
    have hA : Lv es x b (k + 1) a := .inr ⟨g, p, hg, hax, hpx, hp⟩
    have hba : b ≠ a := fun e => hna (by rw [← e]; exact (show Lv es x b (0 + k) b from Lv.le (show Lv es x b 0 b from rfl) k) |> fun h => by rwa [Nat.zero_add] at h)
    have c1 : Cn es a y x := hc.cn fun u hu e => hu (by rw [e]; exact hA)
    have c2 : Cn es a x b := Cn.edge hf (fun e => hax e.symm) hba
    have c3 : Cn es a b p := (hp.cw.symm).cn fun u hu e => hna (by rw [← e]; exact hu)
    have hse : Bk es e g := Eqc.of ⟨a, y, p, he.symm, hg, c1.trans (c2.trans c3)⟩
    have hyk : ¬ Lv es x b k y := fun h => hy h.up
    obtain ⟨i1, i2⟩ := round_step hf hb k p a g hp hmin hg hna ((Cw.edge he.symm hna hyk).trans (hc.mono fun u hu h => hu h.up))
    exact ⟨hse.trans i1, (Cc.edge hse hg hax hpx).trans (i2.mono fun e' he' => hse.trans he')⟩
theorem se_conn {es : Ed} (hn : NoLoop es) {x a b i j : Nat} (hi : En es i x a) (hj : En es j x b) (hc : Cn es x a b) : Cc es x (Bk es i) a b := by
  have hb : b ≠ x := fun e => (hj.ne hn) e.symm
  obtain ⟨k, hk⟩ := lv_ex hc
  obtain ⟨k, h1, h2⟩ := lv_least k hk
  have hx : ∀ k, ¬ Lv es x b k x := fun k h => h.ne hb rfl
  exact (round_step hj hb k a x i h1 h2 hi (hx k) (Cw.refl _ _ _)).2
/-- an end of an edge -/
def Ew (es : Ed) (i u : Nat) : Prop := ∃ v, En es i u v
theorem Ew.other {es : Ed} (hn : NoLoop es) {i u : Nat} (h : Ew es i u) (z : Nat) : ∃ v, Ew es i v ∧ v ≠ z := by
  obtain ⟨v, hv⟩ := h
  by_cases e : u = z
  · exact ⟨v, ⟨u, hv.symm⟩, fun e' => hv.ne hn (by rw [e, e'])⟩
  · exact ⟨u, ⟨v, hv⟩, e⟩
theorem ew_own {es : Ed} {i z u v : Nat} (hu : Ew es i u) (hv : Ew es i v) (h1 : u ≠ z) (h2 : v ≠ z) : Cc es z (Bk es i) u v := by
  obtain ⟨u', hu⟩ := hu
  obtain ⟨v', hv⟩ := hv
  rcases hu.ends hv with ⟨e1, e2⟩ | ⟨e1, e2⟩
  · rw [e1]; exact Cc.refl _ _ _ _
  · rw [← e1] at hu
    exact Cc.edge (Eqc.refl _ _) hu h1 h2
/-- the ends of the edges of a block hang together by its edges, without any one vertex -/
theorem blk_conn {es : Ed} (hn : NoLoop es) {i j : Nat} (h : Bk es i j) {z u v : Nat} (hu : Ew es i u) (hv : Ew es j v) (h1 : u ≠ z) (h2 : v ≠ z) : Cc es z (Bk es i) u v := by
  have key := h (fun i j => Bk es i j ∧ ((∃ u, Ew es i u) ↔ (∃ u, Ew es j u)) ∧ ∀ z u v, Ew es i u → Ew es j v → u ≠ z → v ≠ z → Cc es z (Bk es i) u v)
    (fun i => ⟨Eqc.refl _ _, Iff.rfl, fun z u v hu hv h1 h2 => ew_own hu hv h1 h2⟩)
    (fun i j ⟨a1, a2, a3⟩ => ⟨a1.symm, a2.symm, fun z u v hu hv h1 h2 => ((a3 z v u hv hu h2 h1).symm).mono fun e he => a1.symm.trans he⟩)
    (fun i j k ⟨a1, a2, a3⟩ ⟨b1, b2, b3⟩ => ⟨a1.trans b1, a2.trans b2, fun z u v hu hv h1 h2 => by
      obtain ⟨y, hy⟩ := b2.2 ⟨v, hv⟩
      obtain ⟨t, ht, htz⟩ := hy.other hn z
      exact (a3 z u t hu ht h1 htz).trans ((b3 z t v ht hv htz h2).mono fun e he => a1.trans he)⟩)
    (fun i j ⟨x, a, b, hi, hj, hc⟩ => ⟨Eqc.of ⟨x, a, b, hi, hj, hc⟩, ⟨fun _ => ⟨x, b, hj⟩, fun _ => ⟨x, a, hi⟩⟩, fun z u v hu hv h1 h2 => by
      have hse : Bk es i j := Eqc.of ⟨x, a, b, hi, hj, hc⟩
      by_cases hz : z = x
      · subst hz
        have hua : u = a := by
          obtain ⟨u', hu⟩ := hu
          rcases hi.ends hu with ⟨e1, e2⟩ | ⟨e1, e2⟩
          · exact absurd e1 h1
          · exact e1
        have hvb : v = b := by
          obtain ⟨v', hv⟩ := hv
          rcases hj.ends hv with ⟨e1, e2⟩ | ⟨e1, e2⟩
          · exact absurd e1 h2
          · exact e1
        rw [hua, hvb]
        exact se_conn hn hi hj hc
      · exact (ew_own hu ⟨a, hi⟩ h1 (fun e => hz e.symm)).trans ((ew_own ⟨b, hj⟩ hv (fun e => hz e.symm) h2).mono fun e he => hse.trans he)⟩)
  exact key.2.2 z u v hu hv h1 h2
end Go.Proofs.Ytbecmaandhadhaa.Df


/-
  Plain mathematics: the open edges and the blocks of a walk depth first. No conditions beyond each theorem's own.
-/
import Derived.Test.YtbecmaandhadhaaDf
namespace Go.Proofs.Ytbecmaandhadhaa.Df
open Go.Proofs.Ytbecmaandhadhaa.Pl
set_option linter.unusedVariables false

/-- what a relation comes to when it goes both ways, and on -/
def Eqc (r : Nat → Nat → Prop) (i j : Nat) : Prop := ∀ R : Nat → Nat → Prop, (∀ i, R i i) → (∀ i j, R i j → R j i) → (∀ i j k, R i j → R j k → R i k) → (∀ i j, r i j → R i j) → R i j
theorem Eqc.refl (r : Nat → Nat → Prop) (i : Nat) : Eqc r i i := fun R h1 _ _ _ => h1 i
theorem Eqc.symm {r : Nat → Nat → Prop} {i j : Nat} (h : Eqc r i j) : Eqc r j i := fun R h1 h2 h3 h4 => h2 _ _ (h R h1 h2 h3 h4)
theorem Eqc.trans {r : Nat → Nat → Prop} {i j k : Nat} (h : Eqc r i j) (h' : Eqc r j k) : Eqc r i k := fun R h1 h2 h3 h4 => h3 _ _ _ (h R h1 h2 h3 h4) (h' R h1 h2 h3 h4)
theorem Eqc.of {r : Nat → Nat → Prop} {i j : Nat} (h : r i j) : Eqc r i j := fun R h1 h2 h3 h4 => h4 _ _ h
theorem Eqc.lift {r q : Nat → Nat → Prop} (h : ∀ i j, r i j → Eqc q i j) {i j : Nat} (hr : Eqc r i j) : Eqc q i j := hr (Eqc q) (Eqc.refl q) (fun _ _ => Eqc.symm) (fun _ _ _ => Eqc.trans) h
theorem Eqc.mono {r q : Nat → Nat → Prop} (h : ∀ i j, r i j → q i j) {i j : Nat} (hr : Eqc r i j) : Eqc q i j := hr.lift fun i j h' => .of (h i j h')

/-- two edges that stay together, told by the tree -/
def LS (es : Ed) (S : St) (i j : Nat) : Prop :=
  (∃ v, S.fin v ≠ 0 ∧ S.pe v ≠ 0 ∧ S.pe (S.par v) ≠ 0 ∧ S.low v < S.come (S.par v) ∧ i + 1 = S.pe v ∧ j + 1 = S.pe (S.par v)) ∨
  (∃ v u, S.come v ≠ 0 ∧ S.come u ≠ 0 ∧ S.come u < S.come v ∧ En es i u v ∧ i + 1 ≠ S.pe v ∧ j + 1 = S.pe v)
theorem LS.mono {es : Ed} {S S' : St} (hi : Inv es S) (h : ∀ v, S.come v ≠ 0 → S'.come v = S.come v ∧ (S.fin v ≠ 0 → S'.fin v ≠ 0 ∧ S'.low v = S.low v) ∧ S'.pe v = S.pe v ∧ S'.par v = S.par v) {i j : Nat} (hl : LS es S i j) : LS es S' i j := by
  rcases hl with ⟨v, h1, h2, h3, h4, h5, h6⟩ | ⟨v, u, h1, h2, h3, h4, h5, h6⟩
  · have hv := (hi.fv v h1).1
    obtain ⟨k1, k2, k3, k4⟩ := h v hv
    obtain ⟨f1, f2⟩ := k2 h1
    obtain ⟨p1, p2, p3⟩ := hi.pr v hv h2
    obtain ⟨m1, m2, m3, m4⟩ := h _ p2
    exact .inl ⟨v, f1, by rw [k3]; exact h2, by rw [k4, m3]; exact h3, by rw [k4, m1, f2]; exact h4, by rw [k3]; exact h5, by rw [k4, m3]; exact h6⟩
  · obtain ⟨k1, k2, k3, k4⟩ := h v h1
    obtain ⟨m1, _⟩ := h u h2
    exact .inr ⟨v, u, by rw [k1]; exact h1, by rw [m1]; exact h2, by rw [k1, m1]; exact h3, h4, by rw [k3]; exact h5, by rw [k3]; exact h6⟩
abbrev Lk (es : Ed) (S : St) : Nat → Nat → Prop := Eqc (LS es S)
theorem Lk.grew {es : Ed} {S S' : St} (hi : Inv es S) (h : Grew S S') {i j : Nat} (hl : Lk es S i j) : Lk es S' i j :=
  hl.mono fun i j h' => h'.mono hi fun v hv => by
    obtain ⟨k1, k2, k3, k4, k5⟩ := h.keep v hv
    exact ⟨k1, fun hf => ⟨by rw [k2]; exact hf, k3⟩, k4, k5⟩

/-- all edges that were met -/
def all (S : St) : List Nat := S.opn ++ S.bks.flatten
/-- both in one block, or both still open (b: the edge by which the walk came) -/
def Tg (b : Nat) (seg : List Nat) (nb : List (List Nat)) (i j : Nat) : Prop := ((i ∈ seg ∨ i + 1 = b) ∧ (j ∈ seg ∨ j + 1 = b)) ∨ ∃ B ∈ nb, i ∈ B ∧ j ∈ B
theorem Tg.mono {b : Nat} {seg seg' : List Nat} {nb nb' : List (List Nat)} {i j : Nat} (h : Tg b seg nb i j) (hs : ∀ e ∈ seg, e ∈ seg') (hb : ∀ B ∈ nb, B ∈ nb') : Tg b seg' nb' i j := by
  rcases h with ⟨h1, h2⟩ | ⟨B, h1, h2⟩
  · exact .inl ⟨h1.imp (hs i) id, h2.imp (hs j) id⟩
  · exact .inr ⟨B, hb B h1, h2⟩

structure SPre (es : Ed) (b : Nat) (S : St) : Prop where
  nd : (all S).Nodup
  ends : ∀ e ∈ all S, e + 1 = b ∨ ∀ u v, En es e u v → S.come u ≠ 0
  by' : b ≠ 0 → b - 1 ∈ all S
structure SPost (es : Ed) (x b : Nat) (S S' : St) (seg : List Nat) (nb : List (List Nat)) : Prop where
  opn : S'.opn = S.opn ++ seg
  bks : S'.bks = S.bks ++ nb
  nd : (all S').Nodup
  mem : ∀ e, e ∈ all S' ↔ e ∈ all S ∨ ∃ u v, En es e u v ∧ S.come u = 0 ∧ S'.come u ≠ 0
  lk : ∀ e ∈ seg, b ≠ 0 ∧ Lk es S' e (b - 1)
  bl : ∀ B ∈ nb, B ≠ [] ∧ ∀ i ∈ B, ∀ j ∈ B, Lk es S' i j
  tg1 : ∀ v, S.come v = 0 → S'.come v ≠ 0 → v ≠ x → S'.low v < S'.come (S'.par v) → Tg b seg nb (S'.pe v - 1) (S'.pe (S'.par v) - 1) ∧ S'.pe (S'.par v) ≠ 0
  tg2 : ∀ v e u, S.come v = 0 → S'.come v ≠ 0 → En es e u v → S'.come u < S'.come v → e + 1 ≠ S'.pe v → Tg b seg nb e (S'.pe v - 1) ∧ S'.pe v ≠ 0
structure SLp (es : Ed) (x b : Nat) (S1 : St) (P : List Nat) (S : St) (seg : List Nat) (nb : List (List Nat)) : Prop where
  opn : S.opn = S1.opn ++ seg
  bks : S.bks = S1.bks ++ nb
  nd : (all S).Nodup
  mem : ∀ e, e ∈ all S ↔ e ∈ all S1 ∨ (∃ u v, En es e u v ∧ S1.come u = 0 ∧ S.come u ≠ 0) ∨ e ∈ P
  lk : ∀ e ∈ seg, b ≠ 0 ∧ Lk es S e (b - 1)
  bl : ∀ B ∈ nb, B ≠ [] ∧ ∀ i ∈ B, ∀ j ∈ B, Lk es S i j
  tg1 : ∀ v, S1.come v = 0 → S.come v ≠ 0 → S.low v < S.come (S.par v) → Tg b seg nb (S.pe v - 1) (S.pe (S.par v) - 1) ∧ S.pe (S.par v) ≠ 0
  tg2 : ∀ v e u, S1.come v = 0 → S.come v ≠ 0 → En es e u v → S.come u < S.come v → e + 1 ≠ S.pe v → Tg b seg nb e (S.pe v - 1) ∧ S.pe v ≠ 0
  tg3 : ∀ e ∈ P, S.come (oth es e x) < S.come x → e + 1 ≠ b → Tg b seg nb e (b - 1) ∧ b ≠ 0

/-- what is met has ends that were come to -/
theorem slp_vis {es : Ed} {x b : Nat} {S0 : St} {P : List Nat} {lo : Nat} {S : St} {seg : List Nat} {nb : List (List Nat)} (hp : Pre es x b S0) (hs : SPre es b S0) (hP : ∀ e ∈ P, e ∈ adj es x) (h : Lp es x b (enterF x b S0) P lo S)
    (hl : SLp es x b (enterF x b S0) P S seg nb) : ∀ e ∈ all S, ∀ u v, En es e u v → S.come u ≠ 0 := by
  have ha := enter_at hp
  obtain ⟨n1, n2, n3, n4, n5⟩ := ha.now h.grew
  intro e he u v hen
  rcases (hl.mem e).1 he with h1 | ⟨u', v', h1, h2, h3⟩ | h1
  · have h1' : e ∈ all S0 := h1
    rcases hs.ends e h1' with h2 | h2
    · have hb : b ≠ 0 := by omega
      obtain ⟨s1, s2, _⟩ := hp.some hb
      have hpx : (enterF x b S0).come (S0.par x) ≠ 0 := by
        rw [(enter_grew hp _ s2).1]
        exact s2
      have he' : b - 1 = e := by omega
      rw [he'] at s1
      rcases hen.ends s1 with ⟨h3, h4⟩ | ⟨h3, h4⟩
      · rw [← h3]; exact n2
      · rw [← h4]; exact h.grew.vis hpx
    · have h3 := h2 u v hen
      refine h.grew.vis ?_
      rw [(enter_grew hp u h3).1]
      exact h3
  · have hf := (h.grew.new u' h2 h3).2
    rcases hen.ends h1 with ⟨h4, h5⟩ | ⟨h4, h5⟩
    · rw [← h4]; exact h3
    · rw [← h5]; exact (h.inv.nb e u' v' h1 hf).1
  · have h2 := en_of_adj (hP e h1)
    rcases hen.ends h2 with ⟨h4, h5⟩ | ⟨h4, h5⟩
    · rw [← h4]; exact n2
    · rw [← h5]; exact (h.seen e h1).1

theorem all_enter (x b : Nat) (S : St) : all (enterF x b S) = all S := rfl

theorem slp_start {es : Ed} {x b : Nat} {S0 : St} (hp : Pre es x b S0) (hs : SPre es b S0) : SLp es x b (enterF x b S0) [] (enterF x b S0) [] [] := by
  refine ⟨by simp, by simp, hs.nd, ?_, by simp, by simp, ?_, ?_, by simp⟩
  · intro e
    constructor
    · exact fun h => .inl h
    · rintro (h | ⟨u, v, _, h1, h2⟩ | h)
      · exact h
      · exact absurd h1 h2
      · simp at h
  · intro v h1 h2; exact absurd h1 h2
  · intro v e u h1 h2; exact absurd h1 h2

theorem slp_skip {es : Ed} {x b : Nat} {S0 : St} {P : List Nat} {lo : Nat} {S : St} {seg : List Nat} {nb : List (List Nat)} {e : Nat} (hp : Pre es x b S0) (hs : SPre es b S0) (he : e ∈ adj es x) (h : Lp es x b (enterF x b S0) P lo S)
    (hl : SLp es x b (enterF x b S0) P S seg nb) (hc : e + 1 = b ∨ S.come x < S.come (oth es e x)) : SLp es x b (enterF x b S0) (P ++ [e]) S seg nb := by
  have ha := enter_at hp
  obtain ⟨n1, n2, n3, n4, n5⟩ := ha.now h.grew
  refine ⟨hl.opn, hl.bks, hl.nd, ?_, hl.lk, hl.bl, hl.tg1, hl.tg2, ?_⟩
  · intro i
    rw [hl.mem i]
    constructor
    · rintro (h1 | h1 | h1)
      · exact .inl h1
      · exact .inr (.inl h1)
      · exact .inr (.inr (by simp [h1]))
    · rintro (h1 | h1 | h1)
      · exact .inl h1
      · exact .inr (.inl h1)
      · simp at h1
        rcases h1 with h1 | rfl
        · exact .inr (.inr h1)
        · rcases hc with hc | hc
          · left
            have := hs.by' (by omega)
            rw [show b - 1 = i by omega] at this
            exact this
          · right; left
            refine ⟨oth es i x, x, (en_of_adj he).symm, ?_, by omega⟩
            cases h0 : (enterF x b S0).come (oth es i x) with
            | zero => rfl
            | succ k =>
              have h2 := (h.grew.keep (oth es i x) (by omega)).1
              have h3 := (enter_inv hp).cle (oth es i x)
              have h4 := ha.xt
              omega
  · intro i hi h1 h2
    simp at hi
    rcases hi with hi | rfl
    · exact hl.tg3 i hi h1 h2
    · rcases hc with hc | hc
      · exact absurd hc h2
      · omega

/-- from a root no edge leads back -/
theorem no_root {es : Ed} {x : Nat} {S0 : St} (hp : Pre es x 0 S0) {S : St} (h : Grew (enterF x 0 S0) S) {e d a : Nat} (hen : En es e d a) (hd : S0.come d = 0) (ha : S.come a ≠ 0) (hlt : S.come a < S.come x) : False := by
  have hat := enter_at hp
  have h1 := (h.keep x hat.x1).1
  have h2 := hat.xt
  have h3 : (enterF x 0 S0).time = S0.time + 1 := rfl
  have hax : a ≠ x := fun e => by subst e; omega
  have ha0 : S0.come a ≠ 0 := by
    intro h0
    have h0' : (enterF x 0 S0).come a = 0 := (upd_other _ _ hax).trans h0
    have := (h.new a h0' ha).1
    omega
  have hf := hp.root rfl a ha0
  exact (hp.inv.nb e a d hen.symm hf).1 hd

theorem nodup_push {o f : List Nat} {e : Nat} (h : (o ++ f).Nodup) (he : e ∉ o ++ f) : (o ++ [e] ++ f).Nodup := by
  have hp : (o ++ [e] ++ f).Perm (e :: (o ++ f)) := by
    rw [List.append_assoc]
    exact List.perm_middle
  exact hp.nodup_iff.2 (List.nodup_cons.2 ⟨he, h⟩)
theorem mem_push {o f : List Nat} {e i : Nat} : i ∈ o ++ [e] ++ f ↔ i = e ∨ i ∈ o ++ f := by
  simp only [List.mem_append, List.mem_singleton]
  constructor
  · rintro ((h | h) | h)
    · exact .inr (.inl h)
    · exact .inl h
    · exact .inr (.inr h)
  · rintro (h | h | h)
    · exact .inl (.inr h)
    · exact .inl (.inl h)
    · exact .inr h

theorem slp_back {es : Ed} {x b : Nat} {S0 : St} {P : List Nat} {lo : Nat} {S : St} {seg : List Nat} {nb : List (List Nat)} {e : Nat} (hp : Pre es x b S0) (hs : SPre es b S0) (hnl : NoLoop es) (he : e ∈ adj es x) (heP : e ∉ P) (h : Lp es x b (enterF x b S0) P lo S)
    (hl : SLp es x b (enterF x b S0) P S seg nb) (hc : ¬ (e + 1 = b ∨ S.come x < S.come (oth es e x))) (hy : 0 < S.come (oth es e x)) : SLp es x b (enterF x b S0) (P ++ [e]) { S with opn := S.opn ++ [e] } (seg ++ [e]) nb := by
  have ha := enter_at hp
  obtain ⟨n1, n2, n3, n4, n5⟩ := ha.now h.grew
  have hen := en_of_adj he
  have hne := hen.ne hnl
  have hlt : S.come (oth es e x) < S.come x := by
    have : S.come (oth es e x) ≠ S.come x := fun e' => hne (h.inv.inj _ _ n2 e'.symm)
    have : ¬ S.come x < S.come (oth es e x) := fun h' => hc (.inr h')
    omega
  have hb : b ≠ 0 := by
    intro hb
    subst hb
    exact no_root hp h.grew hen hp.x0 (by omega) hlt
  have hy1 : (enterF x b S0).come (oth es e x) ≠ 0 := by
    intro h0
    have := (h.grew.new _ h0 (by omega)).1
    have := ha.xt
    omega
  have hnew : e ∉ all S := by
    intro hm
    rcases (hl.mem e).1 hm with h1 | ⟨u, v, h1, h2, h3⟩ | h1
    · have h1' : e ∈ all S0 := h1
      rcases hs.ends e h1' with h2 | h2
      · exact hc (.inl h2)
      · exact h2 x _ hen hp.x0
    · rcases hen.ends h1 with ⟨h4, h5⟩ | ⟨h4, h5⟩
      · subst h4; exact ha.x1 h2
      · subst h4; exact hy1 h2
    · exact heP h1
  have hLS : Lk es { S with opn := S.opn ++ [e] } e (b - 1) := Eqc.of (.inr ⟨x, oth es e x, n2, by show S.come _ ≠ 0; omega, hlt, hen.symm, by show e + 1 ≠ S.pe x; rw [n4]; exact fun h' => hc (.inl h'), by show b - 1 + 1 = S.pe x; rw [n4]; omega⟩)
  have hmono : ∀ i j, Lk es S i j → Lk es { S with opn := S.opn ++ [e] } i j := fun i j h' => h'
  refine ⟨by show S.opn ++ [e] = _; rw [hl.opn, List.append_assoc], hl.bks, nodup_push hl.nd hnew, ?_, ?_, ?_, ?_, ?_, ?_⟩
  · intro i
    show i ∈ S.opn ++ [e] ++ S.bks.flatten ↔ _
    rw [mem_push]
    have := hl.mem i
    unfold all at this
    rw [this]
    simp only [List.mem_append, List.mem_singleton]
    constructor
    · rintro (h1 | h1 | h1 | h1)
      · exact .inr (.inr (.inr h1))
      · exact .inl (List.mem_append.2 h1)
      · exact .inr (.inl h1)
      · exact .inr (.inr (.inl h1))
    · rintro (h1 | h1 | h1 | h1)
      · exact .inr (.inl (List.mem_append.1 h1))
      · exact .inr (.inr (.inl h1))
      · exact .inr (.inr (.inr h1))
      · exact .inl h1
  · intro i hi
    simp at hi
    rcases hi with hi | rfl
    · exact ⟨hb, hmono _ _ (hl.lk i hi).2⟩
    · exact ⟨hb, hLS⟩
  · exact hl.bl
  · intro v h1 h2 h3
    obtain ⟨k1, k2⟩ := hl.tg1 v h1 h2 h3
    exact ⟨k1.mono (fun i hi => by simp [hi]) fun B h => h, k2⟩
  · intro v i u h1 h2 h3 h4 h5
    obtain ⟨k1, k2⟩ := hl.tg2 v i u h1 h2 h3 h4 h5
    exact ⟨k1.mono (fun i hi => by simp [hi]) fun B h => h, k2⟩
  · intro i hi h1 h2
    simp at hi
    rcases hi with hi | rfl
    · obtain ⟨k1, k2⟩ := hl.tg3 i hi h1 h2
      exact ⟨k1.mono (fun i hi => by simp [hi]) fun B h => h, k2⟩
    · exact ⟨.inl ⟨.inl (by simp), .inr (by omega)⟩, hb⟩

theorem drop_mid {α : Type} (o m : List α) : (o ++ m).drop o.length = m ∧ (o ++ m).take o.length = o := ⟨by simp, by simp⟩

theorem slp_tree {es : Ed} {x b : Nat} {S0 : St} {P : List Nat} {lo : Nat} {S : St} {seg : List Nat} {nb : List (List Nat)} {e : Nat} (hp : Pre es x b S0) (hs : SPre es b S0) (he : e ∈ adj es x) (hP : ∀ i ∈ P, i ∈ adj es x) (h : Lp es x b (enterF x b S0) P lo S)
    (hl : SLp es x b (enterF x b S0) P S seg nb) (hy : S.come (oth es e x) = 0) {lr : Nat} {S' : St} {sy : List Nat} {ny : List (List Nat)}
    (hpo : Post es (oth es e x) (e + 1) { S with opn := S.opn ++ [e], par := upd S.par (oth es e x) x } lr S') (hso : SPost es (oth es e x) (e + 1) { S with opn := S.opn ++ [e], par := upd S.par (oth es e x) x } S' sy ny) :
    ∃ seg' nb', SLp es x b (enterF x b S0) (P ++ [e]) (if S'.come x ≤ lr then { S' with bks := S'.bks ++ [S'.opn.drop S.opn.length], opn := S'.opn.take S.opn.length } else S') seg' nb' := by
  have ha := enter_at hp
  obtain ⟨n1, n2, n3, n4, n5⟩ := ha.now h.grew
  have hen := en_of_adj he
  have hyv : ∀ v, S.come v ≠ 0 → v ≠ oth es e x := fun v hv e' => hv (e' ▸ hy)
  have hg : Grew S S' := hpo.grew.congr rfl rfl rfl (fun v hv => (upd_other _ _ (hyv v hv)).symm) rfl rfl rfl rfl rfl (fun _ _ => rfl) rfl rfl
  have hg1 : Grew (enterF x b S0) S' := h.grew.trans hg
  obtain ⟨m1, m2, m3, m4, m5⟩ := ha.now hg1
  have hpy : S'.pe (oth es e x) = e + 1 := hpo.xp
  have hry : S'.par (oth es e x) = x := hpo.xr.trans (upd_same _ _ _)
  have hcy : S'.come (oth es e x) = S.time + 1 := hpo.xc
  have hx' : S'.come x ≤ S'.time := hpo.inv.cle x
  have hxS : S.come x ≤ S.time := h.inv.cle x
  have hcx : S'.come x = S.come x := (hg.keep x n2).1
  have hy1 : (enterF x b S0).come (oth es e x) = 0 := by
    cases h0 : (enterF x b S0).come (oth es e x) with
    | zero => rfl
    | succ k => exact absurd hy (h.grew.vis (v := oth es e x) (by omega))
  have hopn : S'.opn = S.opn ++ ([e] ++ sy) := by rw [hso.opn, List.append_assoc]
  have hbks : S'.bks = S.bks ++ ny := hso.bks
  -- membership
  have hmem : ∀ i, i ∈ all S' ↔ i ∈ all (enterF x b S0) ∨ (∃ u v, En es i u v ∧ (enterF x b S0).come u = 0 ∧ S'.come u ≠ 0) ∨ i ∈ P ++ [e] := by
    intro i
    rw [hso.mem i]
    have h1 : i ∈ all { S with opn := S.opn ++ [e], par := upd S.par (oth es e x) x } ↔ i = e ∨ i ∈ all S := mem_push
    rw [h1, hl.mem i]
    simp only [List.mem_append, List.mem_singleton]
    constructor
    · rintro ((h2 | h2 | ⟨u, v, h2, h3, h4⟩ | h2) | ⟨u, v, h2, h3, h4⟩)
      · exact .inr (.inr (.inr h2))
      · exact .inl h2
      · exact .inr (.inl ⟨u, v, h2, h3, hg.vis h4⟩)
      · exact .inr (.inr (.inl h2))
      · refine .inr (.inl ⟨u, v, h2, ?_, h4⟩)
        cases h0 : (enterF x b S0).come u with
        | zero => rfl
        | succ k => exact absurd h3 (h.grew.vis (v := u) (by omega))
    · rintro (h2 | ⟨u, v, h2, h3, h4⟩ | h2 | h2)
      · exact .inl (.inr (.inl h2))
      · by_cases h5 : S.come u = 0
        · exact .inr ⟨u, v, h2, h5, h4⟩
        · exact .inl (.inr (.inr (.inl ⟨u, v, h2, h3, h5⟩)))
      · exact .inl (.inr (.inr (.inr h2)))
      · exact .inl (.inl h2)
  have hlkS : ∀ i j, Lk es S i j → Lk es S' i j := fun i j h' => Lk.grew h.inv hg h'
  -- links of what the walk from y left open, to e
  have hlky : ∀ i ∈ [e] ++ sy, Lk es S' i e := by
    intro i hi
    simp at hi
    rcases hi with rfl | hi
    · exact Eqc.refl _ _
    · exact (hso.lk i hi).2
  -- old facts, under S'
  have old1 : ∀ v, (enterF x b S0).come v = 0 → S.come v ≠ 0 → S'.low v < S'.come (S'.par v) → Tg b seg nb (S'.pe v - 1) (S'.pe (S'.par v) - 1) ∧ S'.pe (S'.par v) ≠ 0 := by
    intro v h1 h2 h3
    obtain ⟨k1, k2, k3, k4, k5⟩ := hg.keep v h2
    rw [k3, k5] at h3
    rw [k4, k5]
    by_cases hpv : S.pe v = 0
    · exfalso
      have hvx : S.come x < S.come v := by
        have := (h.grew.new v h1 h2).1
        have := ha.xt
        omega
      exact (h.inv.rt v x h2 hpv n2 hvx).1 n3
    · obtain ⟨p1, p2, p3⟩ := h.inv.pr v h2 hpv
      rw [(hg.keep _ p2).1] at h3
      rw [(hg.keep _ p2).2.2.2.1]
      exact hl.tg1 v h1 h2 h3
  have old2 : ∀ v i u, (enterF x b S0).come v = 0 → S.come v ≠ 0 → En es i u v → S'.come u < S'.come v → i + 1 ≠ S'.pe v → Tg b seg nb i (S'.pe v - 1) ∧ S'.pe v ≠ 0 := by
    intro v i u h1 h2 h3 h4 h5
    obtain ⟨k1, k2, k3, k4, k5⟩ := hg.keep v h2
    rw [k1] at h4
    rw [k4] at h5 ⊢
    have hf := (h.grew.new v h1 h2).2
    have hu := (h.inv.nb i v u h3.symm hf).1
    rw [(hg.keep u hu).1] at h4
    exact hl.tg2 v i u h1 h2 h3 h4 h5
  have old3 : ∀ i ∈ P ++ [e], S'.come (oth es i x) < S'.come x → i + 1 ≠ b → Tg b seg nb i (b - 1) ∧ b ≠ 0 := by
    intro i hi h1 h2
    simp at hi
    rcases hi with hi | rfl
    · have h3 := (h.seen i hi).1
      rw [(hg.keep _ h3).1, hcx] at h1
      exact hl.tg3 i hi h1 h2
    · omega
  by_cases hpop : S'.come x ≤ lr
  · rw [if_pos hpop]
    refine ⟨seg, nb ++ (ny ++ [[e] ++ sy]), ?_⟩
    have hd : S'.opn.drop S.opn.length = [e] ++ sy := by rw [hopn]; exact (drop_mid _ _).1
    have ht : S'.opn.take S.opn.length = S.opn := by rw [hopn]; exact (drop_mid _ _).2
    rw [hd, ht]
    have hperm : (all ({ S' with bks := S'.bks ++ [[e] ++ sy], opn := S.opn } : St)).Perm (all S') := by
      show (S.opn ++ (S'.bks ++ [[e] ++ sy]).flatten).Perm (S'.opn ++ S'.bks.flatten)
      rw [hopn, List.flatten_append, List.append_assoc]
      refine List.Perm.append_left _ ?_
      simp only [List.flatten_cons, List.flatten_nil, List.append_nil]
      exact List.perm_append_comm
    refine ⟨hl.opn, ?_, hperm.nodup_iff.2 hso.nd, ?_, ?_, ?_, ?_, ?_, ?_⟩
    · show S'.bks ++ _ = _
      rw [hbks, hl.bks]
      simp only [List.append_assoc]
    · intro i
      rw [hperm.mem_iff]
      exact hmem i
    · intro i hi
      exact ⟨(hl.lk i hi).1, hlkS _ _ (hl.lk i hi).2⟩
    · intro B hB
      simp only [List.mem_append, List.mem_singleton] at hB
      rcases hB with hB | hB | rfl
      · obtain ⟨k1, k2⟩ := hl.bl B hB
        exact ⟨k1, fun i hi j hj => hlkS _ _ (k2 i hi j hj)⟩
      · exact hso.bl B hB
      · exact ⟨by simp, fun i hi j hj => (hlky i hi).trans (hlky j hj).symm⟩
    · intro v h1 h2 h3
      by_cases h4 : S.come v = 0
      · by_cases h5 : v = oth es e x
        · exfalso
          have h3' : S'.low v < S'.come (S'.par v) := h3
          subst h5
          rw [hpo.xl, hry] at h3'
          omega
        · obtain ⟨k1, k2⟩ := hso.tg1 v h4 h2 h5 h3
          refine ⟨?_, k2⟩
          rcases k1 with ⟨a1, a2⟩ | ⟨B, a1, a2⟩
          · refine .inr ⟨[e] ++ sy, by simp, ?_, ?_⟩
            · simp only [List.mem_append, List.mem_singleton]
              rcases a1 with a1 | a1
              · exact .inr a1
              · exact .inl (by omega)
            · simp only [List.mem_append, List.mem_singleton]
              rcases a2 with a2 | a2
              · exact .inr a2
              · exact .inl (by omega)
          · exact .inr ⟨B, by simp [a1], a2⟩
      · obtain ⟨k1, k2⟩ := old1 v h1 h4 h3
        exact ⟨k1.mono (fun i hi => hi) fun B hB => by simp [hB], k2⟩
    · intro v i u h1 h2 h3 h4 h5
      by_cases h6 : S.come v = 0
      · obtain ⟨k1, k2⟩ := hso.tg2 v i u h6 h2 h3 h4 h5
        refine ⟨?_, k2⟩
        rcases k1 with ⟨a1, a2⟩ | ⟨B, a1, a2⟩
        · refine .inr ⟨[e] ++ sy, by simp, ?_, ?_⟩
          · simp only [List.mem_append, List.mem_singleton]
            rcases a1 with a1 | a1
            · exact .inr a1
            · exact .inl (by omega)
          · simp only [List.mem_append, List.mem_singleton]
            rcases a2 with a2 | a2
            · exact .inr a2
            · exact .inl (by omega)
        · exact .inr ⟨B, by simp [a1], a2⟩
      · obtain ⟨k1, k2⟩ := old2 v i u h1 h6 h3 h4 h5
        exact ⟨k1.mono (fun i hi => hi) fun B hB => by simp [hB], k2⟩
    · intro i hi h1 h2
      obtain ⟨k1, k2⟩ := old3 i hi h1 h2
      exact ⟨k1.mono (fun i hi => hi) fun B hB => by simp [hB], k2⟩
  · rw [if_neg hpop]
    have hb : b ≠ 0 := by
      intro hb
      subst hb
      have hxl := hpo.xl
      rcases hpo.inv.wt _ hpo.xf with hw | ⟨e', d, a, w1, w2, w3, w4, w5, w6, w7⟩
      · omega
      · refine no_root hp hg1 w1 ?_ w6 (by omega)
        cases h0 : S0.come d with
        | zero => rfl
        | succ k =>
          exfalso
          have hd1 := (enter_grew hp d (by omega)).1
          have hd2 := (hg1.keep d (by omega)).1
          have hd3 := hp.inv.cle d
          have hd4 := ha.xt
          have hd5 : (enterF x 0 S0).time = S0.time + 1 := rfl
          omega
    have hstep : Lk es S' e (b - 1) := Eqc.of (.inl ⟨oth es e x, hpo.xf, by omega, by rw [hry, m4]; exact hb, by rw [hry, hpo.xl]; omega, by omega, by rw [hry, m4]; omega⟩)
    refine ⟨seg ++ ([e] ++ sy), nb ++ ny, ?_⟩
    refine ⟨by rw [hopn, hl.opn, List.append_assoc], by rw [hbks, hl.bks, List.append_assoc], hso.nd, hmem, ?_, ?_, ?_, ?_, ?_⟩
    · intro i hi
      refine ⟨hb, ?_⟩
      rcases List.mem_append.1 hi with hi | hi
      · exact hlkS _ _ (hl.lk i hi).2
      · exact (hlky i hi).trans hstep
    · intro B hB
      rcases List.mem_append.1 hB with hB | hB
      · obtain ⟨k1, k2⟩ := hl.bl B hB
        exact ⟨k1, fun i hi j hj => hlkS _ _ (k2 i hi j hj)⟩
      · exact hso.bl B hB
    · intro v h1 h2 h3
      by_cases h4 : S.come v = 0
      · by_cases h5 : v = oth es e x
        · subst h5
          rw [hry, m4, hpy]
          exact ⟨.inl ⟨.inl (by simp), .inr (by omega)⟩, hb⟩
        · obtain ⟨k1, k2⟩ := hso.tg1 v h4 h2 h5 h3
          refine ⟨?_, k2⟩
          rcases k1 with ⟨a1, a2⟩ | ⟨B, a1, a2⟩
          · refine .inl ⟨.inl ?_, .inl ?_⟩
            · simp only [List.mem_append, List.mem_singleton]
              rcases a1 with a1 | a1
              · exact .inr (.inr a1)
              · exact .inr (.inl (by omega))
            · simp only [List.mem_append, List.mem_singleton]
              rcases a2 with a2 | a2
              · exact .inr (.inr a2)
              · exact .inr (.inl (by omega))
          · exact .inr ⟨B, by simp [a1], a2⟩
      · obtain ⟨k1, k2⟩ := old1 v h1 h4 h3
        exact ⟨k1.mono (fun i hi => by simp [hi]) fun B hB => by simp [hB], k2⟩
    · intro v i u h1 h2 h3 h4 h5
      by_cases h6 : S.come v = 0
      · obtain ⟨k1, k2⟩ := hso.tg2 v i u h6 h2 h3 h4 h5
        refine ⟨?_, k2⟩
        rcases k1 with ⟨a1, a2⟩ | ⟨B, a1, a2⟩
        · refine .inl ⟨.inl ?_, .inl ?_⟩
          · simp only [List.mem_append, List.mem_singleton]
            rcases a1 with a1 | a1
            · exact .inr (.inr a1)
            · exact .inr (.inl (by omega))
          · simp only [List.mem_append, List.mem_singleton]
            rcases a2 with a2 | a2
            · exact .inr (.inr a2)
            · exact .inr (.inl (by omega))
        · exact .inr ⟨B, by simp [a1], a2⟩
      · obtain ⟨k1, k2⟩ := old2 v i u h1 h6 h3 h4 h5
        exact ⟨k1.mono (fun i hi => by simp [hi]) fun B hB => by simp [hB], k2⟩
    · intro i hi h1 h2
      obtain ⟨k1, k2⟩ := old3 i hi h1 h2
      exact ⟨k1.mono (fun i hi => by simp [hi]) fun B hB => by simp [hB], k2⟩

/-- what the walk from y asks of the open edges -/
theorem slp_pre {es : Ed} {x b : Nat} {S0 : St} {P : List Nat} {lo : Nat} {S : St} {seg : List Nat} {nb : List (List Nat)} {e : Nat} (hp : Pre es x b S0) (hs : SPre es b S0) (hP : ∀ e ∈ P, e ∈ adj es x) (he : e ∈ adj es x) (h : Lp es x b (enterF x b S0) P lo S)
    (hl : SLp es x b (enterF x b S0) P S seg nb) (hy : S.come (oth es e x) = 0) : SPre es (e + 1) { S with opn := S.opn ++ [e], par := upd S.par (oth es e x) x } := by
  have hv := slp_vis hp hs hP h hl
  have hen := en_of_adj he
  refine ⟨nodup_push hl.nd fun hm => hv e hm _ _ hen.symm hy, ?_, ?_⟩
  · intro i hi
    rcases mem_push.1 hi with rfl | hi
    · exact .inl rfl
    · exact .inr (hv i hi)
  · intro _
    exact mem_push.2 (.inl (by omega))

theorem sleave {es : Ed} {x b : Nat} {S0 : St} {lo : Nat} {S : St} {seg : List Nat} {nb : List (List Nat)} (hp : Pre es x b S0) (h : Lp es x b (enterF x b S0) (adj es x) lo S) (hl : SLp es x b (enterF x b S0) (adj es x) S seg nb) :
    SPost es x b S0 (leaveF x (lo, S)).2 seg nb := by
  have ha := enter_at hp
  obtain ⟨n1, n2, n3, n4, n5⟩ := ha.now h.grew
  have hpost := leave_post hp h
  have hlow : ∀ v, v ≠ x → (leaveF x (lo, S)).2.low v = S.low v := fun v hv => upd_other _ _ hv
  have hfin : ∀ v, v ≠ x → (leaveF x (lo, S)).2.fin v = S.fin v := fun v hv => upd_other _ _ hv
  have hmono : ∀ i j, Lk es S i j → Lk es (leaveF x (lo, S)).2 i j := fun i j h' => h'.mono fun i j h'' => LS.mono (S' := (leaveF x (lo, S)).2) h.inv (fun v hv =>
    ⟨rfl, fun hf => by
      have hvx : v ≠ x := fun e => hf (e ▸ n3)
      exact ⟨by rw [hfin v hvx]; exact hf, hlow v hvx⟩, rfl, rfl⟩) h''
  have hnew : ∀ v, v ≠ x → S0.come v = 0 → (enterF x b S0).come v = 0 := fun v hv h0 => (upd_other _ _ hv).trans h0
  refine ⟨hl.opn, hl.bks, hl.nd, ?_, fun i hi => ⟨(hl.lk i hi).1, hmono _ _ (hl.lk i hi).2⟩, fun B hB => ⟨(hl.bl B hB).1, fun i hi j hj => hmono _ _ ((hl.bl B hB).2 i hi j hj)⟩, ?_, ?_⟩
  · intro i
    show i ∈ all S ↔ _
    rw [hl.mem i]
    constructor
    · rintro (h1 | ⟨u, v, h1, h2, h3⟩ | h1)
      · exact .inl h1
      · right
        refine ⟨u, v, h1, ?_, h3⟩
        cases h0 : S0.come u with
        | zero => rfl
        | succ k =>
          have := (enter_grew hp u (by omega)).1
          omega
      · exact .inr ⟨x, _, en_of_adj h1, hp.x0, n2⟩
    · rintro (h1 | ⟨u, v, h1, h2, h3⟩)
      · exact .inl h1
      · by_cases hux : u = x
        · subst hux
          exact .inr (.inr (adj_of_en h1))
        · exact .inr (.inl ⟨u, v, h1, hnew u hux h2, h3⟩)
  · intro v h1 h2 h3 h4
    rw [hlow v h3] at h4
    exact hl.tg1 v (hnew v h3 h1) h2 h4
  · intro v i u h1 h2 h3 h4 h5
    by_cases hvx : v = x
    · subst hvx
      have h5' : i + 1 ≠ S.pe v := h5
      rw [n4] at h5'
      show Tg b seg nb i (S.pe v - 1) ∧ S.pe v ≠ 0
      rw [n4]
      refine hl.tg3 i (adj_of_en h3.symm) ?_ h5'
      rw [oth_of_en h3.symm]
      exact h4
    · exact hl.tg2 v i u (hnew v hvx h1) h2 h3 h4 h5

theorem from_spost {V : Nat} {es : Ed} (hg : Gr V es) : ∀ f x b S, x < V → Pre es x b S → SPre es b S → unv V S ≤ f → ∃ seg nb, SPost es x b S (fromF es f x b S).2 seg nb := by
  intro f
  induction f with
  | zero =>
    intro x b S hx hp hs hu
    exfalso
    have : x ∈ (List.range V).filter fun v => S.come v == 0 := by simp [hx, hp.x0]
    have := List.length_pos_of_mem this
    unfold unv at hu
    omega
  | succ f ih =>
    intro x b S hx hp hs hu
    rw [fromF_succ]
    have hlp := loop_lp hg (fun x b S => from_post hg f x b S) hx hp hu
    have ha := enter_at hp
    have hloop : ∀ k, k ≤ (adj es x).length → ∃ seg nb, SLp es x b (enterF x b S) ((adj es x).take k) (loopF es f x b S k).2 seg nb := by
      intro k
      induction k with
      | zero =>
        intro _
        exact ⟨[], [], slp_start hp hs⟩
      | succ k ihk =>
        intro hk
        obtain ⟨seg, nb, hl⟩ := ihk (by omega)
        have h := hlp k (by omega)
        have hkl : k < (adj es x).length := by omega
        have hmem : (adj es x).getD k 0 ∈ adj es x := by simp [List.getD, hkl]
        have htk : (adj es x).take (k + 1) = (adj es x).take k ++ [(adj es x).getD k 0] := by
          rw [List.take_add_one]
          simp [List.getD, hkl]
        have hnot : (adj es x).getD k 0 ∉ (adj es x).take k := by
          intro hin
          obtain ⟨j, hj, hje⟩ := List.mem_iff_getElem.1 hin
          have hj2 : j < k := by simp at hj; omega
          have hnd := adj_nodup hg.nl x
          rw [List.getElem_take] at hje
          have h5 : (adj es x)[j]'(by omega) = (adj es x)[k] := by rw [hje]; simp [List.getD, hkl]
          exact List.pairwise_iff_getElem.1 hnd j k (by omega) hkl hj2 h5
        have htP : ∀ i ∈ (adj es x).take k, i ∈ adj es x := fun i hi => List.mem_of_mem_take hi
        rw [loopF_succ hkl, htk]
        generalize (adj es x).getD k 0 = e at *
        generalize (adj es x).take k = P at *
        generalize loopF es f x b S k = p at *
        by_cases h1 : e + 1 = b ∨ p.2.come x < p.2.come (oth es e x)
        · rw [stepF_skip h1]
          exact ⟨seg, nb, slp_skip hp hs hmem h hl h1⟩
        · by_cases h2 : 0 < p.2.come (oth es e x)
          · rw [stepF_back h1 h2]
            exact ⟨_, _, slp_back hp hs hg.nl hmem hnot h hl h1 h2⟩
          · rw [stepF_tree h1 h2 rfl]
            have hc : p.2.come (oth es e x) = 0 := by omega
            have hpre := lp_pre (o := p.2.opn ++ [e]) ha h hmem hc
            have hspre := slp_pre hp hs htP hmem h hl hc
            have hlt := (hg.lt (en_of_adj hmem)).2
            have hun : unv V { p.2 with opn := p.2.opn ++ [e], par := upd p.2.par (oth es e x) x } ≤ f := by
              have h3 : unv V (enterF x b S) < unv V S := unv_lt (x := x) (fun v hv => by rw [(enter_grew hp v hv).1]; exact hv) hx hp.x0 ha.x1
              have h4 : unv V { p.2 with opn := p.2.opn ++ [e], par := upd p.2.par (oth es e x) x } ≤ unv V (enterF x b S) := unv_le fun v hv => h.grew.vis hv
              omega
            have hpost := from_post hg f _ _ _ hlt hpre hun
            obtain ⟨sy, ny, hspost⟩ := ih _ _ _ hlt hpre hspre hun
            generalize fromF es f (oth es e x) (e + 1) { p.2 with opn := p.2.opn ++ [e], par := upd p.2.par (oth es e x) x } = r at *
            exact slp_tree hp hs hmem htP h hl hc hpost hspost
    have h := hlp _ (Nat.le_refl _)
    obtain ⟨seg, nb, hl⟩ := hloop _ (Nat.le_refl _)
    rw [List.take_length] at h hl
    exact ⟨seg, nb, sleave hp h hl⟩
end Go.Proofs.Ytbecmaandhadhaa.Df


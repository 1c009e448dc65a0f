/-
  Cut vertices by counts: a vertex is in more than one block just if without it more parts hang together than with it. No conditions beyond each theorem's own.
-/
import Derived.Test.YthgmpnfecdnmiaaDoorCt
import Derived.Test.YthgmpnfecdnmiaaDoorQPt
namespace Go.Proofs.YthgmpnfecdnmiaaDoor.pt
open Go.RowKit
set_option linter.unusedVariables false
set_option maxRecDepth 20000

theorem bd_en' {es : List (Nat × Nat)} {x u v : Nat} : Bd es (fun t => decide (t = x)) u v ↔ ∃ e, Df.En es e u v ∧ u ≠ x ∧ v ≠ x := by
  constructor
  · rintro ⟨e, he, h1, h2, h3⟩
    obtain ⟨t, ht, rfl⟩ := List.mem_iff_getElem.1 he
    have hg : Pl.at' es t = es[t] := by simp [Pl.at', List.getD, ht]
    simp at h1 h2
    refine ⟨t, ⟨ht, ?_⟩, ?_⟩
    · rw [hg]; exact h3
    · rcases h3 with h3 | h3 <;> rw [h3] at h1 h2
      · exact ⟨h1, h2⟩
      · exact ⟨h2, h1⟩
  · rintro ⟨t, ⟨ht, h3⟩, h1, h2⟩
    refine ⟨_, getD_mem ht, ?_, ?_, h3⟩
    · rcases h3 with h3 | h3
      · rw [show es.getD t (0, 0) = (u, v) from h3]; simpa using h1
      · rw [show es.getD t (0, 0) = (v, u) from h3]; simpa using h2
    · rcases h3 with h3 | h3
      · rw [show es.getD t (0, 0) = (u, v) from h3]; simpa using h2
      · rw [show es.getD t (0, 0) = (v, u) from h3]; simpa using h1
theorem bd_all {es : List (Nat × Nat)} {u v : Nat} : Bd es (fun _ => false) u v ↔ ∃ e, Df.En es e u v := by
  constructor
  · rintro ⟨e, he, _, _, h3⟩
    obtain ⟨t, ht, rfl⟩ := List.mem_iff_getElem.1 he
    have hg : Pl.at' es t = es[t] := by simp [Pl.at', List.getD, ht]
    exact ⟨t, ht, by rw [hg]; exact h3⟩
  · rintro ⟨t, ht, h3⟩
    exact ⟨_, getD_mem ht, rfl, rfl, h3⟩
theorem star_cn' {es : List (Nat × Nat)} {x a b : Nat} : Star (Bd es fun t => decide (t = x)) a b ↔ Df.Cn es x a b := by
  constructor
  · intro h R h0 hs
    exact h R h0 fun u v hu hr => by
      obtain ⟨e, h1, h2, h3⟩ := bd_en'.1 hr
      exact hs e u v h1 h2 h3 hu
  · intro h
    exact h (fun y => Star (Bd es fun t => decide (t = x)) a y) .refl fun e u v h1 h2 h3 hu => hu.step (bd_en'.2 ⟨e, h1, h2, h3⟩)

/-- an end of an edge, other than x, hangs together with c without x -/
def Kx (es : List (Nat × Nat)) (x e c : Nat) : Prop := ∃ u v, Df.En es e u v ∧ u ≠ x ∧ Df.Cn es x u c
theorem kx_at {es : List (Nat × Nat)} (hn : Df.NoLoop es) {x e a c : Nat} (h : Df.En es e x a) : Kx es x e c ↔ Df.Cn es x a c := by
  constructor
  · rintro ⟨u, v, h1, h2, h3⟩
    rcases h.ends h1 with ⟨e1, e2⟩ | ⟨e1, e2⟩
    · exact absurd e1 h2
    · rw [e1] at h3; exact h3
  · intro hc
    exact ⟨a, x, h.symm, fun e1 => (Df.En.ne hn h) e1.symm, hc⟩
theorem kx_off {es : List (Nat × Nat)} {x y e a c : Nat} (h : Df.En es e y a) (hy : y ≠ x) : Kx es x e c ↔ Df.Cn es x y c := by
  constructor
  · rintro ⟨u, v, h1, h2, h3⟩
    rcases h.ends h1 with ⟨e1, e2⟩ | ⟨e1, e2⟩
    · rw [e1] at h3; exact h3
    · rw [e1] at h2 h3
      exact (Df.Cn.edge h hy h2).trans h3
  · intro hc
    exact ⟨y, a, h, hy, hc⟩
/-- edges of one block at x: their other ends hang together without x -/
theorem bk_at {es : List (Nat × Nat)} (hn : Df.NoLoop es) {x i j a b : Nat} (h : Df.Bk es i j) (hi : Df.En es i x a) (hj : Df.En es j x b) : Df.Cn es x a b := by
  have hr : ∀ c, Kx es x i c ↔ Kx es x j c := by
    refine h (fun i j => ∀ c, Kx es x i c ↔ Kx es x j c) (fun _ _ => Iff.rfl) (fun _ _ h c => (h c).symm) (fun _ _ _ h k c => (h c).trans (k c)) ?_
    rintro i j ⟨y, a, b, h1, h2, h3⟩ c
    by_cases hy : y = x
    · subst hy
      rw [kx_at hn h1, kx_at hn h2]
      exact ⟨fun hc => h3.symm.trans hc, fun hc => h3.trans hc⟩
    · rw [kx_off h1 hy, kx_off h2 hy]
  have h1 : Kx es x i a := (kx_at hn hi).2 (Df.Cn.refl _ _ _)
  exact ((kx_at hn hj).1 ((hr a).1 h1)).symm

/-- two edges at x whose other ends don't hang together without x -/
def Parted (es : List (Nat × Nat)) (x : Nat) : Prop := ∃ i j a b, Df.En es i x a ∧ Df.En es j x b ∧ ¬ Df.Cn es x a b
theorem hasAt_iff {es : List (Nat × Nat)} {B : List Nat} {x : Nat} (hB : ∀ i ∈ B, i < es.length) : hasAt es B x = true ↔ ∃ i ∈ B, ∃ a, Df.En es i x a := by
  unfold hasAt
  simp only [List.any_eq_true, Bool.or_eq_true, beq_iff_eq]
  constructor
  · rintro ⟨i, hi, h | h⟩
    · exact ⟨i, hi, (Pl.at' es i).2, hB i hi, .inl (by rw [← h])⟩
    · exact ⟨i, hi, (Pl.at' es i).1, hB i hi, .inr (by rw [← h])⟩
  · rintro ⟨i, hi, a, _, h | h⟩
    · exact ⟨i, hi, .inl (by rw [h])⟩
    · exact ⟨i, hi, .inr (by rw [h])⟩
theorem two_of_len {l : List Nat} (hn : l.Nodup) (h : 1 < l.length) : ∃ p q, p < q ∧ p ∈ l ∧ q ∈ l := by
  match l, hn, h with
  | a :: b :: t, hn, _ =>
    have hab : a ≠ b := by
      rw [List.nodup_cons] at hn
      intro e
      exact hn.1 (by simp [e])
    rcases Nat.lt_or_ge a b with h | h
    · exact ⟨a, b, h, by simp, by simp⟩
    · exact ⟨b, a, by omega, by simp, by simp⟩
theorem len_of_two {l : List Nat} {p q : Nat} (hpq : p ≠ q) (hp : p ∈ l) (hq : q ∈ l) : 1 < l.length := by
  match l, hp, hq with
  | [c], hp, hq =>
    simp at hp hq
    omega
  | a :: b :: t, _, _ => simp
theorem cut_iff {es : List (Nat × Nat)} {L : List (List Nat)} (hL : IsBl es L) (hn : Df.NoLoop es) (x : Nat) : 1 < (plK es L L.length x).length ↔ Parted es x := by
  have hB : ∀ B ∈ L, ∀ i ∈ B, i < es.length := fun B h1 i h2 => (hL.cls.mem i).1 (List.mem_flatten.2 ⟨B, h1, h2⟩)
  have hget : ∀ p, p < L.length → L.getD p [] ∈ L := fun p hp => by simp [List.getD, hp]
  constructor
  · intro h
    obtain ⟨p, q, hpq, hp, hq⟩ := two_of_len (List.nodup_range.sublist List.filter_sublist) h
    simp only [List.mem_filter, List.mem_range] at hp hq
    obtain ⟨i, hi, a, h1⟩ := (hasAt_iff (hB _ (hget p hp.1))).1 hp.2
    obtain ⟨j, hj, b, h2⟩ := (hasAt_iff (hB _ (hget q hq.1))).1 hq.2
    refine ⟨i, j, a, b, h1, h2, fun hc => ?_⟩
    have hbk : Df.Bk es i j := fun R _ _ _ hs => hs i j ⟨x, a, b, h1, h2, hc⟩
    have hjp : j ∈ L.getD p [] := (hL.cls.cls _ (hget p hp.1) i hi j h2.1).2 hbk
    have he := Df.flat_one hL.cls.nd (hget p hp.1) (hget q hq.1) hjp hj
    have ho := List.pairwise_iff_getElem.1 hL.ord p q hp.1 hq.1 hpq
    have e1 : L.getD p [] = L[p]'hp.1 := by simp [List.getD, hp.1]
    have e2 : L.getD q [] = L[q]'hq.1 := by simp [List.getD, hq.1]
    rw [e1, e2] at he
    rw [he] at ho
    omega
  · rintro ⟨i, j, a, b, h1, h2, hc⟩
    obtain ⟨P, hP, hiP⟩ := List.mem_flatten.1 ((hL.cls.mem i).2 h1.1)
    obtain ⟨Q, hQ, hjQ⟩ := List.mem_flatten.1 ((hL.cls.mem j).2 h2.1)
    obtain ⟨p, hp, rfl⟩ := List.mem_iff_getElem.1 hP
    obtain ⟨q, hq, rfl⟩ := List.mem_iff_getElem.1 hQ
    have e1 : L.getD p [] = L[p] := by simp [List.getD, hp]
    have e2 : L.getD q [] = L[q] := by simp [List.getD, hq]
    refine len_of_two (p := p) (q := q) (fun e => ?_) ?_ ?_
    · subst e
      exact hc (bk_at hn ((hL.cls.cls _ hP i hiP j h2.1).1 hjQ) h1 h2)
    · simp only [plK, List.mem_filter, List.mem_range]
      exact ⟨hp, (hasAt_iff (hB _ (hget p hp))).2 ⟨i, by rw [e1]; exact hiP, a, h1⟩⟩
    · simp only [plK, List.mem_filter, List.mem_range]
      exact ⟨hq, (hasAt_iff (hB _ (hget q hq))).2 ⟨j, by rw [e2]; exact hjQ, b, h2⟩⟩

theorem inj_len {R : Nat → Nat → Prop} : ∀ (l1 l2 : List Nat), l1.Nodup → (∀ v ∈ l1, ∃ y ∈ l2, R v y) → (∀ v v' y, v ∈ l1 → v' ∈ l1 → R v y → R v' y → v = v') → l1.length ≤ l2.length := by
  intro l1
  induction l1 with
  | nil => intro l2 _ _ _; simp
  | cons v t ih =>
    intro l2 hn hm hi
    obtain ⟨y, hy, hR⟩ := hm v (by simp)
    rw [List.nodup_cons] at hn
    have := ih (l2.erase y) hn.2 (fun v' hv' => by
      obtain ⟨y', hy', hR'⟩ := hm v' (by simp [hv'])
      refine ⟨y', ?_, hR'⟩
      by_cases e : y' = y
      · subst e
        have := hi v v' y' (by simp) (by simp [hv']) hR hR'
        subst this
        exact absurd hv' hn.1
      · exact (List.mem_erase_of_ne e).2 hy') (fun a b c ha hb => hi a b c (by simp [ha]) (by simp [hb]))
    rw [List.length_erase_of_mem hy] at this
    have hpos := List.length_pos_of_mem hy
    simp
    omega

theorem star_away {es : List (Nat × Nat)} {x u v : Nat} (hu : u ≠ x) (h : Star (Bd es fun _ => false) u v) : (v ≠ x ∧ Df.Cn es x u v) ∨ ∃ i a, Df.En es i x a ∧ Df.Cn es x u a := by
  refine h (fun v => (v ≠ x ∧ Df.Cn es x u v) ∨ ∃ i a, Df.En es i x a ∧ Df.Cn es x u a) (.inl ⟨hu, Df.Cn.refl _ _ _⟩) ?_
  rintro a b (⟨h1, h2⟩ | h1) hr
  · obtain ⟨e, he⟩ := bd_all.1 hr
    by_cases hb : b = x
    · subst hb
      exact .inr ⟨e, a, he.symm, h2⟩
    · exact .inl ⟨hb, h2.trans (Df.Cn.edge he h1 hb)⟩
  · exact .inr h1
theorem cn_star {es : List (Nat × Nat)} {x a b : Nat} (h : Df.Cn es x a b) : Star (Bd es fun _ => false) a b :=
  h (fun y => Star (Bd es fun _ => false) a y) .refl fun e u v h1 _ _ hu => hu.step (bd_all.2 ⟨e, h1⟩)

theorem count_iff {V : Nat} {es : List (Nat × Nat)} (hp : Plain V es) (hn : Df.NoLoop es) {x : Nat} (hx : x < V) {r0 r1 : Nat → Bool} (h0 : ∀ v, v < V → (r0 v = true ↔ Rep es (fun _ => false) v)) (h1 : ∀ v, v < V → (r1 v = true ↔ Rep es (fun t => decide (t = x)) v)) :
    ((List.range V).filter r0).length < ((List.range V).filter r1).length ↔ Parted es x := by
  have hmem0 : ∀ v, v ∈ (List.range V).filter r0 ↔ v < V ∧ Rep es (fun _ => false) v := fun v => by
    rw [List.mem_filter, List.mem_range]
    exact ⟨fun h => ⟨h.1, (h0 v h.1).1 h.2⟩, fun h => ⟨h.1, (h0 v h.1).2 h.2⟩⟩
  have hmem1 : ∀ v, v ∈ (List.range V).filter r1 ↔ v < V ∧ Rep es (fun t => decide (t = x)) v := fun v => by
    rw [List.mem_filter, List.mem_range]
    exact ⟨fun h => ⟨h.1, (h1 v h.1).1 h.2⟩, fun h => ⟨h.1, (h1 v h.1).2 h.2⟩⟩
  have hnd : ∀ r : Nat → Bool, ((List.range V).filter r).Nodup := fun r => List.nodup_range.sublist List.filter_sublist
  have hne1 : ∀ v, Rep es (fun t => decide (t = x)) v → v ≠ x := fun v h e => by have := h.1; simp [e] at this
  constructor
  · intro hlt
    refine Classical.byContradiction fun hno => ?_
    have hA : ∀ i j a b, Df.En es i x a → Df.En es j x b → Df.Cn es x a b := fun i j a b h2 h3 => Classical.byContradiction fun hc => hno ⟨i, j, a, b, h2, h3, hc⟩
    have := inj_len (R := fun v y => Star (Bd es fun _ => false) v y) _ ((List.range V).filter r0) (hnd r1) (fun v hv => by
      obtain ⟨hvV, hr⟩ := (hmem1 v).1 hv
      obtain ⟨y, hy, hs, hrep⟩ := rep_ex es (fun _ => false) v rfl
      exact ⟨y, (hmem0 y).2 ⟨by omega, hrep⟩, hs⟩) (fun v v' y hv hv' hs hs' => by
      obtain ⟨hvV, hr⟩ := (hmem1 v).1 hv
      obtain ⟨hvV', hr'⟩ := (hmem1 v').1 hv'
      refine Rep.only hr hr' (star_cn'.2 ?_)
      have hvv : Star (Bd es fun _ => false) v v' := hs.trans (Conn.symm hs')
      rcases star_away (hne1 v hr) hvv with h | ⟨i, a, h2, h3⟩
      · exact h.2
      · rcases star_away (hne1 v' hr') (Conn.symm hvv) with h | ⟨j, b, h4, h5⟩
        · exact h.2.symm
        · exact h3.trans ((hA i j a b h2 h4).trans h5.symm))
    omega
  · rintro ⟨i, j, a, b, hi, hj, hc⟩
    have hax : a ≠ x := fun e => Df.En.ne hn hi e.symm
    have hbx : b ≠ x := fun e => Df.En.ne hn hj e.symm
    obtain ⟨p, hpa, hps, hpr⟩ := rep_ex es (fun t => decide (t = x)) a (by simpa using hax)
    obtain ⟨q, hqb, hqs, hqr⟩ := rep_ex es (fun t => decide (t = x)) b (by simpa using hbx)
    obtain ⟨o, hox, hos, hor⟩ := rep_ex es (fun _ => false) x rfl
    have hlt : ∀ {e u v : Nat}, Df.En es e u v → u < V ∧ v < V := fun {e u v} he => by
      have := hp.at he.1
      rcases he.2 with h | h <;> rw [h] at this
      · exact this
      · exact ⟨this.2, this.1⟩
    have haV := (hlt hi).2
    have hbV := (hlt hj).2
    have hpq : p ≠ q := fun e => by
      subst e
      exact hc ((star_cn'.1 hps).trans (star_cn'.1 hqs).symm)
    have hxa : Star (Bd es fun _ => false) x a := Star.refl.step (bd_all.2 ⟨i, hi⟩)
    have hxb : Star (Bd es fun _ => false) x b := Star.refl.step (bd_all.2 ⟨j, hj⟩)
    have hop : Star (Bd es fun _ => false) o p := (Conn.symm hos).trans (hxa.trans (cn_star (star_cn'.1 hps)))
    have hoq : Star (Bd es fun _ => false) o q := (Conn.symm hos).trans (hxb.trans (cn_star (star_cn'.1 hqs)))
    have hoin : o ∈ (List.range V).filter r0 := (hmem0 o).2 ⟨by omega, hor⟩
    have hAmem : ∀ v, v ∈ ((List.range V).filter r0).erase o ↔ v ≠ o ∧ v ∈ (List.range V).filter r0 := fun v => (hnd r0).mem_erase_iff
    have hnA : ∀ v, Star (Bd es fun _ => false) o v → v ∉ ((List.range V).filter r0).erase o := fun v hs hv => by
      obtain ⟨h2, h3⟩ := (hAmem v).1 hv
      exact h2 (Rep.only ((hmem0 v).1 h3).2 hor (Conn.symm hs))
    have hl := inj_len (R := fun v y => v = y) (p :: q :: ((List.range V).filter r0).erase o) ((List.range V).filter r1) (by
      rw [List.nodup_cons, List.nodup_cons]
      refine ⟨?_, hnA q hoq, (hnd r0).erase o⟩
      intro hm
      rcases List.mem_cons.1 hm with h | h
      · exact hpq h
      · exact hnA p hop h) (fun v hv => by
      refine ⟨v, ?_, rfl⟩
      rcases List.mem_cons.1 hv with h | h
      · subst h; exact (hmem1 _).2 ⟨by omega, hpr⟩
      · rcases List.mem_cons.1 h with h | h
        · subst h; exact (hmem1 _).2 ⟨by omega, hqr⟩
        · obtain ⟨h2, h3⟩ := (hAmem v).1 h
          obtain ⟨h4, h5⟩ := (hmem0 v).1 h3
          have hvx : v ≠ x := fun e => by
            subst e
            exact h2 (Rep.only h5 hor hos)
          exact (hmem1 v).2 ⟨h4, by simpa using hvx, fun y hy hs => h5.2 y hy (cn_star (star_cn'.1 hs))⟩) (fun v v' y _ _ e e' => e.trans e'.symm)
    rw [List.length_cons, List.length_cons, List.length_erase_of_mem hoin] at hl
    have := List.length_pos_of_mem hoin
    omega
end Go.Proofs.YthgmpnfecdnmiaaDoor.pt


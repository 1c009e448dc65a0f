/-
  Vertices, edges, faces, parts: the count of handles is a number, never less than nought. No conditions beyond each theorem's own.
-/
import Derived.Test.YtmklngabfdnclaaDoorQPt
import Derived.Test.YtmklngabfdnclaaDoorCy
import Derived.Test.YtmklngabfdnclaaDoorFc
namespace Go.Proofs.YtmklngabfdnclaaDoor.pt
open Go.RowKit
set_option linter.unusedVariables false
set_option maxRecDepth 20000

theorem inj_len {R : Nat → Nat → Prop} : ∀ (l1 l2 : List Nat), l1.Nodup → (∀ v ∈ l1, ∃ y ∈ l2, R v y) → (∀ v v' y, v ∈ l1 → v' ∈ l1 → R v y → R v' y → v = v') → l1.length ≤ l2.length := by
  intro l1
  induction l1 with
  | nil => intro l2 _ _ _; simp
  | cons v t ih =>
    intro l2 hn hm hi
    obtain ⟨y, hy, hR⟩ := hm v (by simp)
    rw [List.nodup_cons] at hn
    have := ih (l2.erase y) hn.2 (fun v' hv' => by
      obtain ⟨y', hy', hR'⟩ := hm v' (by simp [hv'])
      refine ⟨y', ?_, hR'⟩
      by_cases e : y' = y
      · subst e
        have := hi v v' y' (by simp) (by simp [hv']) hR hR'
        subst this
        exact absurd hv' hn.1
      · exact (List.mem_erase_of_ne e).2 hy') (fun a b c ha hb => hi a b c (by simp [ha]) (by simp [hb]))
    rw [List.length_erase_of_mem hy] at this
    have hpos := List.length_pos_of_mem hy
    simp
    omega

abbrev S0 (es : List (Nat × Nat)) : Nat → Nat → Prop := Star (Bd es fun _ => false)
abbrev R0 (es : List (Nat × Nat)) (v : Nat) : Prop := Rep es (fun _ => false) v
theorem bd0 {es : List (Nat × Nat)} {u v : Nat} : Bd es (fun _ => false) u v ↔ ((u, v) ∈ es ∨ (v, u) ∈ es) := by
  constructor
  · rintro ⟨e, he, _, _, h | h⟩
    · rw [h] at he; exact .inl he
    · rw [h] at he; exact .inr he
  · rintro (h | h)
    · exact ⟨_, h, rfl, rfl, .inl rfl⟩
    · exact ⟨_, h, rfl, rfl, .inr rfl⟩
theorem s0_more {es : List (Nat × Nat)} {e : Nat × Nat} {x y : Nat} (h : S0 es x y) : S0 (es ++ [e]) x y := Star.mono (fun i j h => by
  rw [bd0] at h ⊢
  rcases h with h | h
  · exact .inl (by simp [h])
  · exact .inr (by simp [h])) h
theorem s0_edge {es : List (Nat × Nat)} {u v : Nat} : S0 (es ++ [(u, v)]) u v := Star.refl.step (bd0.2 (.inl (by simp)))
theorem s0_snoc {es : List (Nat × Nat)} {u v x y : Nat} : S0 (es ++ [(u, v)]) x y ↔ (S0 es x y ∨ (S0 es x u ∧ S0 es v y) ∨ (S0 es x v ∧ S0 es u y)) := by
  constructor
  · intro h
    refine h (fun y => S0 es x y ∨ (S0 es x u ∧ S0 es v y) ∨ (S0 es x v ∧ S0 es u y)) (.inl .refl) ?_
    intro a b ha hr
    rw [bd0] at hr
    simp only [List.mem_append, List.mem_singleton, Prod.mk.injEq] at hr
    have hstep : ∀ {p : Nat}, S0 es p a → Bd es (fun _ => false) a b → S0 es p b := fun h1 h2 => h1.step h2
    rcases hr with (hr | ⟨rfl, rfl⟩) | (hr | ⟨rfl, rfl⟩)
    · have hb : Bd es (fun _ => false) a b := bd0.2 (.inl hr)
      rcases ha with h1 | ⟨h1, h2⟩ | ⟨h1, h2⟩
      · exact .inl (hstep h1 hb)
      · exact .inr (.inl ⟨h1, hstep h2 hb⟩)
      · exact .inr (.inr ⟨h1, hstep h2 hb⟩)
    · rcases ha with h1 | ⟨h1, h2⟩ | ⟨h1, h2⟩
      · exact .inr (.inl ⟨h1, .refl⟩)
      · exact .inr (.inl ⟨h1, .refl⟩)
      · exact .inl h1
    · have hb : Bd es (fun _ => false) a b := bd0.2 (.inr hr)
      rcases ha with h1 | ⟨h1, h2⟩ | ⟨h1, h2⟩
      · exact .inl (hstep h1 hb)
      · exact .inr (.inl ⟨h1, hstep h2 hb⟩)
      · exact .inr (.inr ⟨h1, hstep h2 hb⟩)
    · rcases ha with h1 | ⟨h1, h2⟩ | ⟨h1, h2⟩
      · exact .inr (.inr ⟨h1, .refl⟩)
      · exact .inl h1
      · exact .inr (.inr ⟨h1, .refl⟩)
  · rintro (h | ⟨h1, h2⟩ | ⟨h1, h2⟩)
    · exact s0_more h
    · exact (s0_more h1).trans (s0_edge.trans (s0_more h2))
    · exact (s0_more h1).trans ((Conn.symm s0_edge).trans (s0_more h2))
/-- the parts, counted -/
def IsCnt (V : Nat) (es : List (Nat × Nat)) (c : Nat) : Prop := ∃ r : Nat → Bool, (∀ v, v < V → (r v = true ↔ R0 es v)) ∧ ((List.range V).filter r).length = c
theorem IsCnt.only {V : Nat} {es : List (Nat × Nat)} {c c' : Nat} (h : IsCnt V es c) (h' : IsCnt V es c') : c = c' := by
  obtain ⟨r, h1, rfl⟩ := h
  obtain ⟨r', h2, rfl⟩ := h'
  congr 1
  refine List.filter_congr fun v hv => ?_
  have hv := List.mem_range.1 hv
  rw [Bool.eq_iff_iff, h1 v hv, h2 v hv]
theorem IsCnt.nil (V : Nat) : IsCnt V [] V := by
  refine ⟨fun _ => true, fun v hv => ⟨fun _ => ⟨rfl, fun y hy hs => ?_⟩, fun _ => rfl⟩, by rw [List.filter_eq_self.2 (fun _ _ => rfl), List.length_range]⟩
  have : v = y := hs (fun z => v = z) rfl fun a b h1 hr => by
    rw [bd0] at hr
    simp at hr
  omega
theorem cnt_ex (V : Nat) (es : List (Nat × Nat)) : ∃ c, IsCnt V es c := by
  classical
  exact ⟨_, fun v => decide (R0 es v), fun v _ => decide_eq_true_iff, rfl⟩
/-- an edge within a part leaves their count, one between two makes it one less -/
theorem IsCnt.edge {V : Nat} {es : List (Nat × Nat)} {u v c : Nat} (h : IsCnt V es c) (hu : u < V) (hv : v < V) : (S0 es u v → IsCnt V (es ++ [(u, v)]) c) ∧ (¬ S0 es u v → 0 < c ∧ IsCnt V (es ++ [(u, v)]) (c - 1)) := by
  obtain ⟨r, h1, rfl⟩ := h
  constructor
  · intro hs
    refine ⟨r, fun x hx => ?_, rfl⟩
    rw [h1 x hx]
    have key : ∀ y, S0 (es ++ [(u, v)]) x y ↔ S0 es x y := fun y => by
      rw [s0_snoc]
      constructor
      · rintro (h | ⟨h2, h3⟩ | ⟨h2, h3⟩)
        · exact h
        · exact h2.trans (hs.trans h3)
        · exact h2.trans ((Conn.symm hs).trans h3)
      · exact .inl
    constructor
    · exact fun h => ⟨rfl, fun y hy hs' => h.2 y hy ((key y).1 hs')⟩
    · exact fun h => ⟨rfl, fun y hy hs' => h.2 y hy ((key y).2 hs')⟩
  · intro hs
    obtain ⟨ru, hru, hsu, hpu⟩ := rep_ex es (fun _ => false) u rfl
    obtain ⟨rv, hrv, hsv, hpv⟩ := rep_ex es (fun _ => false) v rfl
    have hne : ru ≠ rv := fun e => by
      subst e
      exact hs (hsu.trans (Conn.symm hsv))
    have lo : ∀ {z p : Nat}, R0 es p → S0 es p z → p ≤ z := fun {z p} hp hz => Nat.le_of_not_lt fun hlt => hp.2 z hlt hz
    obtain ⟨cc, r', hr', hcc⟩ := cnt_ex V (es ++ [(u, v)])
    have main : ∀ m s, ((m = ru ∧ s = rv) ∨ (m = rv ∧ s = ru)) → s < m → ((List.range V).filter r').length + 1 = ((List.range V).filter r).length := by
      intro m s hms hsm
      have hmV : m < V := by rcases hms with ⟨rfl, _⟩ | ⟨rfl, _⟩ <;> omega
      have hmR : R0 es m := by rcases hms with ⟨rfl, _⟩ | ⟨rfl, _⟩; exact hpu; exact hpv
      refine Go.Proofs.YtmklngabfdnclaaDoor.filter_one (m := m) List.nodup_range (by simpa using hmV) ((h1 m hmV).2 hmR) ?_ ?_
      · cases hc : r' m with
        | false => rfl
        | true =>
          have := (hr' m hmV).1 hc
          refine absurd ?_ (this.2 s hsm)
          refine s0_snoc.2 ?_
          rcases hms with ⟨rfl, rfl⟩ | ⟨rfl, rfl⟩
          · exact .inr (.inl ⟨Conn.symm hsu, hsv⟩)
          · exact .inr (.inr ⟨Conn.symm hsv, hsu⟩)
      · intro x hx hxm
        have hxV := List.mem_range.1 hx
        rw [Bool.eq_iff_iff, hr' x hxV, h1 x hxV]
        constructor
        · exact fun h => ⟨rfl, fun y hy hs' => h.2 y hy (s0_more hs')⟩
        · refine fun h => ⟨rfl, fun y hy hs' => ?_⟩
          rcases s0_snoc.1 hs' with h2 | ⟨h2, h3⟩ | ⟨h2, h3⟩
          · exact h.2 y hy h2
          · have e1 : x = ru := Rep.only h hpu (h2.trans hsu)
            have e2 := lo hpv ((Conn.symm hsv).trans h3)
            rcases hms with ⟨e3, e4⟩ | ⟨e3, e4⟩ <;> omega
          · have e1 : x = rv := Rep.only h hpv (h2.trans hsv)
            have e2 := lo hpu ((Conn.symm hsu).trans h3)
            rcases hms with ⟨e3, e4⟩ | ⟨e3, e4⟩ <;> omega
    have hres : ((List.range V).filter r').length + 1 = ((List.range V).filter r).length := by
      rcases Nat.lt_or_ge ru rv with h | h
      · exact main rv ru (.inr ⟨rfl, rfl⟩) h
      · exact main ru rv (.inl ⟨rfl, rfl⟩) (by omega)
    exact ⟨by omega, r', hr', by omega⟩

/-- a rotation in plain numbers -/
structure Ro (V : Nat) (es : List (Nat × Nat)) (q : List (List Nat)) : Prop where
  len : q.length = V
  ends : ∀ i, i < es.length → (es.getD i (0, 0)).1 < V ∧ (es.getD i (0, 0)).2 < V
  lt : ∀ x, x < V → ∀ h ∈ q.getD x [], h < 2 * es.length
  st : ∀ x, x < V → ∀ h ∈ q.getD x [], (if h % 2 = 0 then (es.getD (h / 2) (0, 0)).1 else (es.getD (h / 2) (0, 0)).2) = x
  one : ∀ x, x < V → (q.getD x []).Nodup
  all : ∀ h, h < 2 * es.length → ∃ x, x < V ∧ h ∈ q.getD x []
/-- where a half edge stands -/
def stV (es : List (Nat × Nat)) (h : Nat) : Nat := if h % 2 = 0 then (es.getD (h / 2) (0, 0)).1 else (es.getD (h / 2) (0, 0)).2
theorem Ro.at {V : Nat} {es : List (Nat × Nat)} {q : List (List Nat)} (r : Ro V es q) {h : Nat} (hh : h < 2 * es.length) : stV es h < V ∧ h ∈ q.getD (stV es h) [] := by
  obtain ⟨x, hx, hm⟩ := r.all h hh
  have := r.st x hx h hm
  have e : stV es h = x := this
  rw [e]
  exact ⟨hx, hm⟩
/-- what comes next around its vertex -/
def suN (N : Nat → Nat) (j : Nat) : Nat := N (oth j)
theorem oth_inj {i j : Nat} (h : oth i = oth j) : i = j := by have := congrArg oth h; rwa [oth_oth, oth_oth] at this
section
variable {V : Nat} {es : List (Nat × Nat)} {q : List (List Nat)} {N : Nat → Nat}
theorem su_list (r : Ro V es q) (hN : Behind q N) {x i : Nat} (hx : x < V) (hi : i < (q.getD x []).length) : suN N ((q.getD x []).getD i 0) = (q.getD x []).getD ((i + 1) % (q.getD x []).length) 0 := hN x (by rw [r.len]; exact hx) i hi
theorem getD_in {l : List Nat} {i : Nat} (h : i < l.length) : l.getD i 0 ∈ l := by simp [List.getD, h]
theorem in_getD {l : List Nat} {h : Nat} (hm : h ∈ l) : ∃ i, i < l.length ∧ l.getD i 0 = h := by
  obtain ⟨i, hi, rfl⟩ := List.mem_iff_getElem.1 hm
  exact ⟨i, hi, by simp [List.getD, hi]⟩
theorem su_in (r : Ro V es q) (hN : Behind q N) {x h : Nat} (hx : x < V) (hm : h ∈ q.getD x []) : suN N h ∈ q.getD x [] := by
  obtain ⟨i, hi, rfl⟩ := in_getD hm
  rw [su_list r hN hx hi]
  exact getD_in (Nat.mod_lt _ (by omega))
theorem su_it (r : Ro V es q) (hN : Behind q N) {x i : Nat} (hx : x < V) (hi : i < (q.getD x []).length) : ∀ t, it (suN N) t ((q.getD x []).getD i 0) = (q.getD x []).getD ((i + t) % (q.getD x []).length) 0 := by
  intro t
  induction t with
  | zero => rw [Nat.add_zero, Nat.mod_eq_of_lt hi]; rfl
  | succ t ih =>
    show suN N (it (suN N) t _) = _
    rw [ih, su_list r hN hx (Nat.mod_lt _ (by omega))]
    congr 1
    rw [Nat.mod_add_mod, Nat.add_assoc]
theorem Pm.oth {H : Nat} (p : Pm N (2 * H)) : Pm (suN N) (2 * H) := ⟨fun j hj => p.lt _ (oth_lt hj), fun i j hi hj h => oth_inj (p.inj _ _ (oth_lt hi) (oth_lt hj) h)⟩
/-- the rounds of what comes next are the lists that aren't empty -/
theorem cyc_su (r : Ro V es q) (hN : Behind q N) (p : Pm (suN N) (2 * es.length)) : cyc (suN N) (2 * es.length) = ((List.range V).filter fun x => decide (q.getD x [] ≠ [])).length := by
  have horb : ∀ x, x < V → ∀ h ∈ q.getD x [], ∀ j ∈ orb (suN N) (2 * es.length) h, j ∈ q.getD x [] := fun x hx h hm => orb_in (U := fun j => j ∈ q.getD x []) (fun j hj => su_in r hN hx hj) hm
  have hreach : ∀ x, x < V → ∀ h ∈ q.getD x [], ∀ j ∈ q.getD x [], j ∈ orb (suN N) (2 * es.length) h := fun x hx h hm j hj => by
    obtain ⟨i, hi, rfl⟩ := in_getD hm
    obtain ⟨k, hk, rfl⟩ := in_getD hj
    have h1 := su_it r hN hx hi (k + (q.getD x []).length - i)
    rw [show i + (k + (q.getD x []).length - i) = k + (q.getD x []).length by omega, Nat.add_mod_right, Nat.mod_eq_of_lt hk] at h1
    rw [← h1]
    exact p.orb_it (r.lt x hx _ hm) _
  have hone : ∀ x y h, x < V → y < V → h ∈ q.getD x [] → h ∈ q.getD y [] → x = y := fun x y h hx hy h1 h2 => (r.st x hx h h1).symm.trans (r.st y hy h h2)
  refine Nat.le_antisymm ?_ ?_
  · refine inj_len (R := fun h x => x < V ∧ h ∈ q.getD x []) _ _ (List.nodup_range.sublist List.filter_sublist) (fun h hh => ?_) ?_
    · have hhH := List.mem_range.1 (List.mem_filter.1 hh).1
      obtain ⟨x, hx, hm⟩ := r.all h hhH
      refine ⟨x, ?_, hx, hm⟩
      rw [List.mem_filter, List.mem_range]
      refine ⟨hx, ?_⟩
      simp only [decide_eq_true_eq]
      intro e
      rw [e] at hm
      simp at hm
    · rintro h h' x hh hh' ⟨hx, hm⟩ ⟨_, hm'⟩
      have l1 := isLeast_iff.1 (List.mem_filter.1 hh).2 h' (hreach x hx h hm h' hm')
      have l2 := isLeast_iff.1 (List.mem_filter.1 hh').2 h (hreach x hx h' hm' h hm)
      omega
  · refine inj_len (R := fun x h => x < V ∧ h ∈ q.getD x []) _ _ (List.nodup_range.sublist List.filter_sublist) (fun x hx => ?_) ?_
    · rw [List.mem_filter, List.mem_range] at hx
      obtain ⟨hxV, hne⟩ := hx
      simp only [decide_eq_true_eq] at hne
      obtain ⟨h0, hm0⟩ := List.exists_mem_of_ne_nil _ hne
      have h0H := r.lt x hxV h0 hm0
      obtain ⟨l, hl, hll⟩ := p.least h0H
      refine ⟨l, ?_, hxV, horb x hxV h0 hm0 l hl⟩
      rw [List.mem_filter, List.mem_range]
      exact ⟨p.orb_lt h0H l hl, hll⟩
    · rintro x x' h hx hx' ⟨h1, h2⟩ ⟨h3, h4⟩
      exact hone x x' h h1 h3 h2 h4
theorem filter_split {f g : Nat → Bool} (h : ∀ x, f x = !g x) : ∀ l : List Nat, (l.filter f).length + (l.filter g).length = l.length := by
  intro l
  induction l with
  | nil => rfl
  | cons a t ih =>
    rw [List.filter_cons, List.filter_cons, h a, List.length_cons]
    cases g a <;> simp <;> omega
/-- the first k edges are crossed, the others aren't -/
def Nk (N : Nat → Nat) (k j : Nat) : Nat := if j < 2 * k then N j else suN N j
theorem nk_zero (N : Nat → Nat) : Nk N 0 = suN N := by funext j; simp [Nk]
theorem nk_succ (N : Nat → Nat) (k : Nat) : Nk N (k + 1) = fun j => Nk N k (sw (2 * k) (2 * k + 1) j) := by
  funext j
  unfold Nk
  by_cases h1 : j = 2 * k
  · subst h1
    rw [sw_a, if_pos (by omega), if_neg (by omega)]
    unfold suN
    congr 1
    unfold oth
    rw [if_neg (by omega)]
    omega
  · by_cases h2 : j = 2 * k + 1
    · subst h2
      rw [sw_b, if_pos (by omega), if_neg (by omega)]
      unfold suN
      congr 1
      unfold oth
      rw [if_pos (by omega)]
    · rw [sw_o h1 h2]
      by_cases h3 : j < 2 * k
      · rw [if_pos (by omega), if_pos h3]
      · rw [if_neg (by omega), if_neg h3]
theorem pm_nk {n : Nat} (p : Pm N (2 * n)) : ∀ k, k ≤ n → Pm (Nk N k) (2 * n) := by
  intro k
  induction k with
  | zero => intro _; rw [nk_zero]; exact Pm.oth p
  | succ k ih => intro hk; rw [nk_succ]; exact (ih (by omega)).swap (by omega) (by omega)
theorem it_congr {N M : Nat → Nat} {H : Nat} (p : Pm N H) (h : ∀ j, j < H → N j = M j) {x : Nat} (hx : x < H) : ∀ t, it N t x = it M t x := by
  intro t
  induction t with
  | zero => rfl
  | succ t ih => show N (it N t x) = M (it M t x); rw [← ih]; exact h _ (p.it_lt hx t)
theorem cyc_congr {N M : Nat → Nat} {H : Nat} (p : Pm N H) (h : ∀ j, j < H → N j = M j) : cyc N H = cyc M H := by
  unfold cyc
  congr 1
  refine List.filter_congr fun x hx => ?_
  have hx := List.mem_range.1 hx
  have hpr : Go.Proofs.YtmklngabfdnclaaDoor.pr N H x = Go.Proofs.YtmklngabfdnclaaDoor.pr M H x := by
    unfold Go.Proofs.YtmklngabfdnclaaDoor.pr
    congr 2
    funext t
    rw [it_congr p h hx (t + 1)]
  unfold isLeast orb
  rw [hpr]
  congr 1
  exact List.map_congr_left fun t _ => it_congr p h hx t
theorem stV_oth {es : List (Nat × Nat)} {j k : Nat} (hj : j < 2 * k) (hk : k ≤ es.length) : Bd (es.take k) (fun _ => false) (stV es j) (stV es (oth j)) := by
  rw [bd0]
  have hi : j / 2 < (es.take k).length := by rw [List.length_take]; omega
  have hm : es.getD (j / 2) (0, 0) ∈ es.take k := by
    have e : es.getD (j / 2) (0, 0) = (es.take k)[j / 2] := by
      rw [List.getElem_take]
      simp [List.getD, show j / 2 < es.length by omega]
    rw [e]
    exact List.getElem_mem hi
  unfold stV oth
  by_cases h0 : j % 2 = 0
  · rw [if_pos h0, if_pos h0, if_neg (by omega), show (j + 1) / 2 = j / 2 by omega]
    exact .inl hm
  · rw [if_neg h0, if_neg h0, if_pos (by omega), show (j - 1) / 2 = j / 2 by omega]
    exact .inr hm
theorem stV_su (r : Ro V es q) (hN : Behind q N) {j : Nat} (hj : j < 2 * es.length) : stV es (suN N j) = stV es j := by
  obtain ⟨h1, h2⟩ := r.at hj
  exact r.st _ h1 _ (su_in r hN h1 h2)
/-- along the rounds one stays in one part -/
theorem nk_part (r : Ro V es q) (hN : Behind q N) {k : Nat} (hk : k ≤ es.length) {j : Nat} (hj : j < 2 * es.length) : S0 (es.take k) (stV es j) (stV es (Nk N k j)) := by
  unfold Nk
  by_cases h : j < 2 * k
  · rw [if_pos h]
    have e : N j = suN N (oth j) := by unfold suN; rw [oth_oth]
    rw [e, stV_su r hN (oth_lt hj)]
    exact Star.refl.step (stV_oth h hk)
  · rw [if_neg h, stV_su r hN hj]
    exact .refl
theorem take_snoc' {es : List (Nat × Nat)} {k : Nat} (hk : k < es.length) : es.take (k + 1) = es.take k ++ [(stV es (2 * k), stV es (2 * k + 1))] := by
  rw [List.take_succ_eq_append_getElem hk]
  congr 2
  unfold stV
  rw [if_pos (by omega), if_neg (by omega), show 2 * k / 2 = k by omega, show (2 * k + 1) / 2 = k by omega]
  simp [List.getD, hk]
/-- twice the parts and the edges are the vertices, the faces, the lists that are empty, and twice the handles -/
theorem euler (r : Ro V es q) (hN : Behind q N) (p : Pm N (2 * es.length)) {c : Nat} (hc : IsCnt V es c) : ∃ m, 2 * c + es.length = V + cyc N (2 * es.length) + ((List.range V).filter fun x => decide (q.getD x [] = [])).length + 2 * m := by
  have key : ∀ k, k ≤ es.length → ∃ c m, IsCnt V (es.take k) c ∧ 2 * c + k = V + cyc (Nk N k) (2 * es.length) + ((List.range V).filter fun x => decide (q.getD x [] = [])).length + 2 * m := by
    intro k
    induction k with
    | zero =>
      intro _
      refine ⟨V, 0, by simpa using IsCnt.nil V, ?_⟩
      rw [nk_zero, cyc_su r hN (Pm.oth p)]
      have := filter_split (f := fun x => decide (q.getD x [] ≠ [])) (g := fun x => decide (q.getD x [] = [])) (fun x => by simp) (List.range V)
      rw [List.length_range] at this
      omega
    | succ k ih =>
      intro hk
      obtain ⟨c, m, h1, h2⟩ := ih (by omega)
      have pk := pm_nk p k (by omega)
      have ha : 2 * k < 2 * es.length := by omega
      have hb : 2 * k + 1 < 2 * es.length := by omega
      have hend := h1.edge (r.at ha).1 (r.at hb).1
      rw [← take_snoc' (by omega)] at hend
      rw [nk_succ]
      by_cases hs : S0 (es.take k) (stV es (2 * k)) (stV es (2 * k + 1))
      · rcases cyc_swap pk ha hb (by omega) with h3 | h3
        · exact ⟨c, m, hend.1 hs, by omega⟩
        · exact ⟨c, m + 1, hend.1 hs, by omega⟩
      · obtain ⟨h4, h5⟩ := hend.2 hs
        have h6 := cyc_merge pk ha hb (fun hm => hs (by
          have := orb_in (N := Nk N k) (H := 2 * es.length) (h := 2 * k) (U := fun j => j < 2 * es.length ∧ S0 (es.take k) (stV es (2 * k)) (stV es j)) (fun j hj => ⟨pk.lt j hj.1, hj.2.trans (nk_part r hN (by omega) hj.1)⟩) ⟨ha, .refl⟩ _ hm
          exact this.2))
        exact ⟨c - 1, m, h5, by omega⟩
  obtain ⟨c', m, h1, h2⟩ := key es.length (Nat.le_refl _)
  rw [List.take_length] at h1
  have := hc.only h1
  subst this
  refine ⟨m, ?_⟩
  rw [cyc_congr (pm_nk p es.length (Nat.le_refl _)) (M := N) (fun j hj => by unfold Nk; rw [if_pos hj])] at h2
  exact h2
end
end Go.Proofs.YtmklngabfdnclaaDoor.pt


/-
  Plain mathematics of new names: the kind of the fault stays, a cycle that is told is one, a source that is told is one. No conditions beyond each theorem's own.
-/
import Derived.Test.YtgbdnpmpkilcoaaLeastP
import Derived.Test.YtgbdnpmpkilcoaaRenL
import Derived.Test.YtgbdnpmpkilcoaaPlLeft
namespace Go.Proofs.Ytgbdnpmpkilcoaa
open Go.RowKit
set_option linter.unusedVariables false

/-- names: each number below n once -/
structure Nm (n : Nat) (ns : List Nat) : Prop where
  len : ns.length = n
  nodup : ns.Nodup
  lt : ∀ x ∈ ns, x < n
theorem Nm.mem {n : Nat} {ns : List Nat} (h : Nm n ns) {x : Nat} (hx : x < n) : ns.getD x 0 < n := by
  have hl := h.len
  refine h.lt _ ?_
  rw [show ns.getD x 0 = ns[x] by simp [List.getD, hl, hx]]
  exact List.getElem_mem _
theorem Nm.inj {n : Nat} {ns : List Nat} (h : Nm n ns) {x y : Nat} (hx : x < n) (hy : y < n) (e : ns.getD x 0 = ns.getD y 0) : x = y := by
  have hl := h.len
  rw [show ns.getD x 0 = ns[x] by simp [List.getD, hl, hx], show ns.getD y 0 = ns[y] by simp [List.getD, hl, hy]] at e
  exact (List.getElem_inj h.nodup).1 e
theorem Nm.surj {n : Nat} {ns : List Nat} (h : Nm n ns) {y : Nat} (hy : y < n) : ∃ x, x < n ∧ ns.getD x 0 = y := by
  obtain ⟨k, hk, e⟩ := mem_get (mem_toIs.1 (perm_all (perm_of_nat h.len h.nodup h.lt) y hy))
  exact ⟨k, by rw [← h.len]; exact hk, e⟩

theorem ren_at {ns : List Nat} {es : List (Nat × Nat)} {os : List Nat} {i : Nat} (hi : i < os.length) : Pl.at' (ren ns es os) i = renE ns es (os.getD i 0) := by
  simp [Pl.at', ren, List.getD, hi]
theorem ren_mem {ns : List Nat} {es : List (Nat × Nat)} {os : List Nat} (ho : Nm es.length os) {e' : Nat × Nat} : e' ∈ ren ns es os ↔ ∃ e ∈ es, e' = (ns.getD e.1 0, ns.getD e.2 0) := by
  constructor
  · intro h
    obtain ⟨i, hi, rfl⟩ := List.mem_map.1 h
    exact ⟨Pl.at' es i, Pl.at_mem (ho.lt i hi), rfl⟩
  · rintro ⟨e, he, rfl⟩
    obtain ⟨i, hi, rfl⟩ := Pl.mem_at he
    obtain ⟨k, hk, rfl⟩ := ho.surj hi
    refine List.mem_map.2 ⟨os.getD k 0, ?_, rfl⟩
    rw [show os.getD k 0 = os[k]'(by rw [ho.len]; exact hk) by simp [List.getD, ho.len, hk]]
    exact List.getElem_mem _
theorem ren_plain {V : Nat} {ns : List Nat} {es : List (Nat × Nat)} {os : List Nat} (hp : Plain V es) (hn : Nm V ns) (ho : Nm es.length os) : Plain V (ren ns es os) := by
  refine ⟨hp.v1, hp.v64, by rw [ren_length, ho.len]; exact hp.n128, ?_⟩
  intro e he
  obtain ⟨e0, h0, rfl⟩ := (ren_mem ho).1 he
  have := hp.ends e0 h0
  exact ⟨hn.mem this.1, hn.mem this.2⟩

/-- loops -/
theorem ixp_nonneg {n : Nat} {p : Nat → Bool} : 0 ≤ ixp n p ↔ ∃ j, j < n ∧ p j = true := by
  rcases ixp_cases n p with ⟨e, h⟩ | ⟨m, e, hm, h1, h2⟩
  · rw [e]
    constructor
    · intro h0; omega
    · rintro ⟨j, hj, hp⟩; rw [h j hj] at hp; cases hp
  · rw [e]
    exact ⟨fun _ => ⟨m, hm, h1⟩, fun _ => by omega⟩
theorem lp_iff {es : List (Nat × Nat)} : 0 ≤ lpI es ↔ ∃ e ∈ es, e.1 = e.2 := by
  unfold lpI
  rw [ixp_nonneg]
  constructor
  · rintro ⟨j, hj, h⟩
    rw [toI_getD] at h
    refine ⟨Pl.at' es j, Pl.at_mem hj, ?_⟩
    have : ((Pl.at' es j).1 : Int) = ((Pl.at' es j).2 : Int) := by simpa [Pl.at'] using h
    omega
  · rintro ⟨e, he, h⟩
    obtain ⟨j, hj, rfl⟩ := Pl.mem_at he
    refine ⟨j, hj, ?_⟩
    rw [toI_getD, beq_iff_eq]
    exact congrArg Int.ofNat h
/-- two equal edges -/
theorem tw_iff {es : List (Nat × Nat)} : 0 ≤ twI es ↔ ∃ i j, i < es.length ∧ j < es.length ∧ i ≠ j ∧ Pl.at' es i = Pl.at' es j := by
  unfold twI
  rw [ixp_nonneg]
  have key : ∀ i j, ((toI es).getD i (0, 0) == (toI es).getD j (0, 0)) = true ↔ Pl.at' es i = Pl.at' es j := by
    intro i j
    rw [toI_getD, toI_getD, beq_iff_eq]
    unfold Pl.at'
    constructor
    · intro h
      have h1 := congrArg Prod.fst h
      have h2 := congrArg Prod.snd h
      simp only at h1 h2
      exact Prod.ext (by omega) (by omega)
    · intro h; rw [h]
  constructor
  · rintro ⟨j, hj, h⟩
    obtain ⟨i, hi, h2⟩ := ixp_nonneg.1 (of_decide_eq_true h)
    exact ⟨i, j, by omega, hj, by omega, (key i j).1 h2⟩
  · rintro ⟨i, j, hi, hj, hne, h⟩
    rcases Nat.lt_or_gt_of_ne hne with hlt | hlt
    · exact ⟨j, hj, decide_eq_true (ixp_nonneg.2 ⟨i, hlt, (key i j).2 h⟩)⟩
    · exact ⟨i, hi, decide_eq_true (ixp_nonneg.2 ⟨j, hlt, (key j i).2 h.symm⟩)⟩

/-- a set in which each vertex has an edge to it from the set -/
def Round (V : Nat) (es : List (Nat × Nat)) (S : Nat → Prop) : Prop := (∃ x, S x) ∧ ∀ x, S x → x < V ∧ ∃ e ∈ es, e.2 = x ∧ S e.1
theorem start_round {V : Nat} {es : List (Nat × Nat)} (hp : Plain V es) : Pl.start V es ≠ none ↔ ∃ S, Round V es S := by
  constructor
  · intro h
    cases hs : Pl.start V es with
    | none => exact absurd hs h
    | some a0 =>
      refine ⟨Pl.Lf V es, ⟨a0, start_left hs⟩, fun x hx => ⟨hx.1, ?_⟩⟩
      obtain ⟨h1, i, hi, h2⟩ := Pl.left_tail hp.ends hx
      exact ⟨Pl.at' es i, Pl.at_mem hi, by rw [h2], by rw [h2]; exact h1⟩
  · rintro ⟨S, ⟨x, hx⟩, hS⟩ hn
    have hl : ∀ r y, S y → Pl.lft es r y = true := by
      intro r
      induction r with
      | zero => intro y _; rfl
      | succ r ih =>
        intro y hy
        obtain ⟨_, e, he, rfl, h1⟩ := hS y hy
        exact Pl.lftK_iff.2 ⟨e, he, rfl, ih _ h1, ih _ hy⟩
    have h2 := hl V x hx
    rw [Pl.lft_lf hp.ends (hS x hx).1] at h2
    have := List.find?_eq_none.1 hn x (List.mem_range.2 (hS x hx).1)
    exact this h2
theorem start_order {V : Nat} {es : List (Nat × Nat)} : Pl.start V es = none ↔ V ≤ (Pl.order V es).length := by
  obtain ⟨hr, _⟩ := Pl.order_run V es
  constructor
  · intro h
    have hall : ∀ x, x < V → x ∈ Pl.order V es := by
      intro x hx
      have := List.find?_eq_none.1 h x (List.mem_range.2 hx)
      simpa [Pl.lf] using this
    have key : ∀ (n : Nat) (l : List Nat), (∀ x, x < n → x ∈ l) → n ≤ l.length := by
      intro n
      induction n with
      | zero => intro l _; omega
      | succ n ih =>
        intro l hl
        have h1 := ih (l.filter (· != n)) (fun x hx => List.mem_filter.2 ⟨hl x (by omega), by simp; omega⟩)
        have h2 : (l.filter (· != n)).length < l.length := List.length_filter_lt_length_iff_exists.2 ⟨n, hl n (by omega), by simp⟩
        omega
    exact key V _ hall
  · intro h
    refine List.find?_eq_none.2 fun x hx => ?_
    have hxV := List.mem_range.1 hx
    intro hl
    have hn := Pl.lf_iff.1 hl
    have := Pl.nodup_le V (Pl.order V es ++ [x]) (Pl.nodup_snoc hr.nodup hn) (fun y hy => by
      simp at hy
      rcases hy with hy | rfl
      · exact hr.lt y hy
      · exact hxV)
    simp at this
    omega

/-- vertices without an edge to them -/
theorem bare_mem {V : Nat} {es : List (Nat × Nat)} {x : Nat} : x ∈ bare (Pl.ins es) V ↔ x < V ∧ ∀ e ∈ es, e.2 ≠ x := by
  unfold bare
  rw [List.mem_filter, List.mem_range]
  refine and_congr Iff.rfl ?_
  rw [List.isEmpty_iff, List.eq_nil_iff_forall_not_mem]
  constructor
  · intro h e he hx
    obtain ⟨i, hi, rfl⟩ := Pl.mem_at he
    exact h i (Pl.mem_sel.2 ⟨hi, by simpa using hx⟩)
  · intro h i hi
    obtain ⟨h1, h2⟩ := Pl.mem_sel.1 hi
    exact h _ (Pl.at_mem h1) (by simpa using h2)
theorem bare_nodup (L : Nat → List Nat) (V : Nat) : (bare L V).Nodup := List.nodup_range.sublist List.filter_sublist
theorem two_iff {l : List Nat} (hn : l.Nodup) : 1 < l.length ↔ ∃ x y, x ≠ y ∧ x ∈ l ∧ y ∈ l := by
  match l, hn with
  | [], _ => simp
  | [a], _ =>
    simp
  | a :: b :: l, hn =>
    refine ⟨fun _ => ⟨a, b, ?_, by simp, by simp⟩, fun _ => by simp⟩
    intro e
    simp [e] at hn

section
variable {V : Nat} {ns : List Nat} {es : List (Nat × Nat)} {os : List Nat}
theorem ren_lp (hp : Plain V es) (hn : Nm V ns) (ho : Nm es.length os) : 0 ≤ lpI (ren ns es os) ↔ 0 ≤ lpI es := by
  rw [lp_iff, lp_iff]
  constructor
  · rintro ⟨e', h, hh⟩
    obtain ⟨e, he, rfl⟩ := (ren_mem ho).1 h
    exact ⟨e, he, hn.inj (hp.ends e he).1 (hp.ends e he).2 hh⟩
  · rintro ⟨e, he, hh⟩
    exact ⟨_, (ren_mem ho).2 ⟨e, he, rfl⟩, by simp only; rw [hh]⟩
theorem renE_inj (hp : Plain V es) (hn : Nm V ns) {i j : Nat} (hi : i < es.length) (hj : j < es.length) (h : renE ns es i = renE ns es j) : Pl.at' es i = Pl.at' es j := by
  have h1 := congrArg Prod.fst h
  have h2 := congrArg Prod.snd h
  exact Prod.ext (hn.inj (hp.at hi).1 (hp.at hj).1 h1) (hn.inj (hp.at hi).2 (hp.at hj).2 h2)
theorem ren_tw (hp : Plain V es) (hn : Nm V ns) (ho : Nm es.length os) : 0 ≤ twI (ren ns es os) ↔ 0 ≤ twI es := by
  rw [tw_iff, tw_iff]
  have hl : (ren ns es os).length = es.length := by rw [ren_length, ho.len]
  rw [hl]
  constructor
  · rintro ⟨i, j, hi, hj, hne, h⟩
    rw [ren_at (by rw [ho.len]; exact hi), ren_at (by rw [ho.len]; exact hj)] at h
    exact ⟨_, _, ho.mem hi, ho.mem hj, fun e => hne (ho.inj hi hj e), renE_inj hp hn (ho.mem hi) (ho.mem hj) h⟩
  · rintro ⟨i, j, hi, hj, hne, h⟩
    obtain ⟨p, hp', rfl⟩ := ho.surj hi
    obtain ⟨q, hq, rfl⟩ := ho.surj hj
    refine ⟨p, q, hp', hq, fun e => hne (by rw [e]), ?_⟩
    rw [ren_at (by rw [ho.len]; exact hp'), ren_at (by rw [ho.len]; exact hq)]
    unfold renE
    rw [h]
theorem ren_start (hp : Plain V es) (hn : Nm V ns) (ho : Nm es.length os) : Pl.start V (ren ns es os) ≠ none ↔ Pl.start V es ≠ none := by
  rw [start_round (ren_plain hp hn ho), start_round hp]
  constructor
  · rintro ⟨S, ⟨x, hx⟩, hS⟩
    refine ⟨fun x => x < V ∧ S (ns.getD x 0), ?_, ?_⟩
    · obtain ⟨y, hy, rfl⟩ := hn.surj (hS x hx).1
      exact ⟨y, hy, hx⟩
    · rintro y ⟨hy, hsy⟩
      obtain ⟨_, e', he', h2, h3⟩ := hS _ hsy
      obtain ⟨e, he, rfl⟩ := (ren_mem ho).1 he'
      exact ⟨hy, e, he, hn.inj (hp.ends e he).2 hy h2, (hp.ends e he).1, h3⟩
  · rintro ⟨S, ⟨x, hx⟩, hS⟩
    refine ⟨fun y => ∃ x, S x ∧ y = ns.getD x 0, ⟨_, x, hx, rfl⟩, ?_⟩
    rintro y ⟨x, hx, rfl⟩
    obtain ⟨h1, e, he, rfl, h3⟩ := hS x hx
    exact ⟨hn.mem h1, _, (ren_mem ho).2 ⟨e, he, rfl⟩, rfl, _, h3, rfl⟩
theorem ren_bare (hp : Plain V es) (hn : Nm V ns) (ho : Nm es.length os) : 1 < (bare (Pl.ins (ren ns es os)) V).length ↔ 1 < (bare (Pl.ins es) V).length := by
  rw [two_iff (bare_nodup _ _), two_iff (bare_nodup _ _)]
  have key : ∀ x, x < V → (ns.getD x 0 ∈ bare (Pl.ins (ren ns es os)) V ↔ x ∈ bare (Pl.ins es) V) := by
    intro x hx
    rw [bare_mem, bare_mem]
    constructor
    · rintro ⟨_, h⟩
      exact ⟨hx, fun e he hh => h _ ((ren_mem ho).2 ⟨e, he, rfl⟩) (by simp only; rw [hh])⟩
    · rintro ⟨_, h⟩
      refine ⟨hn.mem hx, fun e' he' hh => ?_⟩
      obtain ⟨e, he, rfl⟩ := (ren_mem ho).1 he'
      exact h e he (hn.inj (hp.ends e he).2 hx hh)
  constructor
  · rintro ⟨x, y, hne, hx, hy⟩
    obtain ⟨p, hp', rfl⟩ := hn.surj (bare_mem.1 hx).1
    obtain ⟨q, hq, rfl⟩ := hn.surj (bare_mem.1 hy).1
    exact ⟨p, q, fun e => hne (by rw [e]), (key p hp').1 hx, (key q hq).1 hy⟩
  · rintro ⟨x, y, hne, hx, hy⟩
    have h1 := (bare_mem.1 hx).1
    have h2 := (bare_mem.1 hy).1
    exact ⟨_, _, fun e => hne (hn.inj h1 h2 e), (key x h1).2 hx, (key y h2).2 hy⟩

/-- the kind stays -/
theorem kind_stays (hp : Plain V es) (hn : Nm V ns) (ho : Nm es.length os) {c a c' a' : Int} {l l' : List Nat} (h : IsFault V es c a l) (h' : IsFault V (ren ns es os) c' a' l') : c = c' := by
  have k1 := ren_lp hp hn ho
  have k2 := ren_tw hp hn ho
  have k3 := ren_start hp hn ho
  have k4 := ren_bare hp hn ho
  rcases h with ⟨h1, rfl, _⟩ | ⟨h1, h2, rfl, _⟩ | ⟨h1, h2, rfl, _, a0, m, hs, _⟩ | ⟨h1, h2, hs, rfl, _, hb, _⟩ | ⟨h1, h2, hs, rfl, _, hb, _⟩ <;>
  rcases h' with ⟨g1, rfl, _⟩ | ⟨g1, g2, rfl, _⟩ | ⟨g1, g2, rfl, _, b0, k, gs, _⟩ | ⟨g1, g2, gs, rfl, _, gb, _⟩ | ⟨g1, g2, gs, rfl, _, gb, _⟩ <;>
  first | rfl | omega | (exfalso; rw [hs, gs] at k3; simp at k3)
end

/-- whether there is an order, by the kind -/
theorem kind_order {V : Nat} {es : List (Nat × Nat)} (hp : Plain V es) {c a : Int} {l : List Nat} (h : IsFault V es c a l) :
    ((c = 0 ∨ c = 16) ∧ V ≤ (Pl.order V es).length) ∨ ((c = 13 ∨ c = 15) ∧ (Pl.order V es).length < V) ∨ c = 14 := by
  rcases h with ⟨h1, rfl, _⟩ | ⟨h1, h2, rfl, _⟩ | ⟨h1, h2, rfl, _, a0, m, hs, _⟩ | ⟨h1, h2, hs, rfl, _, hb, _⟩ | ⟨h1, h2, hs, rfl, _, hb, _⟩
  · refine .inr (.inl ⟨.inl rfl, ?_⟩)
    obtain ⟨e, he, hh⟩ := lp_iff.1 h1
    have := (start_round hp).2 ⟨fun x => x = e.1, ⟨_, rfl⟩, fun x hx => by subst hx; exact ⟨(hp.ends e he).1, e, he, hh.symm, rfl⟩⟩
    rw [ne_eq, start_order] at this
    omega
  · exact .inr (.inr rfl)
  · refine .inr (.inl ⟨.inr rfl, ?_⟩)
    have : Pl.start V es ≠ none := by rw [hs]; simp
    rw [ne_eq, start_order] at this
    omega
  · exact .inl ⟨.inr rfl, start_order.1 hs⟩
  · exact .inl ⟨.inl rfl, start_order.1 hs⟩

theorem kind_sources {V : Nat} {es : List (Nat × Nat)} {a : Int} {l : List Nat} (h : IsFault V es 16 a l) {x : Nat} (hx : x ∈ l) : ∀ e ∈ es, e.2 ≠ x := by
  rcases h with ⟨h1, h2, _⟩ | ⟨h1, h2, h3, _⟩ | ⟨h1, h2, h3, _⟩ | ⟨h1, h2, hs, _, _, hb, rfl⟩ | ⟨h1, h2, hs, h3, _⟩
  · omega
  · omega
  · omega
  · exact (bare_mem.1 (List.mem_of_mem_take hx)).2
  · omega

/-- round the ring -/
theorem ring_back {V : Nat} {es : List (Nat × Nat)} (hp : Plain V es) {a0 : Nat} (hs : Pl.start V es = some a0) {j : Nat} (hj : j < (Pl.ring V es a0).length) :
    ((Pl.ring V es a0).getD ((j + 1) % (Pl.ring V es a0).length) 0, (Pl.ring V es a0).getD j 0) ∈ es := by
  obtain ⟨hw, hm⟩ := Pl.Way.ends hp.ends (V + 1) [] a0 (Pl.Way.nil (start_left hs)) (by simp)
  unfold Pl.ring at hj ⊢
  generalize hl : (Pl.walkF V es (V + 1) [] a0).1 = l at *
  generalize hx : (Pl.walkF V es (V + 1) [] a0).2 = x at *
  obtain ⟨p, hpp⟩ : ∃ p, l.findIdx (· == x) = p := ⟨_, rfl⟩
  have hplt : p < l.length := by rw [← hpp]; exact List.findIdx_lt_length_of_exists ⟨x, hm, by simp⟩
  have hpx : l.getD p 0 = x := by
    have := List.findIdx_getElem (p := (· == x)) (xs := l) (w := by rw [hpp]; exact hplt)
    simp only [beq_iff_eq] at this
    rw [show l.getD p 0 = l[p] by simp [List.getD, hplt]]
    simpa [hpp] using this
  rw [hpp] at hj ⊢
  have hlen : (l.drop p).length = l.length - p := by simp
  have hg : ∀ t, t < l.length - p → (l.drop p).getD t 0 = l.getD (p + t) 0 := by
    intro t ht
    simp [List.getD]
  rw [hlen] at hj ⊢
  have hc := hw.chain (p + j) (by omega)
  have hmem : l.getD (p + j) 0 ∈ l := by
    rw [show l.getD (p + j) 0 = l[p + j]'(by omega) by simp [List.getD, show p + j < l.length by omega]]
    exact List.getElem_mem _
  obtain ⟨_, i, hi, he⟩ := Pl.left_tail hp.ends (hw.left _ hmem)
  have hin := Pl.at_mem hi
  rw [he, hc] at hin
  rw [hg j hj]
  by_cases hlast : j + 1 < l.length - p
  · rw [Nat.mod_eq_of_lt hlast, hg _ hlast]
    rw [show (l ++ [x]).getD (p + j + 1) 0 = l.getD (p + (j + 1)) 0 by
      simp only [List.getD]
      rw [List.getElem?_append_left (by omega), Nat.add_assoc]] at hin
    exact hin
  · rw [show j + 1 = l.length - p by omega, Nat.mod_self, hg 0 (by omega), Nat.add_zero, hpx]
    rw [show (l ++ [x]).getD (p + j + 1) 0 = x by
      rw [show p + j + 1 = l.length by omega]
      simp [List.getD]] at hin
    exact hin
theorem kind_cycle {V : Nat} {es : List (Nat × Nat)} (hp : Plain V es) {a : Int} {l : List Nat} (h : IsFault V es 15 a l) {i : Nat} (hi : i < l.length) : (l.getD i 0, l.getD ((i + 1) % l.length) 0) ∈ es := by
  rcases h with ⟨h1, h2, _⟩ | ⟨h1, h2, h3, _⟩ | ⟨h1, h2, _, _, a0, m, hs, hm, rfl⟩ | ⟨h1, h2, hs, h3, _⟩ | ⟨h1, h2, hs, h3, _⟩
  · omega
  · omega
  · have hml := hm.1
    rw [Pl.turn_length] at hi ⊢
    have hL : 0 < (Pl.ring V es a0).length := by omega
    rw [Pl.turn_getD _ _ _ hi, Pl.turn_getD _ _ _ (Nat.mod_lt _ hL)]
    have := ring_back hp hs (j := (m + (Pl.ring V es a0).length - (i + 1) % (Pl.ring V es a0).length) % (Pl.ring V es a0).length) (Nat.mod_lt _ hL)
    generalize (Pl.ring V es a0).length = L at *
    rw [show ((m + L - (i + 1) % L) % L + 1) % L = (m + L - i) % L by
      by_cases h1 : i + 1 < L
      · rw [Nat.mod_eq_of_lt h1, Nat.mod_add_mod]
        congr 1
        omega
      · obtain rfl : L = i + 1 := by omega
        rw [Nat.mod_self, Nat.sub_zero, Nat.add_mod_right, Nat.mod_add_mod]
        congr 1
        omega] at this
    exact this
  · omega
  · omega
end Go.Proofs.Ytgbdnpmpkilcoaa

/-
  Plain mathematics: labels of edges that come together until two edges at a vertex, whose other ends hang together without it, have one: then each edge's label is the least edge of its block. No conditions beyond each theorem's own.
-/
import Derived.Test.YtbecmaandhadhaaDm
namespace Go.Proofs.Ytbecmaandhadhaa.Df
open Go.Proofs.Ytbecmaandhadhaa.Pl
set_option linter.unusedVariables false

def sm (m : Nat) (s : Nat → Nat) : Nat := ((List.range m).map s).sum
theorem sm_succ (m : Nat) (s : Nat → Nat) : sm (m + 1) s = sm m s + s m := by
  unfold sm
  rw [List.range_succ, List.map_append, List.sum_append]
  simp
theorem sm_le {m : Nat} {s s' : Nat → Nat} (h : ∀ t, t < m → s' t ≤ s t) : sm m s' ≤ sm m s := by
  induction m with
  | zero => simp [sm]
  | succ m ih =>
    rw [sm_succ, sm_succ]
    have h1 := ih fun t ht => h t (by omega)
    have h2 := h m (by omega)
    omega
theorem sm_lt {m : Nat} {s s' : Nat → Nat} (h : ∀ t, t < m → s' t ≤ s t) {x : Nat} (hx : x < m) (hl : s' x < s x) : sm m s' < sm m s := by
  induction m with
  | zero => omega
  | succ m ih =>
    rw [sm_succ, sm_succ]
    have h1 := sm_le (m := m) fun t ht => h t (by omega)
    have h2 := h m (by omega)
    by_cases hxm : x = m
    · subst hxm; omega
    · have := ih (fun t ht => h t (by omega)) (by omega)
      omega
theorem sm_congr {m : Nat} {s s' : Nat → Nat} (h : ∀ t, t < m → s' t = s t) : sm m s' = sm m s :=
  Nat.le_antisymm (sm_le fun t ht => by rw [h t ht]; exact Nat.le_refl _) (sm_le fun t ht => by rw [h t ht]; exact Nat.le_refl _)

/-- labels: each is an edge of the block, not above -/
structure Lb (es : Ed) (s : Nat → Nat) : Prop where
  le : ∀ i, i < es.length → s i ≤ i
  bk : ∀ i, i < es.length → Bk es i (s i)
theorem Lb.start (es : Ed) : Lb es fun i => i := ⟨fun _ _ => Nat.le_refl _, fun i _ => Eqc.refl _ i⟩
/-- two edges at x whose other ends hang together without it -/
def Sx (es : Ed) (x i k : Nat) : Prop := ∃ a b, En es i x a ∧ En es k x b ∧ Cn es x a b
theorem Sx.lt {es : Ed} {x i k : Nat} (h : Sx es x i k) : i < es.length ∧ k < es.length := by
  obtain ⟨a, b, h1, h2, _⟩ := h
  exact ⟨h1.1, h2.1⟩
theorem Sx.bk {es : Ed} {x i k : Nat} (h : Sx es x i k) : Bk es i k := by
  obtain ⟨a, b, h1, h2, h3⟩ := h
  exact .of ⟨x, a, b, h1, h2, h3⟩
/-- on the way through all: s0 at the beginning, s now, b: has a label changed, D: what is gone through -/
structure Ps (es : Ed) (s0 s : Nat → Nat) (b : Bool) (D : Nat → Nat → Nat → Prop) : Prop where
  lb : Lb es s
  le : sm es.length s ≤ sm es.length s0
  yes : b = true → sm es.length s < sm es.length s0
  no : b = false → ∀ x i k, D x i k → Sx es x i k → s i = s k
theorem Ps.start {es : Ed} {s : Nat → Nat} (h : Lb es s) : Ps es s s false fun _ _ _ => False := ⟨h, Nat.le_refl _, (fun e => by cases e), fun _ _ _ _ hf => hf.elim⟩
theorem Ps.to {es : Ed} {s0 s : Nat → Nat} {b : Bool} {D D' : Nat → Nat → Nat → Prop} (h : Ps es s0 s b D) (hD : ∀ x i k, D' x i k → Sx es x i k → D x i k) : Ps es s0 s b D' :=
  ⟨h.lb, h.le, h.yes, fun hb x i k hd hs => h.no hb x i k (hD x i k hd hs) hs⟩
theorem Ps.skip {es : Ed} {s0 s : Nat → Nat} {b : Bool} {D D' : Nat → Nat → Nat → Prop} (h : Ps es s0 s b D) {x i k : Nat} (hn : Sx es x i k → s i = s k) (hD : ∀ y j l, D' y j l → D y j l ∨ (y = x ∧ j = i ∧ l = k)) : Ps es s0 s b D' := by
  refine ⟨h.lb, h.le, h.yes, fun hb y j l hd hs => ?_⟩
  rcases hD y j l hd with h1 | ⟨rfl, rfl, rfl⟩
  · exact h.no hb y j l h1 hs
  · exact hn hs
theorem Ps.take {es : Ed} {s0 s : Nat → Nat} {b : Bool} {D : Nat → Nat → Nat → Prop} (h : Ps es s0 s b D) {x i k l : Nat} (hs : Sx es x i k) (hne : s i ≠ s k) (hl : l = min (s i) (s k)) (D' : Nat → Nat → Nat → Prop) :
    Ps es s0 (upd (upd s i l) k l) true D' := by
  obtain ⟨hi, hk⟩ := hs.lt
  have hik : i ≠ k := fun e => hne (by rw [e])
  have hli : l ≤ s i := by omega
  have hlk : l ≤ s k := by omega
  have b1 : Bk es i l := by
    rcases Nat.le_total (s i) (s k) with hc | hc
    · rw [show l = s i by omega]; exact h.lb.bk i hi
    · rw [show l = s k by omega]; exact hs.bk.trans (h.lb.bk k hk)
  have b2 : Bk es k l := hs.bk.symm.trans b1
  have hle : ∀ t, upd (upd s i l) k l t ≤ s t := by
    intro t
    unfold upd
    split
    · rename_i e; rw [e]; exact hlk
    · split
      · rename_i e; rw [e]; exact hli
      · exact Nat.le_refl _
  have hlt : sm es.length (upd (upd s i l) k l) < sm es.length s0 := by
    refine Nat.lt_of_lt_of_le ?_ h.le
    rcases Nat.lt_or_gt_of_ne hne with hc | hc
    · refine sm_lt (fun t _ => hle t) hk ?_
      rw [upd_same]; omega
    · refine sm_lt (fun t _ => hle t) hi ?_
      rw [upd_other _ _ hik, upd_same]; omega
  refine ⟨⟨fun t ht => Nat.le_trans (hle t) (h.lb.le t ht), fun t ht => ?_⟩, Nat.le_of_lt hlt, fun _ => hlt, fun e => by cases e⟩
  · unfold upd
    split
    · rename_i e; rw [e]; exact b2
    · split
      · rename_i e; rw [e]; exact b1
      · exact h.lb.bk t ht
/-- of each edge the least edge of its block -/
def IsLs (es : Ed) (s : Nat → Nat) : Prop := (∀ i, i < es.length → s i ≤ i ∧ Bk es i (s i)) ∧ ∀ i k, Bk es i k → s i = s k
theorem Ps.done {es : Ed} {s0 s : Nat → Nat} {D : Nat → Nat → Nat → Prop} (h : Ps es s0 s false D) (hD : ∀ x i k, Sx es x i k → D x i k) : IsLs es s := by
  refine ⟨fun i hi => ⟨h.lb.le i hi, h.lb.bk i hi⟩, fun i k hb => ?_⟩
  exact hb (fun i k => s i = s k) (fun _ => rfl) (fun _ _ h => h.symm) (fun _ _ _ h1 h2 => h1.trans h2) (fun i j ⟨x, a, b, h1, h2, h3⟩ => h.no rfl x i j (hD x i j ⟨a, b, h1, h2, h3⟩) ⟨a, b, h1, h2, h3⟩)
theorem IsLs.only {es : Ed} {s s' : Nat → Nat} (h : IsLs es s) (h' : IsLs es s') {i : Nat} (hi : i < es.length) : s i = s' i := by
  have key : ∀ {s s' : Nat → Nat}, IsLs es s → IsLs es s' → s i ≤ s' i := by
    intro s s' h h'
    obtain ⟨h1, h2⟩ := h'.1 i hi
    rw [h.2 i (s' i) h2]
    exact (h.1 (s' i) (by omega)).1
  exact Nat.le_antisymm (key h h') (key h' h)
theorem IsLs.lt {es : Ed} {s : Nat → Nat} (h : IsLs es s) {i : Nat} (hi : i < es.length) : s i < es.length := Nat.lt_of_le_of_lt (h.1 i hi).1 hi
theorem IsLs.fix {es : Ed} {s : Nat → Nat} (h : IsLs es s) {i : Nat} (hi : i < es.length) : s (s i) = s i := (h.2 i (s i) (h.1 i hi).2).symm
theorem IsLs.iff {es : Ed} {s : Nat → Nat} (h : IsLs es s) {i k : Nat} (hi : i < es.length) (hk : k < es.length) : s i = s k ↔ Bk es i k :=
  ⟨fun e => (h.1 i hi).2.trans (by rw [e]; exact (h.1 k hk).2.symm), h.2 i k⟩
end Go.Proofs.Ytbecmaandhadhaa.Df


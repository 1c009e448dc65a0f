/-
  Faces as plain lists: a function that is one to one on the numbers below H, its rounds, and the faces, each from its least number on. No conditions beyond each theorem's own.
-/
import Derived.Test.YtmklngabfdnclaaDoorMk
namespace Go.Proofs.YtmklngabfdnclaaDoor
open Go.RowKit
set_option linter.unusedVariables false
set_option maxRecDepth 20000

theorem nodup_le : ∀ (V : Nat) (l : List Nat), l.Nodup → (∀ x ∈ l, x < V) → l.length ≤ V := by
  intro V
  induction V with
  | zero =>
    intro l _ h
    cases l with
    | nil => simp
    | cons a l => exact absurd (h a (by simp)) (by omega)
  | succ V ih =>
    intro l hn h
    have h1 : (l.erase V).Nodup := hn.erase V
    have h2 : ∀ x ∈ l.erase V, x < V := by
      intro x hx
      have hx2 := (hn.mem_erase_iff).1 hx
      have := h x hx2.2
      have hne := hx2.1
      omega
    have h3 := ih _ h1 h2
    have h4 := List.length_erase (a := V) (l := l)
    split at h4 <;> omega
theorem nodup_snoc {l : List Nat} {x : Nat} (h : l.Nodup) (hx : x ∉ l) : (l ++ [x]).Nodup := by
  rw [List.nodup_append]
  refine ⟨h, by simp, ?_⟩
  intro a ha b hb
  simp at hb
  subst hb
  exact fun e => hx (e ▸ ha)

/-- so many steps on -/
def it (N : Nat → Nat) : Nat → Nat → Nat
  | 0, h => h
  | t + 1, h => N (it N t h)
theorem it_add (N : Nat → Nat) (s t h : Nat) : it N (s + t) h = it N s (it N t h) := by
  induction s with
  | zero => simp [it]
  | succ s ih => rw [Nat.succ_add]; simp [it, ih]
/-- one to one on the numbers below H -/
structure Pm (N : Nat → Nat) (H : Nat) : Prop where
  lt : ∀ j, j < H → N j < H
  inj : ∀ i j, i < H → j < H → N i = N j → i = j
theorem Pm.it_lt {N : Nat → Nat} {H : Nat} (p : Pm N H) {h : Nat} (hh : h < H) : ∀ t, it N t h < H := by
  intro t
  induction t with
  | zero => exact hh
  | succ t ih => exact p.lt _ ih
theorem Pm.it_inj {N : Nat → Nat} {H : Nat} (p : Pm N H) {i j : Nat} (hi : i < H) (hj : j < H) : ∀ t, it N t i = it N t j → i = j := by
  intro t
  induction t with
  | zero => exact id
  | succ t ih => exact fun h => ih (p.inj _ _ (p.it_lt hi t) (p.it_lt hj t) h)
/-- where two steps come to one number, the steps between come back -/
theorem Pm.back {N : Nat → Nat} {H : Nat} (p : Pm N H) {h : Nat} (hh : h < H) {s t : Nat} (hst : s ≤ t) (he : it N s h = it N t h) : it N (t - s) h = h := by
  have : it N s h = it N s (it N (t - s) h) := by rw [← it_add, show s + (t - s) = t by omega, he]
  exact (p.it_inj hh (p.it_lt hh _) s this).symm
theorem Pm.ret {N : Nat → Nat} {H : Nat} (p : Pm N H) {h : Nat} (hh : h < H) : ∃ t, t < H ∧ it N (t + 1) h = h := by
  refine Classical.byContradiction fun hno => ?_
  have hno : ∀ t, t < H → it N (t + 1) h ≠ h := fun t ht e => hno ⟨t, ht, e⟩
  have hnd : ((List.range (H + 1)).map fun t => it N t h).Nodup := by
    rw [List.nodup_iff_pairwise_ne, List.pairwise_map]
    have : (List.range (H + 1)).Pairwise (· < ·) := List.pairwise_lt_range
    refine List.Pairwise.imp_of_mem ?_ this
    intro a b ha hb hab he
    simp at ha hb
    have := p.back hh (Nat.le_of_lt hab) he
    refine hno (b - a - 1) (by omega) ?_
    rw [show b - a - 1 + 1 = b - a by omega]
    exact this
  have := nodup_le H _ hnd (by simp; exact fun a _ => p.it_lt hh a)
  simp at this
  omega
/-- how many steps a round has, less one -/
def pr (N : Nat → Nat) (H h : Nat) : Nat := ((List.range H).find? fun t => it N (t + 1) h == h).getD 0
/-- a round, from h on -/
def orb (N : Nat → Nat) (H h : Nat) : List Nat := (List.range (pr N H h + 1)).map fun t => it N t h
theorem Pm.pr {N : Nat → Nat} {H : Nat} (p : Pm N H) {h : Nat} (hh : h < H) : pr N H h < H ∧ it N (pr N H h + 1) h = h ∧ ∀ t, t < pr N H h → it N (t + 1) h ≠ h := by
  obtain ⟨t, ht, he⟩ := p.ret hh
  cases hf : (List.range H).find? fun t => it N (t + 1) h == h with
  | none =>
    rw [List.find?_eq_none] at hf
    exact absurd (by simpa using he) (hf t (by simpa using ht))
  | some i =>
    have := List.find?_range_eq_some.1 hf
    simp only [Go.Proofs.YtmklngabfdnclaaDoor.pr, hf, Option.getD_some]
    refine ⟨by simpa using this.2.1, by simpa using this.1, fun t ht => by simpa using this.2.2 t ht⟩
/-- it is what comes back first -/
theorem Pm.pr_is {N : Nat → Nat} {H : Nat} (p : Pm N H) {h : Nat} (hh : h < H) {t : Nat} (he : it N (t + 1) h = h) (hno : ∀ s, s < t → it N (s + 1) h ≠ h) : Go.Proofs.YtmklngabfdnclaaDoor.pr N H h = t := by
  obtain ⟨h1, h2, h3⟩ := p.pr hh
  rcases Nat.lt_trichotomy (Go.Proofs.YtmklngabfdnclaaDoor.pr N H h) t with hl | hl | hl
  · exact absurd h2 (hno _ hl)
  · exact hl
  · exact absurd he (h3 _ hl)
theorem mem_orb {N : Nat → Nat} {H h j : Nat} : j ∈ orb N H h ↔ ∃ t, t ≤ pr N H h ∧ it N t h = j := by
  unfold orb
  simp only [List.mem_map, List.mem_range]
  constructor
  · rintro ⟨t, ht, e⟩; exact ⟨t, by omega, e⟩
  · rintro ⟨t, ht, e⟩; exact ⟨t, by omega, e⟩
theorem it_mod {N : Nat → Nat} {h q : Nat} (he : it N q h = h) (hq : 0 < q) : ∀ t, it N t h = it N (t % q) h := by
  intro t
  induction t using Nat.strongRecOn with
  | ind t ih =>
    by_cases hlt : t < q
    · rw [Nat.mod_eq_of_lt hlt]
    · have h1 : it N ((t - q) + q) h = it N (t - q) h := by rw [it_add, he]
      rw [show t - q + q = t by omega] at h1
      rw [h1, ih (t - q) (by omega)]
      congr 1
      exact (Nat.mod_eq_sub_mod (by omega)).symm
theorem Pm.orb_it {N : Nat → Nat} {H : Nat} (p : Pm N H) {h : Nat} (hh : h < H) (t : Nat) : it N t h ∈ orb N H h := by
  obtain ⟨h1, h2, h3⟩ := p.pr hh
  rw [mem_orb]
  refine ⟨t % (Go.Proofs.YtmklngabfdnclaaDoor.pr N H h + 1), ?_, (it_mod h2 (by omega) t).symm⟩
  have := Nat.mod_lt t (show 0 < Go.Proofs.YtmklngabfdnclaaDoor.pr N H h + 1 by omega)
  omega
theorem Pm.orb_lt {N : Nat → Nat} {H : Nat} (p : Pm N H) {h : Nat} (hh : h < H) : ∀ j ∈ orb N H h, j < H := by
  intro j hj
  obtain ⟨t, _, rfl⟩ := mem_orb.1 hj
  exact p.it_lt hh t
theorem Pm.orb_nodup {N : Nat → Nat} {H : Nat} (p : Pm N H) {h : Nat} (hh : h < H) : (orb N H h).Nodup := by
  obtain ⟨h1, h2, h3⟩ := p.pr hh
  unfold orb
  rw [List.nodup_iff_pairwise_ne, List.pairwise_map]
  refine List.Pairwise.imp_of_mem ?_ List.pairwise_lt_range
  intro a b ha hb hab he
  simp at ha hb
  refine h3 (b - a - 1) (by omega) ?_
  rw [show b - a - 1 + 1 = b - a by omega]
  exact p.back hh (Nat.le_of_lt hab) he
/-- of one round -/
theorem Pm.sym {N : Nat → Nat} {H : Nat} (p : Pm N H) {h j : Nat} (hh : h < H) (hj : j ∈ orb N H h) : h ∈ orb N H j := by
  obtain ⟨h1, h2, h3⟩ := p.pr hh
  obtain ⟨t, ht, rfl⟩ := mem_orb.1 hj
  have : it N (Go.Proofs.YtmklngabfdnclaaDoor.pr N H h + 1 - t) (it N t h) = h := by
    rw [← it_add, show Go.Proofs.YtmklngabfdnclaaDoor.pr N H h + 1 - t + t = Go.Proofs.YtmklngabfdnclaaDoor.pr N H h + 1 by omega]
    exact h2
  have h4 := p.orb_it (p.it_lt hh t) (Go.Proofs.YtmklngabfdnclaaDoor.pr N H h + 1 - t)
  rw [this] at h4
  exact h4
theorem Pm.trans {N : Nat → Nat} {H : Nat} (p : Pm N H) {h j k : Nat} (hh : h < H) (hj : j ∈ orb N H h) (hk : k ∈ orb N H j) : k ∈ orb N H h := by
  obtain ⟨t, ht, rfl⟩ := mem_orb.1 hj
  obtain ⟨s, hs, rfl⟩ := mem_orb.1 hk
  rw [← it_add]
  exact p.orb_it hh _
/-- the least of its round -/
def isLeast (N : Nat → Nat) (H h : Nat) : Bool := (orb N H h).all fun j => decide (h ≤ j)
theorem isLeast_iff {N : Nat → Nat} {H h : Nat} : isLeast N H h = true ↔ ∀ j ∈ orb N H h, h ≤ j := by simp [isLeast]
/-- the faces from the numbers below k -/
def facesF (N : Nat → Nat) (H k : Nat) : List (List Nat) := ((List.range k).filter fun h => isLeast N H h).map fun h => orb N H h
theorem facesF_succ (N : Nat → Nat) (H k : Nat) : facesF N H (k + 1) = facesF N H k ++ if isLeast N H k then [orb N H k] else [] := by
  unfold facesF
  rw [List.range_succ, List.filter_append, List.map_append]
  congr 1
  cases h : isLeast N H k <;> simp [h]
/-- gone: in a round of a number below k -/
def gn (N : Nat → Nat) (H k j : Nat) : Prop := ∃ h, h < k ∧ j ∈ orb N H h
theorem Pm.gn_iff {N : Nat → Nat} {H : Nat} (p : Pm N H) {k : Nat} (hk : k < H) : gn N H k k ↔ isLeast N H k = false := by
  rw [← Bool.not_eq_true, isLeast_iff]
  constructor
  · rintro ⟨h, hh, hj⟩ hl
    have := hl h (p.sym (by omega) hj)
    omega
  · intro hno
    refine Classical.byContradiction fun hg => hno fun j hj => ?_
    refine Nat.le_of_not_lt fun hlt => hg ⟨j, hlt, p.sym hk hj⟩
theorem facesF_len (N : Nat → Nat) (H k : Nat) : (facesF N H k).length ≤ k := by
  unfold facesF
  rw [List.length_map]
  exact Nat.le_trans (List.length_filter_le _ _) (by simp)
end Go.Proofs.YtmklngabfdnclaaDoor


/-
  Plain mathematics: the ends of edges, rising; what sorting and leaving out what comes twice come to. No conditions beyond each theorem's own.
-/
import Derived.Test.YtbecmaandhadhaaBs
import Derived.Lib.SlicesCompact
namespace Go.Proofs.Ytbecmaandhadhaa
open Go.Proofs.Ytbecmaandhadhaa.Pl Go.Proofs.Ytbecmaandhadhaa.Df
set_option linter.unusedVariables false

theorem mem_compact {zs : List Int} {x : Int} : x ∈ Lib.compact zs ↔ x ∈ zs := by
  unfold Lib.compact Lib.compactUpTo
  simp only [List.mem_map, List.mem_filter, List.mem_range]
  constructor
  · rintro ⟨m, ⟨hm, _⟩, rfl⟩
    rw [getElem!_pos _ m (by simpa using hm)]
    simp
  · intro hx
    -- the first place of x
    have key : ∀ n m, m = n → m < zs.length → zs.toArray[m]! = x → ∃ k, (k < zs.length ∧ Lib.keeps zs.toArray k = true) ∧ zs.toArray[k]! = x := by
      intro n
      induction n with
      | zero =>
        intro m hm hl he
        exact ⟨m, ⟨hl, Lib.keeps_lt_one _ m (by omega)⟩, he⟩
      | succ n ih =>
        intro m hm hl he
        by_cases hk : zs.toArray[m]! = zs.toArray[m - 1]!
        · exact ih (m - 1) (by omega) (by omega) (by rw [← hk]; exact he)
        · exact ⟨m, ⟨hl, Lib.keeps_pos hk⟩, he⟩
    obtain ⟨m, hm, rfl⟩ := List.mem_iff_getElem.1 hx
    obtain ⟨k, hk, he⟩ := key m m rfl hm (by rw [getElem!_pos _ m (by simpa using hm)]; simp)
    exact ⟨k, hk, he⟩
theorem compact_lt {zs : List Int} (h : zs.Pairwise (· ≤ ·)) : (Lib.compact zs).Pairwise (· < ·) := by
  unfold Lib.compact Lib.compactUpTo
  rw [List.pairwise_map]
  have hr : ((List.range zs.length).filter (Lib.keeps zs.toArray)).Pairwise (· < ·) := List.Pairwise.sublist List.filter_sublist List.pairwise_lt_range
  have hm : ((List.range zs.length).filter (Lib.keeps zs.toArray)).Pairwise fun i j => (i < zs.length ∧ Lib.keeps zs.toArray i = true) ∧ (j < zs.length ∧ Lib.keeps zs.toArray j = true) := by
    rw [List.pairwise_iff_getElem]
    intro i j hi hj _
    have h1 := List.mem_filter.1 (List.getElem_mem hi)
    have h2 := List.mem_filter.1 (List.getElem_mem hj)
    exact ⟨⟨List.mem_range.1 h1.1, h1.2⟩, ⟨List.mem_range.1 h2.1, h2.2⟩⟩
  refine (hr.and hm).imp fun {i j} ⟨hij, ⟨hi, _⟩, hj, hkj⟩ => ?_
  have hle : ∀ a b, (ha : a < zs.length) → (hb : b < zs.length) → a ≤ b → zs[a] ≤ zs[b] := by
    intro a b ha hb hab
    by_cases e : a = b
    · subst e; exact Int.le_refl _
    · exact List.pairwise_iff_getElem.1 h a b ha hb (by omega)
  have hne : zs.toArray[j]! ≠ zs.toArray[j - 1]! := by
    intro e
    have := Lib.keeps_neg (d := zs.toArray) (m := j) (by omega) e
    rw [this] at hkj
    cases hkj
  rw [getElem!_pos _ j (by simpa using hj), getElem!_pos _ (j - 1) (by simp; omega)] at hne
  rw [getElem!_pos _ i (by simpa using hi), getElem!_pos _ j (by simpa using hj)]
  simp only [List.getElem_toArray] at hne ⊢
  have h1 := hle i (j - 1) hi (by omega) (by omega)
  have h2 := hle (j - 1) j (by omega) hj (by omega)
  omega

/-- has a list of edges one at x? -/
def hasAt (es : Ed) (B : List Nat) (x : Nat) : Bool := B.any fun i => (at' es i).1 == x || (at' es i).2 == x
theorem hasAt_iff {es : Ed} {B : List Nat} {x : Nat} : hasAt es B x = true ↔ ∃ i ∈ B, (at' es i).1 = x ∨ (at' es i).2 = x := by
  unfold hasAt
  simp
/-- the vertices at which edges are, rising -/
def endsOf (V : Nat) (es : Ed) (B : List Nat) : List Nat := (List.range V).filter (hasAt es B)
theorem mem_endsOf {V : Nat} {es : Ed} {B : List Nat} {x : Nat} : x ∈ endsOf V es B ↔ x < V ∧ hasAt es B x = true := by simp [endsOf]
theorem endsOf_lt (V : Nat) (es : Ed) (B : List Nat) : (endsOf V es B).Pairwise (· < ·) := List.Pairwise.sublist List.filter_sublist List.pairwise_lt_range
theorem endsOf_len (V : Nat) (es : Ed) (B : List Nat) : (endsOf V es B).length ≤ V := by
  have := List.length_filter_le (hasAt es B) (List.range V)
  simpa [endsOf] using this
/-- tails and heads, by turns -/
def evs (es : Ed) (B : List Nat) : List Nat := B.flatMap fun i => [(at' es i).1, (at' es i).2]
theorem evs_snoc (es : Ed) (B : List Nat) (i : Nat) : evs es (B ++ [i]) = evs es B ++ [(at' es i).1, (at' es i).2] := by simp [evs]
theorem evs_len (es : Ed) (B : List Nat) : (evs es B).length = B.length * 2 := by
  induction B with
  | nil => rfl
  | cons i B ih =>
    have : evs es (i :: B) = [(at' es i).1, (at' es i).2] ++ evs es B := by simp [evs]
    rw [this, List.length_append, ih]
    simp
    omega
theorem mem_evs {es : Ed} {B : List Nat} {x : Nat} : x ∈ evs es B ↔ hasAt es B x = true := by
  rw [hasAt_iff]
  simp only [evs, List.mem_flatMap, List.mem_cons, List.not_mem_nil, or_false]
  constructor
  · rintro ⟨i, hi, h | h⟩
    · exact ⟨i, hi, .inl h.symm⟩
    · exact ⟨i, hi, .inr h.symm⟩
  · rintro ⟨i, hi, h | h⟩
    · exact ⟨i, hi, .inl h.symm⟩
    · exact ⟨i, hi, .inr h.symm⟩
theorem ends_compact {V : Nat} {es : Ed} {B : List Nat} (hb : ∀ x ∈ evs es B, x < V) : Lib.compact (toIs (srt (evs es B))) = toIs (endsOf V es B) := by
  have h1 : (toIs (srt (evs es B))).Pairwise (· ≤ ·) := by
    unfold toIs
    rw [List.pairwise_map]
    exact (srt_le _).imp fun {a b} hab => by omega
  have h2 := compact_lt h1
  have h3 : (toIs (endsOf V es B)).Pairwise (· < ·) := by
    unfold toIs
    rw [List.pairwise_map]
    exact (endsOf_lt V es B).imp fun {a b} hab => by omega
  have nd : ∀ {l : List Int}, l.Pairwise (· < ·) → l.Nodup := fun hl => hl.imp fun {a b} hab => by omega
  have hp : (Lib.compact (toIs (srt (evs es B)))).Perm (toIs (endsOf V es B)) := by
    refine (List.perm_ext_iff_of_nodup (nd h2) (nd h3)).2 fun x => ?_
    rw [mem_compact]
    unfold toIs
    simp only [List.mem_map]
    constructor
    · rintro ⟨y, hy, rfl⟩
      have := (srt_perm _).mem_iff.1 hy
      exact ⟨y, mem_endsOf.2 ⟨hb y this, mem_evs.1 this⟩, rfl⟩
    · rintro ⟨y, hy, rfl⟩
      exact ⟨y, (srt_perm _).mem_iff.2 (mem_evs.2 (mem_endsOf.1 hy).2), rfl⟩
  exact List.Perm.eq_of_pairwise (le := (· < ·)) (fun a b _ _ h1 h2 => by omega) h2 h3 hp
end Go.Proofs.Ytbecmaandhadhaa


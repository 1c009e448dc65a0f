/-
  Plain mathematics: the blocks, told by each edge's least edge, are the blocks. No conditions beyond each theorem's own.
-/
import Derived.Test.YtbecmaandhadhaaRb
import Derived.Test.YtbecmaandhadhaaBs
namespace Go.Proofs.Ytbecmaandhadhaa
open Go.Proofs.Ytbecmaandhadhaa.Pl Go.Proofs.Ytbecmaandhadhaa.Df
set_option linter.unusedVariables false

/-- the edges whose least edge is i; the least edges; both -/
def clF (m : Nat) (s : Nat → Nat) (i : Nat) : List Nat := (List.range m).filter fun k => s k == i
def leF (m : Nat) (s : Nat → Nat) : List Nat := (List.range m).filter fun i => s i == i
def blF (m : Nat) (s : Nat → Nat) : List (List Nat) := (leF m s).map (clF m s)
theorem mem_clF {m : Nat} {s : Nat → Nat} {i k : Nat} : k ∈ clF m s i ↔ k < m ∧ s k = i := by simp [clF]
theorem mem_leF {m : Nat} {s : Nat → Nat} {i : Nat} : i ∈ leF m s ↔ i < m ∧ s i = i := by simp [leF]
theorem clF_lt (m : Nat) (s : Nat → Nat) (i : Nat) : (clF m s i).Pairwise (· < ·) := List.pairwise_lt_range.sublist List.filter_sublist
theorem leF_lt (m : Nat) (s : Nat → Nat) : (leF m s).Pairwise (· < ·) := List.pairwise_lt_range.sublist List.filter_sublist
theorem least_head {l : List Nat} (h : l.Pairwise (· < ·)) {i : Nat} (hi : i ∈ l) (hl : ∀ k ∈ l, i ≤ k) : l.getD 0 0 = i := by
  cases l with
  | nil => simp at hi
  | cons a l =>
    show a = i
    have h1 := hl a (by simp)
    rcases List.mem_cons.1 hi with e | e
    · exact e.symm
    · have := (List.pairwise_cons.1 h).1 i e
      omega
theorem IsLs.bl {es : Ed} {s : Nat → Nat} (h : IsLs es s) : IsBl es (blF es.length s) := by
  have hhd : ∀ i ∈ leF es.length s, (clF es.length s i).getD 0 0 = i := fun i hi => by
    obtain ⟨h1, h2⟩ := mem_leF.1 hi
    refine least_head (clF_lt _ _ _) (mem_clF.2 ⟨h1, h2⟩) fun k hk => ?_
    obtain ⟨k1, k2⟩ := mem_clF.1 hk
    rw [← k2]
    exact (h.1 k k1).1
  refine ⟨⟨?_, fun e => ?_, fun B hB => ?_, fun B hB i hi j hj => ?_⟩, fun B hB => ?_, ?_⟩
  · rw [List.nodup_iff_pairwise_ne, List.pairwise_flatten]
    refine ⟨fun B hB => ?_, ?_⟩
    · obtain ⟨i, hi, rfl⟩ := List.mem_map.1 hB
      exact (clF_lt _ _ _).imp fun {a b} hab => by omega
    · unfold blF
      rw [List.pairwise_map]
      refine (leF_lt _ _).imp fun {i j} hij => ?_
      intro a ha b hb e
      subst e
      have h1 := (mem_clF.1 ha).2
      have h2 := (mem_clF.1 hb).2
      omega
  · rw [List.mem_flatten]
    constructor
    · rintro ⟨B, hB, he⟩
      obtain ⟨i, hi, rfl⟩ := List.mem_map.1 hB
      exact (mem_clF.1 he).1
    · intro he
      exact ⟨_, List.mem_map.2 ⟨s e, mem_leF.2 ⟨h.lt he, h.fix he⟩, rfl⟩, mem_clF.2 ⟨he, rfl⟩⟩
  · obtain ⟨i, hi, rfl⟩ := List.mem_map.1 hB
    obtain ⟨h1, h2⟩ := mem_leF.1 hi
    intro e
    have := mem_clF.2 ⟨h1, h2⟩
    rw [e] at this
    simp at this
  · obtain ⟨t, ht, rfl⟩ := List.mem_map.1 hB
    obtain ⟨i1, i2⟩ := mem_clF.1 hi
    rw [mem_clF, ← h.iff i1 hj, i2]
    exact ⟨fun e => e.2.symm, fun e => ⟨hj, e.symm⟩⟩
  · obtain ⟨t, ht, rfl⟩ := List.mem_map.1 hB
    exact clF_lt _ _ _
  · unfold blF
    rw [List.pairwise_map]
    have hmm : (leF es.length s).Pairwise fun A B => A ∈ leF es.length s ∧ B ∈ leF es.length s := by
      rw [List.pairwise_iff_getElem]
      intro i j hi hj _
      exact ⟨List.getElem_mem hi, List.getElem_mem hj⟩
    refine ((leF_lt _ _).and hmm).imp fun {a b} ⟨h1, h2, h3⟩ => ?_
    rw [hhd a h2, hhd b h3]
    exact h1
end Go.Proofs.Ytbecmaandhadhaa


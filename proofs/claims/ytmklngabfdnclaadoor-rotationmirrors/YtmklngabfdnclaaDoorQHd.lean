/-
  The contract of reach.heads: for each vertex the set of the heads of the edges from it. Conditions: the edges lie in memory as told, their ends are vertices.
-/
import Derived.Test.YtmklngabfdnclaaDoorQMem
namespace Go.Proofs.YtmklngabfdnclaaDoor.pt
open Go.RowKit
set_option linter.unusedVariables false

/-- the heads of the edges from a vertex -/
def hdS (es : List (Nat × Nat)) (x : Nat) : Nat := ofS ((es.filter fun e => e.1 == x).map fun e => (e.2 : Int))
theorem hdS_lt (es : List (Nat × Nat)) (x : Nat) : hdS es x < 18446744073709551616 := ofS_lt _
theorem testBit_hdS (es : List (Nat × Nat)) (x j : Nat) : (hdS es x).testBit j = decide (j < 64 ∧ (x, j) ∈ es) := by
  unfold hdS
  rw [testBit_ofS]
  congr 1
  apply propext
  simp only [List.mem_map, List.mem_filter, beq_iff_eq]
  constructor
  · rintro ⟨h, ⟨p, q⟩, ⟨h1, rfl⟩, h2⟩
    refine ⟨h, ?_⟩
    have : q = j := by simp at h2; omega
    subst this
    exact h1
  · rintro ⟨h, h1⟩
    exact ⟨h, (x, j), ⟨h1, rfl⟩, rfl⟩
theorem hdS_snoc (es : List (Nat × Nat)) (p q x : Nat) : hdS (es ++ [(p, q)]) x = if x = p then hdS es x ||| bitI (q : Int) else hdS es x := by
  unfold hdS
  rw [List.filter_append]
  by_cases h : x = p
  · subst h
    simp [ofS_snoc]
  · have h' : ¬ p = x := fun e => h e.symm
    simp [h, h']
theorem take_snoc (es : List (Nat × Nat)) (k : Nat) (h : k < es.length) : es.take (k + 1) = es.take k ++ [es.getD k (0, 0)] := by
  rw [List.take_add_one]
  simp [List.getD, h]
theorem hdS_step (es : List (Nat × Nat)) (k p q : Nat) (h : k < es.length) (he : es.getD k (0, 0) = (p, q)) : hdS (es.take (k + 1)) = upd (hdS (es.take k)) p (hdS (es.take k) p ||| bitI (q : Int)) := by
  funext x
  rw [take_snoc es k h, he, hdS_snoc]
  unfold upd
  split
  · rename_i hx; rw [hx]
  · rfl

/-- all ways come to one goal -/
theorem in_one {G p : Prop} (h : G) (k : G → p) : p := k h
theorem ns_one' (w : World) (x : Int) (g : Nat) (hg : g = w.heap.size) : Ns (w.alloc (.cells #[.int .i64 x] 3)) (some ⟨g, 0, none⟩) 1 [x] := by
  subst hg
  exact ns_one w x

end Go.Proofs.YtmklngabfdnclaaDoor.pt

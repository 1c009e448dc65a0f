/-
  Plain lemmas that the walk of peel wants: the first 0 among what vertices wait for. No conditions beyond each theorem's own.
-/
import Derived.Test.YtdkchihomllokaaVw
import Derived.OwnWalk
namespace Go.Proofs.Ytdkchihomllokaa
open Go.RowKit
set_option linter.unusedVariables false

def lenV : Value → Nat
  | .slice _ n _ => n
  | _ => 0
def listOf (V : Nat) (f : Nat → Int) : List Int := (List.range V).map f
theorem listOf_length (V : Nat) (f : Nat → Int) : (listOf V f).length = V := by simp [listOf]
theorem listOf_getD (V : Nat) (f : Nat → Int) {t : Nat} (ht : t < V) : (listOf V f).getD t 0 = f t := by simp [listOf, List.getD, ht]
theorem RowAt.ns {w : World} {g n : Nat} {f : Nat → Int} (h : RowAt w g 0 n f) (hn : n ≤ 100000) : Ns w (some ⟨g, 0, none⟩) n (listOf n f) := by
  refine ⟨listOf_length n f, by omega, fun k hk => ⟨g, 0, rfl, h.lt, ?_⟩⟩
  rw [h.cell hk, listOf_getD n f hk]
theorem RowAt.of_owns {w : World} {base g n cap : Nat} {xs : List Int} (h : w.ownsRow base 3 1 (.slice (some ⟨g, 0, none⟩) n cap) n (zcells xs)) : RowAt w g 0 n (fun t => xs.getD t 0) := by
  have hl : xs.length = n := by have := h.1; simpa [zcells] using this
  rcases h.2 with ⟨hv, _⟩ | ⟨g', cap', cur, hv, hb, hg, h1, h2, h3, h4⟩
  · cases hv
  · cases hv
    refine ⟨cur, hg, fun t ht => ?_⟩
    have : (cur.toList.take (n * 1))[t]? = (zcells xs)[t]? := by rw [h4]
    rw [List.getElem?_take] at this
    simp [ht] at this
    rw [Nat.zero_add, this]
    simp [zcells, show t < xs.length by omega, List.getD]

theorem ix_next {V : Nat} {es : List (Nat × Nat)} {l : List Nat} {f : Nat → Int} (hf : ∀ y, y < V → f y = Pl.wt es l y) :
    (∀ x, Pl.next V es l = some x → ix (listOf V f) 0 = (x : Int)) ∧ (Pl.next V es l = none → ix (listOf V f) 0 = -1) := by
  constructor
  · intro x hx
    obtain ⟨h1, h2, h3⟩ := Pl.next_some hx
    refine ix_hit x (by rw [listOf_length]; exact h2) ?_ fun j hj => ?_
    · rw [listOf_getD V f h2, hf x h2, Pl.wt_zero]
      exact h1
    · rw [listOf_getD V f (by omega), hf j (by omega)]
      intro h
      rw [Pl.wt_zero, h3 j hj] at h
      cases h
  · intro hx
    refine ix_miss fun j hj => ?_
    rw [listOf_length] at hj
    rw [listOf_getD V f hj, hf j hj]
    intro h
    rw [Pl.wt_zero, Pl.next_none hx j hj] at h
    cases h

theorem RowAt.keep {w w' : World} {g off n : Nat} {f : Nat → Int} (h : RowAt w g off n f) (he : w'.heap[g]? = w.heap[g]?) : RowAt w' g off n f := by
  obtain ⟨cur, h1, h2⟩ := h
  exact ⟨cur, by rw [he]; exact h1, h2⟩
theorem owns_adv {w w' : World} {b base : Nat} {e : TypeId} {size : Nat} {v : Value} {n : Nat} {xs : List Value} (h : w.ownsRow base e size v n xs) (ha : Adv b w w') (hb : b < base) : w'.ownsRow base e size v n xs := by
  refine h.kept (row := some b) ⟨ha.os, ha.tape, ha.output, Nat.le_of_eq ha.size.symm, fun k hk hne => ha.block k (fun he => hne (by rw [he]))⟩ ?_
  cases hv : v.ownBlock with
  | none => exact .inl rfl
  | some g => exact .inr (fun he => by have := (h.lt g hv).1; cases he; omega)
end Go.Proofs.Ytdkchihomllokaa

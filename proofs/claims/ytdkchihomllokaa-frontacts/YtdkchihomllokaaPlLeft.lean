/-
  Plain mathematics: what is left after so many rounds is what the order lacks. No conditions beyond each theorem's own.
-/
import Derived.Test.YtdkchihomllokaaPl2
namespace Go.Proofs.Ytdkchihomllokaa.Pl
set_option linter.unusedVariables false

/-- of the first k edges, one to x, both of whose ends are there -/
def lftK (es : Ed) (f : Nat → Bool) (k x : Nat) : Bool := (List.range k).any fun i => (at' es i).2 == x && (f (at' es i).1 && f (at' es i).2)
theorem lftK_zero (es : Ed) (f : Nat → Bool) (x : Nat) : lftK es f 0 x = false := rfl
theorem lftK_succ (es : Ed) (f : Nat → Bool) (k x : Nat) : lftK es f (k + 1) x = (lftK es f k x || ((at' es k).2 == x && (f (at' es k).1 && f (at' es k).2))) := by
  unfold lftK
  rw [List.range_succ, List.any_append]
  simp
def lft (es : Ed) : Nat → Nat → Bool
  | 0 => fun _ => true
  | r + 1 => lftK es (lft es r) es.length
theorem lftK_iff {es : Ed} {f : Nat → Bool} {x : Nat} : lftK es f es.length x = true ↔ ∃ e ∈ es, e.2 = x ∧ f e.1 = true ∧ f e.2 = true := by
  unfold lftK
  rw [List.any_eq_true]
  constructor
  · rintro ⟨i, hi, h⟩
    simp at h
    exact ⟨_, at_mem (List.mem_range.1 hi), h.1, h.2.1, h.2.2⟩
  · rintro ⟨e, he, h1, h2, h3⟩
    obtain ⟨i, hi, rfl⟩ := mem_at he
    exact ⟨i, List.mem_range.2 hi, by simp [h1, h2]; rw [← h1]; exact h3⟩
theorem lft_down (es : Ed) (r x : Nat) (h : lft es (r + 1) x = true) : lft es r x = true := by
  obtain ⟨e, _, h1, _, h3⟩ := lftK_iff.1 (show lftK es (lft es r) es.length x = true from h)
  rw [← h1]
  exact h3
theorem lft_le (es : Ed) (x : Nat) {r s : Nat} (h : r ≤ s) (hs : lft es s x = true) : lft es r x = true := by
  induction s with
  | zero =>
    obtain rfl : r = 0 := by omega
    exact hs
  | succ s ih =>
    by_cases hrs : r = s + 1
    · subst hrs; exact hs
    · exact ih (by omega) (lft_down es s x hs)
/-- what the order lacks stays -/
theorem lft_stay {V : Nat} {es : Ed} (he : ∀ e ∈ es, e.1 < V ∧ e.2 < V) : ∀ r x, Lf V es x → lft es r x = true := by
  intro r
  induction r with
  | zero => intro x _; rfl
  | succ r ih =>
    intro x hx
    obtain ⟨h1, i, hi, h2⟩ := left_tail he hx
    refine lftK_iff.2 ⟨at' es i, at_mem hi, by rw [h2], ?_, ?_⟩
    · rw [h2]; exact ih _ h1
    · rw [h2]; exact ih _ hx
/-- what the order has goes, at its place -/
theorem lft_goes {V : Nat} {es : Ed} : ∀ k, k < (order V es).length → lft es (k + 1) ((order V es).getD k 0) = false := by
  intro k
  induction k using Nat.strongRecOn with
  | _ k ih =>
    intro hk
    have hs := (next_some ((order_run V es).1.step k hk)).1
    obtain ⟨_, h2⟩ := ready_iff.1 hs
    cases hc : lft es (k + 1) ((order V es).getD k 0) with
    | false => rfl
    | true =>
      obtain ⟨e, hem, h1, h3, _⟩ := lftK_iff.1 (show lftK es (lft es k) es.length _ = true from hc)
      have hm := h2 e hem h1
      obtain ⟨j, hj, hje⟩ := List.mem_take_iff_getElem.1 hm
      have hjl : j < (order V es).length := by omega
      have hjk : j < k := by omega
      have := ih j hjk hjl
      rw [show (order V es).getD j 0 = e.1 by rw [← hje]; simp [List.getD, hjl]] at this
      rw [lft_le es e.1 (show j + 1 ≤ k by omega) h3] at this
      cases this
theorem lft_lf {V : Nat} {es : Ed} (he : ∀ e ∈ es, e.1 < V ∧ e.2 < V) {x : Nat} (hx : x < V) : lft es V x = lf V es x := by
  cases hl : lf V es x with
  | true => exact lft_stay he V x ⟨hx, lf_iff.1 hl⟩
  | false =>
    have hm : x ∈ order V es := by simpa [lf] using hl
    obtain ⟨k, hk, rfl⟩ := List.mem_iff_getElem.1 hm
    cases hc : lft es V (order V es)[k] with
    | false => rfl
    | true =>
      have h1 := lft_goes (V := V) (es := es) k hk
      rw [show (order V es).getD k 0 = (order V es)[k] by simp [List.getD, hk]] at h1
      have h2 := (order_run V es).1.le
      rw [lft_le es _ (show k + 1 ≤ V by omega) hc] at h1
      cases h1
end Go.Proofs.Ytdkchihomllokaa.Pl

/-
  Plain mathematics of orders in which tails are ahead of heads: the order that is told is one, the least one, or there is none. No conditions beyond each theorem's own.
-/
import Derived.Test.YtgbdnpmpkilcoaaEach
import Derived.Test.YtgbdnpmpkilcoaaChkP
namespace Go.Proofs.Ytgbdnpmpkilcoaa
set_option linter.unusedVariables false

/-- each vertex once, tails ahead of heads -/
def IsRight (V : Nat) (es : List (Nat × Nat)) (xs : List Int) : Prop := IsPerm V xs ∧ ∀ i, i < es.length → ix xs (Pl.at' es i).1 < ix xs (Pl.at' es i).2

theorem ix_of_get {l : List Nat} (hn : l.Nodup) {k : Nat} (hk : k < l.length) : ix (toIs l) (l.getD k 0 : Nat) = (k : Int) := by
  refine ix_hit k (by rw [toIs_length]; exact hk) (toIs_getD l k) fun j hj he => ?_
  rw [toIs_getD] at he
  have e : l.getD j 0 = l.getD k 0 := by omega
  have hj' : j < l.length := by omega
  simp only [List.getD, List.getElem?_eq_getElem hj', List.getElem?_eq_getElem hk, Option.getD_some] at e
  exact List.pairwise_iff_getElem.1 hn j k hj' hk hj e
theorem mem_get {l : List Nat} {x : Nat} (h : x ∈ l) : ∃ k, k < l.length ∧ l.getD k 0 = x := by
  obtain ⟨k, hk, rfl⟩ := List.mem_iff_getElem.1 h
  exact ⟨k, hk, by simp [List.getD, hk]⟩
theorem perm_of_nat {V : Nat} {l : List Nat} (h1 : l.length = V) (h2 : l.Nodup) (h3 : ∀ x ∈ l, x < V) : IsPerm V (toIs l) := by
  refine ⟨by rw [toIs_length, h1], ?_, ?_⟩
  · unfold toIs
    rw [List.Nodup, List.pairwise_map]
    exact h2.imp (fun h e => h (by omega))
  · intro y hy
    obtain ⟨x, hx, rfl⟩ := List.mem_map.1 hy
    have := h3 x hx
    omega

/-- an order that has all is right -/
theorem order_right {V : Nat} {es : List (Nat × Nat)} (hp : Plain V es) (h : V ≤ (Pl.order V es).length) : IsRight V es (toIs (Pl.order V es)) := by
  obtain ⟨hr, _⟩ := Pl.order_run V es
  have hl : (Pl.order V es).length = V := by have := hr.le; omega
  have hP := perm_of_nat hl hr.nodup hr.lt
  refine ⟨hP, fun i hi => ?_⟩
  have he := hp.at hi
  have hmem : (Pl.at' es i).2 ∈ Pl.order V es := mem_toIs.1 (perm_all hP _ he.2)
  obtain ⟨k, hk, hkx⟩ := mem_get hmem
  have hs := (Pl.ready_iff.1 (Pl.next_some (hr.step k hk)).1).2 _ (Pl.at_mem hi) hkx.symm
  obtain ⟨j, hj, hjx⟩ := List.mem_take_iff_getElem.1 hs
  have hjl : j < (Pl.order V es).length := by omega
  have e1 : (Pl.order V es).getD j 0 = (Pl.at' es i).1 := by rw [← hjx]; simp [List.getD, hjl]
  rw [← e1, ← hkx, ix_of_get hr.nodup hjl, ix_of_get hr.nodup hk]
  omega

/-- where the order lacks some there is no right one -/
theorem no_right {V : Nat} {es : List (Nat × Nat)} (hp : Plain V es) (h : (Pl.order V es).length < V) (xs : List Int) : ¬ IsRight V es xs := by
  rintro ⟨hP, hE⟩
  obtain ⟨hr, _⟩ := Pl.order_run V es
  have hex : ∃ x, Pl.Lf V es x := by
    apply Classical.byContradiction
    intro hno
    have hall : ∀ x, x < V → x ∈ Pl.order V es := fun x hx => Classical.byContradiction fun hn => hno ⟨x, hx, hn⟩
    have hnd : (List.range V).Nodup := List.nodup_range
    have : V ≤ (Pl.order V es).length := by
      have h1 : (List.range V).length ≤ (Pl.order V es).length := by
        have hsub : ∀ (n : Nat) (l : List Nat), (∀ x, x < n → x ∈ l) → n ≤ l.length := by
          intro n
          induction n with
          | zero => intro l _; omega
          | succ n ih =>
            intro l hl
            have hm := hl n (by omega)
            have := ih (l.erase n) (fun x hx => (List.mem_erase_of_ne (by omega)).2 (hl x (by omega)))
            rw [List.length_erase_of_mem hm] at this
            have := List.length_pos_of_mem hm
            omega
        simpa using hsub V _ hall
      simpa using h1
    omega
  have hdown : ∀ n : Nat, ∀ x, Pl.Lf V es x → ix xs x ≤ (n : Int) → False := by
    intro n
    induction n with
    | zero =>
      intro x hx hi
      obtain ⟨h1, i, hi', h2⟩ := Pl.left_tail hp.ends hx
      have := hE i hi'
      rw [h2] at this
      have h3 := (ix_nonneg xs (Pl.bk V es x : Nat)).2 (perm_all hP _ h1.1)
      simp only at this
      omega
    | succ n ih =>
      intro x hx hi
      obtain ⟨h1, i, hi', h2⟩ := Pl.left_tail hp.ends hx
      have := hE i hi'
      rw [h2] at this
      simp only at this
      exact ih _ h1 (by omega)
  obtain ⟨x, hx⟩ := hex
  have h3 := (ix_nonneg xs (x : Nat)).2 (perm_all hP _ hx.1)
  exact hdown (ix xs x).toNat x hx (by omega)

/-- no right order is ahead of it -/
theorem order_least {V : Nat} {es : List (Nat × Nat)} (hp : Plain V es) {xs : List Int} (hx : IsRight V es xs) {i : Nat} (hi : i < (Pl.order V es).length) (hb : ∀ j, j < i → xs.getD j 0 = ((Pl.order V es).getD j 0 : Nat)) : ((Pl.order V es).getD i 0 : Nat) ≤ xs.getD i 0 := by
  obtain ⟨hr, _⟩ := Pl.order_run V es
  obtain ⟨hP, hE⟩ := hx
  have hle := hr.le
  obtain ⟨hxl, hnd, hbd⟩ := hP
  have hil : i < xs.length := by omega
  have hmem : xs.getD i 0 ∈ xs := by simp [List.getD, hil]
  obtain ⟨y, hy⟩ : ∃ y : Nat, xs.getD i 0 = y := ⟨(xs.getD i 0).toNat, by have := hbd _ hmem; omega⟩
  have hyV : y < V := by have := hbd _ hmem; omega
  have htake : ∀ z : Nat, (z : Int) ∈ xs.take i ↔ z ∈ (Pl.order V es).take i := by
    intro z
    constructor
    · intro hz
      obtain ⟨j, hj, he⟩ := List.mem_take_iff_getElem.1 hz
      have hjl : j < xs.length := by omega
      have h1 := hb j (by omega)
      rw [show xs.getD j 0 = xs[j] by simp [List.getD, hjl], he] at h1
      have hjo : j < (Pl.order V es).length := by omega
      refine List.mem_take_iff_getElem.2 ⟨j, by omega, ?_⟩
      rw [show (Pl.order V es).getD j 0 = (Pl.order V es)[j] by simp [List.getD, hjo]] at h1
      omega
    · intro hz
      obtain ⟨j, hj, he⟩ := List.mem_take_iff_getElem.1 hz
      have hjo : j < (Pl.order V es).length := by omega
      have h1 := hb j (by omega)
      have hjl : j < xs.length := by omega
      rw [show (Pl.order V es).getD j 0 = (Pl.order V es)[j] by simp [List.getD, hjo], he] at h1
      refine List.mem_take_iff_getElem.2 ⟨j, by omega, ?_⟩
      rw [show xs.getD j 0 = xs[j] by simp [List.getD, hjl]] at h1
      exact h1
  have hixy : ix xs (y : Int) = (i : Int) := ix_hit i hil hy fun j hj he => by
    have hjl : j < xs.length := by omega
    have e : xs[j] = xs[i] := by
      have h1 : xs.getD j 0 = xs[j] := by simp [List.getD, hjl]
      have h2 : xs.getD i 0 = xs[i] := by simp [List.getD, hil]
      rw [← h1, ← h2, he, hy]
    exact List.pairwise_iff_getElem.1 hnd j i hjl hil hj e
  have hready : Pl.ready es ((Pl.order V es).take i) y = true := by
    rw [Pl.ready_iff]
    constructor
    · intro hm
      have := (htake y).2 hm
      rw [← hy] at this
      exact take_of_nodup hnd hil this
    · intro e he hey
      obtain ⟨k, hk, rfl⟩ := Pl.mem_at he
      have h1 := hE k hk
      rw [hey, hixy] at h1
      have h2 := (ix_nonneg xs ((Pl.at' es k).1 : Nat)).2 (perm_all ⟨hxl, hnd, hbd⟩ _ (hp.at hk).1)
      rcases ix_cases xs ((Pl.at' es k).1 : Nat) with ⟨h3, _⟩ | ⟨m, h3, hm, hmv, _⟩
      · omega
      · refine (htake _).1 ?_
        rw [← hmv]
        refine List.mem_take_iff_getElem.2 ⟨m, by omega, ?_⟩
        simp [List.getD, hm]
  obtain ⟨_, _, h3⟩ := Pl.next_some (hr.step i hi)
  rw [hy]
  have : ¬ y < (Pl.order V es).getD i 0 := fun hlt => by
    have := h3 y hlt
    rw [hready] at this
    cases this
  omega
end Go.Proofs.Ytgbdnpmpkilcoaa

/-
  A rotation in which two half edges of a list have changed places is one. No conditions beyond each theorem's own.
-/
import Derived.Test.YtmklngabfdnclaaDoorRx
import Derived.Test.YtmklngabfdnclaaDoorSw1
namespace Go.Proofs.YtmklngabfdnclaaDoor.pt
open Go.RowKit
set_option linter.unusedVariables false
set_option maxRecDepth 20000

theorem sw_inj {a b i j : Nat} (h : sw a b i = sw a b j) : i = j := by have := congrArg (sw a b) h; rwa [sw_sw, sw_sw] at this
theorem Ro.swap {V : Nat} {es : List (Nat × Nat)} {q : List (List Nat)} (r : Ro V es q) {x h1 h2 : Nat} (hx : x < V) (m1 : h1 ∈ q.getD x []) (m2 : h2 ∈ q.getD x []) : Ro V es (q.map fun l => l.map (sw h1 h2)) := by
  have l1 := r.lt x hx h1 m1
  have l2 := r.lt x hx h2 m2
  have hin : ∀ y, y < V → ∀ h ∈ q.getD y [], sw h1 h2 h ∈ q.getD y [] := fun y hy h hm => by
    by_cases e1 : h = h1
    · have : y = x := (r.st y hy h hm).symm.trans (by rw [e1]; exact r.st x hx h1 m1)
      rw [e1, sw_a, this]
      exact m2
    · by_cases e2 : h = h2
      · have : y = x := (r.st y hy h hm).symm.trans (by rw [e2]; exact r.st x hx h2 m2)
        rw [e2, sw_b, this]
        exact m1
      · rw [sw_o e1 e2]
        exact hm
  refine ⟨by simp [r.len], r.ends, ?_, ?_, ?_, ?_⟩
  · intro y hy h hm
    rw [rows_map] at hm
    obtain ⟨z, hz, rfl⟩ := List.mem_map.1 hm
    exact sw_lt l1 l2 (r.lt y hy z hz)
  · intro y hy h hm
    rw [rows_map] at hm
    obtain ⟨z, hz, rfl⟩ := List.mem_map.1 hm
    exact r.st y hy _ (hin y hy z hz)
  · intro y hy
    rw [rows_map, List.nodup_iff_pairwise_ne, List.pairwise_map]
    exact List.Pairwise.imp (fun hab e => hab (sw_inj e)) (r.one y hy)
  · intro h hh
    obtain ⟨y, hy, hm⟩ := r.all (sw h1 h2 h) (sw_lt l1 l2 hh)
    refine ⟨y, hy, ?_⟩
    rw [rows_map]
    exact List.mem_map.2 ⟨_, hm, sw_sw _ _ _⟩
theorem toIs_flatten (q : List (List Nat)) : (rowsI q).flatten = toIs q.flatten := by
  unfold rowsI toIs
  rw [List.map_flatten]
/-- lists in plain numbers that are a rotation -/
theorem Ro.rot {V : Nat} {es : List (Nat × Nat)} {q : List (List Nat)} (hp : Plain V es) (r : Ro V es q) : IsRot V es.length (toI es) (rowsI q) := by
  have hnd : q.flatten.Nodup := by
    rw [List.nodup_iff_pairwise_ne, List.pairwise_flatten]
    constructor
    · intro l hl
      obtain ⟨x, hx, rfl⟩ := List.mem_iff_getElem.1 hl
      have := r.one x (by rw [← r.len]; exact hx)
      rw [List.nodup_iff_pairwise_ne] at this
      simpa [List.getD, hx] using this
    · rw [List.pairwise_iff_getElem]
      intro i j hi hj hij a ha b hb e
      subst e
      have e1 := r.st i (by rw [← r.len]; exact hi) a (by simpa [List.getD, hi] using ha)
      have e2 := r.st j (by rw [← r.len]; exact hj) a (by simpa [List.getD, hj] using hb)
      omega
  have hmem : ∀ h, h ∈ q.flatten ↔ h < 2 * es.length := fun h => by
    constructor
    · intro hm
      obtain ⟨l, hl, hh⟩ := List.mem_flatten.1 hm
      obtain ⟨x, hx, rfl⟩ := List.mem_iff_getElem.1 hl
      exact r.lt x (by rw [← r.len]; exact hx) h (by simpa [List.getD, hx] using hh)
    · intro hh
      obtain ⟨x, hx, hm⟩ := r.all h hh
      have hxq : x < q.length := by rw [r.len]; exact hx
      exact List.mem_flatten.2 ⟨q[x], List.getElem_mem hxq, by simpa [List.getD, hxq] using hm⟩
  refine ⟨good_of_plain hp, by rw [rowsI_length, r.len], ?_, ?_, ?_⟩
  · intro x hx h hm
    rw [rowsI_length, r.len] at hx
    rw [rowsI_getD] at hm
    obtain ⟨z, hz, rfl⟩ := List.mem_map.1 hm
    have h1 := r.lt x hx z hz
    have h2 : stV es z = x := r.st x hx z hz
    refine ⟨by omega, by omega, ?_⟩
    rw [atI_toI]
    simp [h2]
  · rw [toIs_flatten]
    unfold toIs
    rw [List.nodup_iff_pairwise_ne, List.pairwise_map]
    exact List.Pairwise.imp (fun hab e => hab (by omega)) hnd
  · rw [toIs_flatten, toIs_length]
    refine Nat.le_antisymm (nodup_le _ _ hnd fun h hh => (hmem h).1 hh) ?_
    have := inj_len (R := fun v y => v = y) (List.range (2 * es.length)) q.flatten List.nodup_range (fun v hv => ⟨v, (hmem v).2 (List.mem_range.1 hv), rfl⟩) (fun v v' y _ _ e e' => e.trans e'.symm)
    simpa using this
theorem map_emp (q : List (List Nat)) (f : Nat → Nat) (x : Nat) : (q.map fun l => l.map f).getD x [] = [] ↔ q.getD x [] = [] := by
  rw [rows_map]
  simp
end Go.Proofs.YtmklngabfdnclaaDoor.pt


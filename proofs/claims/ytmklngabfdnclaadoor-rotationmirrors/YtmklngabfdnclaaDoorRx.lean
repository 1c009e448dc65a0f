/-
  A rotation in plain numbers out of one in memory: its lists, what comes behind what, that it is one to one. No conditions beyond each theorem's own.
-/
import Derived.Test.YtmklngabfdnclaaDoorEu
namespace Go.Proofs.YtmklngabfdnclaaDoor.pt
open Go.RowKit
set_option linter.unusedVariables false
set_option maxRecDepth 20000

/-- what comes behind a half edge along its face -/
def nxF (es : List (Nat × Nat)) (q : List (List Nat)) (j : Nat) : Nat :=
  (q.getD (stV es (oth j)) []).getD (((q.getD (stV es (oth j)) []).idxOf (oth j) + 1) % (q.getD (stV es (oth j)) []).length) 0
theorem idx_of {l : List Nat} (hn : l.Nodup) {i : Nat} (hi : i < l.length) : l.idxOf (l.getD i 0) = i := by
  have e : l.getD i 0 = l[i] := by simp [List.getD, hi]
  rw [e]
  exact hn.idxOf_getElem i hi
theorem nx_behind {V : Nat} {es : List (Nat × Nat)} {q : List (List Nat)} (r : Ro V es q) : Behind q (nxF es q) := by
  intro x hx i hi
  have hx' : x < V := by rw [← r.len]; exact hx
  have hm := getD_in hi
  have hst : stV es ((q.getD x []).getD i 0) = x := r.st x hx' _ hm
  unfold nxF
  rw [oth_oth, hst, idx_of (r.one x hx') hi]
theorem mod_succ_inj {n a b : Nat} (ha : a < n) (hb : b < n) (h : (a + 1) % n = (b + 1) % n) : a = b := by
  have f : ∀ c, c < n → (c + 1) % n = if c + 1 = n then 0 else c + 1 := fun c hc => by
    split
    · rename_i e; rw [e]; exact Nat.mod_self n
    · exact Nat.mod_eq_of_lt (by omega)
  rw [f a ha, f b hb] at h
  split at h <;> split at h <;> omega
theorem getD_inj {l : List Nat} (hn : l.Nodup) {a b : Nat} (ha : a < l.length) (hb : b < l.length) (h : l.getD a 0 = l.getD b 0) : a = b := by
  rw [← idx_of hn ha, ← idx_of hn hb, h]
theorem nx_pm {V : Nat} {es : List (Nat × Nat)} {q : List (List Nat)} (r : Ro V es q) {N : Nat → Nat} (hN : Behind q N) : Pm N (2 * es.length) := by
  have key : ∀ j, j < 2 * es.length → ∃ x i, x < V ∧ i < (q.getD x []).length ∧ (q.getD x []).getD i 0 = oth j ∧ N j = (q.getD x []).getD ((i + 1) % (q.getD x []).length) 0 := by
    intro j hj
    obtain ⟨x, hx, hm⟩ := r.all (oth j) (oth_lt hj)
    obtain ⟨i, hi, he⟩ := in_getD hm
    refine ⟨x, i, hx, hi, he, ?_⟩
    have := hN x (by rw [r.len]; exact hx) i hi
    rwa [he, oth_oth] at this
  refine ⟨fun j hj => ?_, fun i j hi hj h => ?_⟩
  · obtain ⟨x, i, hx, hi, _, e⟩ := key j hj
    rw [e]
    exact r.lt x hx _ (getD_in (Nat.mod_lt _ (by omega)))
  · obtain ⟨x, a, hx, ha, e1, e2⟩ := key i hi
    obtain ⟨y, b, hy, hb, e3, e4⟩ := key j hj
    have m1 : N i ∈ q.getD x [] := by rw [e2]; exact getD_in (Nat.mod_lt _ (by omega))
    have m2 : N i ∈ q.getD y [] := by rw [h, e4]; exact getD_in (Nat.mod_lt _ (by omega))
    have hxy : x = y := (r.st x hx _ m1).symm.trans (r.st y hy _ m2)
    subst hxy
    rw [e2, e4] at h
    have hab := mod_succ_inj ha hb (getD_inj (r.one x hx) (Nat.mod_lt _ (by omega)) (Nat.mod_lt _ (by omega)) h)
    subst hab
    exact oth_inj (e1.symm.trans e3)
theorem Ro.cov {V : Nat} {es : List (Nat × Nat)} {q : List (List Nat)} (r : Ro V es q) : ∀ j, j < 2 * es.length → ∃ x i, x < q.length ∧ i < (q.getD x []).length ∧ oth ((q.getD x []).getD i 0) = j := by
  intro j hj
  obtain ⟨x, hx, hm⟩ := r.all (oth j) (oth_lt hj)
  obtain ⟨i, hi, he⟩ := in_getD hm
  exact ⟨x, i, by rw [r.len]; exact hx, hi, by rw [he, oth_oth]⟩
theorem Ro.lt' {V : Nat} {es : List (Nat × Nat)} {q : List (List Nat)} (r : Ro V es q) : ∀ x, x < q.length → ∀ i, i < (q.getD x []).length → (q.getD x []).getD i 0 < 2 * es.length := fun x hx i hi => r.lt x (by rw [← r.len]; exact hx) _ (getD_in hi)
theorem atI_toI (es : List (Nat × Nat)) (h : Nat) : atI (toI es) h = ((stV es h : Nat) : Int) := by
  unfold atI stV
  rw [toI_getD]
  split <;> rfl
/-- the lists of a rotation are lists of plain numbers -/
theorem ro_of {V : Nat} {es : List (Nat × Nat)} {rs : List (List Int)} (hp : Plain V es) (h : IsRot V es.length (toI es) rs) : ∃ q, rs = rowsI q ∧ Ro V es q := by
  have hlen : rs.length = V := by have := h.len; omega
  refine ⟨rs.map fun l => l.map Int.toNat, ?_, ?_⟩
  · unfold rowsI
    rw [List.map_map]
    symm
    refine (List.map_congr_left ?_).trans (List.map_id _)
    intro l hl
    obtain ⟨x, hx, rfl⟩ := List.mem_iff_getElem.1 hl
    show toIs (rs[x].map Int.toNat) = rs[x]
    unfold toIs
    rw [List.map_map]
    refine (List.map_congr_left ?_).trans (List.map_id _)
    intro z hz
    have := h.each x hx z (by simpa [List.getD, hx] using hz)
    show ((z.toNat : Nat) : Int) = z
    omega
  · have hget : ∀ x, (rs.map fun l => l.map Int.toNat).getD x [] = (rs.getD x []).map Int.toNat := fun x => by
      simp only [List.getD_eq_getElem?_getD, List.getElem?_map]
      cases rs[x]? <;> simp
    have hflat : (rs.map fun l => l.map Int.toNat).flatten = rs.flatten.map Int.toNat := by rw [List.map_flatten]
    have hb : ∀ z ∈ rs.flatten, 0 ≤ z ∧ z < 2 * (es.length : Int) := fun z hz => by
      rw [List.mem_flatten] at hz
      obtain ⟨l, hl, hm⟩ := hz
      obtain ⟨x, hx, rfl⟩ := List.mem_iff_getElem.1 hl
      have := h.each x hx z (by simpa [List.getD, hx] using hm)
      exact ⟨this.1, this.2.1⟩
    have hnd : (rs.flatten.map Int.toNat).Nodup := by
      rw [List.nodup_iff_pairwise_ne, List.pairwise_map]
      refine List.Pairwise.imp_of_mem ?_ h.nodup
      intro a b ha hb' hab e
      have := hb a ha
      have := hb b hb'
      omega
    refine ⟨by simp [hlen], fun i hi => hp.at hi, ?_, ?_, ?_, ?_⟩
    · intro x hx z hz
      rw [hget] at hz
      obtain ⟨y, hy, rfl⟩ := List.mem_map.1 hz
      have := h.each x (by omega) y hy
      omega
    · intro x hx z hz
      rw [hget] at hz
      obtain ⟨y, hy, rfl⟩ := List.mem_map.1 hz
      have := (h.each x (by omega) y hy).2.2
      rw [atI_toI] at this
      have e : stV es y.toNat = x := by omega
      exact e
    · intro x hx
      rw [hget]
      have hs : ((rs.getD x []).map Int.toNat).Sublist (rs.flatten.map Int.toNat) := by
        refine List.Sublist.map _ ?_
        have := upto_sub (rs := rs) (x := x) (i := (rs.getD x []).length) (by omega)
        unfold upto at this
        rw [List.take_length] at this
        exact (List.sublist_append_right _ _).trans this
      exact hnd.sublist hs
    · intro z hz
      refine Classical.byContradiction fun hno => ?_
      have hnot : z ∉ rs.flatten.map Int.toNat := by
        intro hm
        obtain ⟨y, hy, rfl⟩ := List.mem_map.1 hm
        rw [List.mem_flatten] at hy
        obtain ⟨l, hl, hyl⟩ := hy
        obtain ⟨x, hx, rfl⟩ := List.mem_iff_getElem.1 hl
        refine hno ⟨x, by omega, ?_⟩
        rw [hget]
        exact List.mem_map.2 ⟨y, by simpa [List.getD, hx] using hyl, rfl⟩
      have := nodup_le (2 * es.length) (z :: rs.flatten.map Int.toNat) (by rw [List.nodup_cons]; exact ⟨hnot, hnd⟩) (by
        intro w hw
        rcases List.mem_cons.1 hw with rfl | hw
        · exact hz
        · obtain ⟨y, hy, rfl⟩ := List.mem_map.1 hw
          have := hb y hy
          omega)
      have ha := h.all
      rw [List.length_cons, List.length_map] at this
      omega
end Go.Proofs.YtmklngabfdnclaaDoor.pt


/-
  The lists turned round: their next number is the one behind the other way, so the faces are as many and of the same sizes. No conditions.
-/
import Derived.Test.YtmklngabfdnclaaDoorSw1
namespace Go.Proofs.YtmklngabfdnclaaDoor
set_option linter.unusedVariables false

theorem inj_lenN {f : Nat → Nat} : ∀ {A B : List Nat}, A.Nodup → (∀ x ∈ A, f x ∈ B) → (∀ x ∈ A, ∀ y ∈ A, f x = f y → x = y) → A.length ≤ B.length := by
  intro A
  induction A with
  | nil => intro B _ _ _; simp
  | cons a A ih =>
    intro B hn hm hi
    have hna := List.nodup_cons.1 hn
    have hb : f a ∈ B := hm a (by simp)
    have h1 := ih (B := B.erase (f a)) hna.2 (fun x hx => (List.mem_erase_of_ne (fun e => hna.1 (by rw [← hi x (by simp [hx]) a (by simp) e]; exact hx))).2 (hm x (by simp [hx]))) (fun x hx y hy => hi x (by simp [hx]) y (by simp [hy]))
    rw [List.length_erase_of_mem hb] at h1
    have : 0 < B.length := List.length_pos_of_mem hb
    simp
    omega
theorem Pm.pred {N : Nat → Nat} {H : Nat} (p : Pm N H) {h k : Nat} (hh : h < H) (hk : k ∈ orb N H h) : ∃ j, j ∈ orb N H h ∧ N j = k := by
  have hkH := p.orb_lt hh k hk
  obtain ⟨t, _, ht⟩ := p.ret hkH
  refine ⟨it N t k, p.trans hh hk (p.orb_it hkH t), ?_⟩
  have := it_add N 1 t k
  rw [Nat.add_comm 1 t, ht] at this
  exact this.symm

/-- M goes the other way, on the other halves -/
def Mir (N M : Nat → Nat) (H : Nat) : Prop := ∀ j, j < H → M (oth (N j)) = oth j
theorem Mir.sym {N M : Nat → Nat} {H : Nat} (hev : ∀ j, j < H → oth j < H) (p : Pm N H) (h : Mir N M H) : Mir M N H := fun k hk => by
  have h1 := hev k hk
  obtain ⟨j, hj, e⟩ := p.pred h1 (p.mem_self h1)
  have := h j (p.orb_lt h1 j hj)
  rw [e, oth_oth] at this
  rw [this, oth_oth, e]
theorem Mir.to {N M : Nat → Nat} {H : Nat} (hev : ∀ j, j < H → oth j < H) (p : Pm N H) (r : Pm M H) (h : Mir N M H) {i : Nat} (hi : i < H) : ∀ k ∈ orb M H (oth i), oth k ∈ orb N H i := by
  refine orb_in (U := fun k => oth k ∈ orb N H i) (fun k hk => ?_) (by rw [oth_oth]; exact p.mem_self hi)
  obtain ⟨j, hj, e⟩ := p.pred hi hk
  have := h j (p.orb_lt hi j hj)
  rw [e, oth_oth] at this
  show oth (M k) ∈ _
  rw [this, oth_oth]
  exact hj
theorem Mir.fro {N M : Nat → Nat} {H : Nat} (hev : ∀ j, j < H → oth j < H) (p : Pm N H) (r : Pm M H) (h : Mir N M H) {i : Nat} (hi : i < H) : ∀ k ∈ orb N H i, oth k ∈ orb M H (oth i) := fun k hk => by
  have := (h.sym hev p).to hev r p (i := oth i) (hev i hi) k (by rw [oth_oth]; exact hk)
  exact this
theorem Mir.size {N M : Nat → Nat} {H : Nat} (hev : ∀ j, j < H → oth j < H) (p : Pm N H) (r : Pm M H) (h : Mir N M H) {i : Nat} (hi : i < H) : (orb M H (oth i)).length = (orb N H i).length := by
  have hj : ∀ x y, oth x = oth y → x = y := fun x y e => by have := congrArg oth e; rwa [oth_oth, oth_oth] at this
  exact Nat.le_antisymm (inj_lenN (f := oth) (r.orb_nodup (hev i hi)) (h.to hev p r hi) fun x _ y _ => hj x y) (inj_lenN (f := oth) (p.orb_nodup hi) (h.fro hev p r hi) fun x _ y _ => hj x y)
/-- the rounds that one element begins are one list but for its order -/
theorem Pm.size_same {N : Nat → Nat} {H : Nat} (p : Pm N H) {i j : Nat} (hi : i < H) (hj : j ∈ orb N H i) : (orb N H j).length = (orb N H i).length := by
  have hjH := p.orb_lt hi j hj
  exact Nat.le_antisymm (inj_lenN (f := id) (p.orb_nodup hjH) (fun x hx => p.trans hi hj hx) fun x _ y _ e => e) (inj_lenN (f := id) (p.orb_nodup hi) (fun x hx => p.trans hjH (p.sym hi hj) hx) fun x _ y _ e => e)
/-- rounds of a kind that hangs on the size alone -/
def cycP (P : Nat → Bool) (N : Nat → Nat) (H : Nat) : Nat := ((List.range H).filter fun h => isLeast N H h && P (orb N H h).length).length
theorem cycP_true (N : Nat → Nat) (H : Nat) : cycP (fun _ => true) N H = cyc N H := by simp [cycP, cyc]
theorem Mir.le {N M : Nat → Nat} {H : Nat} (hev : ∀ j, j < H → oth j < H) (p : Pm N H) (r : Pm M H) (h : Mir N M H) (P : Nat → Bool) : cycP P N H ≤ cycP P M H := by
  have hf : ∀ i, ∃ l, i < H → l ∈ orb M H (oth i) ∧ isLeast M H l = true := fun i => by
    by_cases hi : i < H
    · obtain ⟨l, h1, h2⟩ := r.least (hev i hi)
      exact ⟨l, fun _ => ⟨h1, h2⟩⟩
    · exact ⟨0, fun h => absurd h hi⟩
  let f : Nat → Nat := fun i => (hf i).choose
  have hfs : ∀ i, i < H → f i ∈ orb M H (oth i) ∧ isLeast M H (f i) = true := fun i => (hf i).choose_spec
  unfold cycP
  refine inj_lenN (f := f) ((List.nodup_range).sublist (List.filter_sublist)) (fun x hx => ?_) (fun x hx y hy e => ?_)
  · obtain ⟨hx1, hx2⟩ := List.mem_filter.1 hx
    have hxH := List.mem_range.1 hx1
    obtain ⟨a1, a2⟩ := hfs x hxH
    simp only [Bool.and_eq_true] at hx2
    refine List.mem_filter.2 ⟨List.mem_range.2 (r.orb_lt (hev x hxH) _ a1), ?_⟩
    rw [r.size_same (hev x hxH) a1, h.size hev p r hxH, a2, hx2.2]
    rfl
  · obtain ⟨hx1, hx2⟩ := List.mem_filter.1 hx
    obtain ⟨hy1, hy2⟩ := List.mem_filter.1 hy
    have hxH := List.mem_range.1 hx1
    have hyH := List.mem_range.1 hy1
    simp only [Bool.and_eq_true] at hx2 hy2
    have b1 := h.to hev p r hxH _ (hfs x hxH).1
    have b2 := h.to hev p r hyH _ (hfs y hyH).1
    rw [e] at b1
    have b3 := p.trans hxH b1 (p.sym hyH b2)
    have c1 := isLeast_iff.1 hx2.1 y b3
    have c2 := isLeast_iff.1 hy2.1 x (p.sym hxH b3)
    omega
theorem Mir.cycP {N M : Nat → Nat} {H : Nat} (hev : ∀ j, j < H → oth j < H) (p : Pm N H) (r : Pm M H) (h : Mir N M H) (P : Nat → Bool) : Go.Proofs.YtmklngabfdnclaaDoor.cycP P N H = Go.Proofs.YtmklngabfdnclaaDoor.cycP P M H :=
  Nat.le_antisymm (h.le hev p r P) ((h.sym hev p).le hev r p P)
theorem Mir.cyc {N M : Nat → Nat} {H : Nat} (hev : ∀ j, j < H → oth j < H) (p : Pm N H) (r : Pm M H) (h : Mir N M H) : Go.Proofs.YtmklngabfdnclaaDoor.cyc N H = Go.Proofs.YtmklngabfdnclaaDoor.cyc M H := by
  rw [← cycP_true, ← cycP_true]
  exact h.cycP hev p r _
/-- the lists turned round -/
theorem mir_rev {q : List (List Nat)} {N M : Nat → Nat} {H : Nat} (hN : Behind q N) (hM : Behind (q.map List.reverse) M)
    (hcov : ∀ j, j < H → ∃ x i, x < q.length ∧ i < (q.getD x []).length ∧ oth ((q.getD x []).getD i 0) = j) : Mir N M H := by
  intro j hj
  obtain ⟨x, i, hx, hi, rfl⟩ := hcov j hj
  rw [hN x hx i hi, oth_oth]
  have hq : (q.map List.reverse).getD x [] = (q.getD x []).reverse := by simp [List.getD, hx]
  have hm := hM x (by simpa using hx)
  rw [hq] at hm
  generalize q.getD x [] = l at *
  have hrev : ∀ k, k < l.length → l.reverse.getD k 0 = l.getD (l.length - 1 - k) 0 := fun k hk => by
    have : l.length - 1 - k < l.length := by omega
    simp [List.getD, hk, this]
  rw [List.length_reverse] at hm
  have hL : 0 < l.length := by omega
  by_cases e : i + 1 = l.length
  · have e0 : (i + 1) % l.length = 0 := by rw [e, Nat.mod_self]
    have := hm (l.length - 1) (by omega)
    rw [hrev _ (by omega), show l.length - 1 + 1 = l.length by omega, Nat.mod_self, hrev 0 hL] at this
    rw [Nat.sub_self, show l.length - 1 - 0 = i by omega] at this
    rw [e0]
    exact this
  · have e0 : (i + 1) % l.length = i + 1 := Nat.mod_eq_of_lt (by omega)
    have := hm (l.length - 1 - (i + 1)) (by omega)
    rw [hrev _ (by omega), Nat.mod_eq_of_lt (by omega), hrev _ (by omega)] at this
    rw [show l.length - 1 - (l.length - 1 - (i + 1)) = i + 1 by omega, show l.length - 1 - (l.length - 1 - (i + 1) + 1) = i by omega] at this
    rw [e0]
    exact this
end Go.Proofs.YtmklngabfdnclaaDoor


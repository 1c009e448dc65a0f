/-
  Two half edges of a list change places: what comes behind what, and how many rounds there are then. No conditions beyond each theorem's own.
-/
import Derived.Test.YtefagplbpbkpgaaDoorJ7
import Derived.Test.YtefagplbpbkpgaaDoorJ3
import Derived.Test.YtefagplbpbkpgaaDoorJ21
namespace Go.Proofs.YtefagplbpbkpgaaDoor
open Go.RowKit
set_option linter.unusedVariables false
set_option maxRecDepth 20000

theorem oth_eq {i j : Nat} : oth i = j ↔ i = oth j := by
  constructor
  · intro h; rw [← h, oth_oth]
  · intro h; rw [h, oth_oth]
theorem oth_sw (a b j : Nat) : oth (sw a b (oth j)) = sw (oth a) (oth b) j := by
  by_cases h1 : oth j = a
  · rw [h1, sw_a]
    have : j = oth a := oth_eq.1 h1
    rw [this, sw_a]
  · by_cases h2 : oth j = b
    · rw [h2, sw_b]
      have : j = oth b := oth_eq.1 h2
      rw [this, sw_b]
    · rw [sw_o h1 h2, oth_oth, sw_o (fun e => h1 (oth_eq.2 e)) (fun e => h2 (oth_eq.2 e))]
theorem it_same {N M : Nat → Nat} {H : Nat} (p : Pm N H) (h : ∀ j, j < H → N j = M j) {x : Nat} (hx : x < H) : ∀ t, it N t x = it M t x := by
  intro t
  induction t with
  | zero => rfl
  | succ t ih => show N (it N t x) = M (it M t x); rw [← ih]; exact h _ (p.it_lt hx t)
theorem cyc_same {N M : Nat → Nat} {H : Nat} (p : Pm N H) (h : ∀ j, j < H → N j = M j) : cyc N H = cyc M H := by
  unfold cyc
  congr 1
  refine List.filter_congr fun x hx => ?_
  have hx := List.mem_range.1 hx
  have hpr : pr N H x = pr M H x := by
    unfold pr
    congr 2
    funext t
    rw [it_same p h hx (t + 1)]
  unfold isLeast orb
  rw [hpr]
  congr 1
  exact List.map_congr_left fun t _ => it_same p h hx t
theorem Pm.pre {N : Nat → Nat} {H : Nat} (p : Pm N H) {a : Nat} (ha : a < H) : ∃ a', a' < H ∧ N a' = a := ⟨it N (Go.Proofs.YtefagplbpbkpgaaDoor.pr N H a) a, p.it_lt ha _, (p.pr ha).2.1⟩
theorem cyc_post {N M : Nat → Nat} {H a b : Nat} (p : Pm N H) (ha : a < H) (hb : b < H) (hab : a ≠ b) (h : ∀ j, j < H → M j = sw a b (N j)) : cyc M H = cyc N H + 1 ∨ cyc M H + 1 = cyc N H := by
  obtain ⟨a', ha', ea⟩ := p.pre ha
  obtain ⟨b', hb', eb⟩ := p.pre hb
  have hne : a' ≠ b' := fun e => hab (by rw [← ea, ← eb, e])
  have hM : ∀ j, j < H → (fun j => N (sw a' b' j)) j = M j := fun j hj => by
    rw [h j hj]
    show N (sw a' b' j) = sw a b (N j)
    by_cases h1 : j = a'
    · rw [h1, sw_a, ea, sw_a, eb]
    · by_cases h2 : j = b'
      · rw [h2, sw_b, eb, sw_b, ea]
      · rw [sw_o h1 h2, sw_o (fun e => h1 (p.inj _ _ hj ha' (e.trans ea.symm))) (fun e => h2 (p.inj _ _ hj hb' (e.trans eb.symm)))]
  rw [← cyc_same (p.swap ha' hb') hM]
  exact cyc_swap p ha' hb' hne
/-- as many rounds, or two more, or two fewer -/
theorem swap_cyc {N M : Nat → Nat} {n h1 h2 : Nat} (p : Pm N (2 * n)) (hh1 : h1 < 2 * n) (hh2 : h2 < 2 * n) (hne : h1 ≠ h2) (h : ∀ j, j < 2 * n → M j = sw h1 h2 (N (sw (oth h1) (oth h2) j))) : cyc M (2 * n) = cyc N (2 * n) ∨ cyc M (2 * n) = cyc N (2 * n) + 2 ∨ cyc M (2 * n) + 2 = cyc N (2 * n) := by
  have hno : oth h1 ≠ oth h2 := fun e => hne (by have := congrArg oth e; rwa [oth_oth, oth_oth] at this)
  have e1 := cyc_swap p (oth_lt hh1) (oth_lt hh2) hno
  have e2 := cyc_post (p.swap (oth_lt hh1) (oth_lt hh2)) hh1 hh2 hne h
  omega
theorem getD_map (l : List Nat) (f : Nat → Nat) {i : Nat} (hi : i < l.length) : (l.map f).getD i 0 = f (l.getD i 0) := by simp [List.getD, hi]
theorem rows_map (q : List (List Nat)) (f : Nat → Nat) (x : Nat) : (q.map fun l => l.map f).getD x [] = (q.getD x []).map f := by
  simp only [List.getD_eq_getElem?_getD, List.getElem?_map]
  cases q[x]? <;> simp
/-- what comes behind what, where two change places -/
theorem behind_map {q : List (List Nat)} {N M : Nat → Nat} {H h1 h2 : Nat} (hN : Behind q N) (hM : Behind (q.map fun l => l.map (sw h1 h2)) M) (hh1 : h1 < H) (hh2 : h2 < H) (hev : ∀ j, j < H → oth j < H)
    (hcov : ∀ j, j < H → ∃ x i, x < q.length ∧ i < (q.getD x []).length ∧ oth ((q.getD x []).getD i 0) = j) : ∀ j, j < H → M j = sw h1 h2 (N (sw (oth h1) (oth h2) j)) := by
  intro j hj
  obtain ⟨x, i, hx, hi, he⟩ := hcov (oth (sw h1 h2 (oth j))) (hev _ (sw_lt hh1 hh2 (hev j hj)))
  have ho : (q.getD x []).getD i 0 = sw h1 h2 (oth j) := by have := congrArg oth he; rwa [oth_oth, oth_oth] at this
  have e1 := hN x hx i hi
  have e2 := hM x (by simpa using hx) i (by rw [rows_map, List.length_map]; exact hi)
  rw [rows_map, List.length_map, getD_map _ _ hi, getD_map _ _ (Nat.mod_lt _ (by omega)), ho, sw_sw, oth_oth] at e2
  rw [ho, oth_sw] at e1
  rw [e2, e1]
end Go.Proofs.YtefagplbpbkpgaaDoor
/-
  A rotation in which two half edges of a list have changed places is one. No conditions beyond each theorem's own.
-/
namespace Go.Proofs.YtefagplbpbkpgaaDoor.pt
open Go.RowKit
set_option linter.unusedVariables false
set_option maxRecDepth 20000

theorem sw_inj {a b i j : Nat} (h : sw a b i = sw a b j) : i = j := by have := congrArg (sw a b) h; rwa [sw_sw, sw_sw] at this
theorem Ro.swap {V : Nat} {es : List (Nat × Nat)} {q : List (List Nat)} (r : Ro V es q) {x h1 h2 : Nat} (hx : x < V) (m1 : h1 ∈ q.getD x []) (m2 : h2 ∈ q.getD x []) : Ro V es (q.map fun l => l.map (sw h1 h2)) := by
  have l1 := r.lt x hx h1 m1
  have l2 := r.lt x hx h2 m2
  have hin : ∀ y, y < V → ∀ h ∈ q.getD y [], sw h1 h2 h ∈ q.getD y [] := fun y hy h hm => by
    by_cases e1 : h = h1
    · have : y = x := (r.st y hy h hm).symm.trans (by rw [e1]; exact r.st x hx h1 m1)
      rw [e1, sw_a, this]
      exact m2
    · by_cases e2 : h = h2
      · have : y = x := (r.st y hy h hm).symm.trans (by rw [e2]; exact r.st x hx h2 m2)
        rw [e2, sw_b, this]
        exact m1
      · rw [sw_o e1 e2]
        exact hm
  refine ⟨by simp [r.len], r.ends, ?_, ?_, ?_, ?_⟩
  · intro y hy h hm
    rw [rows_map] at hm
    obtain ⟨z, hz, rfl⟩ := List.mem_map.1 hm
    exact sw_lt l1 l2 (r.lt y hy z hz)
  · intro y hy h hm
    rw [rows_map] at hm
    obtain ⟨z, hz, rfl⟩ := List.mem_map.1 hm
    exact r.st y hy _ (hin y hy z hz)
  · intro y hy
    rw [rows_map, List.nodup_iff_pairwise_ne, List.pairwise_map]
    exact List.Pairwise.imp (fun hab e => hab (sw_inj e)) (r.one y hy)
  · intro h hh
    obtain ⟨y, hy, hm⟩ := r.all (sw h1 h2 h) (sw_lt l1 l2 hh)
    refine ⟨y, hy, ?_⟩
    rw [rows_map]
    exact List.mem_map.2 ⟨_, hm, sw_sw _ _ _⟩
theorem toIs_flatten (q : List (List Nat)) : (rowsI q).flatten = toIs q.flatten := by
  unfold rowsI toIs
  rw [List.map_flatten]
/-- lists in plain numbers that are a rotation -/
theorem Ro.rot {V : Nat} {es : List (Nat × Nat)} {q : List (List Nat)} (hp : Plain V es) (r : Ro V es q) : IsRot V es.length (toI es) (rowsI q) := by
  have hnd : q.flatten.Nodup := by
    rw [List.nodup_iff_pairwise_ne, List.pairwise_flatten]
    constructor
    · intro l hl
      obtain ⟨x, hx, rfl⟩ := List.mem_iff_getElem.1 hl
      have := r.one x (by rw [← r.len]; exact hx)
      rw [List.nodup_iff_pairwise_ne] at this
      simpa [List.getD, hx] using this
    · rw [List.pairwise_iff_getElem]
      intro i j hi hj hij a ha b hb e
      subst e
      have e1 := r.st i (by rw [← r.len]; exact hi) a (by simpa [List.getD, hi] using ha)
      have e2 := r.st j (by rw [← r.len]; exact hj) a (by simpa [List.getD, hj] using hb)
      omega
  have hmem : ∀ h, h ∈ q.flatten ↔ h < 2 * es.length := fun h => by
    constructor
    · intro hm
      obtain ⟨l, hl, hh⟩ := List.mem_flatten.1 hm
      obtain ⟨x, hx, rfl⟩ := List.mem_iff_getElem.1 hl
      exact r.lt x (by rw [← r.len]; exact hx) h (by simpa [List.getD, hx] using hh)
    · intro hh
      obtain ⟨x, hx, hm⟩ := r.all h hh
      have hxq : x < q.length := by rw [r.len]; exact hx
      exact List.mem_flatten.2 ⟨q[x], List.getElem_mem hxq, by simpa [List.getD, hxq] using hm⟩
  refine ⟨good_of_plain hp, by rw [rowsI_length, r.len], ?_, ?_, ?_⟩
  · intro x hx h hm
    rw [rowsI_length, r.len] at hx
    rw [rowsI_getD] at hm
    obtain ⟨z, hz, rfl⟩ := List.mem_map.1 hm
    have h1 := r.lt x hx z hz
    have h2 : stV es z = x := r.st x hx z hz
    refine ⟨by omega, by omega, ?_⟩
    rw [atI_toI]
    simp [h2]
  · rw [toIs_flatten]
    unfold toIs
    rw [List.nodup_iff_pairwise_ne, List.pairwise_map]
    exact List.Pairwise.imp (fun hab e => hab (by omega)) hnd
  · rw [toIs_flatten, toIs_length]
    refine Nat.le_antisymm (nodup_le _ _ hnd fun h hh => (hmem h).1 hh) ?_
    have := inj_len (R := fun v y => v = y) (List.range (2 * es.length)) q.flatten List.nodup_range (fun v hv => ⟨v, (hmem v).2 (List.mem_range.1 hv), rfl⟩) (fun v v' y _ _ e e' => e.trans e'.symm)
    simpa using this
theorem map_emp (q : List (List Nat)) (f : Nat → Nat) (x : Nat) : (q.map fun l => l.map f).getD x [] = [] ↔ q.getD x [] = [] := by
  rw [rows_map]
  simp
end Go.Proofs.YtefagplbpbkpgaaDoor.pt
/-
  The lists turned round: their next number is the one behind the other way, so the faces are as many and of the same sizes. No conditions.
-/
namespace Go.Proofs.YtefagplbpbkpgaaDoor
set_option linter.unusedVariables false

theorem inj_lenN {f : Nat → Nat} : ∀ {A B : List Nat}, A.Nodup → (∀ x ∈ A, f x ∈ B) → (∀ x ∈ A, ∀ y ∈ A, f x = f y → x = y) → A.length ≤ B.length := by
  intro A
  induction A with
  | nil => intro B _ _ _; simp
  | cons a A ih =>
    intro B hn hm hi
    have hna := List.nodup_cons.1 hn
    have hb : f a ∈ B := hm a (by simp)
    have h1 := ih (B := B.erase (f a)) hna.2 (fun x hx => (List.mem_erase_of_ne (fun e => hna.1 (by rw [← hi x (by simp [hx]) a (by simp) e]; exact hx))).2 (hm x (by simp [hx]))) (fun x hx y hy => hi x (by simp [hx]) y (by simp [hy]))
    rw [List.length_erase_of_mem hb] at h1
    have : 0 < B.length := List.length_pos_of_mem hb
    simp
    omega
theorem Pm.pred {N : Nat → Nat} {H : Nat} (p : Pm N H) {h k : Nat} (hh : h < H) (hk : k ∈ orb N H h) : ∃ j, j ∈ orb N H h ∧ N j = k := by
  have hkH := p.orb_lt hh k hk
  obtain ⟨t, _, ht⟩ := p.ret hkH
  refine ⟨it N t k, p.trans hh hk (p.orb_it hkH t), ?_⟩
  have := it_add N 1 t k
  rw [Nat.add_comm 1 t, ht] at this
  exact this.symm

/-- M goes the other way, on the other halves -/
def Mir (N M : Nat → Nat) (H : Nat) : Prop := ∀ j, j < H → M (oth (N j)) = oth j
theorem Mir.sym {N M : Nat → Nat} {H : Nat} (hev : ∀ j, j < H → oth j < H) (p : Pm N H) (h : Mir N M H) : Mir M N H := fun k hk => by
  have h1 := hev k hk
  obtain ⟨j, hj, e⟩ := p.pred h1 (p.mem_self h1)
  have := h j (p.orb_lt h1 j hj)
  rw [e, oth_oth] at this
  rw [this, oth_oth, e]
theorem Mir.into {N M : Nat → Nat} {H : Nat} (hev : ∀ j, j < H → oth j < H) (p : Pm N H) (r : Pm M H) (h : Mir N M H) {i : Nat} (hi : i < H) : ∀ k ∈ orb M H (oth i), oth k ∈ orb N H i := by
  refine orb_in (U := fun k => oth k ∈ orb N H i) (fun k hk => ?_) (by rw [oth_oth]; exact p.mem_self hi)
  obtain ⟨j, hj, e⟩ := p.pred hi hk
  have := h j (p.orb_lt hi j hj)
  rw [e, oth_oth] at this
  show oth (M k) ∈ _
  rw [this, oth_oth]
  exact hj
theorem Mir.fro {N M : Nat → Nat} {H : Nat} (hev : ∀ j, j < H → oth j < H) (p : Pm N H) (r : Pm M H) (h : Mir N M H) {i : Nat} (hi : i < H) : ∀ k ∈ orb N H i, oth k ∈ orb M H (oth i) := fun k hk => by
  have := (h.sym hev p).into hev r p (i := oth i) (hev i hi) k (by rw [oth_oth]; exact hk)
  exact this
theorem Mir.size {N M : Nat → Nat} {H : Nat} (hev : ∀ j, j < H → oth j < H) (p : Pm N H) (r : Pm M H) (h : Mir N M H) {i : Nat} (hi : i < H) : (orb M H (oth i)).length = (orb N H i).length := by
  have hj : ∀ x y, oth x = oth y → x = y := fun x y e => by have := congrArg oth e; rwa [oth_oth, oth_oth] at this
  exact Nat.le_antisymm (inj_lenN (f := oth) (r.orb_nodup (hev i hi)) (h.into hev p r hi) fun x _ y _ => hj x y) (inj_lenN (f := oth) (p.orb_nodup hi) (h.fro hev p r hi) fun x _ y _ => hj x y)
/-- the rounds that one element begins are one list but for its order -/
theorem Pm.size_same {N : Nat → Nat} {H : Nat} (p : Pm N H) {i j : Nat} (hi : i < H) (hj : j ∈ orb N H i) : (orb N H j).length = (orb N H i).length := by
  have hjH := p.orb_lt hi j hj
  exact Nat.le_antisymm (inj_lenN (f := id) (p.orb_nodup hjH) (fun x hx => p.trans hi hj hx) fun x _ y _ e => e) (inj_lenN (f := id) (p.orb_nodup hi) (fun x hx => p.trans hjH (p.sym hi hj) hx) fun x _ y _ e => e)
/-- rounds of a kind that hangs on the size alone -/
def cycP (P : Nat → Bool) (N : Nat → Nat) (H : Nat) : Nat := ((List.range H).filter fun h => isLeast N H h && P (orb N H h).length).length
theorem cycP_true (N : Nat → Nat) (H : Nat) : cycP (fun _ => true) N H = cyc N H := by simp [cycP, cyc]
theorem Mir.le {N M : Nat → Nat} {H : Nat} (hev : ∀ j, j < H → oth j < H) (p : Pm N H) (r : Pm M H) (h : Mir N M H) (P : Nat → Bool) : cycP P N H ≤ cycP P M H := by
  have hf : ∀ i, ∃ l, i < H → l ∈ orb M H (oth i) ∧ isLeast M H l = true := fun i => by
    by_cases hi : i < H
    · obtain ⟨l, h1, h2⟩ := r.least (hev i hi)
      exact ⟨l, fun _ => ⟨h1, h2⟩⟩
    · exact ⟨0, fun h => absurd h hi⟩
  let f : Nat → Nat := fun i => (hf i).choose
  have hfs : ∀ i, i < H → f i ∈ orb M H (oth i) ∧ isLeast M H (f i) = true := fun i => (hf i).choose_spec
  unfold cycP
  refine inj_lenN (f := f) ((List.nodup_range).sublist (List.filter_sublist)) (fun x hx => ?_) (fun x hx y hy e => ?_)
  · obtain ⟨hx1, hx2⟩ := List.mem_filter.1 hx
    have hxH := List.mem_range.1 hx1
    obtain ⟨a1, a2⟩ := hfs x hxH
    simp only [Bool.and_eq_true] at hx2
    refine List.mem_filter.2 ⟨List.mem_range.2 (r.orb_lt (hev x hxH) _ a1), ?_⟩
    rw [r.size_same (hev x hxH) a1, h.size hev p r hxH, a2, hx2.2]
    rfl
  · obtain ⟨hx1, hx2⟩ := List.mem_filter.1 hx
    obtain ⟨hy1, hy2⟩ := List.mem_filter.1 hy
    have hxH := List.mem_range.1 hx1
    have hyH := List.mem_range.1 hy1
    simp only [Bool.and_eq_true] at hx2 hy2
    have b1 := h.into hev p r hxH _ (hfs x hxH).1
    have b2 := h.into hev p r hyH _ (hfs y hyH).1
    rw [e] at b1
    have b3 := p.trans hxH b1 (p.sym hyH b2)
    have c1 := isLeast_iff.1 hx2.1 y b3
    have c2 := isLeast_iff.1 hy2.1 x (p.sym hxH b3)
    omega
theorem Mir.cycP {N M : Nat → Nat} {H : Nat} (hev : ∀ j, j < H → oth j < H) (p : Pm N H) (r : Pm M H) (h : Mir N M H) (P : Nat → Bool) : Go.Proofs.YtefagplbpbkpgaaDoor.cycP P N H = Go.Proofs.YtefagplbpbkpgaaDoor.cycP P M H :=
  Nat.le_antisymm (h.le hev p r P) ((h.sym hev p).le hev r p P)
theorem Mir.cyc {N M : Nat → Nat} {H : Nat} (hev : ∀ j, j < H → oth j < H) (p : Pm N H) (r : Pm M H) (h : Mir N M H) : Go.Proofs.YtefagplbpbkpgaaDoor.cyc N H = Go.Proofs.YtefagplbpbkpgaaDoor.cyc M H := by
  rw [← cycP_true, ← cycP_true]
  exact h.cycP hev p r _
/-- the lists turned round -/
theorem mir_rev {q : List (List Nat)} {N M : Nat → Nat} {H : Nat} (hN : Behind q N) (hM : Behind (q.map List.reverse) M)
    (hcov : ∀ j, j < H → ∃ x i, x < q.length ∧ i < (q.getD x []).length ∧ oth ((q.getD x []).getD i 0) = j) : Mir N M H := by
  intro j hj
  obtain ⟨x, i, hx, hi, rfl⟩ := hcov j hj
  rw [hN x hx i hi, oth_oth]
  have hq : (q.map List.reverse).getD x [] = (q.getD x []).reverse := by simp [List.getD, hx]
  have hm := hM x (by simpa using hx)
  rw [hq] at hm
  generalize q.getD x [] = l at *
  have hrev : ∀ k, k < l.length → l.reverse.getD k 0 = l.getD (l.length - 1 - k) 0 := fun k hk => by
    have : l.length - 1 - k < l.length := by omega
    simp [List.getD, hk, this]
  rw [List.length_reverse] at hm
  have hL : 0 < l.length := by omega
  by_cases e : i + 1 = l.length
  · have e0 : (i + 1) % l.length = 0 := by rw [e, Nat.mod_self]
    have := hm (l.length - 1) (by omega)
    rw [hrev _ (by omega), show l.length - 1 + 1 = l.length by omega, Nat.mod_self, hrev 0 hL] at this
    rw [Nat.sub_self, show l.length - 1 - 0 = i by omega] at this
    rw [e0]
    exact this
  · have e0 : (i + 1) % l.length = i + 1 := Nat.mod_eq_of_lt (by omega)
    have := hm (l.length - 1 - (i + 1)) (by omega)
    rw [hrev _ (by omega), Nat.mod_eq_of_lt (by omega), hrev _ (by omega)] at this
    rw [show l.length - 1 - (l.length - 1 - (i + 1)) = i + 1 by omega, show l.length - 1 - (l.length - 1 - (i + 1) + 1) = i by omega] at this
    rw [e0]
    exact this
end Go.Proofs.YtefagplbpbkpgaaDoor
/-
  A rotation whose lists are turned round is one; its faces are as many, of the same sizes, and its handles as many. No conditions beyond each theorem's own.
-/
namespace Go.Proofs.YtefagplbpbkpgaaDoor.pt
open Go.RowKit
set_option linter.unusedVariables false
set_option maxRecDepth 20000

theorem rows_rev (q : List (List Nat)) (x : Nat) : (q.map List.reverse).getD x [] = (q.getD x []).reverse := by
  by_cases hx : x < q.length
  · simp [List.getD, hx]
  · simp [List.getD, hx]
theorem Ro.rev {V : Nat} {es : List (Nat × Nat)} {q : List (List Nat)} (r : Ro V es q) : Ro V es (q.map List.reverse) := by
  refine ⟨by simp [r.len], r.ends, ?_, ?_, ?_, ?_⟩
  · intro y hy h hm
    rw [rows_rev, List.mem_reverse] at hm
    exact r.lt y hy h hm
  · intro y hy h hm
    rw [rows_rev, List.mem_reverse] at hm
    exact r.st y hy h hm
  · intro y hy
    rw [rows_rev]
    rw [List.nodup_iff_pairwise_ne, List.pairwise_reverse]
    exact List.Pairwise.imp (fun h e => h e.symm) (List.nodup_iff_pairwise_ne.1 (r.one y hy))
  · intro h hh
    obtain ⟨y, hy, hm⟩ := r.all h hh
    exact ⟨y, hy, by rw [rows_rev, List.mem_reverse]; exact hm⟩
theorem rev_emp (q : List (List Nat)) (x : Nat) : (q.map List.reverse).getD x [] = [] ↔ q.getD x [] = [] := by
  rw [rows_rev]
  simp
/-- as many faces of every kind that hangs on the size alone -/
theorem Ro.mir {V : Nat} {es : List (Nat × Nat)} {q : List (List Nat)} (r : Ro V es q) {N M : Nat → Nat} (hN : Behind q N) (hM : Behind (q.map List.reverse) M) (P : Nat → Bool) : cycP P N (2 * es.length) = cycP P M (2 * es.length) ∧ cyc N (2 * es.length) = cyc M (2 * es.length) := by
  have hm : Mir N M (2 * es.length) := mir_rev hN hM r.cov
  exact ⟨hm.cycP (fun j hj => oth_lt hj) (nx_pm r hN) (nx_pm r.rev hM) P, hm.cyc (fun j hj => oth_lt hj) (nx_pm r hN) (nx_pm r.rev hM)⟩
end Go.Proofs.YtefagplbpbkpgaaDoor.pt
/-
  Two rotations that are alike but for the names of half edges and faces have assignments both or neither: plain mathematics. No conditions beyond each theorem's own.
-/
namespace Go.Proofs.YtefagplbpbkpgaaDoor
set_option linter.unusedVariables false
set_option maxRecDepth 20000
/-- the same but for names: half edges by s, faces by p -/
structure Like (A A' : Nat → Nat → Nat) (H K K' : Nat) (s p : Nat → Nat) : Prop where
  pm : Pm s H
  v : ∀ t, t < H → A' (s t) 1 = A t 1
  f : ∀ t, t < H → A' (s t) 2 = p (A t 2)
  lt : ∀ t, t < H → A t 2 < K
  plt : ∀ f, f < K → p f < K'
  inj : ∀ f g, f < K → g < K → p f = p g → f = g
  sur : ∀ f', f' < K' → ∃ f, f < K ∧ p f = f'
theorem like_of {A A' : Nat → Nat → Nat} {H K K' : Nat} {s : Nat → Nat} (pm : Pm s H) (v : ∀ t, t < H → A' (s t) 1 = A t 1) (lt : ∀ t, t < H → A t 2 < K) (lt' : ∀ t, t < H → A' t 2 < K') (hit : ∀ f, f < K → ∃ t, t < H ∧ A t 2 = f) (hit' : ∀ f, f < K' → ∃ t, t < H ∧ A' t 2 = f)
    (same : ∀ t u, t < H → u < H → (A t 2 = A u 2 ↔ A' (s t) 2 = A' (s u) 2)) : ∃ p, Like A A' H K K' s p := by
  have hex : ∀ f, ∃ g, f < K → ∀ t, t < H → A t 2 = f → A' (s t) 2 = g := fun f => by
    by_cases hf : f < K
    · obtain ⟨t, ht, e⟩ := hit f hf
      exact ⟨A' (s t) 2, fun _ u hu e' => ((same u t hu ht).1 (e'.trans e.symm))⟩
    · exact ⟨0, fun h => absurd h hf⟩
  obtain ⟨p, hp⟩ := Classical.axiomOfChoice hex
  have hp' : ∀ t, t < H → A' (s t) 2 = p (A t 2) := fun t ht => hp _ (lt t ht) t ht rfl
  refine ⟨p, pm, v, hp', lt, fun f hf => ?_, fun f g hf hg e => ?_, fun f' hf' => ?_⟩
  · obtain ⟨t, ht, e⟩ := hit f hf
    rw [← e, ← hp' t ht]
    exact lt' _ (pm.lt t ht)
  · obtain ⟨t, ht, e1⟩ := hit f hf
    obtain ⟨u, hu, e2⟩ := hit g hg
    rw [← e1, ← e2] at e ⊢
    rw [← hp' t ht, ← hp' u hu] at e
    exact (same t u ht hu).2 e
  · obtain ⟨t', ht', e⟩ := hit' f' hf'
    obtain ⟨t, ht, rfl⟩ := pm.back' ht'
    exact ⟨A t 2, lt t ht, by rw [← hp' t ht, e]⟩
section
variable {A A' : Nat → Nat → Nat} {H K K' V : Nat} {s p : Nat → Nat} {es es' : List (Nat × Nat)}
theorem Like.ch (h : Like A A' H K K' s p) (he : ∀ y, y < V → isEnd es' y = isEnd es y) {y : Nat} (hy : y < V) : (∀ a ∈ chF es A H y, s a ∈ chF es' A' H y) ∧ (chF es' A' H y = [] ↔ chF es A H y = []) := by
  unfold chF
  rw [he y hy]
  by_cases e : isEnd es y = true
  · rw [if_pos e, if_pos e]
    have h1 : ∀ a ∈ selA A y H, s a ∈ selA A' y H := fun a ha => by
      obtain ⟨a1, a2⟩ := mem_selA.1 ha
      exact mem_selA.2 ⟨h.pm.lt a a1, (h.v a a1).trans a2⟩
    refine ⟨h1, ?_⟩
    rw [List.eq_nil_iff_forall_not_mem, List.eq_nil_iff_forall_not_mem]
    constructor
    · exact fun h2 a ha => h2 _ (h1 a ha)
    · intro h2 b hb
      obtain ⟨b1, b2⟩ := mem_selA.1 hb
      obtain ⟨a, ha, rfl⟩ := h.pm.back' b1
      exact h2 a (mem_selA.2 ⟨ha, (h.v a ha).symm.trans b2⟩)
  · rw [if_neg e, if_neg e]
    exact ⟨fun a ha => by simp at ha, Iff.rfl⟩
theorem ch_lt {a y : Nat} (h : a ∈ chF es A H y) : a < H := by
  unfold chF at h
  split at h
  · exact (mem_selA.1 h).1
  · simp at h
theorem Like.fits (h : Like A A' H K K' s p) (he : ∀ y, y < V → isEnd es' y = isEnd es y) {cap cap' : Nat → Int} (hc : ∀ f, f < K → cap' (p f) = cap f) (hf : Fits (fun h => A h 2) (chF es A H) V K cap) : Fits (fun h => A' h 2) (chF es' A' H) V K' cap' := by
  obtain ⟨gr, hs, hle⟩ := hf
  have hv : ∀ y, y < V → gr y ≠ -1 → ∃ a, a ∈ chF es A H y ∧ a < H ∧ gr y = (a : Int) := fun y hy hne => by
    obtain ⟨a, ha, e⟩ := (hs y hy).2.resolve_left hne
    exact ⟨a, ha, ch_lt ha, e⟩
  refine ⟨fun y => if gr y = -1 then -1 else (s (gr y).toNat : Int), fun y hy => ?_, fun f' hf' => ?_⟩
  · obtain ⟨c1, c2⟩ := h.ch (es := es) (es' := es') he hy
    dsimp only
    by_cases e : gr y = -1
    · rw [if_pos e]
      exact ⟨⟨fun _ => c2.2 ((hs y hy).1.1 e), fun _ => rfl⟩, .inl rfl⟩
    · rw [if_neg e]
      obtain ⟨a, ha, _, ea⟩ := hv y hy e
      have et : (gr y).toNat = a := by omega
      rw [et]
      refine ⟨⟨fun h => by omega, fun h => absurd ((hs y hy).1.2 (c2.1 h)) e⟩, .inr ⟨s a, c1 a ha, rfl⟩⟩
  · obtain ⟨f, hf, rfl⟩ := h.sur f' hf'
    rw [hc f hf]
    refine Int.le_trans (Int.le_of_eq ?_) (hle f hf)
    have key : ∀ k, k ≤ V → occ (fun h => A' h 2) (fun y => if gr y = -1 then -1 else (s (gr y).toNat : Int)) (p f) k = occ (fun h => A h 2) gr f k := by
      intro k
      induction k with
      | zero => intro _; rfl
      | succ k ih =>
        intro hk
        unfold occ
        rw [ih (by omega)]
        congr 1
        by_cases e : gr k = -1
        · rw [if_pos e, e]; simp [ind]
        · rw [if_neg e]
          obtain ⟨a, _, ha, ea⟩ := hv k (by omega) e
          have et : (gr k).toNat = a := by omega
          rw [et, ea, ind_some, ind_some, h.f a ha]
          by_cases e2 : A a 2 = f
          · rw [if_pos e2, if_pos (by rw [e2])]
          · rw [if_neg e2, if_neg fun e3 => e2 (h.inj _ _ (h.lt a ha) hf e3)]
    exact key V (Nat.le_refl _)
/-- no vertex is too mixed, and with some outer face sources and sinks have angles of their own -/
def Ok (es : List (Nat × Nat)) (A : Nat → Nat → Nat) (H V K : Nat) : Prop := Bim A H V ∧ ∃ o, o < K ∧ Fits (fun h => A h 2) (chF es A H) V K (capF (rmF A H) o)
theorem Like.ok (h : Like A A' H K K' s p) (he : ∀ y, y < V → isEnd es' y = isEnd es y) (hh : ∀ f, f < K → hc A' H (p f) = hc A H f) (hp : ∀ x, x < V → pc A' H x = pc A H x) (ho : Ok es A H V K) : Ok es' A' H V K' := by
  obtain ⟨hb, o, hoK, hf⟩ := ho
  refine ⟨fun x hx => by rw [hp x hx]; exact hb x hx, p o, h.plt o hoK, h.fits he (fun f hf' => ?_) hf⟩
  unfold capF rmF
  rw [hh f hf']
  by_cases e : f = o
  · rw [if_pos e, if_pos (by rw [e])]
  · rw [if_neg e, if_neg fun e' => e (h.inj _ _ hf' hoK e')]
theorem Like.hc_eq (h : Like A A' H K K' s p) {f : Nat} (hf : f < K) : hc A' H (p f) = cn (fun t => decide (A' (s t) 3 = 2 ∧ A t 2 = f)) H := by
  have e := cn_perm h.pm (fun t => decide (A' t 3 = 2 ∧ A' t 2 = p f))
  have e0 : hc A' H (p f) = cn (fun t => decide (A' t 3 = 2 ∧ A' t 2 = p f)) H := rfl
  rw [e0, ← e]
  refine cn_congr fun t ht => decide_eq_decide.2 ?_
  rw [h.f t ht]
  exact ⟨fun ⟨a, b⟩ => ⟨a, h.inj _ _ (h.lt t ht) hf b⟩, fun ⟨a, b⟩ => ⟨a, by rw [b]⟩⟩
theorem Like.pc_eq (h : Like A A' H K K' s p) (h0 : ∀ t, t < H → (A' (s t) 3 = 0 ↔ A t 3 = 0)) (x : Nat) : pc A' H x = pc A H x := by
  have e := cn_perm h.pm (fun t => decide (A' t 3 = 0 ∧ A' t 1 = x))
  have e0 : pc A' H x = cn (fun t => decide (A' t 3 = 0 ∧ A' t 1 = x)) H := rfl
  rw [e0, ← e]
  show _ = cn (fun t => decide (A t 3 = 0 ∧ A t 1 = x)) H
  exact cn_congr fun t ht => decide_eq_decide.2 (by rw [h0 t ht, h.v t ht])
end
/-- two half edges lie in one face just if they lie in one round -/
theorem fc_same {N F : Nat → Nat} {H : Nat} (p : Pm N H) (hF : IsFc (facesF N H H) H F) {a b : Nat} (ha : a < H) (hb : b < H) : F a = F b ↔ b ∈ orb N H a := by
  constructor
  · intro e
    obtain ⟨h1, i, h2, h3⟩ := hF.cov a ha
    obtain ⟨h4, j, h5, h6⟩ := hF.cov b hb
    rw [← e] at h5 h6
    have hm : (facesF N H H).getD (F a) [] ∈ facesF N H H := by simp [List.getD, h1]
    obtain ⟨r, hr, er⟩ := List.mem_map.1 hm
    rw [List.mem_filter, List.mem_range] at hr
    have ma : a ∈ orb N H r := by rw [er]; have := getD_mem h2; rwa [h3] at this
    have mb : b ∈ orb N H r := by rw [er]; have := getD_mem h5; rwa [h6] at this
    exact p.trans ha (p.sym hr.1 ma) mb
  · intro hm
    have hU := orb_in (N := N) (H := H) (h := a) (U := fun j => j < H ∧ F a = F j) (fun j hj => ⟨p.lt j hj.1, hj.2.trans (fc_next p hF hj.1).symm⟩) ⟨ha, rfl⟩ b hm
    exact hU.2
theorem fc_hit {N F : Nat → Nat} {H : Nat} (p : Pm N H) (hF : IsFc (facesF N H H) H F) {f : Nat} (hf : f < (facesF N H H).length) : ∃ j, j < H ∧ F j = f := by
  have hm : (facesF N H H).getD f [] ∈ facesF N H H := by simp [List.getD, hf]
  obtain ⟨r, hr, er⟩ := List.mem_map.1 hm
  rw [List.mem_filter, List.mem_range] at hr
  have h0 : 0 < ((facesF N H H).getD f []).length := by rw [← er]; exact List.length_pos_of_mem (p.mem_self hr.1)
  obtain ⟨a, b⟩ := hF.el f hf 0 h0
  exact ⟨_, a, b⟩
theorem knd_comm (h b : Nat) : knd h b = knd b h := by
  unfold knd
  by_cases h1 : h % 2 = 0 <;> by_cases h2 : b % 2 = 0 <;> simp [h1, h2] <;> split <;> first | rfl | (split <;> omega) | omega
section
variable {V : Nat} {es es' : List (Nat × Nat)} {q q' : List (List Nat)} {N F M F' : Nat → Nat}
theorem ang_hit {S : Nat → Nat} {n : Nat} (p : Pm N (2 * n)) (hF : IsFc (facesF N (2 * n) (2 * n)) (2 * n) F) : ∀ f, f < (facesF N (2 * n) (2 * n)).length → ∃ t, t < 2 * n ∧ angI S F N t 2 = f := fun f hf => by
  obtain ⟨j, hj, e⟩ := fc_hit p hF hf
  exact ⟨oth j, oth_lt hj, by show F (oth (oth j)) = f; rw [oth_oth]; exact e⟩
/-- the other way round -/
theorem mir_ok (r : pt.Ro V es q) (hN : Behind q N) (p : Pm N (2 * es.length)) (hF : IsFc (facesF N (2 * es.length) (2 * es.length)) (2 * es.length) F) (p' : Pm M (2 * es.length)) (hF' : IsFc (facesF M (2 * es.length) (2 * es.length)) (2 * es.length) F') (hm : Mir N M (2 * es.length))
    (ho : Ok es (angI (pt.stV es) F N) (2 * es.length) V (facesF N (2 * es.length) (2 * es.length)).length) : Ok es (angI (pt.stV es) F' M) (2 * es.length) V (facesF M (2 * es.length) (2 * es.length)).length := by
  have hev : ∀ j, j < 2 * es.length → oth j < 2 * es.length := fun j hj => oth_lt hj
  have a3 : ∀ t, t < 2 * es.length → angI (pt.stV es) F' M (pt.suN N t) 3 = angI (pt.stV es) F N t 3 := fun t ht => by
    show knd (pt.suN N t) (M (oth (pt.suN N t))) = knd t (N (oth t))
    unfold pt.suN
    rw [hm (oth t) (oth_lt ht), oth_oth, knd_comm]
  obtain ⟨pi, hL⟩ := like_of (A := angI (pt.stV es) F N) (A' := angI (pt.stV es) F' M) (s := pt.suN N) (H := 2 * es.length) (pt.Pm.oth p) (fun t ht => pt.stV_su r hN ht) (fun t ht => (hF.cov (oth t) (oth_lt ht)).1) (fun t ht => (hF'.cov (oth t) (oth_lt ht)).1) (ang_hit p hF) (ang_hit p' hF') (fun t u ht hu => by
    show F (oth t) = F (oth u) ↔ F' (oth (N (oth t))) = F' (oth (N (oth u)))
    have h1 := p.lt _ (oth_lt ht)
    have h2 := p.lt _ (oth_lt hu)
    rw [← fc_next p hF (oth_lt ht), ← fc_next p hF (oth_lt hu), fc_same p hF h1 h2, fc_same p' hF' (oth_lt h1) (oth_lt h2)]
    constructor
    · exact fun h => hm.fro hev p p' h1 _ h
    · intro h
      have := hm.into hev p p' h1 _ h
      rwa [oth_oth] at this)
  refine hL.ok (fun y _ => rfl) (fun f hf => ?_) (fun x _ => hL.pc_eq (fun t ht => by rw [a3 t ht]) x) ho
  rw [hL.hc_eq hf]
  exact cn_congr fun t ht => by rw [a3 t ht]
/-- all edges turned -/
theorem turn_ok (r : pt.Ro V es q) (p : Pm N (2 * es.length)) (hF : IsFc (facesF N (2 * es.length) (2 * es.length)) (2 * es.length) F) (p' : Pm M (2 * es.length)) (hF' : IsFc (facesF M (2 * es.length) (2 * es.length)) (2 * es.length) F')
    (hM : ∀ j, j < 2 * es.length → M j = oth (N (oth j))) (hst : ∀ t, t < 2 * es.length → pt.stV es' (oth t) = pt.stV es t) (he : ∀ y, y < V → isEnd es' y = isEnd es y)
    (ho : Ok es (angI (pt.stV es) F N) (2 * es.length) V (facesF N (2 * es.length) (2 * es.length)).length) : Ok es' (angI (pt.stV es') F' M) (2 * es.length) V (facesF M (2 * es.length) (2 * es.length)).length := by
  have k3 : ∀ t, t < 2 * es.length → angI (pt.stV es') F' M (oth t) 3 = knd (oth t) (oth (N (oth t))) := fun t ht => by
    show knd (oth t) (M (oth (oth t))) = _
    rw [hM _ (oth_lt (oth_lt ht)), oth_oth]
  have a0 : ∀ t, t < 2 * es.length → (angI (pt.stV es') F' M (oth t) 3 = 0 ↔ angI (pt.stV es) F N t 3 = 0) := fun t ht => by
    rw [k3 t ht, knd0]
    show _ ↔ knd t (N (oth t)) = 0
    rw [knd0, oth_par, oth_par]
    omega
  have a2 : ∀ t, t < 2 * es.length → (angI (pt.stV es') F' M (oth t) 3 = 2 ↔ angI (pt.stV es) F N t 3 = 1) := fun t ht => by
    rw [k3 t ht, knd2', oth_par, oth_par]
    show _ ↔ knd t (N (oth t)) = 1
    have := knd1 (oth t) (N (oth t))
    rw [oth_oth, oth_par] at this
    rw [this]
    omega
  have horb : ∀ {i : Nat}, i < 2 * es.length → ∀ k ∈ orb N (2 * es.length) i, oth k ∈ orb M (2 * es.length) (oth i) := fun {i} hi => orb_in (U := fun k => oth k ∈ orb M (2 * es.length) (oth i)) (fun k hk => by
    have hkl := p'.orb_lt (oth_lt hi) _ hk
    have := p'.orb_n (oth_lt hi) hk
    rw [hM _ hkl, oth_oth] at this
    exact this) (p'.mem_self (oth_lt hi))
  have horb' : ∀ {i : Nat}, i < 2 * es.length → ∀ k ∈ orb M (2 * es.length) (oth i), oth k ∈ orb N (2 * es.length) i := fun {i} hi => by
    have key : ∀ k ∈ orb M (2 * es.length) (oth i), k < 2 * es.length ∧ oth k ∈ orb N (2 * es.length) i := orb_in (U := fun k => k < 2 * es.length ∧ oth k ∈ orb N (2 * es.length) i) (fun k hk => ⟨p'.lt k hk.1, by
      rw [hM k hk.1, oth_oth]
      exact p.orb_n hi hk.2⟩) ⟨oth_lt hi, by rw [oth_oth]; exact p.mem_self hi⟩
    exact fun k hk => (key k hk).2
  obtain ⟨pi, hL⟩ := like_of (A := angI (pt.stV es) F N) (A' := angI (pt.stV es') F' M) (s := oth) (H := 2 * es.length) (pm_oth es.length) (fun t ht => hst t ht) (fun t ht => (hF.cov (oth t) (oth_lt ht)).1) (fun t ht => (hF'.cov (oth t) (oth_lt ht)).1) (ang_hit p hF) (ang_hit p' hF') (fun t u ht hu => by
    show F (oth t) = F (oth u) ↔ F' (oth (oth t)) = F' (oth (oth u))
    have h1 := oth_lt ht
    have h2 := oth_lt hu
    rw [fc_same p hF h1 h2, fc_same p' hF' (oth_lt h1) (oth_lt h2)]
    constructor
    · exact fun h => horb h1 _ h
    · intro h
      have := horb' h1 _ h
      rwa [oth_oth] at this)
  refine hL.ok he (fun f hf => ?_) (fun x _ => hL.pc_eq a0 x) ho
  rw [hL.hc_eq hf]
  have := low_high (es := es) p hF f
  show _ = cn (fun t => decide (angI (pt.stV es) F N t 3 = 2 ∧ angI (pt.stV es) F N t 2 = f)) (2 * es.length)
  rw [← this]
  exact cn_congr fun t ht => decide_eq_decide.2 (by rw [a2 t ht])
end
end Go.Proofs.YtefagplbpbkpgaaDoor
/-
  All edges turned: the graph and the rotation turned with it are as good as they were: plain mathematics. No conditions beyond each theorem's own.
-/
namespace Go.Proofs.YtefagplbpbkpgaaDoor
set_option linter.unusedVariables false
set_option maxRecDepth 20000
def turnE (es : List (Nat × Nat)) : List (Nat × Nat) := es.map fun e => (e.2, e.1)
def turnQ (q : List (List Nat)) : List (List Nat) := q.map fun l => l.map oth
theorem turnE_len (es : List (Nat × Nat)) : (turnE es).length = es.length := by simp [turnE]
theorem turnE_getD (es : List (Nat × Nat)) (i : Nat) : (turnE es).getD i (0, 0) = ((es.getD i (0, 0)).2, (es.getD i (0, 0)).1) := by
  unfold turnE
  simp only [List.getD, List.getElem?_map]
  cases es[i]? <;> rfl
theorem mem_turnE {es : List (Nat × Nat)} {e : Nat × Nat} : e ∈ turnE es ↔ (e.2, e.1) ∈ es := by
  unfold turnE
  rw [List.mem_map]
  constructor
  · rintro ⟨e', h, rfl⟩; exact h
  · intro h; exact ⟨_, h, rfl⟩
theorem turnQ_getD (q : List (List Nat)) (x : Nat) : (turnQ q).getD x [] = (q.getD x []).map oth := by
  unfold turnQ
  simp only [List.getD, List.getElem?_map]
  cases q[x]? <;> simp
theorem map_oth_getD {l : List Nat} {i : Nat} (h : i < l.length) : (l.map oth).getD i 0 = oth (l.getD i 0) := by
  simp [List.getD, h]
theorem turn_st (es : List (Nat × Nat)) (t : Nat) : pt.stV (turnE es) (oth t) = pt.stV es t := by
  unfold pt.stV
  rw [turnE_getD]
  by_cases h : t % 2 = 0
  · have e : oth t = t + 1 := by unfold oth; rw [if_pos h]
    rw [e, if_neg (by omega), if_pos h, show (t + 1) / 2 = t / 2 by omega]
  · have e : oth t = t - 1 := by unfold oth; rw [if_neg h]
    rw [e, if_pos (by omega), if_neg h, show (t - 1) / 2 = t / 2 by omega]
section
variable {V : Nat} {es : List (Nat × Nat)} {q : List (List Nat)} {N : Nat → Nat}
theorem turn_ro (r : pt.Ro V es q) : pt.Ro V (turnE es) (turnQ q) := by
  refine ⟨by simp [turnQ, r.len], fun i hi => ?_, fun x hx h hh => ?_, fun x hx h hh => ?_, fun x hx => ?_, fun h hh => ?_⟩
  · rw [turnE_len] at hi
    rw [turnE_getD]
    exact (r.ends i hi).symm
  · rw [turnQ_getD] at hh
    obtain ⟨k, hk, rfl⟩ := List.mem_map.1 hh
    rw [turnE_len]
    exact oth_lt (r.lt x hx k hk)
  · rw [turnQ_getD] at hh
    obtain ⟨k, hk, rfl⟩ := List.mem_map.1 hh
    have := turn_st es k
    rw [show pt.stV es k = x from r.st x hx k hk] at this
    exact this
  · rw [turnQ_getD]
    exact List.Pairwise.map _ (fun a b hne e => hne (pt.oth_inj e)) (r.one x hx)
  · rw [turnE_len] at hh
    obtain ⟨x, hx, hm⟩ := r.all (oth h) (oth_lt hh)
    exact ⟨x, hx, by rw [turnQ_getD]; exact List.mem_map.2 ⟨_, hm, oth_oth h⟩⟩
theorem turn_behind (hN : Behind q N) : Behind (turnQ q) (fun j => oth (N (oth j))) := by
  intro x hx i hi
  have hx' : x < q.length := by simpa [turnQ] using hx
  rw [turnQ_getD] at hi ⊢
  rw [List.length_map] at hi ⊢
  rw [map_oth_getD hi, map_oth_getD (Nat.mod_lt _ (by omega))]
  dsimp only
  rw [oth_oth, ← hN x hx' i hi]
theorem turn_plain (h : pt.Plain V es) : pt.Plain V (turnE es) :=
  ⟨h.v1, h.v64, by rw [turnE_len]; exact h.n128, fun e he => (h.ends _ (mem_turnE.1 he)).symm⟩
theorem turn_bd : pt.Bd (turnE es) (fun _ => false) = pt.Bd es (fun _ => false) := by
  funext u v
  rw [eq_iff_iff, pt.bd0, pt.bd0, mem_turnE, mem_turnE]
  exact Or.comm
theorem turn_cnt {c : Nat} (h : pt.IsCnt V es c) : pt.IsCnt V (turnE es) c := by
  obtain ⟨r, h1, h2⟩ := h
  refine ⟨r, fun v hv => ?_, h2⟩
  rw [h1 v hv]
  unfold pt.R0 pt.Rep
  rw [turn_bd]
theorem turn_ins (x : Nat) : (Pl.ins (turnE es) x).isEmpty = (Pl.outs es x).isEmpty := by
  rw [Bool.eq_iff_iff, List.isEmpty_iff, List.isEmpty_iff, List.eq_nil_iff_forall_not_mem, List.eq_nil_iff_forall_not_mem]
  refine forall_congr' fun i => not_congr ?_
  unfold Pl.ins Pl.outs
  rw [Pl.mem_sel, Pl.mem_sel, turnE_len]
  unfold Pl.at'
  rw [turnE_getD]
theorem turn_outs (x : Nat) : (Pl.outs (turnE es) x).isEmpty = (Pl.ins es x).isEmpty := by
  rw [Bool.eq_iff_iff, List.isEmpty_iff, List.isEmpty_iff, List.eq_nil_iff_forall_not_mem, List.eq_nil_iff_forall_not_mem]
  refine forall_congr' fun i => not_congr ?_
  unfold Pl.ins Pl.outs
  rw [Pl.mem_sel, Pl.mem_sel, turnE_len]
  unfold Pl.at'
  rw [turnE_getD]
theorem turn_end (x : Nat) : isEnd (turnE es) x = isEnd es x := by
  unfold isEnd
  rw [turn_ins, turn_outs, Bool.or_comm]
theorem turn_emp : emp (turnQ q) V = emp q V := by
  unfold emp
  congr 1
  refine List.filter_congr fun y _ => decide_eq_decide.2 ?_
  rw [turnQ_getD]
  simp
/-- with a rank that falls along no edge, all vertices stand in the order -/
theorem order_full {es : List (Nat × Nat)} (rk : Nat → Nat) (h : ∀ e ∈ es, e.1 < V ∧ rk e.1 < rk e.2) : V ≤ (Pl.order V es).length := by
  obtain ⟨hr, hno⟩ := Pl.order_run V es
  have hall : ∀ k x, rk x < k → x < V → x ∈ Pl.order V es := by
    intro k
    induction k with
    | zero => intro x h; omega
    | succ k ih =>
      intro x hx hxV
      refine Classical.byContradiction fun hn => ?_
      have h1 := Pl.next_none hno x hxV
      have h2 : Pl.ready es (Pl.order V es) x = true := Pl.ready_iff.2 ⟨hn, fun e he e2 => by
        obtain ⟨a, b⟩ := h e he
        rw [e2] at b
        exact ih e.1 (by omega) a⟩
      rw [h1] at h2
      cases h2
  have hn := List.Nodup.length_le_of_subset (l₁ := List.range V) (l₂ := Pl.order V es) List.nodup_range fun x hx => hall (rk x + 1) x (by omega) (List.mem_range.1 hx)
  rwa [List.length_range] at hn
theorem turn_order (hp : pt.Plain V es) (ho : V ≤ (Pl.order V es).length) : V ≤ (Pl.order V (turnE es)).length := by
  refine order_full (fun x => V + (Pl.order V es).length - pos V es x) fun e he => ?_
  have he' := mem_turnE.1 he
  obtain ⟨a, b⟩ := hp.ends _ he'
  refine ⟨b, ?_⟩
  have := pos_lt ho he' b
  dsimp only at this ⊢
  have hle : pos V es e.1 ≤ (Pl.order V es).length := List.idxOf_le_length
  have hle2 : pos V es e.2 ≤ (Pl.order V es).length := List.idxOf_le_length
  omega
end
/-- rounds that go over into rounds are no more -/
theorem conj_le {N M : Nat → Nat} {H : Nat} (hev : ∀ j, j < H → oth j < H) (p : Pm N H) (r : Pm M H) (hto : ∀ i, i < H → ∀ k ∈ orb M H (oth i), oth k ∈ orb N H i) : cyc N H ≤ cyc M H := by
  have hf : ∀ i, ∃ l, i < H → l ∈ orb M H (oth i) ∧ isLeast M H l = true := fun i => by
    by_cases hi : i < H
    · obtain ⟨l, h1, h2⟩ := r.least (hev i hi)
      exact ⟨l, fun _ => ⟨h1, h2⟩⟩
    · exact ⟨0, fun h => absurd h hi⟩
  obtain ⟨f, hf⟩ := Classical.axiomOfChoice hf
  have hfs : ∀ i, i < H → f i ∈ orb M H (oth i) ∧ isLeast M H (f i) = true := fun i => hf i
  unfold cyc
  refine inj_lenN (f := f) ((List.nodup_range).sublist (List.filter_sublist)) (fun x hx => ?_) (fun x hx y hy e => ?_)
  · obtain ⟨hx1, hx2⟩ := List.mem_filter.1 hx
    have hxH := List.mem_range.1 hx1
    obtain ⟨a1, a2⟩ := hfs x hxH
    exact List.mem_filter.2 ⟨List.mem_range.2 (r.orb_lt (hev x hxH) _ a1), a2⟩
  · obtain ⟨hx1, hx2⟩ := List.mem_filter.1 hx
    obtain ⟨hy1, hy2⟩ := List.mem_filter.1 hy
    have hxH := List.mem_range.1 hx1
    have hyH := List.mem_range.1 hy1
    have b1 := hto x hxH _ (hfs x hxH).1
    have b2 := hto y hyH _ (hfs y hyH).1
    rw [e] at b1
    have b3 := p.trans hxH b1 (p.sym hyH b2)
    have c1 := isLeast_iff.1 hx2 y b3
    have c2 := isLeast_iff.1 hy2 x (p.sym hxH b3)
    omega
theorem conj_to {N M : Nat → Nat} {H : Nat} (hev : ∀ j, j < H → oth j < H) (p : Pm N H) (r : Pm M H) (h : ∀ j, j < H → M j = oth (N (oth j))) : ∀ i, i < H → ∀ k ∈ orb M H (oth i), oth k ∈ orb N H i := fun i hi => by
  have key : ∀ k ∈ orb M H (oth i), k < H ∧ oth k ∈ orb N H i := orb_in (U := fun k => k < H ∧ oth k ∈ orb N H i) (fun k hk => ⟨r.lt k hk.1, by
    rw [h k hk.1, oth_oth]
    exact p.orb_n hi hk.2⟩) ⟨hev i hi, by rw [oth_oth]; exact p.mem_self hi⟩
  exact fun k hk => (key k hk).2
theorem conj_cyc {N M : Nat → Nat} {H : Nat} (hev : ∀ j, j < H → oth j < H) (p : Pm N H) (r : Pm M H) (h : ∀ j, j < H → M j = oth (N (oth j))) : cyc N H = cyc M H :=
  Nat.le_antisymm (conj_le hev p r (conj_to hev p r h)) (conj_le hev r p (conj_to hev r p fun j hj => by rw [h _ (hev j hj), oth_oth, oth_oth]))
end Go.Proofs.YtefagplbpbkpgaaDoor

/-
  Two half edges of a list change places: what comes behind what, and how many rounds there are then. No conditions beyond each theorem's own.
-/
import Derived.Test.YtmklngabfdnclaaDoorCy
import Derived.Test.YtmklngabfdnclaaDoorOt
namespace Go.Proofs.YtmklngabfdnclaaDoor
open Go.RowKit
set_option linter.unusedVariables false
set_option maxRecDepth 20000

theorem oth_eq {i j : Nat} : oth i = j ↔ i = oth j := by
  constructor
  · intro h; rw [← h, oth_oth]
  · intro h; rw [h, oth_oth]
theorem oth_sw (a b j : Nat) : oth (sw a b (oth j)) = sw (oth a) (oth b) j := by
  by_cases h1 : oth j = a
  · rw [h1, sw_a]
    have : j = oth a := oth_eq.1 h1
    rw [this, sw_a]
  · by_cases h2 : oth j = b
    · rw [h2, sw_b]
      have : j = oth b := oth_eq.1 h2
      rw [this, sw_b]
    · rw [sw_o h1 h2, oth_oth, sw_o (fun e => h1 (oth_eq.2 e)) (fun e => h2 (oth_eq.2 e))]
theorem it_same {N M : Nat → Nat} {H : Nat} (p : Pm N H) (h : ∀ j, j < H → N j = M j) {x : Nat} (hx : x < H) : ∀ t, it N t x = it M t x := by
  intro t
  induction t with
  | zero => rfl
  | succ t ih => show N (it N t x) = M (it M t x); rw [← ih]; exact h _ (p.it_lt hx t)
theorem cyc_same {N M : Nat → Nat} {H : Nat} (p : Pm N H) (h : ∀ j, j < H → N j = M j) : cyc N H = cyc M H := by
  unfold cyc
  congr 1
  refine List.filter_congr fun x hx => ?_
  have hx := List.mem_range.1 hx
  have hpr : pr N H x = pr M H x := by
    unfold pr
    congr 2
    funext t
    rw [it_same p h hx (t + 1)]
  unfold isLeast orb
  rw [hpr]
  congr 1
  exact List.map_congr_left fun t _ => it_same p h hx t
theorem Pm.pre {N : Nat → Nat} {H : Nat} (p : Pm N H) {a : Nat} (ha : a < H) : ∃ a', a' < H ∧ N a' = a := ⟨it N (Go.Proofs.YtmklngabfdnclaaDoor.pr N H a) a, p.it_lt ha _, (p.pr ha).2.1⟩
theorem cyc_post {N M : Nat → Nat} {H a b : Nat} (p : Pm N H) (ha : a < H) (hb : b < H) (hab : a ≠ b) (h : ∀ j, j < H → M j = sw a b (N j)) : cyc M H = cyc N H + 1 ∨ cyc M H + 1 = cyc N H := by
  obtain ⟨a', ha', ea⟩ := p.pre ha
  obtain ⟨b', hb', eb⟩ := p.pre hb
  have hne : a' ≠ b' := fun e => hab (by rw [← ea, ← eb, e])
  have hM : ∀ j, j < H → (fun j => N (sw a' b' j)) j = M j := fun j hj => by
    rw [h j hj]
    show N (sw a' b' j) = sw a b (N j)
    by_cases h1 : j = a'
    · rw [h1, sw_a, ea, sw_a, eb]
    · by_cases h2 : j = b'
      · rw [h2, sw_b, eb, sw_b, ea]
      · rw [sw_o h1 h2, sw_o (fun e => h1 (p.inj _ _ hj ha' (e.trans ea.symm))) (fun e => h2 (p.inj _ _ hj hb' (e.trans eb.symm)))]
  rw [← cyc_same (p.swap ha' hb') hM]
  exact cyc_swap p ha' hb' hne
/-- as many rounds, or two more, or two fewer -/
theorem swap_cyc {N M : Nat → Nat} {n h1 h2 : Nat} (p : Pm N (2 * n)) (hh1 : h1 < 2 * n) (hh2 : h2 < 2 * n) (hne : h1 ≠ h2) (h : ∀ j, j < 2 * n → M j = sw h1 h2 (N (sw (oth h1) (oth h2) j))) : cyc M (2 * n) = cyc N (2 * n) ∨ cyc M (2 * n) = cyc N (2 * n) + 2 ∨ cyc M (2 * n) + 2 = cyc N (2 * n) := by
  have hno : oth h1 ≠ oth h2 := fun e => hne (by have := congrArg oth e; rwa [oth_oth, oth_oth] at this)
  have e1 := cyc_swap p (oth_lt hh1) (oth_lt hh2) hno
  have e2 := cyc_post (p.swap (oth_lt hh1) (oth_lt hh2)) hh1 hh2 hne h
  omega
theorem getD_map (l : List Nat) (f : Nat → Nat) {i : Nat} (hi : i < l.length) : (l.map f).getD i 0 = f (l.getD i 0) := by simp [List.getD, hi]
theorem rows_map (q : List (List Nat)) (f : Nat → Nat) (x : Nat) : (q.map fun l => l.map f).getD x [] = (q.getD x []).map f := by
  simp only [List.getD_eq_getElem?_getD, List.getElem?_map]
  cases q[x]? <;> simp
/-- what comes behind what, where two change places -/
theorem behind_map {q : List (List Nat)} {N M : Nat → Nat} {H h1 h2 : Nat} (hN : Behind q N) (hM : Behind (q.map fun l => l.map (sw h1 h2)) M) (hh1 : h1 < H) (hh2 : h2 < H) (hev : ∀ j, j < H → oth j < H)
    (hcov : ∀ j, j < H → ∃ x i, x < q.length ∧ i < (q.getD x []).length ∧ oth ((q.getD x []).getD i 0) = j) : ∀ j, j < H → M j = sw h1 h2 (N (sw (oth h1) (oth h2) j)) := by
  intro j hj
  obtain ⟨x, i, hx, hi, he⟩ := hcov (oth (sw h1 h2 (oth j))) (hev _ (sw_lt hh1 hh2 (hev j hj)))
  have ho : (q.getD x []).getD i 0 = sw h1 h2 (oth j) := by have := congrArg oth he; rwa [oth_oth, oth_oth] at this
  have e1 := hN x hx i hi
  have e2 := hM x (by simpa using hx) i (by rw [rows_map, List.length_map]; exact hi)
  rw [rows_map, List.length_map, getD_map _ _ hi, getD_map _ _ (Nat.mod_lt _ (by omega)), ho, sw_sw, oth_oth] at e2
  rw [ho, oth_sw] at e1
  rw [e2, e1]
end Go.Proofs.YtmklngabfdnclaaDoor


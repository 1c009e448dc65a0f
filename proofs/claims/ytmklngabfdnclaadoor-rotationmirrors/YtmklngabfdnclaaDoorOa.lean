/-
  Lists that are copied, each into memory of its own; a number's last sixteen bits. No conditions beyond each theorem's own.
-/
import Derived.Test.YtmklngabfdnclaaDoorRf
import Derived.Test.YtmklngabfdnclaaDoorSw2
namespace Go.Proofs.YtmklngabfdnclaaDoor
open Go.RowKit
set_option linter.unusedVariables false
set_option maxRecDepth 20000

theorem i64_mask (n : Int) (m q : Nat) (hm : (BitVec.ofInt 64 (m : Int)).toNat = 2 ^ q - 1) (hq : 2 ^ q ≤ 65536) (hd : 2 ^ q ∣ 2 ^ 64) : bits .and .i64 n (m : Int) = n % ((2 ^ q : Nat) : Int) := by
  have key : (BitVec.ofInt 64 n &&& BitVec.ofInt 64 (m : Int)).toNat = (n % ((2 ^ 64 : Nat) : Int)).toNat % 2 ^ q := by
    rw [BitVec.toNat_and, BitVec.toNat_ofInt, hm, Nat.and_two_pow_sub_one_eq_mod]
  show IntKind.i64.wrap ((BitVec.ofInt 64 n &&& BitVec.ofInt 64 (m : Int)).toNat : Nat) = n % ((2 ^ q : Nat) : Int)
  have h1 : 0 ≤ n % ((2 ^ 64 : Nat) : Int) := Int.emod_nonneg _ (by decide)
  have h2 : (((n % ((2 ^ 64 : Nat) : Int)).toNat % 2 ^ q : Nat) : Int) = n % ((2 ^ q : Nat) : Int) := by
    rw [Int.natCast_emod, Int.toNat_of_nonneg h1]
    exact Int.emod_emod_of_dvd n (by exact_mod_cast hd)
  have h3 : (n % ((2 ^ 64 : Nat) : Int)).toNat % 2 ^ q < 2 ^ q := Nat.mod_lt _ (Nat.two_pow_pos q)
  rw [key, h2.symm, IntKind.wrap_i64]
  generalize (n % ((2 ^ 64 : Nat) : Int)).toNat % 2 ^ q = z at *
  generalize 2 ^ q = y at *
  omega
theorem i64_and65535 (n : Int) : bits .and .i64 n 65535 = n % 65536 := i64_mask n 65535 16 (by decide) (by decide) (by decide)

theorem Ns.cells' {w : World} {p : Addr} {n : Nat} {xs : List Int} (h : Ns w (some p) n xs) : ∀ j u, (zcells xs)[j]? = some u → w.cell? (p.add j) = some u := by
  intro j u hj
  have hjl : j < xs.length := by
    have := (List.getElem?_eq_some_iff.1 hj).1
    simpa [zcells] using this
  obtain ⟨g, off, ha, _, c⟩ := h.2.2 j (by rw [← h.1]; exact hjl)
  cases ha
  rw [Addr.add_lit, c]
  simp [zcells, hjl] at hj
  rw [← hj]
  simp [List.getD, hjl]
theorem zcells_one' (xs : List Int) : ∀ u ∈ zcells xs, u.oneCell' = true := by
  intro u hu
  obtain ⟨x, _, rfl⟩ := List.mem_map.1 hu
  rfl
/-- append onto an own row of ints, of any row of ints -/
theorem wpList_app_ints {w : World} {ops : Array Oper} {rest : List Oper} {o : Oper} {a : Act} {Q : Exit → Act → World → Prop} (hgd : o.guard = none) (s x : Operand)
    (ho : o.op = .call { callee := .builtin .append, args := #[s, x], argTypes := #[36, 36] }) (base : Nat) (v : Value) (n : Nat) (xs : List Int) (hs : a.eval s = v) (hown : w.ownsRow base 3 1 v n (zcells xs))
    (ad : Option Addr) (m c : Nat) (ys : List Int) (hx : a.eval x = .slice ad m c) (hno : ad = none → m = 0 ∧ c = 0) (hys : Ns w ad m ys) (hb : n + m ≤ 1000000) (hbase : base ≤ w.heap.size)
    (h : ∀ v' w', w'.ownsRow base 3 1 v' (n + m) (zcells (xs ++ ys)) → w.grownBy w' v.ownBlock → wpList Tryd.prog ops Q rest (a.put o.dst v') w') : wpList Tryd.prog ops Q (o :: rest) a w := by
  obtain ⟨i0, hi0, hz0, hz1, hz2⟩ := info_parts info3
  cases ad with
  | none =>
    obtain ⟨rfl, rfl⟩ := hno rfl
    refine wpList_append_own_none hgd s x 36 ho base 3 i0 1 Tryd.underlying36 hi0 v n (zcells xs) hs hown hx (h v w ?_ ⟨rfl, rfl, rfl, Nat.le_refl _, fun _ _ _ => rfl⟩)
    have : ys = [] := by have := hys.1; simpa using this
    subst this
    rw [List.append_nil]
    exact hown
  | some p =>
    refine wpList_append_own w hgd s x 36 ho base 3 i0 (.int .i64 0) 1 8 Tryd.underlying36 hi0 hz0 hz1 hz2 rfl (by decide) v n (zcells xs) hs hown p m c (zcells ys) hx (by rw [zcells_length, hys.1]; omega) hys.cells' (zcells_one' ys) (by unfold maxLen; omega) (by omega) hbase ?_
    intro v' w' ho' hg _
    refine h v' w' ?_ hg
    rw [show zcells (xs ++ ys) = zcells xs ++ zcells ys by simp [zcells]]
    exact ho'

/-- lists that are laid, each behind those ahead of it -/
structure Oa (u0 wr : World) (bv : Value) (R : Nat → Value) (Ls : List (List Nat)) : Prop where
  ol : Ol u0 wr bv R Ls
  apart : ∀ i j, i < j → j < Ls.length → ∀ g g', (R j).ownBlock = some g → (R i).ownBlock = some g' → g' < g
theorem Oa.start (u0 : World) : Oa u0 (u0.alloc (.cells #[] 36)) (.slice (some ⟨u0.heap.size, 0, none⟩) 0 0) (fun _ => .slice none 0 0) [] := ⟨Ol.start u0, fun i j _ hj => by simp at hj⟩
theorem Oa.push {u0 wr u u' : World} {bv v' l : Value} {R : Nat → Value} {Ls : List (List Nat)} {x : List Nat} (h : Oa u0 wr bv R Ls) (hb : Below wr.heap.size wr u) (hl : u.ownsRow wr.heap.size 3 1 l x.length (zcells (toIs x)))
    (ho : u'.ownsRow u0.heap.size 36 1 v' (Ls.length + 1) ((List.range Ls.length).map R ++ [l])) (hg : u.grownBy u' bv.ownBlock) : Oa u0 u' v' (upd R Ls.length l) (Ls ++ [x]) := by
  refine ⟨(h.ol.step hb).push (owns_mono hl h.ol.bel.size) ho hg, fun i j hij hj g g' hg1 hg2 => ?_⟩
  rw [List.length_append, show [x].length = 1 from rfl] at hj
  rw [upd_other _ _ (show i ≠ Ls.length by omega)] at hg2
  by_cases hjl : j = Ls.length
  · subst hjl
    rw [upd_same] at hg1
    have h1 := (hl.lt g hg1).1
    have h2 := ((h.ol.rows i hij).lt g' hg2).2
    omega
  · rw [upd_other _ _ hjl] at hg1
    exact h.apart i j hij (by omega) g g' hg1 hg2
end Go.Proofs.YtmklngabfdnclaaDoor


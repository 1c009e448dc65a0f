/-
  Memory while a new graph is laid, in whatever order: an own row of edges that grows, a row of one edge, a box. No conditions.
-/
import Derived.Test.YtbecmaandhadhaaOd
import Derived.Laws.AppendOwnNone
namespace Go.Proofs.Ytbecmaandhadhaa
open Go.RowKit
set_option linter.unusedVariables false
set_option maxRecDepth 20000

/-- behind u0: an own row v of the edges l (if any), a row of one edge (its block, its ends), a new box of a graph (its block) -/
structure Gm (u0 u : World) (fresh : Bool) (v : Option Value) (l : List (Int × Int)) (eb : Option (Nat × Int × Int)) (gb : Option Nat) : Prop where
  bel : Below u0.heap.size u0 u
  hrow : ∀ x, v = some x → u.ownsRow u0.heap.size 40 2 x l.length (ecells l)
  heb : ∀ b p q, eb = some (b, p, q) → u.heap[b]? = some (.cells #[.int .i64 p, .int .i64 q] 40 (0, 0)) ∧ (fresh = true → ∀ x, v = some x → x.ownBlock ≠ some b)
  hgb : ∀ b, gb = some b → u0.heap.size ≤ b ∧ u.heap[b]? = some (.cells #[.int .i64 0, .slice none 0 0] 24 (0, 0))
theorem Gm.start (u : World) (fresh : Bool) : Gm u u fresh none [] none none := ⟨Below.refl _ _, fun _ h => (by cases h), fun _ _ _ h => (by cases h), fun _ h => (by cases h)⟩
theorem owns_below {w w' : World} {base : Nat} {e : TypeId} {size : Nat} {v : Value} {n : Nat} {xs : List Value} (h : w.ownsRow base e size v n xs) (hb : Below w.heap.size w w') : w'.ownsRow base e size v n xs :=
  owns_keep h fun g hg => hb.block g (h.lt g hg).2
/-- a box of a graph, laid first: it stands while others make memory -/
structure Bg (w wk : World) (x y : Value) : Prop where
  bel : Below w.heap.size w wk
  gb : wk.heap[w.heap.size]? = some (.cells #[x, y] 24 (0, 0))
theorem Bg.start (w : World) (x y : Value) : Bg w (w.alloc (.cells #[x, y] 24)) x y := ⟨(Below.refl _ _).alloc (Nat.le_refl _) _, (MapKept.heap_alloc w _).1⟩
theorem Bg.lt {w wk : World} {x y : Value} (h : Bg w wk x y) : w.heap.size < wk.heap.size := (Array.getElem?_eq_some_iff.1 h.gb).1
theorem Bg.step {w wk wk' : World} {x y : Value} (h : Bg w wk x y) (hb : Below wk.heap.size wk wk') : Bg w wk' x y :=
  ⟨h.bel.trans (hb.mono h.bel.size), by rw [hb.block _ h.lt]; exact h.gb⟩
theorem Bg.stepB {w wk wk' : World} {x y : Value} {B : Nat} (h : Bg w wk x y) (hB : w.heap.size < B) (hb : Below B wk wk') : Bg w wk' x y :=
  ⟨h.bel.trans (hb.mono (by omega)), by rw [hb.block _ hB]; exact h.gb⟩
theorem Bg.cells {w wk : World} {x y : Value} (h : Bg w wk x y) : wk.cell? ⟨w.heap.size, 0, none⟩ = some x ∧ wk.cell? ⟨w.heap.size, 1, none⟩ = some y := by
  simp [World.cell?, h.gb]
theorem Gm.step {u0 u u' : World} {fr : Bool} {v : Option Value} {l : List (Int × Int)} {eb : Option (Nat × Int × Int)} {gb : Option Nat} (h : Gm u0 u fr v l eb gb) (hb : Below u.heap.size u u') : Gm u0 u' fr v l eb gb :=
  ⟨h.bel.trans (hb.mono h.bel.size), fun x hx => owns_below (h.hrow x hx) hb, fun b p q hq => ⟨by rw [hb.block _ (heap_lt (h.heb b p q hq).1)]; exact (h.heb b p q hq).1, (h.heb b p q hq).2⟩,
    fun b hq => ⟨(h.hgb b hq).1, by rw [hb.block _ (heap_lt (h.hgb b hq).2)]; exact (h.hgb b hq).2⟩⟩
theorem Gm.drew {u0 u : World} {fr : Bool} {v : Option Value} {l : List (Int × Int)} {eb : Option (Nat × Int × Int)} {gb : Option Nat} (h : Gm u0 u fr v l eb gb) : Gm u0 u.drew fr v l eb gb := h.step b_dr
theorem Gm.row {u0 u : World} {v : Option Value} {l : List (Int × Int)} {eb : Option (Nat × Int × Int)} {gb : Option Nat} (h : Gm u0 u true v l eb gb) : Gm u0 (u.alloc (.cells #[] 40)) true (some (.slice (some ⟨u.heap.size, 0, none⟩) 0 0)) [] eb gb := by
  have k := h.step (b_al (.cells #[] 40))
  refine ⟨k.bel, fun x hx => ?_, fun b p q hq => ⟨(k.heb b p q hq).1, fun _ x hx => ?_⟩, k.hgb⟩
  · obtain rfl := Option.some.inj hx
    exact owns_lit_empty u 40 2 _ h.bel.size
  · obtain rfl := Option.some.inj hx
    intro he
    have : u.heap.size = b := by simpa [Value.ownBlock] using he
    have := heap_lt (h.heb b p q hq).1
    omega
theorem Gm.edge {u0 u : World} {fr : Bool} {v : Option Value} {l : List (Int × Int)} {gb : Option Nat} (h : Gm u0 u fr v l none gb) (p q : Int) : Gm u0 (u.alloc (.cells #[.int .i64 p, .int .i64 q] 40)) fr v l (some (u.heap.size, p, q)) gb := by
  have k := h.step (b_al (.cells #[.int .i64 p, .int .i64 q] 40))
  refine ⟨k.bel, k.hrow, fun b p' q' hq => ?_, k.hgb⟩
  simp only [Option.some.injEq, Prod.mk.injEq] at hq
  obtain ⟨rfl, rfl, rfl⟩ := hq
  refine ⟨(MapKept.heap_alloc u _).1, fun _ x hx he => ?_⟩
  have := ((h.hrow x hx).lt _ he).2
  omega
theorem Gm.box {u0 u : World} {fr : Bool} {v : Option Value} {l : List (Int × Int)} {eb : Option (Nat × Int × Int)} (h : Gm u0 u fr v l eb none) : Gm u0 (u.alloc (.cells #[.int .i64 0, .slice none 0 0] 24)) fr v l eb (some u.heap.size) := by
  have k := h.step (b_al (.cells #[.int .i64 0, .slice none 0 0] 24))
  refine ⟨k.bel, k.hrow, k.heb, fun b hq => ?_⟩
  obtain rfl := Option.some.inj hq
  exact ⟨h.bel.size, (MapKept.heap_alloc u _).1⟩
theorem owns_type {w : World} {base : Nat} {e : TypeId} {size : Nat} {v : Value} {n : Nat} {xs : List Value} (h : w.ownsRow base e size v n xs) {g : Nat} (hg : v.ownBlock = some g) : ∃ cur, w.heap[g]? = some (.cells cur e (0, 0)) := by
  rcases h.2 with ⟨rfl, _⟩ | ⟨g', cap, cur, rfl, hb, hh, _⟩
  · simp [Value.ownBlock] at hg
  · have : g' = g := by simpa [Value.ownBlock] using hg
    subst this
    exact ⟨cur, hh⟩
theorem Gm.grown {u0 u u' : World} {fr : Bool} {v : Value} {l l' : List (Int × Int)} {eb : Option (Nat × Int × Int)} {gb : Option Nat} (h : Gm u0 u fr (some v) l eb gb) (hfr : fr = true ∨ eb = none) {v' : Value}
    (ho : u'.ownsRow u0.heap.size 40 2 v' l'.length (ecells l')) (hg : u.grownBy u' v.ownBlock) : Gm u0 u' false (some v') l' eb gb := by
  refine ⟨h.bel.grown hg h.bel.size fun k hk => ((h.hrow v rfl).lt k hk).1, fun x hx => ?_, fun b p q hq => ⟨?_, fun hf => by cases hf⟩, fun b hq => ⟨(h.hgb b hq).1, ?_⟩⟩
  · obtain rfl := Option.some.inj hx
    exact ho
  · have k := h.heb b p q hq
    rw [hg.block b (heap_lt k.1) ?_]
    · exact k.1
    · rcases hfr with hf | hf
      · exact fun he => k.2 hf v rfl he.symm
      · rw [hf] at hq; cases hq
  · have k := h.hgb b hq
    rw [hg.block b (heap_lt k.2) ?_]
    · exact k.2
    · intro he
      obtain ⟨cur, hc⟩ := owns_type (h.hrow v rfl) he.symm
      rw [k.2] at hc
      simp at hc
theorem Gm.dropE {u0 u : World} {fr : Bool} {v : Option Value} {l : List (Int × Int)} {eb : Option (Nat × Int × Int)} {gb : Option Nat} (h : Gm u0 u fr v l eb gb) : Gm u0 u fr v l none gb := ⟨h.bel, h.hrow, fun _ _ _ k => (by cases k), h.hgb⟩

theorem wp_append_own_none {P : Program} {w : World} {o : Oper} {a : Act} {K : Act → World → Prop} {Q : Exit → Act → World → Prop} (s x : Operand) (t : TypeId)
    (ho : o.op = .call { callee := .builtin .append, args := #[s, x], argTypes := #[t, t] })
    (base : Nat) (e : TypeId) (i : TypeInfo) (size : Nat) (ht : P.underlying t = some (.slice e)) (hi : P.info? e = some i)
    (v : Value) (n : Nat) (xs : List Value) (hs : a.eval s = v) (hown : w.ownsRow base e size v n xs) (hx : a.eval x = .slice none 0 0)
    (h : K (a.put o.dst v) w) : o.wp P a w K Q := by
  have hrun := run_append_owned_none (P := P) (w := w) base t o.type e i size ht hi v n xs hown
  unfold Oper.wp
  simp [execOp, ho, resolve, invoke, builtin, hs, hx, hrun, Result.andThen]
  exact h

theorem Gm.app {u0 u : World} {fr : Bool} {v : Value} {l : List (Int × Int)} {eb : Option (Nat × Int × Int)} {gb : Option Nat} (h : Gm u0 u fr (some v) l eb gb) (hfr : fr = true ∨ eb = none)
    {o : Oper} {a : Act} {K : Act → World → Prop} {Q : Exit → Act → World → Prop} (s x : Operand) (ho : o.op = .call { callee := .builtin .append, args := #[s, x], argTypes := #[22, 22] }) (hs : a.eval s = v)
    (ad : Option Addr) (m c : Nat) (ys : List (Int × Int)) (hx : a.eval x = .slice ad m c) (hn : ad = none → m = 0 ∧ c = 0) {B : Nat} (hys : Es B u ad m ys) (hl : l.length + m ≤ 1000)
    (hk : ∀ v' u', Gm u0 u' false (some v') (l ++ ys) eb gb → K (a.put o.dst v') u') : o.wp Try.prog a u K Q := by
  obtain ⟨i0, hi0, hz0, hz1, hz2⟩ := info_parts info54
  cases ad with
  | none =>
    obtain ⟨rfl, rfl⟩ := hn rfl
    refine wp_append_own_none s x 22 ho u0.heap.size 40 i0 2 Try.underlying22 hi0 v l.length (ecells l) hs (h.hrow v rfl) hx (hk v u ?_)
    have : ys = [] := by have := hys.1; simpa using this
    subst this
    rw [List.append_nil]
    exact ⟨h.bel, h.hrow, fun b p q hq => ⟨(h.heb b p q hq).1, fun hf => by cases hf⟩, h.hgb⟩
  | some p =>
    refine wp_append_own u s x 22 ho u0.heap.size 40 i0 (.agg #[.int .i64 0, .int .i64 0]) 2 16 Try.underlying22 hi0 hz0 hz1 hz2 rfl (by decide) v l.length (ecells l) hs (h.hrow v rfl) p m c (ecells ys) hx (by rw [ecells_length, hys.1]) hys.cells (ecells_one ys) (by unfold maxLen; omega) (by omega) h.bel.size ?_
    intro v' u' ho' hg _
    refine hk v' u' (h.grown hfr (l' := l ++ ys) ?_ hg)
    rw [show (l ++ ys).length = l.length + m by rw [List.length_append, hys.1], show ecells (l ++ ys) = ecells l ++ ecells ys by simp [ecells]]
    exact ho'
theorem es_of_edge {w : World} {b : Nat} {p q : Int} (h : w.heap[b]? = some (.cells #[.int .i64 p, .int .i64 q] 40 (0, 0))) : Es 0 w (some ⟨b, 0, none⟩) 1 [(p, q)] := by
  refine ⟨rfl, by decide, fun k hk => ⟨b, 0, rfl, Nat.zero_le _, heap_lt h, ?_⟩⟩
  obtain rfl : k = 0 := by omega
  simp [World.cell?, h]
/-- the row of one edge is put behind the row -/
theorem Gm.appE {u0 u : World} {fr : Bool} {v : Value} {l : List (Int × Int)} {b : Nat} {p q : Int} {gb : Option Nat} (h : Gm u0 u fr (some v) l (some (b, p, q)) gb)
    {o : Oper} {a : Act} {K : Act → World → Prop} {Q : Exit → Act → World → Prop} (s x : Operand) (ho : o.op = .call { callee := .builtin .append, args := #[s, x], argTypes := #[22, 22] }) (hs : a.eval s = v)
    (c : Nat) (hx : a.eval x = .slice (some ⟨b, 0, none⟩) 1 c) (hl : l.length ≤ 900)
    (hk : ∀ v' u', Gm u0 u' false (some v') (l ++ [(p, q)]) none gb → K (a.put o.dst v') u') : o.wp Try.prog a u K Q :=
  Gm.app h.dropE (.inr rfl) s x ho hs (some ⟨b, 0, none⟩) 1 c [(p, q)] hx (fun h => by cases h) (es_of_edge (h.heb b p q rfl).1) (by omega) hk
theorem Gm.boxCells {u0 u : World} {fr : Bool} {v : Option Value} {l : List (Int × Int)} {eb : Option (Nat × Int × Int)} {b : Nat} (h : Gm u0 u fr v l eb (some b)) :
    u.cell? ⟨b, 0, none⟩ = some (.int .i64 0) ∧ u.cell? ⟨b, 1, none⟩ = some (.slice none 0 0) ∧ u.frozen? ⟨b, 0, none⟩ = false ∧ u.frozen? ⟨b, 1, none⟩ = false := by
  have k := (h.hgb b rfl).2
  simp [World.cell?, World.frozen?, k]
theorem Gm.stored {u0 u : World} {fr : Bool} {v : Value} {l : List (Int × Int)} {eb : Option (Nat × Int × Int)} {b : Nat} (h : Gm u0 u fr (some v) l eb (some b)) (x y : Value) :
    Below u0.heap.size u0 ((u.setCell ⟨b, 0, none⟩ x).setCell ⟨b, 1, none⟩ y) ∧ ((u.setCell ⟨b, 0, none⟩ x).setCell ⟨b, 1, none⟩ y).heap[b]? = some (.cells #[x, y] 24 (0, 0)) ∧
      ((u.setCell ⟨b, 0, none⟩ x).setCell ⟨b, 1, none⟩ y).ownsRow u0.heap.size 40 2 v l.length (ecells l) := by
  have k := h.hgb b rfl
  refine ⟨(h.bel.setCell (p := ⟨b, 0, none⟩) k.1 x).setCell (p := ⟨b, 1, none⟩) k.1 y, by simp [World.setCell, Array.getElem?_modify, k.2], owns_keep (h.hrow v rfl) fun g hg => ?_⟩
  have hne : g ≠ b := by
    rintro rfl
    obtain ⟨cur, hc⟩ := owns_type (h.hrow v rfl) hg
    rw [k.2] at hc
    simp at hc
  rw [Below.heap_setCell _ _ _ _ hne, Below.heap_setCell _ _ _ _ hne]
theorem i64_mask (n : Int) (m q : Nat) (hm : (BitVec.ofInt 64 (m : Int)).toNat = 2 ^ q - 1) (hq : 2 ^ q ≤ 65536) (hd : 2 ^ q ∣ 2 ^ 64) : bits .and .i64 n (m : Int) = n % ((2 ^ q : Nat) : Int) := by
  have key : (BitVec.ofInt 64 n &&& BitVec.ofInt 64 (m : Int)).toNat = (n % ((2 ^ 64 : Nat) : Int)).toNat % 2 ^ q := by
    rw [BitVec.toNat_and, BitVec.toNat_ofInt, hm, Nat.and_two_pow_sub_one_eq_mod]
  show IntKind.i64.wrap ((BitVec.ofInt 64 n &&& BitVec.ofInt 64 (m : Int)).toNat : Nat) = n % ((2 ^ q : Nat) : Int)
  have h1 : 0 ≤ n % ((2 ^ 64 : Nat) : Int) := Int.emod_nonneg _ (by decide)
  have h2 : (((n % ((2 ^ 64 : Nat) : Int)).toNat % 2 ^ q : Nat) : Int) = n % ((2 ^ q : Nat) : Int) := by
    rw [Int.natCast_emod, Int.toNat_of_nonneg h1]
    exact Int.emod_emod_of_dvd n (by exact_mod_cast hd)
  have h3 : (n % ((2 ^ 64 : Nat) : Int)).toNat % 2 ^ q < 2 ^ q := Nat.mod_lt _ (Nat.two_pow_pos q)
  rw [key, h2.symm, IntKind.wrap_i64]
  generalize (n % ((2 ^ 64 : Nat) : Int)).toNat % 2 ^ q = z at *
  generalize 2 ^ q = y at *
  omega
theorem i64_and65535 (n : Int) : bits .and .i64 n 65535 = n % 65536 := i64_mask n 65535 16 (by decide) (by decide) (by decide)
end Go.Proofs.Ytbecmaandhadhaa


/-
  What stands in memory while the statement GraphKinds lays its two faults, in whatever order. No conditions.
-/
import Derived.Test.YtgbdnpmpkilcoaaChkF
import Derived.Test.YtgbdnpmpkilcoaaOfParts
namespace Go.Proofs.Ytgbdnpmpkilcoaa
open Go.RowKit
set_option linter.unusedVariables false

def faultZ : Obj := .cells #[.int .i64 0, .int .i64 0, .slice none 0 0] 30 (0, 0)
def faultO (x y z : Value) : Obj := .cells #[x, y, z] 30 (0, 0)
/-- three stores into one block -/
def put3 (u : World) (b : Nat) (x y z : Value) : World := ((u.setCell ⟨b, 0, none⟩ x).setCell ⟨b, 1, none⟩ y).setCell ⟨b, 2, none⟩ z
theorem set_at {u : World} {b : Nat} {cs : Array Value} {t : TypeId} (h : u.heap[b]? = some (.cells cs t (0, 0))) (i : Nat) (x : Value) : (u.setCell ⟨b, i, none⟩ x).heap[b]? = some (.cells (cs.setIfInBounds i x) t (0, 0)) := by
  have hlt := (Array.getElem?_eq_some_iff.1 h).1
  have h' : u.heap[b] = .cells cs t (0, 0) := (Array.getElem?_eq_some_iff.1 h).2
  show (u.heap.modify b _)[b]? = _
  rw [Array.getElem?_eq_getElem (by simpa using hlt), Array.getElem_modify_self, h']
  rfl
theorem put3_block {u : World} {b : Nat} (h : u.heap[b]? = some faultZ) (x y z : Value) : (put3 u b x y z).heap[b]? = some (faultO x y z) := by
  unfold put3 faultO
  rw [set_at (set_at (set_at h 0 x) 1 y) 2 z]
  rfl
theorem put3_other {u : World} {b g : Nat} (h : g ≠ b) (x y z : Value) : (put3 u b x y z).heap[g]? = u.heap[g]? := by
  unfold put3
  rw [Below.heap_setCell _ _ _ _ h, Below.heap_setCell _ _ _ _ h, Below.heap_setCell _ _ _ _ h]

structure Ky (u0 u : World) (q : Nat) (xs : List Int) (fo ho : Option Nat) (ro : Option Value) : Prop where
  bel : Below u0.heap.size u0 u
  f : ∀ b, fo = some b → u0.heap.size ≤ b ∧ u.heap[b]? = some faultZ
  h : ∀ b, ho = some b → u0.heap.size ≤ b ∧ u.heap[b]? = some faultZ
  ne : ∀ b c, fo = some b → ho = some c → b ≠ c
  r : ∀ v, ro = some v → u.ownsRow u0.heap.size 3 1 v q (zcells xs) ∧ ∀ g, v.ownBlock = some g → fo ≠ some g ∧ ho ≠ some g

theorem lt_of_at {u : World} {b : Nat} {o : Obj} (h : u.heap[b]? = some o) : b < u.heap.size := (Array.getElem?_eq_some_iff.1 h).1

theorem Ky.start (u : World) (q : Nat) (xs : List Int) : Ky u u q xs none none none :=
  ⟨Below.refl _ _, (fun b h => by cases h), (fun b h => by cases h), (fun b c h => by cases h), (fun v h => by cases h)⟩
theorem Ky.step {u0 u u' : World} {q : Nat} {xs : List Int} {fo ho : Option Nat} {ro : Option Value} (k : Ky u0 u q xs fo ho ro) (hb : Below u.heap.size u u') : Ky u0 u' q xs fo ho ro := by
  refine ⟨k.bel.trans (hb.mono k.bel.size), fun b e => ?_, fun b e => ?_, k.ne, fun v e => ?_⟩
  · obtain ⟨h1, h2⟩ := k.f b e
    exact ⟨h1, by rw [hb.block _ (lt_of_at h2)]; exact h2⟩
  · obtain ⟨h1, h2⟩ := k.h b e
    exact ⟨h1, by rw [hb.block _ (lt_of_at h2)]; exact h2⟩
  · obtain ⟨h1, h2⟩ := k.r v e
    exact ⟨owns_keep h1 fun g hg => hb.block g (h1.lt g hg).2, h2⟩
theorem Ky.row {u0 u u' : World} {q : Nat} {xs : List Int} {fo ho : Option Nat} (k : Ky u0 u q xs fo ho none) (hb : Below u.heap.size u u') {v : Value} (ho' : u'.ownsRow u.heap.size 3 1 v q (zcells xs)) : Ky u0 u' q xs fo ho (some v) := by
  have k' := k.step hb
  refine ⟨k'.bel, k'.f, k'.h, k'.ne, fun v' e => ?_⟩
  cases e
  refine ⟨owns_mono ho' k.bel.size, fun g hg => ?_⟩
  have hl := (ho'.lt g hg).1
  constructor
  · intro e
    have := lt_of_at (k.f g e).2
    omega
  · intro e
    have := lt_of_at (k.h g e).2
    omega
theorem Ky.makeF {u0 u : World} {q : Nat} {xs : List Int} {ho : Option Nat} {ro : Option Value} (k : Ky u0 u q xs none ho ro) : Ky u0 (u.alloc faultZ) q xs (some u.heap.size) ho ro := by
  have k' := k.step ((Below.refl _ _).alloc (Nat.le_refl _) faultZ)
  refine ⟨k'.bel, fun b e => ?_, k'.h, fun b c e1 e2 => ?_, fun v e => ⟨(k'.r v e).1, fun g hg => ⟨fun e2 => ?_, ((k'.r v e).2 g hg).2⟩⟩⟩
  · cases e
    exact ⟨k.bel.size, (MapKept.heap_alloc u _).1⟩
  · cases e1
    have := lt_of_at (k.h c e2).2
    omega
  · cases e2
    have := ((k.r v e).1.lt _ hg).2
    omega
theorem Ky.makeH {u0 u : World} {q : Nat} {xs : List Int} {fo : Option Nat} {ro : Option Value} (k : Ky u0 u q xs fo none ro) : Ky u0 (u.alloc faultZ) q xs fo (some u.heap.size) ro := by
  have k' := k.step ((Below.refl _ _).alloc (Nat.le_refl _) faultZ)
  refine ⟨k'.bel, k'.f, fun b e => ?_, fun b c e1 e2 => ?_, fun v e => ⟨(k'.r v e).1, fun g hg => ⟨((k'.r v e).2 g hg).1, fun e2 => ?_⟩⟩⟩
  · cases e
    exact ⟨k.bel.size, (MapKept.heap_alloc u _).1⟩
  · cases e2
    have := lt_of_at (k.f b e1).2
    omega
  · cases e2
    have := ((k.r v e).1.lt _ hg).2
    omega
/-- behind the first store -/
structure Kf (u0 u : World) (q : Nat) (xs : List Int) (fb hb : Nat) (fo : Obj) (v : Value) : Prop where
  bel : Below u0.heap.size u0 u
  f : u.heap[fb]? = some fo
  h : u0.heap.size ≤ hb ∧ u.heap[hb]? = some faultZ
  ne : fb ≠ hb
  r : u.ownsRow u0.heap.size 3 1 v q (zcells xs) ∧ ∀ g, v.ownBlock = some g → g ≠ hb
theorem Ky.store {u0 u : World} {q : Nat} {xs : List Int} {fb hb : Nat} {v : Value} (k : Ky u0 u q xs (some fb) (some hb) (some v)) (x y z : Value) : Kf u0 (put3 u fb x y z) q xs fb hb (faultO x y z) v := by
  obtain ⟨f1, f2⟩ := k.f _ rfl
  obtain ⟨h1, h2⟩ := k.h _ rfl
  have hne := k.ne _ _ rfl rfl
  obtain ⟨r1, r2⟩ := k.r _ rfl
  refine ⟨((k.bel.setCell (p := ⟨fb, 0, none⟩) f1 _).setCell (p := ⟨fb, 1, none⟩) f1 _).setCell (p := ⟨fb, 2, none⟩) f1 _, put3_block f2 x y z, ⟨h1, by rw [put3_other (Ne.symm hne)]; exact h2⟩, hne, owns_keep r1 fun g hg => put3_other (fun e => (r2 g hg).1 (by rw [e])) x y z, fun g hg e => (r2 g hg).2 (by rw [e])⟩
/-- behind both -/
structure Kz (u0 u : World) (q : Nat) (xs : List Int) (fb hb : Nat) (fo ho : Obj) (v : Value) : Prop where
  bel : Below u0.heap.size u0 u
  f : u.heap[fb]? = some fo
  h : u.heap[hb]? = some ho
  r : u.ownsRow u0.heap.size 3 1 v q (zcells xs)
theorem Kf.store {u0 u : World} {q : Nat} {xs : List Int} {fb hb : Nat} {fo : Obj} {v : Value} (k : Kf u0 u q xs fb hb fo v) (x y z : Value) : Kz u0 (put3 u hb x y z) q xs fb hb fo (faultO x y z) v := by
  obtain ⟨h1, h2⟩ := k.h
  exact ⟨((k.bel.setCell (p := ⟨hb, 0, none⟩) h1 _).setCell (p := ⟨hb, 1, none⟩) h1 _).setCell (p := ⟨hb, 2, none⟩) h1 _, by rw [put3_other k.ne]; exact k.f, put3_block h2 x y z, owns_keep k.r.1 fun g hg => put3_other (k.r.2 g hg) x y z⟩
theorem zero_cells {u : World} {b : Nat} (h : u.heap[b]? = some faultZ) : u.cell? ⟨b, 0, none⟩ = some (.int .i64 0) ∧ u.cell? ⟨b, 1, none⟩ = some (.int .i64 0) ∧ u.cell? ⟨b, 2, none⟩ = some (.slice none 0 0) ∧ u.frozen? ⟨b, 0, none⟩ = false ∧ u.frozen? ⟨b, 1, none⟩ = false ∧ u.frozen? ⟨b, 2, none⟩ = false := by
  unfold faultZ at h
  simp [World.cell?, World.frozen?, h]
end Go.Proofs.Ytgbdnpmpkilcoaa

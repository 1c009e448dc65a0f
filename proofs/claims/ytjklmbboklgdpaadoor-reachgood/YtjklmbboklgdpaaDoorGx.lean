/-
  Two graphs in memory: one that came in, in its box, and one of the function's own making, in its box; what is left without an edge that has another way beside it. No conditions.
-/
import Derived.Test.YtjklmbboklgdpaaDoorGm
import Derived.Test.YtjklmbboklgdpaaDoorPn
namespace Go.Proofs.YtjklmbboklgdpaaDoor
open Go.RowKit
set_option linter.unusedVariables false

structure Gx (w u : World) (xb V : Nat) (a : Option Addr) (n cap : Nat) (xa : Option Addr) (m xc : Nat) (xs : List (Nat × Nat)) : Prop where
  bg : Bg w u (.int .i64 V) (.slice a n cap)
  hb : w.heap.size < xb
  xg : u.heap[xb]? = some (.cells #[.int .i64 V, .slice xa m xc] 33 (0, 0))
  row : u.ownsRow (w.heap.size + 1) 45 2 (.slice xa m xc) m (ecells (toI xs))
  len : xs.length = m
theorem Gx.step {w u u' : World} {xb V : Nat} {a : Option Addr} {n cap : Nat} {xa : Option Addr} {m xc : Nat} {xs : List (Nat × Nat)} (h : Gx w u xb V a n cap xa m xc xs) (hb : Below u.heap.size u u') : Gx w u' xb V a n cap xa m xc xs :=
  ⟨h.bg.step hb, h.hb, by rw [hb.block xb (heap_lt h.xg)]; exact h.xg, owns_below h.row hb, h.len⟩
theorem Gx.cells {w u : World} {xb V : Nat} {a : Option Addr} {n cap : Nat} {xa : Option Addr} {m xc : Nat} {xs : List (Nat × Nat)} (h : Gx w u xb V a n cap xa m xc xs) :
    u.cell? ⟨w.heap.size, 0, none⟩ = some (.int .i64 V) ∧ u.cell? ⟨w.heap.size, 1, none⟩ = some (.slice a n cap) ∧ u.cell? ⟨xb, 0, none⟩ = some (.int .i64 V) ∧ u.cell? ⟨xb, 1, none⟩ = some (.slice xa m xc) :=
  ⟨h.bg.cells.1, h.bg.cells.2, by simp [World.cell?, h.xg], by simp [World.cell?, h.xg]⟩
theorem Gx.fz {w u : World} {xb V : Nat} {a : Option Addr} {n cap : Nat} {xa : Option Addr} {m xc : Nat} {xs : List (Nat × Nat)} (h : Gx w u xb V a n cap xa m xc xs) (k : Nat) : u.frozen? ⟨xb, k, none⟩ = false := by
  simp [World.frozen?, h.xg]
theorem Gx.es {w u : World} {xb V : Nat} {a : Option Addr} {n cap : Nat} {xa : Option Addr} {m xc : Nat} {xs : List (Nat × Nat)} (h : Gx w u xb V a n cap xa m xc xs) (hm : m ≤ 1000) : Es 0 u xa m (toI xs) := by
  obtain ⟨a', c', he, hh⟩ := es_of_owns h.row (by omega)
  cases he
  exact hh.mono (Nat.zero_le _)
theorem owns_slice {w : World} {base : Nat} {e : TypeId} {size : Nat} {xa : Option Addr} {m xc : Nat} {xs : List Value} (h : w.ownsRow base e size (.slice xa m xc) m xs) : m ≤ xc ∧ (xa = none → m = 0 ∧ xc = 0) ∧ (0 < m → ∃ g, xa = some ⟨g, 0, none⟩) := by
  rcases h.2 with ⟨hv, h0⟩ | ⟨g, cap, cur, hv, hb, hg, h1, h2, h3, h4⟩
  · cases hv
    exact ⟨by omega, fun _ => ⟨rfl, rfl⟩, fun h => by omega⟩
  · cases hv
    exact ⟨h1, fun h => (by cases h), fun _ => ⟨g, rfl⟩⟩
/-- the box's row is another one now, of newer memory -/
theorem Gx.put {w u u' : World} {xb V : Nat} {a : Option Addr} {n cap : Nat} {xa : Option Addr} {m xc : Nat} {xs : List (Nat × Nat)} (h : Gx w u xb V a n cap xa m xc xs) {fr : Bool} {va : Option Addr} {k vc : Nat} {ys : List (Nat × Nat)}
    {eb : Option (Nat × Int × Int)} {gb : Option Nat} (hy : Gm u u' fr (some (.slice va k vc)) (toI ys) eb gb) (hk : ys.length = k) : Gx w (u'.setCell ⟨xb, 1, none⟩ (.slice va k vc)) xb V a n cap va k vc ys := by
  have hx := heap_lt h.xg
  have hg' : u'.heap[xb]? = some (.cells #[.int .i64 (V : Int), .slice xa m xc] 33 (0, 0)) := by rw [hy.bel.block xb hx]; exact h.xg
  have hbs : Below (w.heap.size + 1) u' (u'.setCell ⟨xb, 1, none⟩ (.slice va k vc)) := (Below.refl _ _).setCell (p := ⟨xb, 1, none⟩) h.hb _
  refine ⟨(h.bg.step hy.bel).stepB (by omega) hbs, h.hb, by simp [World.setCell, Array.getElem?_modify, hg'], ?_, hk⟩
  have ho := hy.hrow _ rfl
  rw [toI_length, hk] at ho
  refine owns_mono (owns_keep ho fun g hg => ?_) h.bg.lt
  have := (ho.lt g hg).1
  exact Below.heap_setCell _ _ _ _ (by show g ≠ xb; omega)
theorem Gx.made {w u0 u : World} {V : Nat} {a : Option Addr} {n cap : Nat} (XD : Bg w u0 (.int .i64 V) (.slice a n cap)) {fr : Bool} {va : Option Addr} {m vc : Nat} {xs : List (Nat × Nat)} {eb : Option (Nat × Int × Int)} {b : Nat}
    (KY : Gm u0 u fr (some (.slice va m vc)) (toI xs) eb (some b)) (hm : xs.length = m) : Gx w ((u.setCell ⟨b, 0, none⟩ (.int .i64 (V : Int))).setCell ⟨b, 1, none⟩ (.slice va m vc)) b V a n cap va m vc xs := by
  obtain ⟨h1, h2, h3⟩ := KY.stored (.int .i64 (V : Int)) (.slice va m vc)
  have := (KY.hgb b rfl).1
  have := XD.lt
  rw [toI_length, hm] at h3
  exact ⟨XD.step h1, by omega, h2, owns_mono h3 (by omega), hm⟩
/-- how many edges the box's row has -/
def mOf (w : World) (xb : Nat) : Nat := match w.cell? ⟨xb, 1, none⟩ with
  | some (.slice _ m _) => m
  | _ => 0
theorem Gx.mOf {w u : World} {xb V : Nat} {a : Option Addr} {n cap : Nat} {xa : Option Addr} {m xc : Nat} {xs : List (Nat × Nat)} (h : Gx w u xb V a n cap xa m xc xs) : mOf u xb = m := by
  unfold Go.Proofs.YtjklmbboklgdpaaDoor.mOf
  rw [h.cells.2.2.2]

/-- what is reached is the same -/
def SameR (xs es : List (Nat × Nat)) : Prop := ∀ i j, Star (Via xs) i j ↔ Star (Via es) i j
theorem but_split {xs : List (Nat × Nat)} {k : Nat} (hk : k < xs.length) {e : Nat × Nat} : e ∈ xs ↔ e ∈ but xs k ∨ e = xs.getD k (0, 0) := by
  have h : xs = xs.take k ++ xs.getD k (0, 0) :: xs.drop (k + 1) := by
    have h1 := take_snoc xs k hk
    have h2 := List.take_append_drop (k + 1) xs
    rw [h1] at h2
    simpa using h2.symm
  constructor
  · intro he
    rw [h] at he
    unfold but
    simp only [List.mem_append, List.mem_cons] at he ⊢
    rcases he with he | he | he
    · exact .inl (.inl he)
    · exact .inr he
    · exact .inl (.inr he)
  · rintro (he | he)
    · exact but_sub he
    · rw [he]; exact getD_mem hk
theorem SameR.but {xs es : List (Nat × Nat)} (h : SameR xs es) {k : Nat} (hk : k < xs.length) (ht : Trv xs k) : SameR (but xs k) es := by
  intro i j
  rw [← h i j]
  refine ⟨Star.mono fun _ _ hr => but_sub hr, fun hs => ?_⟩
  refine hs (fun x => Star (Via (Go.Proofs.YtjklmbboklgdpaaDoor.but xs k)) i x) .refl fun x y hx hr => ?_
  rcases (but_split hk).1 hr with hr | hr
  · exact hx.step hr
  · have h1 : x = (xs.getD k (0, 0)).1 := by rw [← hr]
    have h2 : y = (xs.getD k (0, 0)).2 := by rw [← hr]
    subst h1 h2
    exact hx.trans ht
theorem trv_loop {xs : List (Nat × Nat)} {k : Nat} (h : (xs.getD k (0, 0)).1 = (xs.getD k (0, 0)).2) : Trv xs k := by
  unfold Trv
  rw [h]
  exact .refl
end Go.Proofs.YtjklmbboklgdpaaDoor


/-
  Seats: what stands in memory, and the two contracts by which each goes on from the other's. No conditions.
-/
import Derived.Test.YtefagplbpbkpgaaDoorJ3
import Derived.Test.YtefagplbpbkpgaaDoorJ12
import Derived.Test.YtefagplbpbkpgaaDoorJ9
import Derived.Lib.AppendZeros
import Derived.Laws.AppendOwnNone
import Derived.Test.YtefagplbpbkpgaaDoorJ11
import Derived.Test.YtefagplbpbkpgaaDoorJ4
import Derived.Test.YtefagplbpbkpgaaDoorJ8
namespace Go.Proofs.YtefagplbpbkpgaaDoor
open Go.RowKit
set_option linter.unusedVariables false
set_option maxRecDepth 20000
/-- rows of angles that are read: those of each vertex -/
def Chs (w : World) (ca : Option Addr) (V : Nat) (A : Nat → Nat → Nat) (ch : Nat → List Nat) : Prop :=
  ∀ x, x < V → ∃ g off la lc, ca = some ⟨g, off, none⟩ ∧ g < w.heap.size ∧ w.cell? ⟨g, off + x, none⟩ = some (.slice la (ch x).length lc) ∧ (ch x).length ≤ lc ∧ As w la (ch x).length (fun j => A ((ch x).getD j 0))
theorem Chs.below {w w' : World} {ca : Option Addr} {V : Nat} {A : Nat → Nat → Nat} {ch : Nat → List Nat} (h : Chs w ca V A ch) (hb : Below w.heap.size w w') : Chs w' ca V A ch := fun x hx => by
  obtain ⟨g, off, la, lc, ha, hg, c, hl, hn⟩ := h x hx
  exact ⟨g, off, la, lc, ha, Nat.lt_of_lt_of_le hg hb.size, by rw [hb.cell (p := ⟨g, off + x, none⟩) hg]; exact c, hl, hn.below hb⟩
section
variable (w0 : World) (gS gR gG gT : Nat) (aa : Option Addr) (H ac : Nat) (ca : Option Addr) (V cc K rc gc tc : Nat) (A : Nat → Nat → Nat) (ch : Nat → List Nat)
/-- what doesn't change -/
structure Cx : Prop where
  ang : As w0 aa H A
  cho : Chs w0 ca V A ch
  s0 : w0.heap.size ≤ gS
  r0 : w0.heap.size ≤ gR
  g0 : w0.heap.size ≤ gG
  t0 : w0.heap.size ≤ gT
  sr : gS ≠ gR
  sg : gS ≠ gG
  st : gS ≠ gT
  rg : gR ≠ gG
  rt : gR ≠ gT
  gt : gG ≠ gT
  lt : ∀ x, x < V → ∀ h ∈ ch x, h < H
  a0 : ∀ h, h < H → A h 0 = h
  a2 : ∀ h, h < H → A h 2 < K
  v64 : V ≤ 64
  k256 : K ≤ 256
  h256 : H ≤ 256
structure St (w : World) (gr rm : Nat → Int) (T : Nat → Bool) : Prop where
  bel : Below w0.heap.size w0 w
  box : w.heap[gS]? = some (.cells #[.slice aa H ac, .slice ca V cc, .slice (some ⟨gR, 0, none⟩) K rc, .slice (some ⟨gG, 0, none⟩) V gc] 89 (0, 0))
  room : RowZ w gR K rm
  great : RowZ w gG V gr
  tried : pt.RowB w gT K T
structure Fr (w w' : World) : Prop where
  bel : Below w0.heap.size w w'
  size : w.heap.size ≤ w'.heap.size
  far : ∀ i, i < w.heap.size → i ≠ gR → i ≠ gG → i ≠ gT → w'.heap[i]? = w.heap[i]?
def Okk (gr rm : Nat → Int) : Prop := (∀ f, f < K → 0 ≤ rm f ∧ rm f ≤ 1000) ∧ ∀ y, y < V → gr y = -1 ∨ ∃ h ∈ ch y, gr y = (h : Int)
def SeatAns (x : Nat) (gr rm : Nat → Int) (T : Nat → Bool) (w : World) (e : Ending) (w' : World) : Prop :=
  ((∃ T', e = .returned (.bool false) ∧ St w0 gS gR gG gT aa H ac ca V cc K rc gc w' gr rm T' ∧ SNo (fun h => A h 2) ch V x gr rm T T') ∨ (∃ gr' rm' T', e = .returned (.bool true) ∧ St w0 gS gR gG gT aa H ac ca V cc K rc gc w' gr' rm' T' ∧ SYes (fun h => A h 2) ch V K x gr rm T gr' rm')) ∧ Fr w0 gR gG gT w w'
def SeatC (k : Nat) : Prop := ∀ (w : World) (gr rm : Nat → Int) (T : Nat → Bool) (x : Nat), St w0 gS gR gG gT aa H ac ca V cc K rc gc w gr rm T → Okk V K ch gr rm → x < V → un T K ≤ k → (gr x = -1 ∨ T (A (gr x).toNat 2) = true) →
  Calls Tryd.prog 57 #[.pointer (some ⟨gS, 0, none⟩), .int .i64 (x : Nat), .slice (some ⟨gT, 0, none⟩) K tc] w (SeatAns w0 gS gR gG gT aa H ac ca V cc K rc gc A ch x gr rm T w)
def MoveAns (face : Nat) (gr rm : Nat → Int) (T : Nat → Bool) (w : World) (e : Ending) (w' : World) : Prop :=
  ((∃ T', e = .returned (.bool false) ∧ St w0 gS gR gG gT aa H ac ca V cc K rc gc w' gr rm T' ∧ MNo (fun h => A h 2) ch V face gr rm T T') ∨ (∃ gr' rm' T', e = .returned (.bool true) ∧ St w0 gS gR gG gT aa H ac ca V cc K rc gc w' gr' rm' T' ∧ MYes (fun h => A h 2) ch V K face gr rm T gr' rm')) ∧ Fr w0 gR gG gT w w'
def MoveC (k : Nat) : Prop := ∀ (w : World) (gr rm : Nat → Int) (T : Nat → Bool) (face : Nat), St w0 gS gR gG gT aa H ac ca V cc K rc gc w gr rm T → Okk V K ch gr rm → face < K → T face = true → rm face = 0 → un T K ≤ k →
  Calls Tryd.prog 71 #[.pointer (some ⟨gS, 0, none⟩), .int .i64 (face : Nat), .slice (some ⟨gT, 0, none⟩) K tc] w (MoveAns w0 gS gR gG gT aa H ac ca V cc K rc gc A ch face gr rm T w)
end
section
variable {w0 : World} {gS gR gG gT : Nat} {aa : Option Addr} {H ac : Nat} {ca : Option Addr} {V cc K rc gc tc : Nat} {A : Nat → Nat → Nat} {ch : Nat → List Nat}
theorem Fr.refl (w : World) : Fr w0 gR gG gT w w := ⟨Below.refl _ _, Nat.le_refl _, fun _ _ _ _ _ => rfl⟩
theorem Fr.trans {a b c : World} (h : Fr w0 gR gG gT a b) (k : Fr w0 gR gG gT b c) : Fr w0 gR gG gT a c :=
  ⟨h.bel.trans k.bel, Nat.le_trans h.size k.size, fun i h1 h2 h3 h4 => by rw [k.far i (Nat.lt_of_lt_of_le h1 h.size) h2 h3 h4, h.far i h1 h2 h3 h4]⟩
theorem Fr.of {a b : World} (h : Below a.heap.size a b) (hs : w0.heap.size ≤ a.heap.size) : Fr w0 gR gG gT a b := ⟨h.mono hs, h.size, fun i h1 _ _ _ => h.block i h1⟩
theorem Fr.setR {a : World} (h : w0.heap.size ≤ gR) (o : Nat) (v : Value) : Fr w0 gR gG gT a (a.setCell ⟨gR, o, none⟩ v) :=
  ⟨(Below.refl _ _).setCell (p := ⟨gR, o, none⟩) h v, by simp, fun i h1 h2 h3 h4 => Below.heap_setCell _ _ _ _ h2⟩
theorem Fr.setG {a : World} (h : w0.heap.size ≤ gG) (o : Nat) (v : Value) : Fr w0 gR gG gT a (a.setCell ⟨gG, o, none⟩ v) :=
  ⟨(Below.refl _ _).setCell (p := ⟨gG, o, none⟩) h v, by simp, fun i h1 h2 h3 h4 => Below.heap_setCell _ _ _ _ h3⟩
theorem Fr.setT {a : World} (h : w0.heap.size ≤ gT) (o : Nat) (v : Value) : Fr w0 gR gG gT a (a.setCell ⟨gT, o, none⟩ v) :=
  ⟨(Below.refl _ _).setCell (p := ⟨gT, o, none⟩) h v, by simp, fun i h1 h2 h3 h4 => Below.heap_setCell _ _ _ _ h4⟩
theorem St.below {w w' : World} {gr rm : Nat → Int} {T : Nat → Bool} (h : St w0 gS gR gG gT aa H ac ca V cc K rc gc w gr rm T) (hb : Below w.heap.size w w') : St w0 gS gR gG gT aa H ac ca V cc K rc gc w' gr rm T :=
  ⟨h.bel.trans (hb.mono h.bel.size), by rw [hb.block gS (Array.getElem?_eq_some_iff.1 h.box).1]; exact h.box, h.room.below hb, h.great.below hb, Row.below h.tried hb⟩
theorem rowB_set {w : World} {g n : Nat} {f : Nat → Bool} (h : pt.RowB w g n f) (p : Nat) (v : Bool) : pt.RowB (w.setCell ⟨g, p, none⟩ (.bool v)) g n (upd f p v) :=
  (Row.set h p (.bool v)).congr fun t ht => by unfold upd; split <;> rfl
theorem St.setT {w : World} {gr rm : Nat → Int} {T : Nat → Bool} (c : Cx w0 gS gR gG gT aa H ca V K A ch) (h : St w0 gS gR gG gT aa H ac ca V cc K rc gc w gr rm T) (f : Nat) (b : Bool) : St w0 gS gR gG gT aa H ac ca V cc K rc gc (w.setCell ⟨gT, f, none⟩ (.bool b)) gr rm (upd T f b) :=
  ⟨h.bel.setCell (p := ⟨gT, f, none⟩) c.t0 _, by rw [Below.heap_setCell _ _ _ _ c.st]; exact h.box, h.room.keep (Below.heap_setCell _ _ _ _ c.rt), h.great.keep (Below.heap_setCell _ _ _ _ c.gt), rowB_set h.tried f b⟩
theorem St.setR {w : World} {gr rm : Nat → Int} {T : Nat → Bool} (c : Cx w0 gS gR gG gT aa H ca V K A ch) (h : St w0 gS gR gG gT aa H ac ca V cc K rc gc w gr rm T) (f : Nat) (z : Int) : St w0 gS gR gG gT aa H ac ca V cc K rc gc (w.setCell ⟨gR, f, none⟩ (.int .i64 z)) gr (upd rm f z) T :=
  ⟨h.bel.setCell (p := ⟨gR, f, none⟩) c.r0 _, by rw [Below.heap_setCell _ _ _ _ c.sr]; exact h.box, RowZ.set h.room f z, h.great.keep (Below.heap_setCell _ _ _ _ c.rg.symm), Row.keep h.tried (Below.heap_setCell _ _ _ _ c.rt.symm)⟩
theorem St.setG {w : World} {gr rm : Nat → Int} {T : Nat → Bool} (c : Cx w0 gS gR gG gT aa H ca V K A ch) (h : St w0 gS gR gG gT aa H ac ca V cc K rc gc w gr rm T) (x : Nat) (z : Int) : St w0 gS gR gG gT aa H ac ca V cc K rc gc (w.setCell ⟨gG, x, none⟩ (.int .i64 z)) (upd gr x z) rm T :=
  ⟨h.bel.setCell (p := ⟨gG, x, none⟩) c.g0 _, by rw [Below.heap_setCell _ _ _ _ c.sg]; exact h.box, h.room.keep (Below.heap_setCell _ _ _ _ c.rg), RowZ.set h.great x z, Row.keep h.tried (Below.heap_setCell _ _ _ _ c.gt.symm)⟩
theorem St.cells {w : World} {gr rm : Nat → Int} {T : Nat → Bool} (h : St w0 gS gR gG gT aa H ac ca V cc K rc gc w gr rm T) :
    w.cell? ⟨gS, 0, none⟩ = some (.slice aa H ac) ∧ w.cell? ⟨gS, 1, none⟩ = some (.slice ca V cc) ∧ w.cell? ⟨gS, 2, none⟩ = some (.slice (some ⟨gR, 0, none⟩) K rc) ∧ w.cell? ⟨gS, 3, none⟩ = some (.slice (some ⟨gG, 0, none⟩) V gc) := by
  have h1 := h.box
  simp [World.cell?, h1]
theorem St.lt {w : World} {gr rm : Nat → Int} {T : Nat → Bool} (h : St w0 gS gR gG gT aa H ac ca V cc K rc gc w gr rm T) : gS < w.heap.size ∧ gR < w.heap.size ∧ gG < w.heap.size ∧ gT < w.heap.size :=
  ⟨(Array.getElem?_eq_some_iff.1 h.box).1, h.room.lt, h.great.lt, Row.lt h.tried⟩
end
end Go.Proofs.YtefagplbpbkpgaaDoor
/-
  The contract of the program's seat, out of that of moveOne. Conditions: what stands in memory is as told.
-/
namespace Go.Proofs.YtefagplbpbkpgaaDoor
open Go.RowKit
set_option linter.unusedVariables false
set_option maxRecDepth 20000
section
variable {w0 : World} {gS gR gG gT : Nat} {aa : Option Addr} {H ac : Nat} {ca : Option Addr} {V cc K rc gc tc : Nat} {A : Nat → Nat → Nat} {ch : Nat → List Nat}
theorem box_cells {w : World} {g : Nat} {a b c d : Value} {ty : TypeId} (h : w.heap[g]? = some (.cells #[a, b, c, d] ty (0, 0))) : w.cell? ⟨g, 0, none⟩ = some a ∧ w.cell? ⟨g, 1, none⟩ = some b ∧ w.cell? ⟨g, 2, none⟩ = some c ∧ w.cell? ⟨g, 3, none⟩ = some d := by
  simp [World.cell?, h]
theorem move_ans {face : Nat} {gr rm : Nat → Int} {T : Nat → Bool} {w w' : World} {e : Ending} (h : MoveAns w0 gS gR gG gT aa H ac ca V cc K rc gc A ch face gr rm T w e w') : ∃ b, e = .returned (.bool b) ∧ ((b = false ∧ ∃ T', St w0 gS gR gG gT aa H ac ca V cc K rc gc w' gr rm T' ∧ MNo (fun h => A h 2) ch V face gr rm T T') ∨ (b = true ∧ ∃ gr' rm' T', St w0 gS gR gG gT aa H ac ca V cc K rc gc w' gr' rm' T' ∧ MYes (fun h => A h 2) ch V K face gr rm T gr' rm')) ∧ Fr w0 gR gG gT w w' := by
  obtain ⟨⟨T', rfl, h1, h2⟩ | ⟨gr', rm', T', rfl, h1, h2⟩, h3⟩ := h
  · exact ⟨false, rfl, .inl ⟨rfl, T', h1, h2⟩, h3⟩
  · exact ⟨true, rfl, .inr ⟨rfl, gr', rm', T', h1, h2⟩, h3⟩
theorem ans_cell {face : Nat} {gr rm : Nat → Int} {T : Nat → Bool} {w' : World} {b : Bool} (h : (b = false ∧ ∃ T', St w0 gS gR gG gT aa H ac ca V cc K rc gc w' gr rm T' ∧ MNo (fun h => A h 2) ch V face gr rm T T') ∨ (b = true ∧ ∃ gr' rm' T', St w0 gS gR gG gT aa H ac ca V cc K rc gc w' gr' rm' T' ∧ MYes (fun h => A h 2) ch V K face gr rm T gr' rm')) : w'.cell? ⟨gS, 2, none⟩ = some (.slice (some ⟨gR, 0, none⟩) K rc) := by
  rcases h with ⟨_, T', h1, _⟩ | ⟨_, gr', rm', T', h1, _⟩
  · exact h1.cells.2.2.1
  · exact h1.cells.2.2.1
set_option maxHeartbeats 8000000 in
theorem seat_step (cx : Cx w0 gS gR gG gT aa H ca V K A ch) (k : Nat) (hm : ∀ j, j < k → MoveC w0 gS gR gG gT aa H ac ca V cc K rc gc tc A ch j) : SeatC w0 gS gR gG gT aa H ac ca V cc K rc gc tc A ch k := by
  intro w gr rm T x hst hok hx hun hgx
  have HST := hide hst
  have HOK := hide hok
  have HUN := hide hun
  have HGX := hide hgx
  have HM := hide hm
  have HCX := hide cx
  have hv64 := cx.v64
  have hk256 := cx.k256
  obtain ⟨gc0, oc0, la, lc, hca, hgc, d0, hlc, hAs⟩ := cx.cho x hx
  subst hca
  obtain ⟨len, hlen⟩ : ∃ len, (ch x).length = len := ⟨_, rfl⟩
  rw [hlen] at d0 hAs
  have HLEN := hide hlen
  have HAS := hide hAs
  have hs0 := hst.bel.size
  have e1 : w.cell? ⟨gc0, oc0 + x, none⟩ = some (.slice la len lc) := by rw [hst.bel.cell (p := ⟨gc0, oc0 + x, none⟩) hgc]; exact d0
  obtain ⟨b0, b1, b2, b3⟩ := hst.cells
  have hxV : (x : Int) < (V : Int) := by omega
  have HSL0 := hide (SL.start (fa := fun h => A h 2) (ch := ch) (V := V) (x := x) gr rm T)
  have HFR0 := hide (Fr.refl (w0 := w0) (gR := gR) (gG := gG) (gT := gT) w)
  have hln := hAs.1
  clear hst hok hun hgx hm cx hlen hAs d0 hlc b0 b2 b3
  go_enter Tryd.func57, Tryd.ntmps57
  go_wp2_with fail
  go_loopw [17] (fun i wr => ∃ (j : Nat) (Tj : Nat → Bool), i = .int .i64 j ∧ j ≤ len ∧ Hid (St w0 gS gR gG gT aa H ac (some ⟨gc0, oc0, none⟩) V cc K rc gc wr gr rm Tj) ∧ Hid (SL (fun h => A h 2) ch V x j gr rm T Tj) ∧ Hid (Fr w0 gR gG gT w wr)) (fun i wr => len - (intOf i).toNat)
  case atStart => exact ⟨0, T, rfl, by omega, HST, HSL0, HFR0⟩
  case round =>
    clear HST HSL0 HFR0 e1 b1 hgc
    obtain ⟨j, Tj, rfl, hj, HST, HSL, HFR⟩ := hrel
    have hsz := (unhide HST).bel.size
    by_cases hjl : j < len
    · have hjl2 : (j : Int) < (len : Int) := by omega
      obtain ⟨gl, ol, hla, hgl, q0, q1, q2, q3⟩ := ((unhide HAS).below (unhide HST).bel).2 j hjl
      subst hla
      obtain ⟨t, ht⟩ : ∃ t, (ch x).getD j 0 = t := ⟨_, rfl⟩
      simp only [ht] at q0 q1 q2 q3
      have htm : t ∈ ch x := by rw [← ht]; exact pt.getD_in (by rw [unhide HLEN]; exact hjl)
      have htH := (unhide HCX).lt x hx t htm
      have hf := (unhide HCX).a2 t htH
      have h0 := (unhide HCX).a0 t htH
      rw [h0] at q0
      obtain ⟨f, hfe⟩ : ∃ f, A t 2 = f := ⟨_, rfl⟩
      rw [hfe] at q2 hf
      have HT := hide ht
      have HF := hide hfe
      have HF' := hide (show (fun h => A h 2) ((ch x).getD j 0) = f by rw [ht]; exact hfe)
      generalize A t 1 = a1 at q1
      generalize A t 3 = a3 at q3
      clear ht hfe htm htH h0
      obtain ⟨l1, l2, l3, l4⟩ := (unhide HST).lt
      have r0 := Row.cell (unhide HST).tried hf
      have rf := Row.fz (unhide HST).tried f
      have hne : ¬ gT = wr.heap.size := by omega
      cases hT : Tj f with
      | true =>
        rw [hT] at r0
        have HSL2 := hide ((unhide HSL).skip (show Tj ((fun h => A h 2) ((ch x).getD j 0)) = true by rw [unhide HF']; exact hT))
        have HST2 := hide (fun (o : Obj) => (unhide HST).below (b_al o))
        have HFR2 := hide (fun (o : Obj) => (unhide HFR).trans (Fr.of (b_al o) hsz))
        clear hT
        go_wp2_with fail
        go_roundw
        case rel => exact ⟨j + 1, Tj, by go_num, by omega, hide (unhide HST2 _), HSL2, hide (unhide HFR2 _)⟩
        case measure => simp [intOf]; omega
      | false =>
        rw [hT] at r0
        have HTF := hide hT
        obtain ⟨gb, hgb⟩ : ∃ gb, wr.heap.size = gb := ⟨_, rfl⟩
        have hgbR : gb ≠ gR := by omega
        have hgbG : gb ≠ gG := by omega
        have hgbT : gb ≠ gT := by omega
        have hz0 := ((unhide HOK).1 f hf).1
        have hz1 := ((unhide HOK).1 f hf).2
        obtain ⟨w2, hw2⟩ : ∃ w2, (wr.setCell ⟨gT, f, none⟩ (.bool true)).alloc (.cells #[.int .i64 (t : Int), .int .i64 (a1 : Int), .int .i64 (f : Int), .int .i64 (a3 : Int)] 35) = w2 := ⟨_, rfl⟩
        have HS2 := hide (show St w0 gS gR gG gT aa H ac (some ⟨gc0, oc0, none⟩) V cc K rc gc w2 gr rm (upd Tj f true) from by rw [← hw2]; exact ((unhide HST).setT (unhide HCX) f true).below (b_al _))
        have HF2 := hide (show Fr w0 gR gG gT w w2 from by rw [← hw2]; exact ((unhide HFR).trans (Fr.setT (unhide HCX).t0 f (.bool true))).trans (Fr.of (b_al _) (by simp; exact hsz)))
        have HG2 := hide (show w2.heap[gb]? = some (.cells #[.int .i64 (t : Int), .int .i64 (a1 : Int), .int .i64 (f : Int), .int .i64 (a3 : Int)] 35 (0, 0)) from by
          rw [← hw2, ← hgb]
          have := at_new (wr.setCell ⟨gT, f, none⟩ (.bool true)) #[.int .i64 (t : Int), .int .i64 (a1 : Int), .int .i64 (f : Int), .int .i64 (a3 : Int)] 35
          rwa [show (wr.setCell ⟨gT, f, none⟩ (.bool true)).heap.size = wr.heap.size by simp] at this)
        obtain ⟨z, hz⟩ : ∃ z, rm f = z := ⟨_, rfl⟩
        rw [hz] at hz0 hz1
        have HGB := hide hgb
        have HW2 := hide hw2
        clear hT hw2 hgb
        go_wp2_with fail
        rw [unhide HGB, unhide HW2]
        have XD := hide ((unhide HS2).below b_dr)
        have XF := hide ((unhide HF2).trans (Fr.of (b_dr (w := w2)) (unhide HS2).bel.size))
        have XG := hide (show w2.drew.heap[gb]? = _ from unhide HG2)
        clear HST HFR q0 q1 q2 q3 r0 rf HW2
        have hwz : IntKind.i64.wrap (z - 1) = z - 1 := by rw [IntKind.wrap_i64]; omega
        by_cases hpos : 0 < z
        · have hp2 : ¬ z ≤ 0 := by omega
          have hzc : w2.drew.cell? ⟨gR, f, none⟩ = some (.int .i64 z) := by rw [← hz]; exact (unhide XD).room.cell hf
          refine wp_region_held_drew (S := fun u => u.cell? ⟨gS, 2, none⟩ = some (.slice (some ⟨gR, 0, none⟩) K rc) ∧ u.cell? ⟨gb, 2, none⟩ = some (.int .i64 (f : Int)) ∧ u.cell? ⟨gR, f, none⟩ = some (.int .i64 z)) (by kernel_rfl) ⟨(unhide XD).cells.2.2.1, (box_cells (unhide XG)).2.2.1, hzc⟩ (fun hS => ?_)
          generalize w2.drew = w3 at XD XF XG hS ⊢
          clear hzc HS2 HF2 HG2
          have HYS := hide ((unhide HSL).take hx (by rw [unhide HLEN]; exact hjl) (unhide HT) (unhide HF) (unhide HTF) (by rw [hz]; exact hpos) (fun g hg => ((unhide HOK).1 g hg).1) (unhide HOK).2)
          rw [hz] at HYS
          refine wpAnyH_take (i := 0) (v := ?_) rfl (by kernel_rfl) (by kernel_rfl) (by kernel_rfl) (fun _ _ _ h => h) (Or.inl ⟨by rfl, ?_⟩) hS ?_
          rotate_left
          · intro u hu; (try dsimp only at hu); go_simp; try with_reducible rfl
          simp only [Act.put, List.getElem_toArray, List.getElem_cons_zero, List.setIfInBounds_toArray, List.set_cons_zero, List.set_cons_succ]
          refine wpAnyH_take (i := 1) (v := ?_) rfl (by kernel_rfl) (by kernel_rfl) (by kernel_rfl) (fun _ _ _ h => h) (Or.inl ⟨by rfl, ?_⟩) hS ?_
          rotate_left
          · intro u hu; (try dsimp only at hu); go_simp; try with_reducible rfl
          simp only [Act.put, List.getElem_toArray, List.getElem_cons_zero, List.getElem_cons_succ, List.setIfInBounds_toArray, List.set_cons_zero, List.set_cons_succ]
          refine wpAnyH_take (i := 2) (v := ?_) rfl (by kernel_rfl) (by kernel_rfl) (by kernel_rfl) (fun _ _ _ h => h) (Or.inl ⟨by rfl, ?_⟩) hS ?_
          rotate_left
          · intro u hu; (try dsimp only at hu); go_simp; try with_reducible rfl
          simp only [Act.put, List.getElem_toArray, List.getElem_cons_zero, List.getElem_cons_succ, List.setIfInBounds_toArray, List.set_cons_zero, List.set_cons_succ]
          refine wpAnyH_take (i := 3) (v := ?_) rfl (by kernel_rfl) (by kernel_rfl) (by kernel_rfl) (fun _ _ _ h => h) (Or.inl ⟨by rfl, ?_⟩) hS ?_
          rotate_left
          · intro u hu; (try dsimp only at hu); go_simp; try with_reducible rfl
          simp only [Act.put, List.getElem_toArray, List.getElem_cons_zero, List.getElem_cons_succ, List.setIfInBounds_toArray, List.set_cons_zero, List.set_cons_succ]
          refine wpAnyH_take (i := 4) (v := ?_) rfl (by kernel_rfl) (by kernel_rfl) (by kernel_rfl) (fun _ _ _ h => h) (Or.inl ⟨by rfl, ?_⟩) hS ?_
          rotate_left
          · intro u hu; (try dsimp only at hu); go_simp; try with_reducible rfl
          simp only [Act.put, List.getElem_toArray, List.getElem_cons_zero, List.getElem_cons_succ, List.setIfInBounds_toArray, List.set_cons_zero, List.set_cons_succ]
          refine wpAnyH_take (i := 5) (v := ?_) rfl (by kernel_rfl) (by kernel_rfl) (by kernel_rfl) (fun _ _ _ h => h) (Or.inl ⟨by rfl, ?_⟩) hS ?_
          rotate_left
          · intro u hu; (try dsimp only at hu); go_simp; try with_reducible rfl
          simp only [Act.put, List.getElem_toArray, List.getElem_cons_zero, List.getElem_cons_succ, List.setIfInBounds_toArray, List.set_cons_zero, List.set_cons_succ]
          refine wpAnyH_take (i := 6) (v := ?_) rfl (by kernel_rfl) (by kernel_rfl) (by kernel_rfl) (fun _ _ _ h => h) (Or.inl ⟨by rfl, ?_⟩) hS ?_
          rotate_left
          · intro u hu; (try dsimp only at hu); go_simp; try with_reducible rfl
          simp only [Act.put, List.getElem_toArray, List.getElem_cons_zero, List.getElem_cons_succ, List.setIfInBounds_toArray, List.set_cons_zero, List.set_cons_succ]
          refine wpAnyH_take (i := 7) (v := ?_) rfl (by kernel_rfl) (by kernel_rfl) (by kernel_rfl) (fun _ _ _ h => h) (Or.inl ⟨by rfl, ?_⟩) hS ?_
          rotate_left
          · intro u hu; (try dsimp only at hu); go_simp; try with_reducible rfl
          simp only [Act.put, List.getElem_toArray, List.getElem_cons_zero, List.getElem_cons_succ, List.setIfInBounds_toArray, List.set_cons_zero, List.set_cons_succ]
          refine wpAnyH_take (i := 8) (v := ?_) rfl (by kernel_rfl) (by kernel_rfl) (by kernel_rfl) (fun _ _ _ h => h) (Or.inl ⟨by rfl, ?_⟩) hS ?_
          rotate_left
          · intro u hu; (try dsimp only at hu); go_simp; try with_reducible rfl
          simp only [Act.put, List.getElem_toArray, List.getElem_cons_zero, List.getElem_cons_succ, List.setIfInBounds_toArray, List.set_cons_zero, List.set_cons_succ]
          refine wpAnyH_take (i := 9) (v := ?_) rfl (by kernel_rfl) (by kernel_rfl) (by kernel_rfl) (fun _ _ _ h => h) (Or.inl ⟨by rfl, ?_⟩) hS ?_
          rotate_left
          · intro u hu; (try dsimp only at hu); go_simp; try with_reducible rfl
          simp only [Act.put, List.getElem_toArray, List.getElem_cons_zero, List.getElem_cons_succ, List.setIfInBounds_toArray, List.set_cons_zero, List.set_cons_succ]
          refine wpAnyH_take (i := 10) (v := undef) rfl (by kernel_rfl) (by kernel_rfl) (by kernel_rfl) (fun _ _ _ h => h) (Or.inr ⟨by rfl, rfl⟩) hS ?_
          simp only [Act.put, List.getElem_toArray, List.getElem_cons_zero, List.getElem_cons_succ, List.setIfInBounds_toArray, List.set_cons_zero, List.set_cons_succ]
          refine wpAnyH_take (i := 11) (v := undef) rfl (by kernel_rfl) (by kernel_rfl) (by kernel_rfl) (fun _ _ _ h => h) (Or.inr ⟨by rfl, rfl⟩) hS ?_
          simp only [Act.put, List.getElem_toArray, List.getElem_cons_zero, List.getElem_cons_succ, List.setIfInBounds_toArray, List.set_cons_zero, List.set_cons_succ]
          refine wpAnyH_take (i := 12) (v := undef) rfl (by kernel_rfl) (by kernel_rfl) (by kernel_rfl) (fun _ _ _ h => h) (Or.inr ⟨by rfl, rfl⟩) hS ?_
          simp only [Act.put, List.getElem_toArray, List.getElem_cons_zero, List.getElem_cons_succ, List.setIfInBounds_toArray, List.set_cons_zero, List.set_cons_succ]
          refine wpAnyH_take (i := 13) (v := undef) rfl (by kernel_rfl) (by kernel_rfl) (by kernel_rfl) (fun _ _ _ h => h) (Or.inr ⟨by rfl, rfl⟩) hS ?_
          simp only [Act.put, List.getElem_toArray, List.getElem_cons_zero, List.getElem_cons_succ, List.setIfInBounds_toArray, List.set_cons_zero, List.set_cons_succ]
          refine wpAnyH_take (i := 14) (v := undef) rfl (by kernel_rfl) (by kernel_rfl) (by kernel_rfl) (fun _ _ _ h => h) (Or.inr ⟨by rfl, rfl⟩) hS ?_
          simp only [Act.put, List.getElem_toArray, List.getElem_cons_zero, List.getElem_cons_succ, List.setIfInBounds_toArray, List.set_cons_zero, List.set_cons_succ]
          refine wpAnyH_take (i := 15) (v := ?_) rfl (by kernel_rfl) (by kernel_rfl) (by kernel_rfl) (fun _ _ _ h => h) (Or.inl ⟨by rfl, ?_⟩) hS ?_
          rotate_left
          · intro u hu; (try dsimp only at hu); go_simp; try with_reducible rfl
          simp only [Act.put, List.getElem_toArray, List.getElem_cons_zero, List.getElem_cons_succ, List.setIfInBounds_toArray, List.set_cons_zero, List.set_cons_succ]
          refine wpAnyH_done (by kernel_rfl) ?_ _
          clear hS
          have hrf : rm f = z := hz
          have XD' := hide ((unhide XD).below b_dr)
          have XF' := hide ((unhide XF).trans (Fr.of (b_dr (w := w3)) (unhide XD).bel.size))
          have XG' := hide (show w3.drew.heap[gb]? = _ from unhide XG)
          have hsz1 := (unhide XD').bel.size
          go_upto_region 7 with fail
          refine wp_region_held_drew (S := fun u => u.cell? ⟨gS, 2, none⟩ = some (.slice (some ⟨gR, 0, none⟩) K rc) ∧ u.cell? ⟨gb, 2, none⟩ = some (.int .i64 (f : Int))) (by kernel_rfl) ⟨(unhide XD').cells.2.2.1, (box_cells (unhide XG')).2.2.1⟩ (fun hS => ?_)
          generalize w3.drew = wy at XD' XF' XG' hS ⊢
          refine wpAnyH_take (i := 0) (v := ?_) rfl (by kernel_rfl) (by kernel_rfl) (by kernel_rfl) (fun _ _ _ h => h) (Or.inl ⟨by rfl, ?_⟩) hS ?_
          rotate_left
          · intro u hu; (try dsimp only at hu); go_simp; try with_reducible rfl
          simp only [Act.put, List.getElem_toArray, List.getElem_cons_zero, List.setIfInBounds_toArray, List.set_cons_zero, List.set_cons_succ]
          refine wpAnyH_take (i := 1) (v := ?_) rfl (by kernel_rfl) (by kernel_rfl) (by kernel_rfl) (fun _ _ _ h => h) (Or.inl ⟨by rfl, ?_⟩) hS ?_
          rotate_left
          · intro u hu; (try dsimp only at hu); go_simp; try with_reducible rfl
          simp only [Act.put, List.getElem_toArray, List.getElem_cons_zero, List.getElem_cons_succ, List.setIfInBounds_toArray, List.set_cons_zero, List.set_cons_succ]
          refine wpAnyH_take (i := 2) (v := ?_) rfl (by kernel_rfl) (by kernel_rfl) (by kernel_rfl) (fun _ _ _ h => h) (Or.inl ⟨by rfl, ?_⟩) hS ?_
          rotate_left
          · intro u hu; (try dsimp only at hu); go_simp; try with_reducible rfl
          simp only [Act.put, List.getElem_toArray, List.getElem_cons_zero, List.getElem_cons_succ, List.setIfInBounds_toArray, List.set_cons_zero, List.set_cons_succ]
          refine wpAnyH_take (i := 3) (v := ?_) rfl (by kernel_rfl) (by kernel_rfl) (by kernel_rfl) (fun _ _ _ h => h) (Or.inl ⟨by rfl, ?_⟩) hS ?_
          rotate_left
          · intro u hu; (try dsimp only at hu); go_simp; try with_reducible rfl
          simp only [Act.put, List.getElem_toArray, List.getElem_cons_zero, List.getElem_cons_succ, List.setIfInBounds_toArray, List.set_cons_zero, List.set_cons_succ]
          refine wpAnyH_take (i := 4) (v := ?_) rfl (by kernel_rfl) (by kernel_rfl) (by kernel_rfl) (fun _ _ _ h => h) (Or.inl ⟨by rfl, ?_⟩) hS ?_
          rotate_left
          · intro u hu; (try dsimp only at hu); go_simp; try with_reducible rfl
          simp only [Act.put, List.getElem_toArray, List.getElem_cons_zero, List.getElem_cons_succ, List.setIfInBounds_toArray, List.set_cons_zero, List.set_cons_succ]
          refine wpAnyH_take (i := 5) (v := ?_) rfl (by kernel_rfl) (by kernel_rfl) (by kernel_rfl) (fun _ _ _ h => h) (Or.inl ⟨by rfl, ?_⟩) hS ?_
          rotate_left
          · intro u hu; (try dsimp only at hu); go_simp; try with_reducible rfl
          simp only [Act.put, List.getElem_toArray, List.getElem_cons_zero, List.getElem_cons_succ, List.setIfInBounds_toArray, List.set_cons_zero, List.set_cons_succ]
          refine wpAnyH_take (i := 6) (v := ?_) rfl (by kernel_rfl) (by kernel_rfl) (by kernel_rfl) (fun _ _ _ h => h) (Or.inl ⟨by rfl, ?_⟩) hS ?_
          rotate_left
          · intro u hu; (try dsimp only at hu); go_simp; try with_reducible rfl
          simp only [Act.put, List.getElem_toArray, List.getElem_cons_zero, List.getElem_cons_succ, List.setIfInBounds_toArray, List.set_cons_zero, List.set_cons_succ]
          refine wpAnyH_ready (rs := [7]) (by kernel_rfl) (by simp) ?_
          refine AllReadyH.cons rfl (fun K hK => ?_) AllReadyH.nil
          have q7 : wy.cell? ⟨gR, f, none⟩ = some (.int .i64 z) := by rw [← hrf]; exact (unhide XD').room.cell hf
          go_simp
          refine hK.out _ _ hS (fun hS2 => ?_)
          clear hK K hS2
          refine wpAnyH_take (i := 8) (v := ?_) rfl (by kernel_rfl) (by kernel_rfl) (by kernel_rfl) (fun _ _ _ h => h) (Or.inl ⟨by rfl, ?_⟩) hS ?_
          rotate_left
          · intro u hu; (try dsimp only at hu); go_simp; try with_reducible rfl
          simp only [Act.put, List.getElem_toArray, List.getElem_cons_zero, List.getElem_cons_succ, List.setIfInBounds_toArray, List.set_cons_zero, List.set_cons_succ]
          refine wpAnyH_take (i := 9) (v := ?_) rfl (by kernel_rfl) (by kernel_rfl) (by kernel_rfl) (fun _ _ _ h => h) (Or.inl ⟨by rfl, ?_⟩) hS ?_
          rotate_left
          · intro u hu; (try dsimp only at hu); go_simp; try with_reducible rfl
          simp only [Act.put, List.getElem_toArray, List.getElem_cons_zero, List.getElem_cons_succ, List.setIfInBounds_toArray, List.set_cons_zero, List.set_cons_succ]
          refine wpAnyH_ready (rs := [10]) (by kernel_rfl) (by simp) ?_
          refine AllReadyH.cons rfl (fun K hK => ?_) AllReadyH.nil
          have q10 := (unhide XD').room.fz f
          go_simp
          have XD2 := hide ((unhide XD').setR (unhide HCX) f (z - 1))
          have XF2 := hide ((unhide XF').trans (Fr.setR (unhide HCX).r0 f (.int .i64 (z - 1))))
          have XG2 := hide (show (wy.setCell ⟨gR, f, none⟩ (.int .i64 (z - 1))).heap[gb]? = _ from (Below.heap_setCell _ _ _ _ hgbR).trans (unhide XG'))
          refine hK.out _ _ ⟨(unhide XD2).cells.2.2.1, (box_cells (unhide XG2)).2.2.1⟩ (fun hS3 => ?_)
          clear hK K hS3 q7 q10 hS XD' XF' XG'
          generalize wy.setCell ⟨gR, f, none⟩ (.int .i64 (z - 1)) = wz at XD2 XF2 XG2 ⊢
          refine wpAnyH_done (by kernel_rfl) ?_ _
          go_upto_region 8 with fail
          have YD := hide ((unhide XD2).below b_dr)
          have YF := hide ((unhide XF2).trans (Fr.of (b_dr (w := wz)) (unhide XD2).bel.size))
          have YG := hide (show wz.drew.heap[gb]? = _ from unhide XG2)
          refine wp_region_held_drew (S := fun u => u.cell? ⟨gS, 3, none⟩ = some (.slice (some ⟨gG, 0, none⟩) V gc) ∧ u.cell? ⟨gb, 0, none⟩ = some (.int .i64 (t : Int))) (by kernel_rfl) ⟨(unhide YD).cells.2.2.2, (box_cells (unhide YG)).1⟩ (fun hS => ?_)
          generalize wz.drew = wv at YD YF YG hS ⊢
          clear XD2 XF2 XG2
          refine wpAnyH_take (i := 0) (v := ?_) rfl (by kernel_rfl) (by kernel_rfl) (by kernel_rfl) (fun _ _ _ h => h) (Or.inl ⟨by rfl, ?_⟩) hS ?_
          rotate_left
          · intro u hu; (try dsimp only at hu); go_simp; try with_reducible rfl
          simp only [Act.put, List.getElem_toArray, List.getElem_cons_zero, List.setIfInBounds_toArray, List.set_cons_zero, List.set_cons_succ]
          refine wpAnyH_take (i := 1) (v := ?_) rfl (by kernel_rfl) (by kernel_rfl) (by kernel_rfl) (fun _ _ _ h => h) (Or.inl ⟨by rfl, ?_⟩) hS ?_
          rotate_left
          · intro u hu; (try dsimp only at hu); go_simp; try with_reducible rfl
          simp only [Act.put, List.getElem_toArray, List.getElem_cons_zero, List.getElem_cons_succ, List.setIfInBounds_toArray, List.set_cons_zero, List.set_cons_succ]
          refine wpAnyH_take (i := 2) (v := ?_) rfl (by kernel_rfl) (by kernel_rfl) (by kernel_rfl) (fun _ _ _ h => h) (Or.inl ⟨by rfl, ?_⟩) hS ?_
          rotate_left
          · intro u hu; (try dsimp only at hu); go_simp; try with_reducible rfl
          simp only [Act.put, List.getElem_toArray, List.getElem_cons_zero, List.getElem_cons_succ, List.setIfInBounds_toArray, List.set_cons_zero, List.set_cons_succ]
          refine wpAnyH_take (i := 3) (v := ?_) rfl (by kernel_rfl) (by kernel_rfl) (by kernel_rfl) (fun _ _ _ h => h) (Or.inl ⟨by rfl, ?_⟩) hS ?_
          rotate_left
          · intro u hu; (try dsimp only at hu); go_simp; try with_reducible rfl
          simp only [Act.put, List.getElem_toArray, List.getElem_cons_zero, List.getElem_cons_succ, List.setIfInBounds_toArray, List.set_cons_zero, List.set_cons_succ]
          refine wpAnyH_take (i := 4) (v := ?_) rfl (by kernel_rfl) (by kernel_rfl) (by kernel_rfl) (fun _ _ _ h => h) (Or.inl ⟨by rfl, ?_⟩) hS ?_
          rotate_left
          · intro u hu; (try dsimp only at hu); go_simp; try with_reducible rfl
          simp only [Act.put, List.getElem_toArray, List.getElem_cons_zero, List.getElem_cons_succ, List.setIfInBounds_toArray, List.set_cons_zero, List.set_cons_succ]
          refine wpAnyH_take (i := 5) (v := ?_) rfl (by kernel_rfl) (by kernel_rfl) (by kernel_rfl) (fun _ _ _ h => h) (Or.inl ⟨by rfl, ?_⟩) hS ?_
          rotate_left
          · intro u hu; (try dsimp only at hu); go_simp; try with_reducible rfl
          simp only [Act.put, List.getElem_toArray, List.getElem_cons_zero, List.getElem_cons_succ, List.setIfInBounds_toArray, List.set_cons_zero, List.set_cons_succ]
          refine wpAnyH_take (i := 6) (v := ?_) rfl (by kernel_rfl) (by kernel_rfl) (by kernel_rfl) (fun _ _ _ h => h) (Or.inl ⟨by rfl, ?_⟩) hS ?_
          rotate_left
          · intro u hu; (try dsimp only at hu); go_simp; try with_reducible rfl
          simp only [Act.put, List.getElem_toArray, List.getElem_cons_zero, List.getElem_cons_succ, List.setIfInBounds_toArray, List.set_cons_zero, List.set_cons_succ]
          refine wpAnyH_take (i := 7) (v := ?_) rfl (by kernel_rfl) (by kernel_rfl) (by kernel_rfl) (fun _ _ _ h => h) (Or.inl ⟨by rfl, ?_⟩) hS ?_
          rotate_left
          · intro u hu; (try dsimp only at hu); go_simp; try with_reducible rfl
          simp only [Act.put, List.getElem_toArray, List.getElem_cons_zero, List.getElem_cons_succ, List.setIfInBounds_toArray, List.set_cons_zero, List.set_cons_succ]
          refine wpAnyH_ready (rs := [8]) (by kernel_rfl) (by simp) ?_
          refine AllReadyH.cons rfl (fun K hK => ?_) AllReadyH.nil
          have q8 := (unhide YD).great.fz x
          have q9 := (unhide YD).great.cell hx
          go_simp
          have YD2 := hide ((unhide YD).setG (unhide HCX) x (t : Int))
          have YF2 := hide ((unhide YF).trans (Fr.setG (unhide HCX).g0 x (.int .i64 (t : Int))))
          have YG2 := hide (show (wv.setCell ⟨gG, x, none⟩ (.int .i64 (t : Int))).heap[gb]? = _ from (Below.heap_setCell _ _ _ _ hgbG).trans (unhide YG))
          refine hK.out _ _ ⟨(unhide YD2).cells.2.2.2, (box_cells (unhide YG2)).1⟩ (fun hS3 => ?_)
          clear hK K hS3 q8 q9 hS YD YF YG YG2
          refine wpAnyH_done (by kernel_rfl) ?_ _
          go_wp2_with fail
          go_ret
          exact ⟨.inr ⟨_, _, (upd Tj f true), rfl, unhide YD2, unhide HYS⟩, unhide YF2⟩
        · have hz00 : z = 0 := by omega
          subst hz00
          have hun1 := un_upd Tj f (unhide HTF) K hf
          have hun2 := un_mono (unhide HSL).mono K
          have HMV := hide (fun (u : World) (hu : St w0 gS gR gG gT aa H ac (some ⟨gc0, oc0, none⟩) V cc K rc gc u gr rm (upd Tj f true)) => unhide HM (un (upd Tj f true) K) (by have := unhide HUN; omega) u gr rm (upd Tj f true) f hu (unhide HOK) hf (upd_same _ _ _) hz (Nat.le_refl _))
          clear hun1 hun2
          refine wp_region_held_drew (S := fun u => u.cell? ⟨gS, 2, none⟩ = some (.slice (some ⟨gR, 0, none⟩) K rc) ∧ u.cell? ⟨gb, 2, none⟩ = some (.int .i64 (f : Int))) (by kernel_rfl) ⟨(unhide XD).cells.2.2.1, (box_cells (unhide XG)).2.2.1⟩ (fun hS => ?_)
          generalize w2.drew = w3 at XD XF XG hS ⊢
          clear HS2 HF2 HG2
          refine wpAnyH_take (i := 0) (v := ?_) rfl (by kernel_rfl) (by kernel_rfl) (by kernel_rfl) (fun _ _ _ h => h) (Or.inl ⟨by rfl, ?_⟩) hS ?_
          rotate_left
          · intro u hu; (try dsimp only at hu); go_simp; try with_reducible rfl
          simp only [Act.put, List.getElem_toArray, List.getElem_cons_zero, List.setIfInBounds_toArray, List.set_cons_zero, List.set_cons_succ]
          refine wpAnyH_take (i := 1) (v := ?_) rfl (by kernel_rfl) (by kernel_rfl) (by kernel_rfl) (fun _ _ _ h => h) (Or.inl ⟨by rfl, ?_⟩) hS ?_
          rotate_left
          · intro u hu; (try dsimp only at hu); go_simp; try with_reducible rfl
          simp only [Act.put, List.getElem_toArray, List.getElem_cons_zero, List.getElem_cons_succ, List.setIfInBounds_toArray, List.set_cons_zero, List.set_cons_succ]
          refine wpAnyH_take (i := 2) (v := ?_) rfl (by kernel_rfl) (by kernel_rfl) (by kernel_rfl) (fun _ _ _ h => h) (Or.inl ⟨by rfl, ?_⟩) hS ?_
          rotate_left
          · intro u hu; (try dsimp only at hu); go_simp; try with_reducible rfl
          simp only [Act.put, List.getElem_toArray, List.getElem_cons_zero, List.getElem_cons_succ, List.setIfInBounds_toArray, List.set_cons_zero, List.set_cons_succ]
          refine wpAnyH_take (i := 3) (v := ?_) rfl (by kernel_rfl) (by kernel_rfl) (by kernel_rfl) (fun _ _ _ h => h) (Or.inl ⟨by rfl, ?_⟩) hS ?_
          rotate_left
          · intro u hu; (try dsimp only at hu); go_simp; try with_reducible rfl
          simp only [Act.put, List.getElem_toArray, List.getElem_cons_zero, List.getElem_cons_succ, List.setIfInBounds_toArray, List.set_cons_zero, List.set_cons_succ]
          refine wpAnyH_take (i := 4) (v := ?_) rfl (by kernel_rfl) (by kernel_rfl) (by kernel_rfl) (fun _ _ _ h => h) (Or.inl ⟨by rfl, ?_⟩) hS ?_
          rotate_left
          · intro u hu; (try dsimp only at hu); go_simp; try with_reducible rfl
          simp only [Act.put, List.getElem_toArray, List.getElem_cons_zero, List.getElem_cons_succ, List.setIfInBounds_toArray, List.set_cons_zero, List.set_cons_succ]
          refine wpAnyH_take (i := 5) (v := ?_) rfl (by kernel_rfl) (by kernel_rfl) (by kernel_rfl) (fun _ _ _ h => h) (Or.inl ⟨by rfl, ?_⟩) hS ?_
          rotate_left
          · intro u hu; (try dsimp only at hu); go_simp; try with_reducible rfl
          simp only [Act.put, List.getElem_toArray, List.getElem_cons_zero, List.getElem_cons_succ, List.setIfInBounds_toArray, List.set_cons_zero, List.set_cons_succ]
          refine wpAnyH_take (i := 6) (v := ?_) rfl (by kernel_rfl) (by kernel_rfl) (by kernel_rfl) (fun _ _ _ h => h) (Or.inl ⟨by rfl, ?_⟩) hS ?_
          rotate_left
          · intro u hu; (try dsimp only at hu); go_simp; try with_reducible rfl
          simp only [Act.put, List.getElem_toArray, List.getElem_cons_zero, List.getElem_cons_succ, List.setIfInBounds_toArray, List.set_cons_zero, List.set_cons_succ]
          refine wpAnyH_ready (rs := [7]) (by kernel_rfl) (by simp) ?_
          refine AllReadyH.cons rfl (fun K hK => ?_) AllReadyH.nil
          have hzc : w3.cell? ⟨gR, f, none⟩ = some (.int .i64 0) := by rw [← hz]; exact (unhide XD).room.cell hf
          go_simp
          refine hK.out _ _ hS (fun hS2 => ?_)
          clear hK K hS2 hzc
          refine wpAnyH_take (i := 8) (v := ?_) rfl (by kernel_rfl) (by kernel_rfl) (by kernel_rfl) (fun _ _ _ h => h) (Or.inl ⟨by rfl, ?_⟩) hS ?_
          rotate_left
          · intro u hu; (try dsimp only at hu); go_simp; try with_reducible rfl
          simp only [Act.put, List.getElem_toArray, List.getElem_cons_zero, List.getElem_cons_succ, List.setIfInBounds_toArray, List.set_cons_zero, List.set_cons_succ]
          refine wpAnyH_take (i := 9) (v := ?_) rfl (by kernel_rfl) (by kernel_rfl) (by kernel_rfl) (fun _ _ _ h => h) (Or.inl ⟨by rfl, ?_⟩) hS ?_
          rotate_left
          · intro u hu; (try dsimp only at hu); go_simp; try with_reducible rfl
          simp only [Act.put, List.getElem_toArray, List.getElem_cons_zero, List.getElem_cons_succ, List.setIfInBounds_toArray, List.set_cons_zero, List.set_cons_succ]
          refine wpAnyH_take (i := 10) (v := ?_) rfl (by kernel_rfl) (by kernel_rfl) (by kernel_rfl) (fun _ _ _ h => h) (Or.inl ⟨by rfl, ?_⟩) hS ?_
          rotate_left
          · intro u hu; (try dsimp only at hu); go_simp; try with_reducible rfl
          simp only [Act.put, List.getElem_toArray, List.getElem_cons_zero, List.getElem_cons_succ, List.setIfInBounds_toArray, List.set_cons_zero, List.set_cons_succ]
          refine wpAnyH_take (i := 11) (v := ?_) rfl (by kernel_rfl) (by kernel_rfl) (by kernel_rfl) (fun _ _ _ h => h) (Or.inl ⟨by rfl, ?_⟩) hS ?_
          rotate_left
          · intro u hu; (try dsimp only at hu); go_simp; try with_reducible rfl
          simp only [Act.put, List.getElem_toArray, List.getElem_cons_zero, List.getElem_cons_succ, List.setIfInBounds_toArray, List.set_cons_zero, List.set_cons_succ]
          refine wpAnyH_take (i := 12) (v := ?_) rfl (by kernel_rfl) (by kernel_rfl) (by kernel_rfl) (fun _ _ _ h => h) (Or.inl ⟨by rfl, ?_⟩) hS ?_
          rotate_left
          · intro u hu; (try dsimp only at hu); go_simp; try with_reducible rfl
          simp only [Act.put, List.getElem_toArray, List.getElem_cons_zero, List.getElem_cons_succ, List.setIfInBounds_toArray, List.set_cons_zero, List.set_cons_succ]
          refine wpAnyH_take (i := 13) (v := ?_) rfl (by kernel_rfl) (by kernel_rfl) (by kernel_rfl) (fun _ _ _ h => h) (Or.inl ⟨by rfl, ?_⟩) hS ?_
          rotate_left
          · intro u hu; (try dsimp only at hu); go_simp; try with_reducible rfl
          simp only [Act.put, List.getElem_toArray, List.getElem_cons_zero, List.getElem_cons_succ, List.setIfInBounds_toArray, List.set_cons_zero, List.set_cons_succ]
          refine wpAnyH_ready (rs := [14]) (by kernel_rfl) (by simp) ?_
          refine AllReadyH.cons rfl (fun K hK => ?_) AllReadyH.nil
          go_simp
          go_wp2_with (go_at_call 71; refine (unhide HMV _ (unhide XD)).mono ?_; rintro e w4 hans; obtain ⟨b, rfl, hbb, hfr⟩ := move_ans hans; have HANS := hide hbb; have HFR4 := hide hfr; clear hans hbb hfr)
          have hgb3 : gb < w3.heap.size := (Array.getElem?_eq_some_iff.1 (unhide XG)).1
          have HG4 := hide (show w4.heap[gb]? = _ from ((unhide HFR4).far gb hgb3 hgbR hgbG hgbT).trans (unhide XG))
          have HF4 := hide ((unhide XF).trans (unhide HFR4))
          refine hK.out _ _ ⟨ans_cell (unhide HANS), (box_cells (unhide HG4)).2.2.1⟩ (fun hS2 => ?_)
          clear hK K hS XD XF XG hgb3 HFR4
          refine wpAnyH_take (i := 15) (v := ?_) rfl (by kernel_rfl) (by kernel_rfl) (by kernel_rfl) (fun _ _ _ h => h) (Or.inl ⟨by rfl, ?_⟩) hS2 ?_
          rotate_left
          · intro u hu; (try dsimp only at hu); go_simp; try with_reducible rfl
          simp only [Act.put, List.getElem_toArray, List.getElem_cons_zero, List.getElem_cons_succ, List.setIfInBounds_toArray, List.set_cons_zero, List.set_cons_succ]
          refine wpAnyH_done (by kernel_rfl) ?_ _
          clear hS2
          cases b with
          | false =>
            obtain ⟨T2, HS4, HMN⟩ : ∃ T2, Hid (St w0 gS gR gG gT aa H ac (some ⟨gc0, oc0, none⟩) V cc K rc gc w4 gr rm T2) ∧ Hid (MNo (fun h => A h 2) ch V f gr rm (upd Tj f true) T2) := by
              rcases unhide HANS with ⟨_, T', h1, h2⟩ | ⟨h, _⟩
              · exact ⟨T', h1, h2⟩
              · cases h
            have HSL2 := hide ((unhide HSL).next (unhide HF') (by rw [hz]; exact Int.le_refl _) (unhide HMN))
            clear HANS HMN hz
            go_wp2_with fail
            go_roundw
            case rel => exact ⟨j + 1, T2, by go_num, by omega, HS4, HSL2, HF4⟩
            case measure => simp [intOf]; omega
          | true =>
            obtain ⟨gr', rm', T2, HS4, HMY⟩ : ∃ gr' rm' T2, Hid (St w0 gS gR gG gT aa H ac (some ⟨gc0, oc0, none⟩) V cc K rc gc w4 gr' rm' T2) ∧ Hid (MYes (fun h => A h 2) ch V K f gr rm (upd Tj f true) gr' rm') := by
              rcases unhide HANS with ⟨h, _⟩ | ⟨_, gr', rm', T', h1, h2⟩
              · cases h
              · exact ⟨gr', rm', T', h1, h2⟩
            obtain ⟨z1, hrz⟩ : ∃ z1, rm' f = z1 := ⟨_, rfl⟩
            have hwz1 : IntKind.i64.wrap (z1 - 1) = z1 - 1 := by have := (unhide HMY).up; rw [hz, hrz] at this; rw [IntKind.wrap_i64]; omega
            have HYS := hide ((unhide HSL).moved hx (by rw [unhide HLEN]; exact hjl) (unhide HT) (unhide HF) (unhide HTF) hz (fun g hg => ((unhide HOK).1 g hg).1) (unhide HGX) (unhide HMY))
            rw [hrz] at HYS
            clear HANS HMY
            have hrf : rm' f = z1 := hrz
            have XD := hide ((unhide HS4).below b_dr)
            have XF := hide ((unhide HF4).trans (Fr.of (b_dr (w := w4)) (unhide HS4).bel.size))
            have XG := hide (show w4.drew.heap[gb]? = _ from unhide HG4)
            have hsz1 := (unhide HS4).bel.size
            go_upto_region 7 with fail
            refine wp_region_held_drew (S := fun u => u.cell? ⟨gS, 2, none⟩ = some (.slice (some ⟨gR, 0, none⟩) K rc) ∧ u.cell? ⟨gb, 2, none⟩ = some (.int .i64 (f : Int))) (by kernel_rfl) ⟨(unhide XD).cells.2.2.1, (box_cells (unhide XG)).2.2.1⟩ (fun hS => ?_)
            generalize w4.drew = wy at XD XF XG hS ⊢
            refine wpAnyH_take (i := 0) (v := ?_) rfl (by kernel_rfl) (by kernel_rfl) (by kernel_rfl) (fun _ _ _ h => h) (Or.inl ⟨by rfl, ?_⟩) hS ?_
            rotate_left
            · intro u hu; (try dsimp only at hu); go_simp; try with_reducible rfl
            simp only [Act.put, List.getElem_toArray, List.getElem_cons_zero, List.setIfInBounds_toArray, List.set_cons_zero, List.set_cons_succ]
            refine wpAnyH_take (i := 1) (v := ?_) rfl (by kernel_rfl) (by kernel_rfl) (by kernel_rfl) (fun _ _ _ h => h) (Or.inl ⟨by rfl, ?_⟩) hS ?_
            rotate_left
            · intro u hu; (try dsimp only at hu); go_simp; try with_reducible rfl
            simp only [Act.put, List.getElem_toArray, List.getElem_cons_zero, List.getElem_cons_succ, List.setIfInBounds_toArray, List.set_cons_zero, List.set_cons_succ]
            refine wpAnyH_take (i := 2) (v := ?_) rfl (by kernel_rfl) (by kernel_rfl) (by kernel_rfl) (fun _ _ _ h => h) (Or.inl ⟨by rfl, ?_⟩) hS ?_
            rotate_left
            · intro u hu; (try dsimp only at hu); go_simp; try with_reducible rfl
            simp only [Act.put, List.getElem_toArray, List.getElem_cons_zero, List.getElem_cons_succ, List.setIfInBounds_toArray, List.set_cons_zero, List.set_cons_succ]
            refine wpAnyH_take (i := 3) (v := ?_) rfl (by kernel_rfl) (by kernel_rfl) (by kernel_rfl) (fun _ _ _ h => h) (Or.inl ⟨by rfl, ?_⟩) hS ?_
            rotate_left
            · intro u hu; (try dsimp only at hu); go_simp; try with_reducible rfl
            simp only [Act.put, List.getElem_toArray, List.getElem_cons_zero, List.getElem_cons_succ, List.setIfInBounds_toArray, List.set_cons_zero, List.set_cons_succ]
            refine wpAnyH_take (i := 4) (v := ?_) rfl (by kernel_rfl) (by kernel_rfl) (by kernel_rfl) (fun _ _ _ h => h) (Or.inl ⟨by rfl, ?_⟩) hS ?_
            rotate_left
            · intro u hu; (try dsimp only at hu); go_simp; try with_reducible rfl
            simp only [Act.put, List.getElem_toArray, List.getElem_cons_zero, List.getElem_cons_succ, List.setIfInBounds_toArray, List.set_cons_zero, List.set_cons_succ]
            refine wpAnyH_take (i := 5) (v := ?_) rfl (by kernel_rfl) (by kernel_rfl) (by kernel_rfl) (fun _ _ _ h => h) (Or.inl ⟨by rfl, ?_⟩) hS ?_
            rotate_left
            · intro u hu; (try dsimp only at hu); go_simp; try with_reducible rfl
            simp only [Act.put, List.getElem_toArray, List.getElem_cons_zero, List.getElem_cons_succ, List.setIfInBounds_toArray, List.set_cons_zero, List.set_cons_succ]
            refine wpAnyH_take (i := 6) (v := ?_) rfl (by kernel_rfl) (by kernel_rfl) (by kernel_rfl) (fun _ _ _ h => h) (Or.inl ⟨by rfl, ?_⟩) hS ?_
            rotate_left
            · intro u hu; (try dsimp only at hu); go_simp; try with_reducible rfl
            simp only [Act.put, List.getElem_toArray, List.getElem_cons_zero, List.getElem_cons_succ, List.setIfInBounds_toArray, List.set_cons_zero, List.set_cons_succ]
            refine wpAnyH_ready (rs := [7]) (by kernel_rfl) (by simp) ?_
            refine AllReadyH.cons rfl (fun K hK => ?_) AllReadyH.nil
            have q7 : wy.cell? ⟨gR, f, none⟩ = some (.int .i64 z1) := by rw [← hrf]; exact (unhide XD).room.cell hf
            go_simp
            refine hK.out _ _ hS (fun hS2 => ?_)
            clear hK K hS2
            refine wpAnyH_take (i := 8) (v := ?_) rfl (by kernel_rfl) (by kernel_rfl) (by kernel_rfl) (fun _ _ _ h => h) (Or.inl ⟨by rfl, ?_⟩) hS ?_
            rotate_left
            · intro u hu; (try dsimp only at hu); go_simp; try with_reducible rfl
            simp only [Act.put, List.getElem_toArray, List.getElem_cons_zero, List.getElem_cons_succ, List.setIfInBounds_toArray, List.set_cons_zero, List.set_cons_succ]
            refine wpAnyH_take (i := 9) (v := ?_) rfl (by kernel_rfl) (by kernel_rfl) (by kernel_rfl) (fun _ _ _ h => h) (Or.inl ⟨by rfl, ?_⟩) hS ?_
            rotate_left
            · intro u hu; (try dsimp only at hu); go_simp; try with_reducible rfl
            simp only [Act.put, List.getElem_toArray, List.getElem_cons_zero, List.getElem_cons_succ, List.setIfInBounds_toArray, List.set_cons_zero, List.set_cons_succ]
            refine wpAnyH_ready (rs := [10]) (by kernel_rfl) (by simp) ?_
            refine AllReadyH.cons rfl (fun K hK => ?_) AllReadyH.nil
            have q10 := (unhide XD).room.fz f
            go_simp
            have XD2 := hide ((unhide XD).setR (unhide HCX) f (z1 - 1))
            have XF2 := hide ((unhide XF).trans (Fr.setR (unhide HCX).r0 f (.int .i64 (z1 - 1))))
            have XG2 := hide (show (wy.setCell ⟨gR, f, none⟩ (.int .i64 (z1 - 1))).heap[gb]? = _ from (Below.heap_setCell _ _ _ _ hgbR).trans (unhide XG))
            refine hK.out _ _ ⟨(unhide XD2).cells.2.2.1, (box_cells (unhide XG2)).2.2.1⟩ (fun hS3 => ?_)
            clear hK K hS3 q7 q10 hS XD XF XG
            generalize wy.setCell ⟨gR, f, none⟩ (.int .i64 (z1 - 1)) = wz at XD2 XF2 XG2 ⊢
            refine wpAnyH_done (by kernel_rfl) ?_ _
            go_upto_region 8 with fail
            have YD := hide ((unhide XD2).below b_dr)
            have YF := hide ((unhide XF2).trans (Fr.of (b_dr (w := wz)) (unhide XD2).bel.size))
            have YG := hide (show wz.drew.heap[gb]? = _ from unhide XG2)
            refine wp_region_held_drew (S := fun u => u.cell? ⟨gS, 3, none⟩ = some (.slice (some ⟨gG, 0, none⟩) V gc) ∧ u.cell? ⟨gb, 0, none⟩ = some (.int .i64 (t : Int))) (by kernel_rfl) ⟨(unhide YD).cells.2.2.2, (box_cells (unhide YG)).1⟩ (fun hS => ?_)
            generalize wz.drew = wv at YD YF YG hS ⊢
            clear XD2 XF2 XG2
            refine wpAnyH_take (i := 0) (v := ?_) rfl (by kernel_rfl) (by kernel_rfl) (by kernel_rfl) (fun _ _ _ h => h) (Or.inl ⟨by rfl, ?_⟩) hS ?_
            rotate_left
            · intro u hu; (try dsimp only at hu); go_simp; try with_reducible rfl
            simp only [Act.put, List.getElem_toArray, List.getElem_cons_zero, List.setIfInBounds_toArray, List.set_cons_zero, List.set_cons_succ]
            refine wpAnyH_take (i := 1) (v := ?_) rfl (by kernel_rfl) (by kernel_rfl) (by kernel_rfl) (fun _ _ _ h => h) (Or.inl ⟨by rfl, ?_⟩) hS ?_
            rotate_left
            · intro u hu; (try dsimp only at hu); go_simp; try with_reducible rfl
            simp only [Act.put, List.getElem_toArray, List.getElem_cons_zero, List.getElem_cons_succ, List.setIfInBounds_toArray, List.set_cons_zero, List.set_cons_succ]
            refine wpAnyH_take (i := 2) (v := ?_) rfl (by kernel_rfl) (by kernel_rfl) (by kernel_rfl) (fun _ _ _ h => h) (Or.inl ⟨by rfl, ?_⟩) hS ?_
            rotate_left
            · intro u hu; (try dsimp only at hu); go_simp; try with_reducible rfl
            simp only [Act.put, List.getElem_toArray, List.getElem_cons_zero, List.getElem_cons_succ, List.setIfInBounds_toArray, List.set_cons_zero, List.set_cons_succ]
            refine wpAnyH_take (i := 3) (v := ?_) rfl (by kernel_rfl) (by kernel_rfl) (by kernel_rfl) (fun _ _ _ h => h) (Or.inl ⟨by rfl, ?_⟩) hS ?_
            rotate_left
            · intro u hu; (try dsimp only at hu); go_simp; try with_reducible rfl
            simp only [Act.put, List.getElem_toArray, List.getElem_cons_zero, List.getElem_cons_succ, List.setIfInBounds_toArray, List.set_cons_zero, List.set_cons_succ]
            refine wpAnyH_take (i := 4) (v := ?_) rfl (by kernel_rfl) (by kernel_rfl) (by kernel_rfl) (fun _ _ _ h => h) (Or.inl ⟨by rfl, ?_⟩) hS ?_
            rotate_left
            · intro u hu; (try dsimp only at hu); go_simp; try with_reducible rfl
            simp only [Act.put, List.getElem_toArray, List.getElem_cons_zero, List.getElem_cons_succ, List.setIfInBounds_toArray, List.set_cons_zero, List.set_cons_succ]
            refine wpAnyH_take (i := 5) (v := ?_) rfl (by kernel_rfl) (by kernel_rfl) (by kernel_rfl) (fun _ _ _ h => h) (Or.inl ⟨by rfl, ?_⟩) hS ?_
            rotate_left
            · intro u hu; (try dsimp only at hu); go_simp; try with_reducible rfl
            simp only [Act.put, List.getElem_toArray, List.getElem_cons_zero, List.getElem_cons_succ, List.setIfInBounds_toArray, List.set_cons_zero, List.set_cons_succ]
            refine wpAnyH_take (i := 6) (v := ?_) rfl (by kernel_rfl) (by kernel_rfl) (by kernel_rfl) (fun _ _ _ h => h) (Or.inl ⟨by rfl, ?_⟩) hS ?_
            rotate_left
            · intro u hu; (try dsimp only at hu); go_simp; try with_reducible rfl
            simp only [Act.put, List.getElem_toArray, List.getElem_cons_zero, List.getElem_cons_succ, List.setIfInBounds_toArray, List.set_cons_zero, List.set_cons_succ]
            refine wpAnyH_take (i := 7) (v := ?_) rfl (by kernel_rfl) (by kernel_rfl) (by kernel_rfl) (fun _ _ _ h => h) (Or.inl ⟨by rfl, ?_⟩) hS ?_
            rotate_left
            · intro u hu; (try dsimp only at hu); go_simp; try with_reducible rfl
            simp only [Act.put, List.getElem_toArray, List.getElem_cons_zero, List.getElem_cons_succ, List.setIfInBounds_toArray, List.set_cons_zero, List.set_cons_succ]
            refine wpAnyH_ready (rs := [8]) (by kernel_rfl) (by simp) ?_
            refine AllReadyH.cons rfl (fun K hK => ?_) AllReadyH.nil
            have q8 := (unhide YD).great.fz x
            have q9 := (unhide YD).great.cell hx
            go_simp
            have YD2 := hide ((unhide YD).setG (unhide HCX) x (t : Int))
            have YF2 := hide ((unhide YF).trans (Fr.setG (unhide HCX).g0 x (.int .i64 (t : Int))))
            have YG2 := hide (show (wv.setCell ⟨gG, x, none⟩ (.int .i64 (t : Int))).heap[gb]? = _ from (Below.heap_setCell _ _ _ _ hgbG).trans (unhide YG))
            refine hK.out _ _ ⟨(unhide YD2).cells.2.2.2, (box_cells (unhide YG2)).1⟩ (fun hS3 => ?_)
            clear hK K hS3 q8 q9 hS YD YF YG YG2
            refine wpAnyH_done (by kernel_rfl) ?_ _
            go_wp2_with fail
            go_ret
            exact ⟨.inr ⟨_, _, T2, rfl, unhide YD2, unhide HYS⟩, unhide YF2⟩
    · obtain rfl : j = len := by omega
      have HN := hide (show SNo (fun h => A h 2) ch V x gr rm T Tj from by have := unhide HSL; rw [← unhide HLEN] at this; exact this.done)
      go_wp2_with fail
      go_ret
      exact ⟨.inl ⟨Tj, rfl, unhide HST, unhide HN⟩, unhide HFR⟩
end
end Go.Proofs.YtefagplbpbkpgaaDoor
/-
  The contract of the program's moveOne, out of that of seat; and both. Conditions: what stands in memory is as told.
-/
namespace Go.Proofs.YtefagplbpbkpgaaDoor
open Go.RowKit
set_option linter.unusedVariables false
set_option maxRecDepth 20000
section
variable {w0 : World} {gS gR gG gT : Nat} {aa : Option Addr} {H ac : Nat} {ca : Option Addr} {V cc K rc gc tc : Nat} {A : Nat → Nat → Nat} {ch : Nat → List Nat}
theorem seat_ans {x : Nat} {gr rm : Nat → Int} {T : Nat → Bool} {w w' : World} {e : Ending} (h : SeatAns w0 gS gR gG gT aa H ac ca V cc K rc gc A ch x gr rm T w e w') : ∃ b, e = .returned (.bool b) ∧ ((b = false ∧ ∃ T', St w0 gS gR gG gT aa H ac ca V cc K rc gc w' gr rm T' ∧ SNo (fun h => A h 2) ch V x gr rm T T') ∨ (b = true ∧ ∃ gr' rm' T', St w0 gS gR gG gT aa H ac ca V cc K rc gc w' gr' rm' T' ∧ SYes (fun h => A h 2) ch V K x gr rm T gr' rm')) ∧ Fr w0 gR gG gT w w' := by
  obtain ⟨⟨T', rfl, h1, h2⟩ | ⟨gr', rm', T', rfl, h1, h2⟩, h3⟩ := h
  · exact ⟨false, rfl, .inl ⟨rfl, T', h1, h2⟩, h3⟩
  · exact ⟨true, rfl, .inr ⟨rfl, gr', rm', T', h1, h2⟩, h3⟩
set_option maxHeartbeats 8000000 in
theorem move_step (cx : Cx w0 gS gR gG gT aa H ca V K A ch) (k : Nat) (hs : SeatC w0 gS gR gG gT aa H ac ca V cc K rc gc tc A ch k) : MoveC w0 gS gR gG gT aa H ac ca V cc K rc gc tc A ch k := by
  intro w gr rm T face hst hok hfK hTf hrf hun
  have HST := hide hst
  have HOK := hide hok
  have HUN := hide hun
  have HS := hide hs
  have HCX := hide cx
  have HTF := hide hTf
  have HRF := hide hrf
  have hv64 := cx.v64
  have hk256 := cx.k256
  have h256 := cx.h256
  obtain ⟨b0, b1, b2, b3⟩ := hst.cells
  have HML0 := hide (ML.start (fa := fun h => A h 2) (ch := ch) (V := V) (face := face) gr rm T)
  have HFR0 := hide (Fr.refl (w0 := w0) (gR := gR) (gG := gG) (gT := gT) w)
  clear hst hok hun hs cx hTf hrf b0 b1 b2
  go_enter Tryd.func71, Tryd.ntmps71
  go_wp2_with fail
  go_loopw [14] (fun i wr => ∃ (y : Nat) (Ty : Nat → Bool), i = .int .i64 y ∧ y ≤ V ∧ Hid (St w0 gS gR gG gT aa H ac ca V cc K rc gc wr gr rm Ty) ∧ Hid (ML (fun h => A h 2) ch V face y gr rm T Ty) ∧ Hid (Fr w0 gR gG gT w wr)) (fun i wr => V - (intOf i).toNat)
  case atStart => exact ⟨0, T, rfl, by omega, HST, HML0, HFR0⟩
  case round =>
    clear HST HML0 HFR0 b3
    obtain ⟨y, Ty, rfl, hy, HST, HML, HFR⟩ := hrel
    have hsz := (unhide HST).bel.size
    by_cases hyV : y < V
    · have hyV2 : (y : Int) < (V : Int) := by omega
      have r0 := (unhide HST).great.cell hyV
      obtain ⟨b0, b1, b2, b3⟩ := (unhide HST).cells
      rcases (unhide HOK).2 y hyV with hn | ⟨h, hm, he⟩
      · have HML2 := hide ((unhide HML).skip (.inl hn))
        rw [hn] at r0
        clear hn b0 b1 b2
        go_wp2_with fail
        go_roundw
        case rel => exact ⟨y + 1, Ty, by go_num, by omega, HST, HML2, HFR⟩
        case measure => simp [intOf]; omega
      · have hhH := (unhide HCX).lt y hyV h hm
        have hhH2 : (h : Int) < (H : Int) := by omega
        obtain ⟨ga, oa, haa, hga, q0, q1, q2, q3⟩ := ((unhide HCX).ang.below (unhide HST).bel).2 h hhH
        subst haa
        have hne : ((h : Int) != -1) = true := by simp
        have HE := hide he
        rw [he] at r0
        obtain ⟨f, hf⟩ : ∃ f, A h 2 = f := ⟨_, rfl⟩
        rw [hf] at q2
        have HF := hide hf
        clear q0 q1 q3 he hf b1
        by_cases hff : f = face
        · subst hff
          have hgy : gr y ≠ -1 := by rw [unhide HE]; omega
          have hfa : (fun h => A h 2) (gr y).toNat = f := by rw [unhide HE]; exact unhide HF
          have hun2 := un_mono (unhide HML).mono K
          have HCS := hide (unhide HS wr gr rm Ty y (unhide HST) (unhide HOK) hyV (by have := unhide HUN; omega) (.inr (by rw [show A (gr y).toNat 2 = f from hfa]; exact (unhide HML).mono f (unhide HTF))))
          have HGY := hide hgy
          have HFA := hide hfa
          have t0 : ((f : Int) == (f : Int)) = true := by simp
          clear hgy hfa hun2
          go_wp2_with fail
          refine (unhide HCS).mono ?_
          rintro e w4 hans
          obtain ⟨b, rfl, hbb, hfr⟩ := seat_ans hans
          have HANS := hide hbb
          have HF4 := hide ((unhide HFR).trans hfr)
          clear hans hbb hfr HCS b0 b2 b3 r0 q2 hga
          cases b with
          | false =>
            obtain ⟨T2, HS4, HMN⟩ : ∃ T2, Hid (St w0 gS gR gG gT (some ⟨ga, oa, none⟩) H ac ca V cc K rc gc w4 gr rm T2) ∧ Hid (SNo (fun h => A h 2) ch V y gr rm Ty T2) := by
              rcases unhide HANS with ⟨_, T', h1, h2⟩ | ⟨h, _⟩
              · exact ⟨T', h1, h2⟩
              · cases h
            have HML2 := hide ((unhide HML).next (unhide HMN))
            clear HANS HMN
            go_wp2_with fail
            go_roundw
            case rel => exact ⟨y + 1, T2, by go_num, by omega, HS4, HML2, HF4⟩
            case measure => simp [intOf]; omega
          | true =>
            obtain ⟨gr', rm', T2, HS4, HMY⟩ : ∃ gr' rm' T2, Hid (St w0 gS gR gG gT (some ⟨ga, oa, none⟩) H ac ca V cc K rc gc w4 gr' rm' T2) ∧ Hid (SYes (fun h => A h 2) ch V K y gr rm Ty gr' rm') := by
              rcases unhide HANS with ⟨h, _⟩ | ⟨_, gr', rm', T', h1, h2⟩
              · cases h
              · exact ⟨gr', rm', T', h1, h2⟩
            have hzf := (unhide HMY).keepr f ((unhide HML).mono f (unhide HTF))
            rw [unhide HRF] at hzf
            have HMM := hide ((unhide HML).yes hyV hfK (unhide HTF) (unhide HGY) (unhide HFA) (unhide HMY))
            obtain ⟨z1, hz1⟩ : ∃ z1, rm' f = z1 := ⟨_, rfl⟩
            rw [hz1] at hzf HMM
            have hwz : IntKind.i64.wrap (z1 + 1) = z1 + 1 := by rw [hzf, IntKind.wrap_i64]; omega
            obtain ⟨b0, b1, b2, b3⟩ := (unhide HS4).cells
            have r0 := (unhide HS4).room.cell hfK
            have rf := (unhide HS4).room.fz f
            rw [hz1] at r0
            have HS5 := hide ((unhide HS4).setR (unhide HCX) f (z1 + 1))
            have HF5 := hide ((unhide HF4).trans (Fr.setR (unhide HCX).r0 f (.int .i64 (z1 + 1))))
            clear hzf hz1 HANS HMY b0 b1 b3
            go_wp2_with fail
            go_ret
            exact ⟨.inr ⟨_, _, T2, rfl, unhide HS5, unhide HMM⟩, unhide HF5⟩
        · have HML2 := hide ((unhide HML).skip (.inr (show (fun h => A h 2) (gr y).toNat ≠ face by rw [unhide HE]; show A h 2 ≠ face; rw [unhide HF]; exact hff)))
          have t0 : ((f : Int) == (face : Int)) = false := by rw [beq_eq_false_iff_ne]; omega
          go_wp2_with fail
          go_roundw
          case rel => exact ⟨y + 1, Ty, by go_num, by omega, HST, HML2, HFR⟩
          case measure => simp [intOf]; omega
    · obtain rfl : y = V := by omega
      have HN := hide ((unhide HML).done)
      go_wp2_with fail
      go_ret
      exact ⟨.inl ⟨Ty, rfl, unhide HST, unhide HN⟩, unhide HFR⟩
theorem seat_any (cx : Cx w0 gS gR gG gT aa H ca V K A ch) : ∀ k, SeatC w0 gS gR gG gT aa H ac ca V cc K rc gc tc A ch k := by
  intro k
  induction k using Nat.strongRecOn with
  | ind k ih => exact seat_step cx k fun j hj => move_step cx j (ih j hj)
end
end Go.Proofs.YtefagplbpbkpgaaDoor
/-
  Where one can't be seated, none fit: plain mathematics (too few rooms for those who ask). No conditions beyond each theorem's own.
-/
namespace Go.Proofs.YtefagplbpbkpgaaDoor
set_option linter.unusedVariables false
set_option maxRecDepth 20000
def smF (g : Nat → Int) : Nat → Int
  | 0 => 0
  | K + 1 => smF g K + g K
theorem smF_add (g h : Nat → Int) : ∀ K, smF (fun k => g k + h k) K = smF g K + smF h K := by
  intro K
  induction K with
  | zero => rfl
  | succ K ih => unfold smF; rw [ih]; omega
theorem smF_le {g h : Nat → Int} : ∀ K, (∀ k, k < K → g k ≤ h k) → smF g K ≤ smF h K := by
  intro K
  induction K with
  | zero => intro _; exact Int.le_refl _
  | succ K ih => intro h1; unfold smF; have := ih (fun k hk => h1 k (by omega)); have := h1 K (by omega); omega
theorem smF_lt {g h : Nat → Int} {x : Nat} : ∀ K, x < K → (∀ k, k < K → g k ≤ h k) → g x + 1 ≤ h x → smF g K + 1 ≤ smF h K := by
  intro K
  induction K with
  | zero => intro h; omega
  | succ K ih =>
    intro hx h1 h2
    unfold smF
    by_cases e : x = K
    · subst e
      have := smF_le x (fun k hk => h1 k (by omega))
      omega
    · have := ih (by omega) (fun k hk => h1 k (by omega)) h2
      have := h1 K (by omega)
      omega
theorem smF_zero {g : Nat → Int} : ∀ K, (∀ k, k < K → g k = 0) → smF g K = 0 := by
  intro K
  induction K with
  | zero => intro _; rfl
  | succ K ih => intro h; unfold smF; rw [ih (fun k hk => h k (by omega)), h K (by omega)]; rfl
theorem smF_congr {g h : Nat → Int} : ∀ K, (∀ k, k < K → g k = h k) → smF g K = smF h K := by
  intro K
  induction K with
  | zero => intro _; rfl
  | succ K ih => intro h1; unfold smF; rw [ih (fun k hk => h1 k (by omega)), h1 K (by omega)]
/-- is one's face among those? -/
def dd (fa : Nat → Nat) (T : Nat → Bool) (K : Nat) (z : Int) : Int := if z ≠ -1 ∧ fa z.toNat < K ∧ T (fa z.toNat) = true then 1 else 0
theorem dd_ind (fa : Nat → Nat) (T : Nat → Bool) (z : Int) : ∀ K, smF (fun f => if T f = true then ind fa z f else 0) K = dd fa T K z := by
  intro K
  induction K with
  | zero => unfold dd; rw [if_neg (by omega)]; rfl
  | succ K ih =>
    unfold smF
    rw [ih]
    unfold dd ind
    by_cases h0 : z = -1
    · simp [h0]
    · by_cases h1 : fa z.toNat = K
      · rw [h1]
        by_cases h2 : T K = true
        · simp [h0, h2]
        · simp [h0, h2]
      · have e2 : (if T K = true then (if z ≠ -1 ∧ fa z.toNat = K then (1 : Int) else 0) else 0) = 0 := by simp [h1]
        rw [e2, Int.add_zero]
        by_cases h2 : z ≠ -1 ∧ fa z.toNat < K ∧ T (fa z.toNat) = true
        · rw [if_pos h2, if_pos ⟨h2.1, by have := h2.2.1; omega, h2.2.2⟩]
        · rw [if_neg h2, if_neg (fun h3 => h2 ⟨h3.1, by have := h3.2.1; omega, h3.2.2⟩)]
theorem occ_dd (fa : Nat → Nat) (T : Nat → Bool) (K : Nat) (gr : Nat → Int) : ∀ V, smF (fun f => if T f = true then occ fa gr f V else 0) K = smF (fun y => dd fa T K (gr y)) V := by
  intro V
  induction V with
  | zero => exact smF_zero K fun k _ => by simp [occ]
  | succ V ih =>
    have : (fun f => if T f = true then occ fa gr f (V + 1) else 0) = fun f => (if T f = true then occ fa gr f V else 0) + (if T f = true then ind fa (gr V) f else 0) := by
      funext f
      by_cases h : T f = true
      · simp [h, occ]
      · simp [h]
    rw [this, smF_add, ih, dd_ind]
    rfl
/-- each that asks sits at one of its angles, and no other -/
def Seated (ch : Nat → List Nat) (V : Nat) (gr : Nat → Int) : Prop := ∀ y, y < V → (gr y = -1 ↔ ch y = []) ∧ (gr y = -1 ∨ ∃ h ∈ ch y, gr y = (h : Int))
def Fits (fa : Nat → Nat) (ch : Nat → List Nat) (V K : Nat) (cap : Nat → Int) : Prop := ∃ gr, Seated ch V gr ∧ ∀ f, f < K → occ fa gr f V ≤ cap f
theorem occ_nonneg (fa : Nat → Nat) (gr : Nat → Int) (f : Nat) : ∀ V, 0 ≤ occ fa gr f V := by
  intro V
  induction V with
  | zero => exact Int.le_refl _
  | succ V ih =>
    unfold occ ind
    split <;> omega
/-- those ahead of x sit, the others don't yet -/
structure Iv (fa : Nat → Nat) (ch : Nat → List Nat) (V K : Nat) (cap : Nat → Int) (x : Nat) (gr rm : Nat → Int) : Prop where
  sat : ∀ y, y < x → y < V → (gr y = -1 ↔ ch y = [])
  not : ∀ y, x ≤ y → y < V → gr y = -1
  pos : ∀ f, f < K → 0 ≤ rm f
  val : ∀ y, y < V → gr y = -1 ∨ ∃ h ∈ ch y, gr y = (h : Int)
  bal : ∀ f, f < K → rm f + occ fa gr f V = cap f
section
variable {fa : Nat → Nat} {ch : Nat → List Nat} {V K x : Nat} {cap gr rm gr' rm' : Nat → Int} {T T' : Nat → Bool}
theorem Iv.le (h : Iv fa ch V K cap x gr rm) {f : Nat} (hf : f < K) : rm f ≤ cap f := by
  have := h.bal f hf
  have := occ_nonneg fa gr f V
  omega
theorem Iv.skip (h : Iv fa ch V K cap x gr rm) (he : ch x = []) : Iv fa ch V K cap (x + 1) gr rm :=
  ⟨fun y hy hV => by
    rcases Nat.lt_or_ge y x with h1 | h1
    · exact h.sat y h1 hV
    · obtain rfl : y = x := by omega
      exact ⟨fun _ => he, fun _ => h.not y (Nat.le_refl _) hV⟩, fun y hy hV => h.not y (by omega) hV, h.pos, h.val, h.bal⟩
theorem Iv.next (h : Iv fa ch V K cap x gr rm) (hx : x < V) (he : ch x ≠ []) (hs : SYes fa ch V K x gr rm T gr' rm') : Iv fa ch V K cap (x + 1) gr' rm' :=
  ⟨fun y hy hV => by
    by_cases e : y = x
    · subst e
      exact ⟨fun h1 => absurd h1 hs.sits, fun h1 => absurd h1 he⟩
    · rw [hs.none y hV e]
      exact h.sat y (by omega) hV, fun y hy hV => (hs.none y hV (by omega)).2 (h.not y (by omega) hV), fun f hf => (hs.bd f hf).1, hs.val, fun f hf => by
    have h1 := hs.bal f hf
    have h2 := h.bal f hf
    have h3 : ind fa (gr x) f = 0 := by rw [h.not x (Nat.le_refl _) hx]; simp [ind]
    omega⟩
theorem Iv.done (h : Iv fa ch V K cap V gr rm) : Seated ch V gr ∧ ∀ f, f < K → occ fa gr f V ≤ cap f :=
  ⟨fun y hy => ⟨h.sat y hy hy, h.val y hy⟩, fun f hf => by have := h.bal f hf; have := h.pos f hf; omega⟩
theorem Iv.no (h : Iv fa ch V K cap x gr rm) (hx : x < V) (he : ch x ≠ []) (hK : ∀ y, y < V → ∀ a ∈ ch y, fa a < K) (hs : SNo fa ch V x gr rm (fun _ => false) T') : ¬ Fits fa ch V K cap := by
  rintro ⟨g, hg, hc⟩
  have h1 := occ_dd fa T' K gr V
  have h2 := occ_dd fa T' K g V
  have h3 : smF (fun f => if T' f = true then occ fa g f V else 0) K ≤ smF (fun f => if T' f = true then occ fa gr f V else 0) K := smF_le K fun f hf => by
    by_cases ht : T' f = true
    · rw [if_pos ht, if_pos ht]
      have a1 := hc f hf
      have a2 := h.bal f hf
      have a3 := (hs.cl f ht rfl).1
      omega
    · rw [if_neg ht, if_neg ht]
      exact Int.le_refl _
  have key : ∀ y, y < V → g y ≠ -1 → (∀ a ∈ ch y, T' (fa a) = true) → dd fa T' K (g y) = 1 := fun y hy h0 hall => by
    obtain ⟨a, ha, e⟩ := (hg y hy).2.resolve_left h0
    unfold dd
    rw [if_pos ⟨h0, by rw [e]; exact hK y hy a ha, by rw [e]; exact hall a ha⟩]
  have nn : ∀ z, 0 ≤ dd fa T' K z := fun z => by unfold dd; split <;> omega
  have h4 : smF (fun y => dd fa T' K (gr y)) V + 1 ≤ smF (fun y => dd fa T' K (g y)) V := by
    refine smF_lt (x := x) V hx (fun y hy => ?_) ?_
    · by_cases hd : gr y ≠ -1 ∧ fa (gr y).toNat < K ∧ T' (fa (gr y).toNat) = true
      · have hall := (hs.cl _ hd.2.2 rfl).2 y hy hd.1 rfl
        have hne : g y ≠ -1 := fun e => by
          have h5 := (hg y hy).1.1 e
          obtain ⟨a, ha, _⟩ := (h.val y hy).resolve_left hd.1
          rw [h5] at ha
          simp at ha
        rw [key y hy hne hall]
        unfold dd
        rw [if_pos hd]
        exact Int.le_refl _
      · have : dd fa T' K (gr y) = 0 := by unfold dd; rw [if_neg hd]
        rw [this]
        exact nn _
    · have hne : g x ≠ -1 := fun e => he ((hg x hx).1.1 e)
      rw [key x hx hne hs.all]
      have : dd fa T' K (gr x) = 0 := by unfold dd; rw [if_neg (fun hd => hd.1 (h.not x (Nat.le_refl _) hx))]
      rw [this]
      omega
  omega
end
end Go.Proofs.YtefagplbpbkpgaaDoor
/-
  The contracts of slices.Grow at nil, and of slices.Concat at two rows of ints, the first of which isn't empty. Conditions: the rows lie in memory as told.
-/
namespace Go.Proofs.YtefagplbpbkpgaaDoor
open Go.RowKit
set_option linter.unusedVariables false
set_option maxRecDepth 20000

set_option maxHeartbeats 1000000 in
theorem grow_nil (w : World) (n : Nat) (h1 : 1 ≤ n) (hn : n ≤ 1000000) :
    Calls Tryd.prog 68 #[.slice none 0 0, .int .i64 n] w fun e w' => (∃ v, e = .returned v ∧ w'.ownsRow w.heap.size 3 1 v 0 []) ∧ Below w.heap.size w w' := by
  obtain ⟨i0, hi0, hz0, hz1, hz2⟩ := info_parts info3
  have hrun := fun (ty : TypeId) (w : World) => Lib.run_append_nil_zeros (P := Tryd.prog) w 37 3 ty 3 i0 (.int .i64 0) .i64 .i64 Tryd.underlying37 Tryd.underlying3 hi0 hz0 n (by omega) (by rw [hz1]; omega) (by omega) (by rw [hz2]; omega)
  have HR := hide hrun
  clear hi0 hz0 hz1 hz2 hrun
  have h1' : (1 : Int) ≤ (n : Int) := by omega
  have h2' : (0 : Int) < (n : Int) := by omega
  have h3' : ¬ (n : Int) < 0 := by omega
  go_enter Tryd.func68, Tryd.ntmps68
  go_wp2_with (at_builtin; refine Lib.wpList_append_run _ rfl (.tmp 20) (.tmp 21) 37 3 rfl _ _ rfl rfl _ _ (unhide HR _ _) ?_)
  go_wp2
  go_ret
  refine ⟨⟨_, rfl, ?_⟩, (((Below.refl _ _).drew).alloc (Nat.le_refl _) _)⟩
  refine ⟨by simp, .inr ⟨w.heap.size, _, _, rfl, Nat.le_refl _, heap_alloc_new w.drew _, by omega, grownCap_le_maxLen w n 0 3 (by unfold maxLen; omega), ?_, by simp⟩⟩
  have := grownCap_ge w n 0 3
  simp [Builtin.zeroCells]
  omega

set_option maxHeartbeats 2000000 in
theorem concat_two (w : World) (q cq : Nat) (p1 p2 : Addr) (n1 c1 n2 c2 : Nat) (xs ys : List Int) (hq0 : w.cell? ⟨q, 0, none⟩ = some (.slice (some p1) n1 c1)) (hq1 : w.cell? ⟨q, 1, none⟩ = some (.slice (some p2) n2 c2)) (hq : q < w.heap.size)
    (h1 : Ns w (some p1) n1 xs) (h2 : Ns w (some p2) n2 ys) (hn1 : 1 ≤ n1) (hb1 : n1 ≤ 100000) (hb2 : n2 ≤ 100000) :
    Calls Tryd.prog 53 #[.slice (some ⟨q, 0, none⟩) 2 cq] w fun e w' => (∃ v, e = .returned v ∧ w'.ownsRow w.heap.size 3 1 v (n1 + n2) (zcells (xs ++ ys))) ∧ Below w.heap.size w w' := by
  obtain ⟨i0, hi0, hz0, hz1, hz2⟩ := info_parts info3
  have HI := hide hi0
  have HZ0 := hide hz0
  have HZ1 := hide hz1
  have HZ2 := hide hz2
  have H1 := hide h1
  have H2 := hide h2
  have HQ0 := hide hq0
  have HQ1 := hide hq1
  clear hi0 hz0 hz1 hz2 h1 h2
  go_enter Tryd.func53, Tryd.ntmps53
  go_wp2
  go_loop [3, 11] (fun s i => (i = .int .i64 0 ∧ s = .int .i64 0) ∨ (i = .int .i64 1 ∧ s = .int .i64 n1) ∨ (i = .int .i64 2 ∧ s = .int .i64 ((n1 + n2 : Nat) : Int))) (fun s i => 2 - (intOf i).toNat)
  case atStart => exact .inl ⟨rfl, rfl⟩
  case round =>
    rcases hrel with ⟨rfl, rfl⟩ | ⟨rfl, rfl⟩ | ⟨rfl, rfl⟩
    · go_wp2
      go_round
      case rel => exact .inr (.inl ⟨rfl, by go_num⟩)
      case measure => simp [intOf]
    · go_wp2
      go_round
      case rel => exact .inr (.inr ⟨rfl, by go_num⟩)
      case measure => simp [intOf]
    · go_wp2_with fail
      refine (grow_nil _ (n1 + n2) (by omega) (by omega)).mono ?_
      rintro e w1 ⟨⟨v, rfl, hown⟩, hb⟩
      have HO := hide hown
      have HB := hide hb
      have c0 : w1.cell? ⟨q, 0, none⟩ = some (.slice (some p1) n1 c1) := by rw [hb.cell (p := ⟨q, 0, none⟩) hq]; exact unhide HQ0
      have c1' : w1.cell? ⟨q, 1, none⟩ = some (.slice (some p2) n2 c2) := by rw [hb.cell (p := ⟨q, 1, none⟩) hq]; exact unhide HQ1
      have N1 := hide ((unhide H1).below hb)
      clear hown hb hq0 hq1
      go_wp2_with fail
      go_loopw [6, 27] (fun s i wr => ((i = .int .i64 0 ∧ wr.ownsRow w.heap.size 3 1 s 0 []) ∨ (i = .int .i64 1 ∧ wr.ownsRow w.heap.size 3 1 s n1 (zcells xs)) ∨ (i = .int .i64 2 ∧ wr.ownsRow w.heap.size 3 1 s (n1 + n2) (zcells (xs ++ ys)))) ∧ Below w.heap.size w wr) (fun s i wr => 2 - (intOf i).toNat)
      case atStart => exact ⟨.inl ⟨rfl, unhide HO⟩, unhide HB⟩
      case round =>
        obtain ⟨hrel, hbr⟩ := hrel
        have r0 : wr.cell? ⟨q, 0, none⟩ = some (.slice (some p1) n1 c1) := by rw [hbr.cell (p := ⟨q, 0, none⟩) hq]; exact unhide HQ0
        have r1 : wr.cell? ⟨q, 1, none⟩ = some (.slice (some p2) n2 c2) := by rw [hbr.cell (p := ⟨q, 1, none⟩) hq]; exact unhide HQ1
        have M1 := hide ((unhide H1).below hbr)
        have M2 := hide ((unhide H2).below hbr)
        have HBR := hide hbr
        have hsz := hbr.size
        clear hbr c0 c1'
        rcases hrel with ⟨rfl, ho⟩ | ⟨rfl, ho⟩ | ⟨rfl, ho⟩
        · have HO2 := hide ho
          clear ho
          go_wp2_with (at_builtin; refine wpList_append_own _ rfl (.tmp 31) (.tmp 32) 37 rfl w.heap.size 3 i0 (.int .i64 0) 1 8 Tryd.underlying37 (unhide HI) (unhide HZ0) (unhide HZ1) (unhide HZ2) rfl (by decide) u6 0 [] rfl (unhide HO2) p1 n1 c1 (zcells xs) rfl ?d1 (unhide M1).cells (zcells_one xs) ?d4 ?d5 hsz ?_)
          case d1 => rw [zcells_length, (unhide H1).1]; omega
          case d4 => unfold maxLen; omega
          case d5 => omega
          intro v2 w4 hown4 hg4 _
          have HO4 := hide hown4
          have HB4 := hide ((unhide HBR).grown hg4 hsz fun k hk => ((unhide HO2).lt k hk).1)
          clear hown4 hg4
          go_wp2_with fail
          go_roundw
          case rel =>
            refine ⟨.inr (.inl ⟨rfl, ?_⟩), unhide HB4⟩
            have := unhide HO4
            simpa using this
          case measure => simp [intOf]
        · have HO2 := hide ho
          clear ho
          go_wp2_with (at_builtin; refine wpList_append_own _ rfl (.tmp 31) (.tmp 32) 37 rfl w.heap.size 3 i0 (.int .i64 0) 1 8 Tryd.underlying37 (unhide HI) (unhide HZ0) (unhide HZ1) (unhide HZ2) rfl (by decide) u6 n1 (zcells xs) rfl (unhide HO2) p2 n2 c2 (zcells ys) rfl ?e1 (unhide M2).cells (zcells_one ys) ?e4 ?e5 hsz ?_)
          case e1 => rw [zcells_length, (unhide H2).1]; omega
          case e4 => unfold maxLen; omega
          case e5 => omega
          intro v2 w4 hown4 hg4 _
          have HO4 := hide hown4
          have HB4 := hide ((unhide HBR).grown hg4 hsz fun k hk => ((unhide HO2).lt k hk).1)
          clear hown4 hg4
          go_wp2_with fail
          go_roundw
          case rel =>
            refine ⟨.inr (.inr ⟨rfl, ?_⟩), unhide HB4⟩
            have := unhide HO4
            simpa [zcells] using this
          case measure => simp [intOf]
        · have HO2 := hide ho
          clear ho
          go_wp2_with fail
          go_ret
          exact ⟨⟨_, rfl, unhide HO2⟩, unhide HBR⟩
end Go.Proofs.YtefagplbpbkpgaaDoor
/-
  The contracts of slices.Grow at nil and of slices.Concat at two rows of ints, whichever they are. Conditions: the rows lie in memory as told.
-/
namespace Go.Proofs.YtefagplbpbkpgaaDoor
open Go.RowKit
set_option linter.unusedVariables false
set_option maxRecDepth 20000

set_option maxHeartbeats 1000000 in
theorem grow_zero (w : World) : Calls Tryd.prog 68 #[.slice none 0 0, .int .i64 0] w fun e w' => (∃ v, e = .returned v ∧ w'.ownsRow w.heap.size 3 1 v 0 []) ∧ Below w.heap.size w w' := by
  go_enter Tryd.func68, Tryd.ntmps68
  go_wp2
  go_ret
  exact ⟨⟨_, rfl, World.ownsRow_nil _ _ _ _⟩, Below.refl _ _⟩
theorem grow_any (w : World) (n : Nat) (hn : n ≤ 1000000) :
    Calls Tryd.prog 68 #[.slice none 0 0, .int .i64 n] w fun e w' => (∃ v, e = .returned v ∧ w'.ownsRow w.heap.size 3 1 v 0 []) ∧ Below w.heap.size w w' := by
  by_cases h : n = 0
  · subst h
    exact grow_zero w
  · exact grow_nil w n (by omega) hn

/-- append onto an own row of ints, of any row of ints -/
theorem wpList_app_ints {w : World} {ops : Array Oper} {rest : List Oper} {o : Oper} {a : Act} {Q : Exit → Act → World → Prop} (hgd : o.guard = none) (s x : Operand)
    (ho : o.op = .call { callee := .builtin .append, args := #[s, x], argTypes := #[37, 37] }) (base : Nat) (v : Value) (n : Nat) (xs : List Int) (hs : a.eval s = v) (hown : w.ownsRow base 3 1 v n (zcells xs))
    (ad : Option Addr) (m c : Nat) (ys : List Int) (hx : a.eval x = .slice ad m c) (hno : ad = none → m = 0 ∧ c = 0) (hys : Ns w ad m ys) (hb : n + m ≤ 1000000) (hbase : base ≤ w.heap.size)
    (h : ∀ v' w', w'.ownsRow base 3 1 v' (n + m) (zcells (xs ++ ys)) → w.grownBy w' v.ownBlock → wpList Tryd.prog ops Q rest (a.put o.dst v') w') : wpList Tryd.prog ops Q (o :: rest) a w := by
  obtain ⟨i0, hi0, hz0, hz1, hz2⟩ := info_parts info3
  cases ad with
  | none =>
    obtain ⟨rfl, rfl⟩ := hno rfl
    refine wpList_append_own_none hgd s x 37 ho base 3 i0 1 Tryd.underlying37 hi0 v n (zcells xs) hs hown hx (h v w ?_ ⟨rfl, rfl, rfl, Nat.le_refl _, fun _ _ _ => rfl⟩)
    have : ys = [] := by have := hys.1; simpa using this
    subst this
    rw [List.append_nil]
    exact hown
  | some p =>
    refine wpList_append_own w hgd s x 37 ho base 3 i0 (.int .i64 0) 1 8 Tryd.underlying37 hi0 hz0 hz1 hz2 rfl (by decide) v n (zcells xs) hs hown p m c (zcells ys) hx (by rw [zcells_length, hys.1]; omega) hys.cells (zcells_one ys) (by unfold maxLen; omega) (by omega) hbase ?_
    intro v' w' ho' hg _
    refine h v' w' ?_ hg
    rw [show zcells (xs ++ ys) = zcells xs ++ zcells ys by simp [zcells]]
    exact ho'

set_option maxHeartbeats 2000000 in
theorem concat_any (w : World) (q cq : Nat) (a1 a2 : Option Addr) (n1 c1 n2 c2 : Nat) (xs ys : List Int) (hq0 : w.cell? ⟨q, 0, none⟩ = some (.slice a1 n1 c1)) (hq1 : w.cell? ⟨q, 1, none⟩ = some (.slice a2 n2 c2)) (hq : q < w.heap.size)
    (h1 : Ns w a1 n1 xs) (h2 : Ns w a2 n2 ys) (hno1 : a1 = none → n1 = 0 ∧ c1 = 0) (hno2 : a2 = none → n2 = 0 ∧ c2 = 0) (hb1 : n1 ≤ 100000) (hb2 : n2 ≤ 100000) :
    Calls Tryd.prog 53 #[.slice (some ⟨q, 0, none⟩) 2 cq] w fun e w' => (∃ v, e = .returned v ∧ w'.ownsRow w.heap.size 3 1 v (n1 + n2) (zcells (xs ++ ys))) ∧ Below w.heap.size w w' := by
  have H1 := hide h1
  have H2 := hide h2
  have HQ0 := hide hq0
  have HQ1 := hide hq1
  have HN1 := hide hno1
  have HN2 := hide hno2
  clear h1 h2 hno1 hno2
  go_enter Tryd.func53, Tryd.ntmps53
  go_wp2
  go_loop [3, 11] (fun s i => (i = .int .i64 0 ∧ s = .int .i64 0) ∨ (i = .int .i64 1 ∧ s = .int .i64 n1) ∨ (i = .int .i64 2 ∧ s = .int .i64 ((n1 + n2 : Nat) : Int))) (fun s i => 2 - (intOf i).toNat)
  case atStart => exact .inl ⟨rfl, rfl⟩
  case round =>
    rcases hrel with ⟨rfl, rfl⟩ | ⟨rfl, rfl⟩ | ⟨rfl, rfl⟩
    · go_wp2
      go_round
      case rel => exact .inr (.inl ⟨rfl, by go_num⟩)
      case measure => simp [intOf]
    · go_wp2
      go_round
      case rel => exact .inr (.inr ⟨rfl, by go_num⟩)
      case measure => simp [intOf]
    · go_wp2_with fail
      refine (grow_any _ (n1 + n2) (by omega)).mono ?_
      rintro e w1 ⟨⟨v, rfl, hown⟩, hb⟩
      have HO := hide hown
      have HB := hide hb
      have c0 : w1.cell? ⟨q, 0, none⟩ = some (.slice a1 n1 c1) := by rw [hb.cell (p := ⟨q, 0, none⟩) hq]; exact unhide HQ0
      have c1' : w1.cell? ⟨q, 1, none⟩ = some (.slice a2 n2 c2) := by rw [hb.cell (p := ⟨q, 1, none⟩) hq]; exact unhide HQ1
      have N1 := hide ((unhide H1).below hb)
      clear hown hb hq0 hq1
      go_wp2_with fail
      go_loopw [6, 27] (fun s i wr => ((i = .int .i64 0 ∧ wr.ownsRow w.heap.size 3 1 s 0 []) ∨ (i = .int .i64 1 ∧ wr.ownsRow w.heap.size 3 1 s n1 (zcells xs)) ∨ (i = .int .i64 2 ∧ wr.ownsRow w.heap.size 3 1 s (n1 + n2) (zcells (xs ++ ys)))) ∧ Below w.heap.size w wr) (fun s i wr => 2 - (intOf i).toNat)
      case atStart => exact ⟨.inl ⟨rfl, unhide HO⟩, unhide HB⟩
      case round =>
        obtain ⟨hrel, hbr⟩ := hrel
        have r0 : wr.cell? ⟨q, 0, none⟩ = some (.slice a1 n1 c1) := by rw [hbr.cell (p := ⟨q, 0, none⟩) hq]; exact unhide HQ0
        have r1 : wr.cell? ⟨q, 1, none⟩ = some (.slice a2 n2 c2) := by rw [hbr.cell (p := ⟨q, 1, none⟩) hq]; exact unhide HQ1
        have M1 := hide ((unhide H1).below hbr)
        have M2 := hide ((unhide H2).below hbr)
        have HBR := hide hbr
        have hsz := hbr.size
        clear hbr c0 c1'
        rcases hrel with ⟨rfl, ho⟩ | ⟨rfl, ho⟩ | ⟨rfl, ho⟩
        · have HO2 := hide ho
          clear ho
          go_wp2_with (at_builtin; refine wpList_app_ints rfl (.tmp 31) (.tmp 32) rfl w.heap.size u6 0 [] rfl (unhide HO2) a1 n1 c1 xs rfl (unhide HN1) (unhide M1) ?d4 hsz ?_)
          case d4 => omega
          intro v2 w4 hown4 hg4
          have HO4 := hide hown4
          have HB4 := hide ((unhide HBR).grown hg4 hsz fun k hk => ((unhide HO2).lt k hk).1)
          clear hown4 hg4
          go_wp2_with fail
          go_roundw
          case rel =>
            refine ⟨.inr (.inl ⟨rfl, ?_⟩), unhide HB4⟩
            have := unhide HO4
            simpa using this
          case measure => simp [intOf]
        · have HO2 := hide ho
          clear ho
          go_wp2_with (at_builtin; refine wpList_app_ints rfl (.tmp 31) (.tmp 32) rfl w.heap.size u6 n1 xs rfl (unhide HO2) a2 n2 c2 ys rfl (unhide HN2) (unhide M2) ?e4 hsz ?_)
          case e4 => omega
          intro v2 w4 hown4 hg4
          have HO4 := hide hown4
          have HB4 := hide ((unhide HBR).grown hg4 hsz fun k hk => ((unhide HO2).lt k hk).1)
          clear hown4 hg4
          go_wp2_with fail
          go_roundw
          case rel => exact ⟨.inr (.inr ⟨rfl, unhide HO4⟩), unhide HB4⟩
          case measure => simp [intOf]
        · have HO2 := hide ho
          clear ho
          go_wp2_with fail
          go_ret
          exact ⟨⟨_, rfl, unhide HO2⟩, unhide HBR⟩
end Go.Proofs.YtefagplbpbkpgaaDoor
/-
  Each vertex's angles, in rows that grow: plain mathematics and memory. No conditions beyond each theorem's own.
-/
namespace Go.Proofs.YtefagplbpbkpgaaDoor
open Go.RowKit
set_option linter.unusedVariables false
set_option maxRecDepth 20000
/-- some angles as cells -/
def lcells (A : Nat → Nat → Nat) (l : List Nat) : List Value := l.flatMap fun t => [.int .i64 (A t 0 : Nat), .int .i64 (A t 1 : Nat), .int .i64 (A t 2 : Nat), .int .i64 (A t 3 : Nat)]
theorem lcells_snoc (A : Nat → Nat → Nat) (l : List Nat) (k : Nat) : lcells A (l ++ [k]) = lcells A l ++ [.int .i64 (A k 0 : Nat), .int .i64 (A k 1 : Nat), .int .i64 (A k 2 : Nat), .int .i64 (A k 3 : Nat)] := by
  simp [lcells]
theorem lcells_eq (A : Nat → Nat → Nat) (l : List Nat) : lcells A l = acells (fun j => A (l.getD j 0)) l.length := by
  induction l using pt.snoc_ind with
  | h0 => rfl
  | h1 l k ih =>
    rw [lcells_snoc, List.length_append, List.length_singleton, acells_succ, ih]
    congr 1
    · unfold acells
      refine congrArg List.flatten (List.map_congr_left fun t ht => ?_)
      have := List.mem_range.1 ht
      simp [List.getD, List.getElem?_append_left this]
    · simp [List.getD]
theorem as_of_lcells {w : World} {base : Nat} {ty : TypeId} {v : Value} {A : Nat → Nat → Nat} {l : List Nat} (h : w.ownsRow base ty 4 v l.length (lcells A l)) (hn : l.length ≤ 256) : ∃ a c, v = .slice a l.length c ∧ l.length ≤ c ∧ As w a l.length (fun j => A (l.getD j 0)) := by
  rw [lcells_eq] at h
  exact as_of_owns h hn
/-- the angles at a vertex, of the first k -/
def selA (A : Nat → Nat → Nat) (x k : Nat) : List Nat := (List.range k).filter fun t => decide (A t 1 = x)
theorem selA_succ (A : Nat → Nat → Nat) (x k : Nat) : selA A x (k + 1) = selA A x k ++ if A k 1 = x then [k] else [] := by
  unfold selA
  rw [List.range_succ, List.filter_append]
  congr 1
  by_cases h : A k 1 = x
  · rw [if_pos h, List.filter_cons, if_pos (decide_eq_true h)]; rfl
  · rw [if_neg h, List.filter_cons, if_neg (by rw [decide_eq_true_iff]; exact h)]; rfl
theorem selA_len (A : Nat → Nat → Nat) (x k : Nat) : (selA A x k).length ≤ k := Nat.le_trans (List.length_filter_le _ _) (by simp)
theorem mem_selA {A : Nat → Nat → Nat} {x k t : Nat} : t ∈ selA A x k ↔ t < k ∧ A t 1 = x := by simp [selA]
theorem selA_upd (A : Nat → Nat → Nat) {x k : Nat} (h : A k 1 = x) : upd (fun y => selA A y k) x (selA A x k ++ [k]) = fun y => selA A y (k + 1) := by
  funext y
  unfold upd
  by_cases e : y = x
  · subst e; rw [if_pos rfl, selA_succ, if_pos h]
  · rw [if_neg e, selA_succ, if_neg (fun h' => e (h'.symm.trans h)), List.append_nil]
theorem box4 {w : World} {g : Nat} {a b c d : Value} {ty : TypeId} (h : w.heap[g]? = some (.cells #[a, b, c, d] ty (0, 0))) : w.cell? ⟨g, 0, none⟩ = some a ∧ w.cell? ⟨g, 1, none⟩ = some b ∧ w.cell? ⟨g, 2, none⟩ = some c ∧ w.cell? ⟨g, 3, none⟩ = some d := by
  simp [World.cell?, h]
structure Rws (w : World) (base N : Nat) (R : Nat → Value) (A : Nat → Nat → Nat) (L : Nat → List Nat) : Prop where
  own : ∀ j, j < N → w.ownsRow base 35 4 (R j) (L j).length (lcells A (L j))
  apart : ∀ i j, i < N → j < N → i ≠ j → ∀ g, (R i).ownBlock = some g → (R j).ownBlock ≠ some g
theorem Rws.keep {w w' : World} {base N : Nat} {R : Nat → Value} {A : Nat → Nat → Nat} {L : Nat → List Nat} (h : Rws w base N R A L) (hk : ∀ j g, j < N → (R j).ownBlock = some g → w'.heap[g]? = w.heap[g]?) : Rws w' base N R A L :=
  ⟨fun j hj => owns_keep (h.own j hj) (fun g hg => hk j g hj hg), h.apart⟩
theorem Rws.append {w W w4 : World} {base N : Nat} {R : Nat → Value} {A : Nat → Nat → Nat} {L : Nat → List Nat} {j : Nat} {v' : Value} {k : Nat} (h : Rws w base N R A L) (hj : j < N) (hW : ∀ i, i < w.heap.size → W.heap[i]? = w.heap[i]?) (hs : w.heap.size ≤ W.heap.size)
    (hg : W.grownBy w4 (R j).ownBlock) (ho : w4.ownsRow base 35 4 v' ((L j).length + 1) (lcells A (L j ++ [k]))) (hat : v'.ownBlock = (R j).ownBlock ∨ v'.ownBlock = some W.heap.size) :
    Rws w4 base N (upd R j v') A (upd L j (L j ++ [k])) := by
  constructor
  · intro i hi
    by_cases hij : i = j
    · subst hij
      rw [upd_same, upd_same, List.length_append]
      exact ho
    · rw [upd_other _ _ hij, upd_other _ _ hij]
      refine owns_keep (h.own i hi) fun g hgi => ?_
      have hlt := ((h.own i hi).lt g hgi).2
      rw [hg.block g (by omega) (fun he => h.apart i j hi hj hij g hgi he.symm), hW g hlt]
  · intro a b ha hb hab g hga
    by_cases haj : a = j
    · subst haj
      rw [upd_same] at hga
      rw [upd_other _ _ (Ne.symm hab)]
      intro hgb
      rcases hat with he | he
      · rw [he] at hga
        exact h.apart a b ha hb hab g hga hgb
      · rw [he] at hga
        have := ((h.own b hb).lt g hgb).2
        simp only [Option.some.injEq] at hga
        omega
    · rw [upd_other _ _ haj] at hga
      by_cases hbj : b = j
      · subst hbj
        rw [upd_same]
        intro hgb
        rcases hat with he | he
        · rw [he] at hgb
          exact h.apart a b ha hb hab g hga hgb
        · rw [he] at hgb
          have := ((h.own a ha).lt g hga).2
          simp only [Option.some.injEq] at hgb
          omega
      · rw [upd_other _ _ hbj]
        exact h.apart a b ha hb hab g hga
theorem Rws.nil {w : World} {base N : Nat} {R : Nat → Value} {A : Nat → Nat → Nat} {L : Nat → List Nat} (h : Rws w base N R A L) (x : Nat) : Rws w base N (upd R x (.slice none 0 0)) A (upd L x []) := by
  constructor
  · intro i hi
    by_cases e : i = x
    · subst e
      rw [upd_same, upd_same]
      exact World.ownsRow_nil _ _ _ _
    · rw [upd_other _ _ e, upd_other _ _ e]
      exact h.own i hi
  · intro a b ha hb hab g hga
    by_cases e : a = x
    · subst e
      rw [upd_same] at hga
      simp [Value.ownBlock] at hga
    · rw [upd_other _ _ e] at hga
      by_cases e2 : b = x
      · subst e2
        rw [upd_same]
        simp [Value.ownBlock]
      · rw [upd_other _ _ e2]
        exact h.apart a b ha hb hab g hga
/-- what stands at a round's head -/
structure Cr (w wr : World) (x y : Value) (V tg : Nat) (R : Nat → Value) (A : Nat → Nat → Nat) (L : Nat → List Nat) : Prop where
  bg : Bg w wr x y
  tlo : w.heap.size < tg
  tab : Row wr tg 30 V R
  rows : Rws wr (w.heap.size + 1) V R A L
section
variable {w wr W w4 : World} {x y : Value} {V tg : Nat} {R : Nat → Value} {A : Nat → Nat → Nat} {L : Nat → List Nat}
theorem Cr.ne (h : Cr w wr x y V tg R A L) {j : Nat} (hj : j < V) : (R j).ownBlock ≠ some tg := by
  obtain ⟨arr, h1, _⟩ := h.tab
  exact owns_ne (h.rows.own j hj) h1 (by decide)
theorem Cr.more (h : Cr w wr x y V tg R A L) (hW : Below wr.heap.size wr W) : Cr w W x y V tg R A L :=
  ⟨h.bg.step hW, h.tlo, h.tab.below hW, h.rows.keep fun j g hj hg => hW.block g ((h.rows.own j hj).lt g hg).2⟩
theorem Cr.push (h : Cr w wr x y V tg R A L) {j k : Nat} (hj : j < V) {v' : Value} (hW : Below wr.heap.size wr W) (hg : W.grownBy w4 (R j).ownBlock) (ho : w4.ownsRow (w.heap.size + 1) 35 4 v' ((L j).length + 1) (lcells A (L j ++ [k]))) (hat : v'.ownBlock = (R j).ownBlock ∨ v'.ownBlock = some W.heap.size) :
    Cr w (w4.setCell ⟨tg, j, none⟩ v') x y V tg (upd R j v') A (upd L j (L j ++ [k])) := by
  have hb : Below (w.heap.size + 1) wr w4 := (hW.mono h.bg.lt).grown hg (Nat.le_trans h.bg.lt hW.size) fun b hb => ((h.rows.own j hj).lt b hb).1
  have ht4 : w4.heap[tg]? = wr.heap[tg]? := by rw [hg.block tg (Nat.lt_of_lt_of_le h.tab.lt hW.size) (fun e => h.ne hj e.symm), hW.block tg h.tab.lt]
  have htab := (h.tab.keep ht4).set j v'
  refine ⟨⟨(h.bg.bel.trans (hb.mono (by omega))).setCell (p := ⟨tg, j, none⟩) (Nat.le_of_lt h.tlo) _, ?_⟩, h.tlo, htab, ?_⟩
  · rw [Below.heap_setCell _ _ _ _ (show w.heap.size ≠ tg from Nat.ne_of_lt h.tlo), hb.block _ (by omega)]
    exact h.bg.gb
  · have hr := h.rows.append hj (fun i hi => hW.block i hi) hW.size hg ho hat
    obtain ⟨arr, h1, _⟩ := h.tab.keep ht4
    exact hr.keep fun i g hi hgi => Below.heap_setCell _ _ _ _ (fun e => owns_ne (hr.own i hi) h1 (by decide) (hgi.trans (congrArg some e)))
theorem Cr.drop (h : Cr w wr x y V tg R A L) (j : Nat) : Cr w (wr.setCell ⟨tg, j, none⟩ (.slice none 0 0)) x y V tg (upd R j (.slice none 0 0)) A (upd L j []) := by
  have htab := h.tab.set j (.slice none 0 0)
  refine ⟨⟨h.bg.bel.setCell (p := ⟨tg, j, none⟩) (Nat.le_of_lt h.tlo) _, ?_⟩, h.tlo, htab, ?_⟩
  · rw [Below.heap_setCell _ _ _ _ (show w.heap.size ≠ tg from Nat.ne_of_lt h.tlo)]
    exact h.bg.gb
  · obtain ⟨arr, h1, _⟩ := h.tab
    have hr := h.rows.keep (w' := wr.setCell ⟨tg, j, none⟩ (.slice none 0 0)) fun i g hi hgi => Below.heap_setCell _ _ _ _ (fun e => owns_ne (h.rows.own i hi) h1 (by decide) (hgi.trans (congrArg some e)))
    exact hr.nil j
theorem Cr.chs (h : Cr w wr x y V tg R A L) (hl : ∀ j, j < V → (L j).length ≤ 256) : Chs wr (some ⟨tg, 0, none⟩) V A L := fun j hj => by
  obtain ⟨la, lc, hv, hc, has⟩ := as_of_lcells (h.rows.own j hj) (hl j hj)
  exact ⟨tg, 0, la, lc, rfl, h.tab.lt, by rw [Nat.zero_add, h.tab.cell hj, hv], hc, has⟩
end
end Go.Proofs.YtefagplbpbkpgaaDoor
/-
  The contract of the program's fit. Conditions: what stands in memory is as told.
-/
namespace Go.Proofs.YtefagplbpbkpgaaDoor
open Go.RowKit
set_option linter.unusedVariables false
set_option maxRecDepth 20000
theorem wpList_make_full_g {P : Program} (w : World) {ops : Array Oper} {rest : List Oper} {o : Oper} {a : Act} {Q : Exit → Act → World → Prop} (hgd : Region.wanted o (yielded ops a.tmps) = true) (l c : Operand) (t : TypeId) (hop : o.op = Op.makeSlice t l c)
    (base : Nat) (e : TypeId) (i : TypeInfo) (z : Value) (size : Nat) (h1 : P.underlying t = some (.slice e)) (h2 : P.info? e = some i) (h3 : i.zero = some z) (h4 : i.size = size)
    (kl kc : IntKind) (L C : Int) (n : Nat) (hl : a.eval l = .int kl L) (hc : a.eval c = .int kc C) (hL : L = (n : Int)) (hC : C = (n : Int)) (b2 : i.bytes * n ≤ 281474976710656) (b3 : n ≤ maxLen) (b4 : base ≤ w.heap.size)
    (hK : ∀ w', w'.ownsRow base e size (.slice (some ⟨w.heap.size, 0, none⟩) n n) n (madeCells z.cells (n * size)).toList → w.grownBy w' none → wpList P ops Q rest (a.put o.dst (.slice (some ⟨w.heap.size, 0, none⟩) n n)) w') : wpList P ops Q (o :: rest) a w :=
  wpList_step fun K hKK => by
    rw [if_pos hgd]
    obtain ⟨w', hrun, r1, r2⟩ := run_make_full (P := P) w base t e i z size h1 h2 h3 h4 kl kc n b2 b3 b4
    subst hL
    subst hC
    unfold Oper.wp
    simp [execOp, hop, hl, hc, hrun, Result.andThen]
    exact hKK _ _ (hK w' r1 r2)
/-- how much room there is, with an outer face -/
def capF (rm : Nat → Int) (outer f : Nat) : Int := rm f + if f = outer then 2 else 0
theorem rowZ_ns {w : World} {g n : Nat} {f : Nat → Int} (h : RowZ w g n f) (hn : n ≤ 1000) : Ns w (some ⟨g, 0, none⟩) n ((List.range n).map f) := by
  refine ⟨by simp, by omega, fun k hk => ⟨g, 0, rfl, h.lt, ?_⟩⟩
  rw [Nat.zero_add, h.cell hk]
  simp [List.getD, hk]
/-- what fit has laid -/
structure Fx (w wr : World) (gS gR gG : Nat) (aa : Option Addr) (H ac : Nat) (ca : Option Addr) (V cc K rc : Nat) (gr rm : Nat → Int) : Prop where
  bel : Below w.heap.size w wr
  box : wr.heap[gS]? = some (.cells #[.slice aa H ac, .slice ca V cc, .slice (some ⟨gR, 0, none⟩) K rc, .slice (some ⟨gG, 0, none⟩) V V] 89 (0, 0))
  room : RowZ wr gR K rm
  great : RowZ wr gG V gr
theorem box_set3 {w : World} {g : Nat} {a b c d v : Value} {ty : TypeId} (h : w.heap[g]? = some (.cells #[a, b, c, d] ty (0, 0))) : (w.setCell ⟨g, 3, none⟩ v).heap[g]? = some (.cells #[a, b, c, v] ty (0, 0)) := by
  simp [World.setCell, Array.getElem?_modify, h]
theorem box_fz {w : World} {g : Nat} {cs : Array Value} {ty : TypeId} (h : w.heap[g]? = some (.cells cs ty (0, 0))) (o : Nat) : w.frozen? ⟨g, o, none⟩ = false := by
  simp [World.frozen?, h]
theorem occ_none {fa : Nat → Nat} {gr : Nat → Int} {f : Nat} : ∀ V, (∀ y, y < V → gr y = -1) → occ fa gr f V = 0 := by
  intro V
  induction V with
  | zero => intro _; rfl
  | succ V ih => intro h; unfold occ; rw [ih (fun y hy => h y (by omega)), h V (by omega)]; simp [ind]
section
variable {w wr wr' : World} {gS gR gG : Nat} {aa : Option Addr} {H ac : Nat} {ca : Option Addr} {V cc K rc : Nat} {gr rm : Nat → Int}
theorem Fx.step (h : Fx w wr gS gR gG aa H ac ca V cc K rc gr rm) (hb : Below wr.heap.size wr wr') : Fx w wr' gS gR gG aa H ac ca V cc K rc gr rm :=
  ⟨h.bel.trans (hb.mono h.bel.size), by rw [hb.block gS (Array.getElem?_eq_some_iff.1 h.box).1]; exact h.box, h.room.below hb, h.great.below hb⟩
theorem Fx.setG (h : Fx w wr gS gR gG aa H ac ca V cc K rc gr rm) (h0 : w.heap.size ≤ gG) (h1 : gS ≠ gG) (h2 : gR ≠ gG) (x : Nat) (z : Int) : Fx w (wr.setCell ⟨gG, x, none⟩ (.int .i64 z)) gS gR gG aa H ac ca V cc K rc (upd gr x z) rm :=
  ⟨h.bel.setCell (p := ⟨gG, x, none⟩) h0 _, by rw [Below.heap_setCell _ _ _ _ h1]; exact h.box, h.room.keep (Below.heap_setCell _ _ _ _ h2), RowZ.set h.great x z⟩
theorem Fx.cells (h : Fx w wr gS gR gG aa H ac ca V cc K rc gr rm) : wr.cell? ⟨gS, 0, none⟩ = some (.slice aa H ac) ∧ wr.cell? ⟨gS, 1, none⟩ = some (.slice ca V cc) ∧ wr.cell? ⟨gS, 2, none⟩ = some (.slice (some ⟨gR, 0, none⟩) K rc) ∧ wr.cell? ⟨gS, 3, none⟩ = some (.slice (some ⟨gG, 0, none⟩) V V) := by
  have h1 := h.box
  simp [World.cell?, h1]
theorem Fx.congr {gr' : Nat → Int} (h : Fx w wr gS gR gG aa H ac ca V cc K rc gr rm) (he : ∀ t, t < V → gr t = gr' t) : Fx w wr gS gR gG aa H ac ca V cc K rc gr' rm :=
  ⟨h.bel, h.box, h.room, Row.congr h.great fun t ht => by rw [he t ht]⟩
end
theorem Fx.st {w wr : World} {gS gR gG gT : Nat} {aa : Option Addr} {H ac : Nat} {ca : Option Addr} {V cc K rc : Nat} {gr rm : Nat → Int} {T : Nat → Bool} (h : Fx w wr gS gR gG aa H ac ca V cc K rc gr rm) (ht : pt.RowB wr gT K T) : St w gS gR gG gT aa H ac ca V cc K rc V wr gr rm T := ⟨h.bel, h.box, h.room, h.great, ht⟩
theorem St.fx {w wr : World} {gS gR gG gT : Nat} {aa : Option Addr} {H ac : Nat} {ca : Option Addr} {V cc K rc : Nat} {gr rm : Nat → Int} {T : Nat → Bool} (h : St w gS gR gG gT aa H ac ca V cc K rc V wr gr rm T) : Fx w wr gS gR gG aa H ac ca V cc K rc gr rm := ⟨h.bel, h.box, h.room, h.great⟩
def FitAns (w : World) (A : Nat → Nat → Nat) (ch : Nat → List Nat) (V K : Nat) (cap : Nat → Int) (e : Ending) (w' : World) : Prop :=
  (∃ gG gc gr, e = .returned (.tuple #[.slice (some ⟨gG, 0, none⟩) V gc, .bool true]) ∧ w.heap.size ≤ gG ∧ RowZ w' gG V gr ∧ Seated ch V gr ∧ ∀ f, f < K → occ (fun h => A h 2) gr f V ≤ cap f) ∨ (e = .returned (.tuple #[.slice none 0 0, .bool false]) ∧ ¬ Fits (fun h => A h 2) ch V K cap)
set_option maxHeartbeats 16000000 in
theorem fit_any (w : World) (aa : Option Addr) (H ac : Nat) (A : Nat → Nat → Nat) (hA : As w aa H A) (ca : Option Addr) (V cc : Nat) (ch : Nat → List Nat) (hC : Chs w ca V A ch) (g0 K rc0 : Nat) (rm0 : Nat → Int) (hR : RowZ w g0 K rm0) (outer : Nat) (ho : outer < K)
    (hlt : ∀ x, x < V → ∀ h ∈ ch x, h < H) (ha0 : ∀ h, h < H → A h 0 = h) (ha2 : ∀ h, h < H → A h 2 < K) (hV : V ≤ 64) (hK : K ≤ 256) (hrm : ∀ f, f < K → 0 ≤ rm0 f ∧ rm0 f ≤ 300) :
    Calls Tryd.prog 32 #[.slice aa H ac, .slice ca V cc, .slice (some ⟨g0, 0, none⟩) K rc0, .int .i64 (outer : Nat)] w fun e w' => FitAns w A ch V K (capF rm0 outer) e w' ∧ Below w.heap.size w w' := by
  have HA := hide hA
  have HCH := hide hC
  have HLT := hide hlt
  have HA0 := hide ha0
  have HA2 := hide ha2
  have HRM := hide hrm
  have h256 := hA.1
  have hoK2 : (outer : Int) < (K : Int) := by omega
  have HCL := hide (clone_some w ⟨g0, 0, none⟩ K rc0 ((List.range K).map rm0) (rowZ_ns hR (by omega)) (by omega))
  obtain ⟨i0, hi0, hz0, hz1, hz2⟩ := info_parts info3
  have HI := hide hi0
  have HZ0 := hide hz0
  have HZ1 := hide hz1
  have hzb : i0.bytes * V ≤ 281474976710656 := by rw [hz2]; omega
  obtain ⟨j0, hj0, hy0, hy1, hy2⟩ := info_parts info4
  have HJ := hide hj0
  have HY0 := hide hy0
  have HY1 := hide hy1
  have hyb : j0.bytes * K ≤ 281474976710656 := by rw [hy2]; omega
  clear hi0 hz0 hz1 hz2 hj0 hy0 hy1 hy2 hA hC hlt ha0 ha2 hR
  go_enter Tryd.func32, Tryd.ntmps32
  go_wp2_with fail
  refine (unhide HCL).mono ?_
  rintro e w1 ⟨⟨v, rfl, hov, _⟩, hb1⟩
  obtain ⟨gR, rc, rfl, hgR, hr1⟩ := rowZ_of_owns hov (by omega)
  have HB1 := hide hb1
  have HR1 := hide hr1
  have hs1 := hb1.size
  have hgl := hr1.lt
  have hne : ¬ gR = w1.heap.size := by omega
  have r0 := hr1.cell ho
  have rf := hr1.fz outer
  obtain ⟨z, hz⟩ : ∃ z, rm0 outer = z := ⟨_, rfl⟩
  rw [hz] at r0
  have hwz : IntKind.i64.wrap (z + 2) = z + 2 := by have := hrm outer ho; rw [hz] at this; rw [IntKind.wrap_i64]; omega
  have HZZ := hide hz
  clear hz hov hr1 hb1 HCL hrm
  go_wp2_with (refine wpList_make_full _ rfl (.tmp 27) (.tmp 27) 37 rfl (w1.heap.size + 1) 3 i0 (.int .i64 0) 1 Tryd.underlying37 (unhide HI) (unhide HZ0) (unhide HZ1) .i64 .i64 _ _ V rfl rfl rfl rfl hzb ?m1 ?m2 ?_)
  case m1 => unfold maxLen; omega
  case m2 => simp
  intro w4 hown4 hg4
  rw [toList_madeCells_one] at hown4
  have hsX : ((w1.setCell ⟨gR, outer, none⟩ (.int .i64 (z + 2))).alloc (.cells #[.slice aa H ac, .slice ca V cc, .slice (some ⟨gR, 0, none⟩) K rc, .slice none 0 0] 89)).heap.size = w1.heap.size + 1 := by simp
  have hbX := at_new (w1.setCell ⟨gR, outer, none⟩ (.int .i64 (z + 2))) #[.slice aa H ac, .slice ca V cc, .slice (some ⟨gR, 0, none⟩) K rc, .slice none 0 0] 89
  rw [show (w1.setCell ⟨gR, outer, none⟩ (.int .i64 (z + 2))).heap.size = w1.heap.size by simp] at hbX
  have hrX : RowZ ((w1.setCell ⟨gR, outer, none⟩ (.int .i64 (z + 2))).alloc (.cells #[.slice aa H ac, .slice ca V cc, .slice (some ⟨gR, 0, none⟩) K rc, .slice none 0 0] 89)) gR K (upd rm0 outer (z + 2)) := Row.below (RowZ.set (unhide HR1) outer (z + 2)) (b_al _)
  have hblX : Below w.heap.size w ((w1.setCell ⟨gR, outer, none⟩ (.int .i64 (z + 2))).alloc (.cells #[.slice aa H ac, .slice ca V cc, .slice (some ⟨gR, 0, none⟩) K rc, .slice none 0 0] 89)) := ((unhide HB1).setCell (p := ⟨gR, outer, none⟩) hgR _).trans ((b_al _).mono (by simp; omega))
  obtain ⟨wX, hwX⟩ : ∃ wX, (w1.setCell ⟨gR, outer, none⟩ (.int .i64 (z + 2))).alloc (.cells #[.slice aa H ac, .slice ca V cc, .slice (some ⟨gR, 0, none⟩) K rc, .slice none 0 0] 89) = wX := ⟨_, rfl⟩
  rw [hwX] at hsX hbX hrX hblX hg4
  have hb4 : Below wX.heap.size wX w4 := ⟨hg4.os, hg4.tape, hg4.output, hg4.size, fun k hk => hg4.block k hk (by simp)⟩
  have hbx4 : w4.heap[w1.heap.size]? = some (.cells #[.slice aa H ac, .slice ca V cc, .slice (some ⟨gR, 0, none⟩) K rc, .slice none 0 0] 89 (0, 0)) := by rw [hb4.block _ (by omega)]; exact hbX
  have hg4r : RowZ w4 (w1.heap.size + 1) V (fun _ => 0) := Row.of_owns hown4
  have hs4 := hg4r.lt
  obtain ⟨gG, hgG⟩ : ∃ g, w1.heap.size + 1 = g := ⟨_, rfl⟩
  rw [hgG] at hg4r hs4 ⊢
  have hSG : w1.heap.size ≠ gG := by omega
  have hRG : gR ≠ gG := by omega
  have hSR : w1.heap.size ≠ gR := by omega
  have hwG : w.heap.size ≤ gG := by omega
  have hwS : w.heap.size ≤ w1.heap.size := by omega
  obtain ⟨gS, hgS⟩ : ∃ g, w1.heap.size = g := ⟨_, rfl⟩
  rw [hgS] at hbx4 hSG hSR hwS ⊢
  have HF5 := hide (show Fx w (w4.setCell ⟨gS, 3, none⟩ (.slice (some ⟨gG, 0, none⟩) V V)) gS gR gG aa H ac ca V cc K rc (fun t => if t < 0 then -1 else 0) (upd rm0 outer (z + 2)) from
    ⟨(hblX.trans (hb4.mono (hblX.size))).setCell (p := ⟨gS, 3, none⟩) hwS _, box_set3 hbx4, (hrX.below hb4).keep (Below.heap_setCell _ _ _ _ hSR.symm), (hg4r.keep (Below.heap_setCell _ _ _ _ hSG.symm)).congr fun t ht => by simp⟩)
  have q1 := (box4 hbx4).2.2.2
  have q2 := box_fz hbx4 3
  have q3 : (w4.setCell ⟨gS, 3, none⟩ (.slice (some ⟨gG, 0, none⟩) V V)).cell? ⟨gS, 3, none⟩ = some (.slice (some ⟨gG, 0, none⟩) V V) := (unhide HF5).cells.2.2.2
  have HCAP := hide (show ∀ f, f < K → upd rm0 outer (z + 2) f = capF rm0 outer f from fun f hf => by
    unfold capF upd
    by_cases e : f = outer
    · rw [if_pos e, if_pos e, e, unhide HZZ]
    · rw [if_neg e, if_neg e, Int.add_zero])
  clear hbx4 hg4r hs4 hgG hgS hsX hbX hrX hblX hwX hg4 hown4 hb4 r0 rf hne HR1 hgl hs1 HB1
  go_wp2_with fail
  clear q1 q2 q3
  go_loopw [33] (fun i wr => ∃ (k : Nat), i = .int .i64 k ∧ k ≤ V ∧ Hid (Fx w wr gS gR gG aa H ac ca V cc K rc (fun t => if t < k then -1 else 0) (upd rm0 outer (z + 2)))) (fun i wr => V - (intOf i).toNat)
  case atStart => exact ⟨0, rfl, by omega, HF5⟩
  case round =>
    clear HF5
    obtain ⟨k, rfl, hk, HFX⟩ := hrel
    obtain ⟨b0, b1, b2, b3⟩ := (unhide HFX).cells
    by_cases hkV : k < V
    · have hkV2 : (k : Int) < (V : Int) := by omega
      have r0 : wr.cell? ⟨gG, k, none⟩ = some (.int .i64 0) := by rw [(unhide HFX).great.cell hkV]; simp
      have rf := (unhide HFX).great.fz k
      have HF2 := hide (show Fx w (wr.setCell ⟨gG, k, none⟩ (.int .i64 (-1))) gS gR gG aa H ac ca V cc K rc (fun t => if t < k + 1 then -1 else 0) (upd rm0 outer (z + 2)) from ((unhide HFX).setG hwG hSG hRG k (-1)).congr fun t ht => by
        unfold upd
        by_cases e : t = k
        · subst e; rw [if_pos rfl, if_pos (by omega)]
        · rw [if_neg e]
          dsimp only
          by_cases e2 : t < k
          · rw [if_pos e2, if_pos (by omega)]
          · rw [if_neg e2, if_neg (by omega)])
      clear b0 b1 b2
      go_wp2_with fail
      go_roundw
      case rel => exact ⟨k + 1, by go_num, by omega, HF2⟩
      case measure => simp [intOf]; omega
    · obtain rfl : k = V := by omega
      have HIV := hide (show Iv (fun h => A h 2) ch k K (capF rm0 outer) 0 (fun t => if t < k then -1 else 0) (upd rm0 outer (z + 2)) from
        ⟨fun y hy => by omega, fun y _ hy => if_pos hy, fun f hf => by
          rw [unhide HCAP f hf]
          have := unhide HRM f hf
          unfold capF
          split <;> omega, fun y hy => .inl (if_pos hy), fun f hf => by rw [unhide HCAP f hf, occ_none k (fun y hy => if_pos hy), Int.add_zero]⟩)
      clear b0 b1 b2 b3
      rename World => w6
      go_wp2_with fail
      go_loopw [43] (fun i wr => ∃ (x : Nat) (gr rm : Nat → Int), i = .int .i64 x ∧ x ≤ k ∧ Hid (Fx w wr gS gR gG aa H ac ca k cc K rc gr rm) ∧ Hid (Iv (fun h => A h 2) ch k K (capF rm0 outer) x gr rm)) (fun i wr => k - (intOf i).toNat)
      case atStart => exact ⟨0, _, _, rfl, by omega, HFX, HIV⟩
      case round =>
        clear HFX HIV
        obtain ⟨x, gr, rm, rfl, hx, HFX, HIV⟩ := hrel
        by_cases hxV : x < k
        · have hxV2 : (x : Int) < (k : Int) := by omega
          obtain ⟨gc, oc, la, lc, hca, hgc, c0, hlc, _⟩ := (unhide HCH) x hxV
          subst hca
          have d0 : wr.cell? ⟨gc, oc + x, none⟩ = some (.slice la (ch x).length lc) := by rw [(unhide HFX).bel.cell (p := ⟨gc, oc + x, none⟩) hgc]; exact c0
          by_cases hem : ch x = []
          · have HIV2 := hide ((unhide HIV).skip hem)
            rw [hem] at d0
            have d0' : wr.cell? ⟨gc, oc + x, none⟩ = some (.slice la 0 lc) := d0
            clear d0 c0 hlc hem
            go_wp2_with fail
            go_roundw
            case rel => exact ⟨x + 1, gr, rm, by go_num, by omega, HFX, HIV2⟩
            case measure => simp [intOf]; omega
          · obtain ⟨len, hlen⟩ : ∃ l, (ch x).length = l := ⟨_, rfl⟩
            rw [hlen] at d0
            have hl0 : 0 < len := by rw [← hlen]; exact List.length_pos_iff.2 hem
            have hl1 : (0 : Int) < (len : Int) := by omega
            have hl2 : ¬ (len : Int) ≤ 0 := by omega
            have HEM := hide hem
            clear c0 hlc hem hlen
            go_wp2_with (refine wpList_make_full_g _ (by rfl) (.tmp 54) (.tmp 54) 42 rfl wr.heap.size 4 j0 (.bool false) 1 Tryd.underlying42 (unhide HJ) (unhide HY0) (unhide HY1) .i64 .i64 _ _ K rfl rfl rfl rfl hyb ?m1 (Nat.le_refl _) ?_)
            case m1 => unfold maxLen; omega
            intro w7 hown7 hg7
            rw [toList_madeCells_one] at hown7
            have hb7 : Below wr.heap.size wr w7 := ⟨hg7.os, hg7.tape, hg7.output, hg7.size, fun k hk => hg7.block k hk (by simp)⟩
            have ht7 : pt.RowB w7 wr.heap.size K (fun _ => false) := pt.Row.of_owns hown7
            obtain ⟨l1, l2, l3⟩ : gS < wr.heap.size ∧ gR < wr.heap.size ∧ gG < wr.heap.size := ⟨(Array.getElem?_eq_some_iff.1 (unhide HFX).box).1, (unhide HFX).room.lt, (unhide HFX).great.lt⟩
            have hsw := (unhide HFX).bel.size
            have HSC := hide (seat_any (tc := K) (⟨unhide HA, unhide HCH, hwS, hgR, hwG, hsw, hSR, hSG, by omega, hRG, by omega, by omega, unhide HLT, unhide HA0, unhide HA2, hV, hK, h256⟩ : Cx w gS gR gG wr.heap.size aa H (some ⟨gc, oc, none⟩) k K A ch) (ac := ac) (cc := cc) (rc := rc) (gc := k) (un (fun _ => false) K) w7 gr rm (fun _ => false) x (((unhide HFX).step hb7).st ht7) ⟨fun f hf => ⟨(unhide HIV).pos f hf, by
              have h1 := (unhide HIV).le hf
              have h2 := unhide HRM f hf
              unfold capF at h1
              split at h1 <;> omega⟩, (unhide HIV).val⟩ hxV (Nat.le_refl _) (.inl ((unhide HIV).not x (Nat.le_refl _) hxV)))
            clear hown7 hg7 hb7 ht7 l1 l2 l3
            go_wp2_with fail
            refine (unhide HSC).mono ?_
            rintro e w8 hans
            obtain ⟨b, rfl, hbb, hfr⟩ := seat_ans hans
            have HANS := hide hbb
            clear hans hbb hfr HSC d0
            cases b with
            | false =>
              obtain ⟨HNO, HBF⟩ : Hid (¬ Fits (fun h => A h 2) ch k K (capF rm0 outer)) ∧ Hid (Below w.heap.size w w8) := by
                rcases unhide HANS with ⟨_, T', h1, h2⟩ | ⟨h, _⟩
                · exact ⟨(unhide HIV).no hxV (unhide HEM) (fun y hy a ha => unhide HA2 a (unhide HLT y hy a ha)) h2, h1.bel⟩
                · cases h
              clear HANS
              go_wp2_with fail
              go_ret2
              exact ⟨.inr ⟨rfl, unhide HNO⟩, unhide HBF⟩
            | true =>
              obtain ⟨gr', rm', HF8, HI8⟩ : ∃ gr' rm', Hid (Fx w w8 gS gR gG aa H ac (some ⟨gc, oc, none⟩) k cc K rc gr' rm') ∧ Hid (Iv (fun h => A h 2) ch k K (capF rm0 outer) (x + 1) gr' rm') := by
                rcases unhide HANS with ⟨h, _⟩ | ⟨_, gr', rm', T', h1, h2⟩
                · cases h
                · exact ⟨gr', rm', h1.fx, (unhide HIV).next hxV (unhide HEM) h2⟩
              clear HANS
              go_wp2_with fail
              go_roundw
              case rel => exact ⟨x + 1, gr', rm', by go_num, by omega, HF8, HI8⟩
              case measure => simp [intOf]; omega
        · obtain rfl : x = k := by omega
          obtain ⟨b0, b1, b2, b3⟩ := (unhide HFX).cells
          have HD := hide (unhide HIV).done
          clear b0 b1 b2
          go_wp2_with fail
          go_ret2
          exact ⟨.inl ⟨gG, x, gr, rfl, hwG, (unhide HFX).great, (unhide HD).1, (unhide HD).2⟩, (unhide HFX).bel⟩
end Go.Proofs.YtefagplbpbkpgaaDoor
/-
  The contract of the program's innerRoom. Conditions: the angles lie in memory as told.
-/
namespace Go.Proofs.YtefagplbpbkpgaaDoor
open Go.RowKit
set_option linter.unusedVariables false
set_option maxRecDepth 20000
/-- how many of the first k angles are High, in a face -/
def hc (A : Nat → Nat → Nat) (k f : Nat) : Nat := ((List.range k).filter fun t => decide (A t 3 = 2 ∧ A t 2 = f)).length
theorem hc_succ (A : Nat → Nat → Nat) (k f : Nat) : hc A (k + 1) f = hc A k f + if A k 3 = 2 ∧ A k 2 = f then 1 else 0 := by
  unfold hc
  rw [List.range_succ, List.filter_append, List.length_append]
  congr 1
  by_cases h : A k 3 = 2 ∧ A k 2 = f
  · rw [if_pos h, List.filter_cons, if_pos (decide_eq_true h)]
    rfl
  · rw [if_neg h, List.filter_cons, if_neg (by rw [decide_eq_true_iff]; exact h)]
    rfl
theorem hc_le (A : Nat → Nat → Nat) (k f : Nat) : hc A k f ≤ k := Nat.le_trans (List.length_filter_le _ _) (by simp)
def rmF (A : Nat → Nat → Nat) (k f : Nat) : Int := (hc A k f : Int) - 1
set_option maxHeartbeats 4000000 in
theorem inner_any (w : World) (a : Option Addr) (H cap : Nat) (A : Nat → Nat → Nat) (h : As w a H A) (K : Nat) (hK : K ≤ 256) (hlt : ∀ t, t < H → A t 2 < K) (h3 : ∀ t, t < H → A t 3 < 3) :
    Calls Tryd.prog 31 #[.slice a H cap, .int .i64 (K : Nat)] w fun e w' => (∃ g, e = .returned (.slice (some ⟨g, 0, none⟩) K K) ∧ w.heap.size ≤ g ∧ RowZ w' g K (rmF A H)) ∧ Below w.heap.size w w' := by
  have hH := h.1
  have HA := hide h
  have HLT := hide hlt
  have H3 := hide h3
  obtain ⟨i0, hi0, hz0, hz1, hz2⟩ := info_parts info3
  have HI := hide hi0
  have HZ0 := hide hz0
  have HZ1 := hide hz1
  have hzb : i0.bytes * K ≤ 281474976710656 := by rw [hz2]; omega
  clear hi0 hz0 hz1 hz2 h hlt h3
  go_enter Tryd.func31, Tryd.ntmps31
  go_wp2_with (refine wpList_make_full _ rfl (.tmp 9) (.tmp 9) 37 rfl w.heap.size 3 i0 (.int .i64 0) 1 Tryd.underlying37 (unhide HI) (unhide HZ0) (unhide HZ1) .i64 .i64 _ _ K rfl rfl rfl rfl hzb ?m1 ?m2 ?_)
  case m1 => unfold maxLen; omega
  case m2 => simp
  intro w1 hown1 hg1
  rw [toList_madeCells_one] at hown1
  have hb1 : Below w.heap.size w w1 := ⟨hg1.os, hg1.tape, hg1.output, hg1.size, fun k hk => hg1.block k hk (by simp)⟩
  have HB1 := hide hb1
  obtain ⟨g, hg⟩ : ∃ g, w.heap.size = g := ⟨_, rfl⟩
  have HR1 := hide (show RowZ w1 g K (fun t => if t < 0 then -1 else 0) by rw [← hg]; exact (Row.of_owns hown1).congr fun t ht => by simp)
  have hgs : g < w1.heap.size := (unhide HR1).lt
  have HGW := hide hg
  rw [hg]
  have HBu := hide (But.refl g w1)
  have HFAR := hide (fun (u : World) (hu : But g w1 u) (t : Nat) (ht : t < H) => show ∃ g' off, a = some ⟨g', off, none⟩ ∧ g' < u.heap.size ∧ u.cell? ⟨g', off + t * 4, none⟩ = some (.int .i64 (A t 0 : Nat)) ∧ u.cell? ⟨g', off + t * 4 + 1, none⟩ = some (.int .i64 (A t 1 : Nat)) ∧ u.cell? ⟨g', off + t * 4 + 2, none⟩ = some (.int .i64 (A t 2 : Nat)) ∧ u.cell? ⟨g', off + t * 4 + 3, none⟩ = some (.int .i64 (A t 3 : Nat)) from by
    obtain ⟨g', off, ha, hg', c0, c1, c2, c3⟩ := (unhide HA).2 t ht
    have hb : Below w.heap.size w u := (unhide HB1).trans (by rw [hg]; exact hu.bel)
    exact ⟨g', off, ha, Nat.lt_of_lt_of_le hg' hb.size, by rw [hb.cell (p := ⟨g', off + t * 4, none⟩) hg']; exact c0, by rw [hb.cell (p := ⟨g', off + t * 4 + 1, none⟩) hg']; exact c1, by rw [hb.cell (p := ⟨g', off + t * 4 + 2, none⟩) hg']; exact c2, by rw [hb.cell (p := ⟨g', off + t * 4 + 3, none⟩) hg']; exact c3⟩)
  have HBF := hide (fun (u : World) (hu : But g w1 u) => show Below w.heap.size w u from (unhide HB1).trans (by rw [hg]; exact hu.bel))
  clear hown1 hg1 hb1 hg HA
  go_wp2_with fail
  go_loopw [13] (fun i wr => ∃ (k : Nat), i = .int .i64 k ∧ k ≤ K ∧ Hid (RowZ wr g K (fun t => if t < k then -1 else 0)) ∧ Hid (But g w1 wr)) (fun i wr => K - (intOf i).toNat)
  case atStart => exact ⟨0, rfl, by omega, HR1, HBu⟩
  case round =>
    clear HR1 HBu
    obtain ⟨k, rfl, hk, HRow, HB⟩ := hrel
    by_cases hkK : k < K
    · have hkK2 : (k : Int) < (K : Int) := by omega
      have r0 := (unhide HRow).cell hkK
      have r1 := (unhide HRow).fz k
      have HR2 := hide (show RowZ (wr.setCell ⟨g, k, none⟩ (.int .i64 (-1))) g K (fun t => if t < k + 1 then -1 else 0) from (RowZ.set (unhide HRow) k (-1)).congr fun t ht => by
        unfold upd
        dsimp only
        by_cases e : t = k
        · subst e; rw [if_pos rfl, if_pos (by omega)]
        · rw [if_neg e]
          by_cases e2 : t < k
          · rw [if_pos e2, if_pos (by omega)]
          · rw [if_neg e2, if_neg (by omega)])
      have HB2 := hide ((unhide HB).trans (But.set k (.int .i64 (-1))))
      have r0' : wr.cell? ⟨g, k, none⟩ = some (.int .i64 0) := by rw [r0]; simp
      clear r0
      go_wp2_with fail
      go_roundw
      case rel => exact ⟨k + 1, by go_num, by omega, HR2, HB2⟩
      case measure => simp [intOf]; omega
    · obtain rfl : k = K := by omega
      have HR3 := hide (show RowZ wr g k (rmF A 0) from Row.congr (unhide HRow) fun t ht => by dsimp only; rw [if_pos ht]; rfl)
      clear HRow
      rename World => w3
      have HB3 := HB
      clear HB
      obtain ⟨K', hK'⟩ : ∃ K', k = K' := ⟨_, rfl⟩
      subst hK'
      go_wp2_with fail
      go_loopw [22] (fun i wr => ∃ (j : Nat), i = .int .i64 j ∧ j ≤ H ∧ Hid (RowZ wr g k (rmF A j)) ∧ Hid (But g w1 wr)) (fun i wr => H - (intOf i).toNat)
      case atStart => exact ⟨0, rfl, by omega, HR3, HB3⟩
      case round =>
        clear HR3 HB3
        obtain ⟨j, rfl, hj, HRow, HB⟩ := hrel
        by_cases hjH : j < H
        · have hjH2 : (j : Int) < (H : Int) := by omega
          obtain ⟨ga, oa, ha, hga, c0, c1, c2, c3⟩ := unhide HFAR wr (unhide HB) j hjH
          subst ha
          have hx := unhide HLT j hjH
          have hx3 := unhide H3 j hjH
          have hgw := (unhide HRow).lt
          have hne : ¬ g = wr.heap.size := by omega
          have hle := hc_le A j
          have HPS := hide (hc_succ A j)
          obtain ⟨a0, ha0⟩ : ∃ z, A j 0 = z := ⟨_, rfl⟩
          obtain ⟨a1, ha1⟩ : ∃ z, A j 1 = z := ⟨_, rfl⟩
          obtain ⟨a2, ha2⟩ : ∃ z, A j 2 = z := ⟨_, rfl⟩
          obtain ⟨a3, ha3⟩ : ∃ z, A j 3 = z := ⟨_, rfl⟩
          rw [ha0] at c0
          rw [ha1] at c1
          rw [ha2] at c2 hx
          rw [ha3] at c3 hx3
          have HA2' := hide ha2
          have HA3' := hide ha3
          clear ha0 ha1 ha2 ha3
          have r0 := (unhide HRow).cell hx
          have r1 := (unhide HRow).fz a2
          obtain ⟨z, hz⟩ : ∃ z, rmF A j a2 = z := ⟨_, rfl⟩
          have hzb2 : -1 ≤ z ∧ z ≤ 256 := by have := hle a2; rw [← hz]; unfold rmF; omega
          rw [hz] at r0
          have HZ := hide hz
          have hW : IntKind.i64.wrap (z + 1) = z + 1 := by rw [IntKind.wrap_i64]; omega
          have HBA := hide (fun (o : Obj) => show But g w1 (wr.alloc o) from (unhide HB).trans (But.of ((Below.refl _ _).alloc (Nat.le_refl _) _) (by omega)))
          have HBA2 := hide (fun (o : Obj) => show But g w1 ((wr.setCell ⟨g, a2, none⟩ (.int .i64 (z + 1))).alloc o) from ((unhide HB).trans (But.set a2 (.int .i64 (z + 1)))).trans (But.of ((Below.refl _ _).alloc (Nat.le_refl _) _) (by simp; omega)))
          clear hz hle hzb2
          by_cases h2 : a3 = 2
          · subst h2
            have HRN := hide (fun (o : Obj) => show RowZ ((wr.setCell ⟨g, a2, none⟩ (.int .i64 (z + 1))).alloc o) g k (rmF A (j + 1)) from (Row.congr (RowZ.set (unhide HRow) a2 (z + 1)) fun t ht => by
              have := unhide HPS t
              rw [unhide HA2', unhide HA3'] at this
              unfold upd
              by_cases he : t = a2
              · subst he
                rw [if_pos rfl]
                rw [if_pos ⟨rfl, rfl⟩] at this
                have hz := unhide HZ
                unfold rmF at hz ⊢
                rw [this, ← hz]
                congr 1
                omega
              · rw [if_neg he]
                rw [if_neg (by rintro ⟨_, h⟩; exact he h.symm)] at this
                unfold rmF
                rw [this]
                rfl).below ((Below.refl _ _).alloc (Nat.le_refl _) _))
            go_wp2_with fail
            go_roundw
            case rel => exact ⟨j + 1, by go_num, by omega, hide (unhide HRN _), hide (unhide HBA2 _)⟩
            case measure => simp [intOf]; omega
          · have h2' : ((a3 : Nat) : Int) ≠ 2 := by omega
            have HRN := hide (fun (o : Obj) => show RowZ (wr.alloc o) g k (rmF A (j + 1)) from (Row.congr (unhide HRow) fun t ht => by
              have := unhide HPS t
              rw [unhide HA3', if_neg (by rintro ⟨h, _⟩; exact h2 h)] at this
              unfold rmF
              rw [this]
              rfl).below ((Below.refl _ _).alloc (Nat.le_refl _) _))
            go_wp2_with fail
            go_roundw
            case rel => exact ⟨j + 1, by go_num, by omega, hide (unhide HRN _), hide (unhide HBA _)⟩
            case measure => simp [intOf]; omega
        · obtain rfl : j = H := by omega
          have HF := hide (unhide HBF _ (unhide HB))
          go_wp2_with fail
          go_ret
          exact ⟨⟨g, rfl, Nat.le_of_eq (unhide HGW), unhide HRow⟩, unhide HF⟩
end Go.Proofs.YtefagplbpbkpgaaDoor
/-
  The contract of the program's choicesOf. Conditions: the graph and the angles lie in memory as told.
-/
namespace Go.Proofs.YtefagplbpbkpgaaDoor
open Go.RowKit
set_option linter.unusedVariables false
set_option maxRecDepth 20000
/-- a source, or a sink -/
def isEnd (es : List (Nat × Nat)) (x : Nat) : Bool := (Pl.ins es x).isEmpty || (Pl.outs es x).isEmpty
def chF (es : List (Nat × Nat)) (A : Nat → Nat → Nat) (H x : Nat) : List Nat := if isEnd es x = true then selA A x H else []
theorem info30 : (Tryd.prog.info? 30).map (fun i => (i.zero, i.size, i.bytes)) = some (some (.slice none 0 0), 1, 24) := by kernel_rfl
theorem mem_bare {L : Nat → List Nat} {V x : Nat} : x ∈ bare L V ↔ x < V ∧ (L x).isEmpty = true := by simp [bare]
theorem mem_toIs2 {l : List Nat} {x : Nat} : ((x : Nat) : Int) ∈ toIs l ↔ x ∈ l := by
  unfold toIs
  rw [List.mem_map]
  constructor
  · rintro ⟨y, hy, e⟩
    have : y = x := by omega
    rwa [← this]
  · intro h
    exact ⟨x, h, rfl⟩
theorem owns_slice2 {w : World} {base : Nat} {v : Value} {n : Nat} {xs : List Value} {e : TypeId} {k : Nat} (h : w.ownsRow base e k v n xs) : ∃ a c, v = .slice a n c ∧ (a = none → n = 0 ∧ c = 0) := by
  rcases h.2 with ⟨hv, h0⟩ | ⟨g, cap, cur, hv, _⟩
  · exact ⟨none, 0, by rw [hv, h0], fun _ => ⟨h0, rfl⟩⟩
  · exact ⟨_, cap, hv, fun h => by cases h⟩
set_option maxHeartbeats 16000000 in
theorem choices_any (w : World) (V : Nat) (a : Option Addr) (n cap : Nat) (es : List (Nat × Nat)) {B : Nat} (h : Es B w a n (toI es)) (hno : a = none → n = 0 ∧ cap = 0) (hne : es.length = n) (hp : Plain V es) (aa : Option Addr) (H ac : Nat) (A : Nat → Nat → Nat) (hA : As w aa H A) (hlt : ∀ t, t < H → A t 1 < V) :
    Calls Tryd.prog 30 #[.agg #[.int .i64 V, .slice a n cap], .slice aa H ac] w fun e w' => (∃ tg, e = .returned (.slice (some ⟨tg, 0, none⟩) V V) ∧ Chs w' (some ⟨tg, 0, none⟩) V A (chF es A H)) ∧ Below w.heap.size w w' := by
  have hV := hp.v64
  have hH := hA.1
  have HA := hide hA
  have HLT := hide hlt
  have HB0 := hide (Bg.start w (.int .i64 V) (.slice a n cap))
  have HV := hide (fun (u : World) (hu : Below w.heap.size w u) => show Calls Tryd.prog 47 #[.agg #[.int .i64 V, .slice a n cap]] u fun e w' => Viewed u w' V es e ∧ Below u.heap.size u w' from by
    have := of_good u V a cap es (by rw [hne]; exact h.below hu) (by rw [hne]; exact hno) hp
    rwa [hne] at this)
  obtain ⟨i0, hi0, hz0, hz1, hz2⟩ := info_parts info30
  have HI := hide hi0
  have HZ0 := hide hz0
  have HZ1 := hide hz1
  have hzb : i0.bytes * V ≤ 281474976710656 := by rw [hz2]; omega
  obtain ⟨j0, hj0, hy0, hy1, hy2⟩ := info_parts info35
  have HJ := hide hj0
  have HY0 := hide hy0
  have HY1 := hide hy1
  have HY2 := hide hy2
  clear hi0 hz0 hz1 hz2 hj0 hy0 hy1 hy2 h hno hne hA hlt hp
  obtain ⟨g0, g1⟩ := (unhide HB0).cells
  go_enter Tryd.func30, Tryd.ntmps30
  go_wp2_with (refine wpList_make_full _ rfl (.tmp 12) (.tmp 12) 56 rfl (w.heap.size + 1) 30 i0 (.slice none 0 0) 1 Tryd.underlying56 (unhide HI) (unhide HZ0) (unhide HZ1) .i64 .i64 _ _ V rfl rfl rfl rfl hzb ?m1 ?m2 ?_)
  case m1 => unfold maxLen; omega
  case m2 => simp
  intro w1 hown1 hg1
  rw [toList_madeCells_one] at hown1
  have hb1 : Below (w.alloc (.cells #[.int .i64 (V : Int), .slice a n cap] 24)).heap.size (w.alloc (.cells #[.int .i64 (V : Int), .slice a n cap] 24)) w1 := ⟨hg1.os, hg1.tape, hg1.output, hg1.size, fun k hk => hg1.block k hk (by simp)⟩
  obtain ⟨tg, htg⟩ : ∃ tg, w.heap.size + 1 = tg := ⟨_, rfl⟩
  have HC1 := hide (show Cr w w1 (.int .i64 (V : Int)) (.slice a n cap) V tg (fun _ => .slice none 0 0) A (fun x => selA A x 0) from ⟨(unhide HB0).step hb1, by omega, by rw [← htg]; exact Row.of_owns hown1, ⟨fun j hj => World.ownsRow_nil _ _ _ _, fun i j _ _ _ g hg => by simp [Value.ownBlock] at hg⟩⟩)
  have htw : w.heap.size < tg := by omega
  rw [htg]
  clear hown1 hg1 hb1 htg HB0 g0 g1 HI HZ0 HZ1 hzb
  go_wp2_with fail
  go_loopw [16] (fun i wr => ∃ (k : Nat) (R : Nat → Value), i = .int .i64 k ∧ k ≤ H ∧ Hid (Cr w wr (.int .i64 (V : Int)) (.slice a n cap) V tg R A (fun x => selA A x k))) (fun i wr => H - (intOf i).toNat)
  case atStart => exact ⟨0, _, rfl, by omega, HC1⟩
  case round =>
    clear HC1
    obtain ⟨k, R, rfl, hk, HC⟩ := hrel
    by_cases hkH : k < H
    · have hkH2 : (k : Int) < (H : Int) := by omega
      obtain ⟨ga, oa, ha, hga, c0, c1, c2, c3⟩ := ((unhide HA).below (unhide HC).bg.bel).2 k hkH
      subst ha
      have hx := unhide HLT k hkH
      obtain ⟨x, hxe⟩ : ∃ x, A k 1 = x := ⟨_, rfl⟩
      rw [hxe] at c1 hx
      have hxV2 : (x : Int) < (V : Int) := by omega
      have HX := hide hxe
      obtain ⟨rv, hrv⟩ : ∃ rv, R x = rv := ⟨_, rfl⟩
      have HRV := hide hrv
      obtain ⟨m, hm⟩ : ∃ m, (selA A x k).length = m := ⟨_, rfl⟩
      have hml := selA_len A x k
      rw [hm] at hml
      have HM := hide hm
      have HOWN := hide (show wr.ownsRow (w.heap.size + 1) 35 4 rv m (lcells A (selA A x k)) from by have := (unhide HC).rows.own x hx; rw [hrv] at this; simpa only [hm] using this)
      have hb63 : m + 1 ≤ maxLen := by unfold maxLen; omega
      have hbby : (m + 1) * 32 ≤ 140737488355328 := by omega
      have hbs := (unhide HC).bg.lt
      have htl := (unhide HC).tab.lt
      obtain ⟨a0, h0⟩ : ∃ z, A k 0 = z := ⟨_, rfl⟩
      obtain ⟨a2, h2⟩ : ∃ z, A k 2 = z := ⟨_, rfl⟩
      obtain ⟨a3, h3⟩ : ∃ z, A k 3 = z := ⟨_, rfl⟩
      rw [h0] at c0
      rw [h2] at c2
      rw [h3] at c3
      have HLC := hide (show lcells A (selA A x k ++ [k]) = lcells A (selA A x k) ++ [.int .i64 (a0 : Int), .int .i64 (x : Int), .int .i64 (a2 : Int), .int .i64 (a3 : Int)] by rw [lcells_snoc, h0, hxe, h2, h3])
      obtain ⟨wa, hwa⟩ : ∃ wa, wr.alloc (.cells #[.int .i64 (a0 : Int), .int .i64 (x : Int), .int .i64 (a2 : Int), .int .i64 (a3 : Int)] 35) = wa := ⟨_, rfl⟩
      obtain ⟨gb, hgb⟩ : ∃ gb, wr.heap.size = gb := ⟨_, rfl⟩
      have HBA := hide (show Below wr.heap.size wr wa by rw [← hwa]; exact b_al _)
      have HGA := hide (show wa.heap[gb]? = some (.cells #[.int .i64 (a0 : Int), .int .i64 (x : Int), .int .i64 (a2 : Int), .int .i64 (a3 : Int)] 35 (0, 0)) by rw [← hwa, ← hgb]; exact at_new _ _ _)
      have hgt : gb ≠ tg := by omega
      have HWA := hide hwa
      have HGB := hide hgb
      clear hrv hm hxe h0 h2 h3 hwa hgb
      go_wp2_with fail
      rw [unhide HGB, unhide HWA]
      have XG := hide (show wa.drew.heap[gb]? = _ from unhide HGA)
      have XB := hide (bto (unhide HBA) (b_dr (w := wa)))
      refine wp_region_held_drew (S := fun u => u.cell? ⟨gb, 0, none⟩ = some (.int .i64 (a0 : Int)) ∧ u.cell? ⟨gb, 1, none⟩ = some (.int .i64 (x : Int)) ∧ u.cell? ⟨gb, 2, none⟩ = some (.int .i64 (a2 : Int)) ∧ u.cell? ⟨gb, 3, none⟩ = some (.int .i64 (a3 : Int))) (by kernel_rfl) (box4 (unhide XG)) (fun hS => ?_)
      generalize wa.drew = wd at XG XB hS ⊢
      clear HBA HGA c0 c1 c2 c3 hga HWA
      refine wpAnyH_take (i := 0) (v := ?_) rfl (by kernel_rfl) (by kernel_rfl) (by kernel_rfl) (fun _ _ _ h => h) (Or.inl ⟨by rfl, ?_⟩) hS ?_
      rotate_left
      · intro u hu; (try dsimp only at hu); go_simp; try with_reducible rfl
      simp only [Act.put, List.getElem_toArray, List.getElem_cons_zero, List.setIfInBounds_toArray, List.set_cons_zero, List.set_cons_succ]
      refine wpAnyH_take (i := 1) (v := ?_) rfl (by kernel_rfl) (by kernel_rfl) (by kernel_rfl) (fun _ _ _ h => h) (Or.inl ⟨by rfl, ?_⟩) hS ?_
      rotate_left
      · intro u hu; (try dsimp only at hu); go_simp; try with_reducible rfl
      simp only [Act.put, List.getElem_toArray, List.getElem_cons_zero, List.getElem_cons_succ, List.setIfInBounds_toArray, List.set_cons_zero, List.set_cons_succ]
      refine wpAnyH_take (i := 2) (v := ?_) rfl (by kernel_rfl) (by kernel_rfl) (by kernel_rfl) (fun _ _ _ h => h) (Or.inl ⟨by rfl, ?_⟩) hS ?_
      rotate_left
      · intro u hu; (try dsimp only at hu); go_simp; try with_reducible rfl
      simp only [Act.put, List.getElem_toArray, List.getElem_cons_zero, List.getElem_cons_succ, List.setIfInBounds_toArray, List.set_cons_zero, List.set_cons_succ]
      refine wpAnyH_take (i := 3) (v := ?_) rfl (by kernel_rfl) (by kernel_rfl) (by kernel_rfl) (fun _ _ _ h => h) (Or.inl ⟨by rfl, ?_⟩) hS ?_
      rotate_left
      · intro u hu; (try dsimp only at hu); go_simp; try with_reducible rfl
      simp only [Act.put, List.getElem_toArray, List.getElem_cons_zero, List.getElem_cons_succ, List.setIfInBounds_toArray, List.set_cons_zero, List.set_cons_succ]
      refine wpAnyH_take (i := 4) (v := ?_) rfl (by kernel_rfl) (by kernel_rfl) (by kernel_rfl) (fun _ _ _ h => h) (Or.inl ⟨by rfl, ?_⟩) hS ?_
      rotate_left
      · intro u hu; (try dsimp only at hu); go_simp; try with_reducible rfl
      simp only [Act.put, List.getElem_toArray, List.getElem_cons_zero, List.getElem_cons_succ, List.setIfInBounds_toArray, List.set_cons_zero, List.set_cons_succ]
      refine wpAnyH_take (i := 5) (v := ?_) rfl (by kernel_rfl) (by kernel_rfl) (by kernel_rfl) (fun _ _ _ h => h) (Or.inl ⟨by rfl, ?_⟩) hS ?_
      rotate_left
      · intro u hu; (try dsimp only at hu); go_simp; try with_reducible rfl
      simp only [Act.put, List.getElem_toArray, List.getElem_cons_zero, List.getElem_cons_succ, List.setIfInBounds_toArray, List.set_cons_zero, List.set_cons_succ]
      refine wpAnyH_take (i := 6) (v := ?_) rfl (by kernel_rfl) (by kernel_rfl) (by kernel_rfl) (fun _ _ _ h => h) (Or.inl ⟨by rfl, ?_⟩) hS ?_
      rotate_left
      · intro u hu; (try dsimp only at hu); go_simp; try with_reducible rfl
      simp only [Act.put, List.getElem_toArray, List.getElem_cons_zero, List.getElem_cons_succ, List.setIfInBounds_toArray, List.set_cons_zero, List.set_cons_succ]
      refine wpAnyH_take (i := 8) (v := ?_) rfl (by kernel_rfl) (by kernel_rfl) (by kernel_rfl) (fun _ _ _ h => h) (Or.inl ⟨by rfl, ?_⟩) hS ?_
      rotate_left
      · intro u hu; (try dsimp only at hu); go_simp; try with_reducible rfl
      simp only [Act.put, List.getElem_toArray, List.getElem_cons_zero, List.getElem_cons_succ, List.setIfInBounds_toArray, List.set_cons_zero, List.set_cons_succ]
      refine wpAnyH_ready (rs := [7, 9]) (by kernel_rfl) (by simp) ?_
      have hs3 := (unhide XB).size
      have hgb2 : gb < wd.heap.size := (Array.getElem?_eq_some_iff.1 (unhide XG)).1
      have n1 : ¬ gb = wd.heap.size := by omega
      have n2 : ¬ tg = wd.heap.size := by omega
      have t0 : wd.cell? ⟨tg, x, none⟩ = some rv := by rw [(unhide XB).cell (p := ⟨tg, x, none⟩) htl, ← unhide HRV]; exact (unhide HC).tab.cell hx
      have t0' : (wd.alloc (.cells #[.int .i64 (a0 : Int), .int .i64 (x : Int), .int .i64 (a2 : Int), .int .i64 (a3 : Int)] 35)).cell? ⟨tg, x, none⟩ = some rv := by rw [cell_old _ _ _ (show tg < wd.heap.size by omega)]; exact t0
      have tf := (Row.below (unhide HC).tab (unhide XB)).fz x
      have XN := hide (bto (unhide XB) (b_al (.cells #[.int .i64 (a0 : Int), .int .i64 (x : Int), .int .i64 (a2 : Int), .int .i64 (a3 : Int)] 35)))
      have HOW := hide (owns_below (unhide HOWN) (unhide XN))
      have HNW := hide (four_new wd (.int .i64 (a0 : Int)) (.int .i64 (x : Int)) (.int .i64 (a2 : Int)) (.int .i64 (a3 : Int)) 35)
      have hba : w.heap.size + 1 ≤ (wd.alloc (.cells #[.int .i64 (a0 : Int), .int .i64 (x : Int), .int .i64 (a2 : Int), .int .i64 (a3 : Int)] 35)).heap.size := by simp; omega
      have HBA := hide hba
      clear hba
      refine AllReadyH.cons rfl (fun K hK => ?_) (AllReadyH.cons rfl (fun K hK => ?_) AllReadyH.nil)
      all_goals go_simp
      all_goals refine hK.out _ _ (by first | exact hS | go_keep) (fun hH => ?_)
      all_goals clear hK K hS
      refine wpAnyH_ready (rs := [9]) (by kernel_rfl) (by simp) ?_
      rotate_left
      refine wpAnyH_ready (rs := [7]) (by kernel_rfl) (by simp) ?_
      all_goals
        refine AllReadyH.cons rfl (fun K hK => ?_) AllReadyH.nil
        go_simp
        refine hK.out _ _ (by first | exact hH | go_keep) (fun hS0 => ?_)
        clear hK K hH
        refine wpAnyH_ready (rs := [10]) (by kernel_rfl) (by simp) ?_
        refine AllReadyH.cons rfl (fun K hK => ?_) AllReadyH.nil
        refine step_append_lies _ rfl (.tmp 27) (.tmp 29) 30 rfl (w.heap.size + 1) 35 j0 (.agg #[.int .i64 0, .int .i64 0, .int .i64 0, .int .i64 0]) 4 32 Tryd.underlying30 (unhide HJ) (unhide HY0) (unhide HY1) (unhide HY2) rfl (by decide) rv m (lcells A (selA A x k)) rfl (unhide HOW) ⟨wd.heap.size, 0, none⟩ 1 1 [.int .i64 (a0 : Int), .int .i64 (x : Int), .int .i64 (a2 : Int), .int .i64 (a3 : Int)] rfl rfl (unhide HNW) (one4 _ _ _ _) (by decide) hb63 hbby (unhide HBA) _ rfl ?_
        intro g2 cap2 w4 hown4 hg4 hat4 hlt4
        rw [← unhide HLC] at hown4
        have hob : rv.ownBlock ≠ some gb := fun e => by have := ((unhide HOWN).lt gb e).2; rw [unhide HGB] at this; omega
        have hot : rv.ownBlock ≠ some tg := by rw [← unhide HRV]; exact (unhide HC).ne hx
        have hG4 : w4.heap[gb]? = some (.cells #[.int .i64 (a0 : Int), .int .i64 (x : Int), .int .i64 (a2 : Int), .int .i64 (a3 : Int)] 35 (0, 0)) := by
          rw [hg4.block gb (by simp; omega) (fun e => hob e.symm), Below.heap_alloc _ _ _ hgb2]; exact unhide XG
        have hT4 : Row w4 tg 30 V R := ((unhide HC).more (unhide XN)).tab.keep (hg4.block tg (by simp; omega) (fun e => hot e.symm))
        have HC4 := hide (show Cr w (w4.setCell ⟨tg, x, none⟩ (.slice (some ⟨g2, 0, none⟩) (m + 1) cap2)) (.int .i64 (V : Int)) (.slice a n cap) V tg (upd R x (.slice (some ⟨g2, 0, none⟩) (m + 1) cap2)) A (fun x => selA A x (k + 1)) from by
          have := (unhide HC).push (k := k) hx (unhide XN) (by rw [unhide HRV]; exact hg4) (by simp only [unhide HM]; exact hown4) (by rw [unhide HRV]; rcases hat4 with e | e; exact .inl e.symm; exact .inr (by rw [e]; rfl))
          rwa [selA_upd A (unhide HX)] at this)
        refine hK.out _ _ (box4 hG4) (fun hS1 => ?_)
        clear hK K hown4 hg4 hat4 hlt4 hS0
        refine wpAnyH_take (i := 11) (v := ?_) rfl (by kernel_rfl) (by kernel_rfl) (by kernel_rfl) (fun _ _ _ h => h) (Or.inl ⟨by rfl, ?_⟩) hS1 ?_
        rotate_left
        · intro u hu; (try dsimp only at hu); go_simp; try with_reducible rfl
        simp only [Act.put, List.getElem_toArray, List.getElem_cons_zero, List.getElem_cons_succ, List.setIfInBounds_toArray, List.set_cons_zero, List.set_cons_succ]
        refine wpAnyH_ready (rs := [12]) (by kernel_rfl) (by simp) ?_
        refine AllReadyH.cons rfl (fun K hK => ?_) AllReadyH.nil
        have q1 := hT4.fz x
        have q2 := hT4.cell hx
        go_simp
        refine hK.out _ _ (box4 (show (w4.setCell ⟨tg, x, none⟩ (.slice (some ⟨g2, 0, none⟩) (m + 1) cap2)).heap[gb]? = _ from (Below.heap_setCell _ _ _ _ hgt).trans hG4)) (fun hS2 => ?_)
        clear hK K hS1 hS2 q1 q2 hG4 hT4 hob hot t0 t0' tf
        refine wpAnyH_done (by kernel_rfl) ?_ _
        go_wp2_with fail
        go_roundw
        case rel => exact ⟨k + 1, _, by go_num, by omega, HC4⟩
        case measure => simp [intOf]; omega
    · obtain rfl : k = H := by omega
      obtain ⟨g0, g1⟩ := (unhide HC).bg.cells
      rename World => w2
      go_wp2_with fail
      refine (unhide HV _ (unhide HC).bg.bel).mono ?_
      rintro e w3 ⟨⟨b, ea, ec, oa, oc, ia, ic, va, vc, rfl, hb, hvs⟩, hb3⟩
      have HC3 := hide ((unhide HC).more hb3)
      have HVW := hide (hvs w3 (Nat.le_refl _) (fun i _ _ => rfl))
      clear hb hvs hb3 HC g0 g1
      go_wp2_with fail
      refine (sources_any w3 b V es ea ec oa oc ia ic va vc _ (unhide HVW) hV).mono ?_
      rintro e w4 ⟨⟨v4, rfl, ho4⟩, hb4⟩
      have HC4 := hide ((unhide HC3).more hb4)
      have HVW4 := hide ((unhide HVW).below hb4)
      have HO4 := hide ho4
      clear hb4 ho4 HC3 HVW
      go_wp2_with fail
      refine (sinks_any w4 b V es ea ec oa oc ia ic va vc _ (unhide HVW4) hV).mono ?_
      rintro e w5 ⟨⟨v5, rfl, ho5⟩, hb5⟩
      have HC5 := hide ((unhide HC4).more hb5)
      have HO45 := hide (owns_below (unhide HO4) hb5)
      have HO5 := hide ho5
      clear hb5 ho5 HC4 HVW4 HO4
      obtain ⟨s1, sc1, rfl, hn1⟩ := owns_slice2 (unhide HO45)
      obtain ⟨s2, sc2, rfl, hn2⟩ := owns_slice2 (unhide HO5)
      have hl1 := bare_len (Pl.ins es) V
      have hl2 := bare_len (Pl.outs es) V
      have HN1 := hide hn1
      have HN2 := hide hn2
      have HBI := hide (show ∀ x : Nat, ((x : Int) ∈ toIs (bare (Pl.ins es) V) ++ toIs (bare (Pl.outs es) V)) ↔ x < V ∧ isEnd es x = true from fun x => by
        rw [List.mem_append, mem_toIs2, mem_toIs2, mem_bare, mem_bare]
        unfold isEnd
        rw [Bool.or_eq_true]
        constructor
        · rintro (⟨h1, h2⟩ | ⟨h1, h2⟩)
          · exact ⟨h1, .inl h2⟩
          · exact ⟨h1, .inr h2⟩
        · rintro ⟨h1, h2 | h2⟩
          · exact .inl ⟨h1, h2⟩
          · exact .inr ⟨h1, h2⟩)
      obtain ⟨xs, hxs⟩ : ∃ l, toIs (bare (Pl.ins es) V) = l := ⟨_, rfl⟩
      obtain ⟨ys, hys⟩ : ∃ l, toIs (bare (Pl.outs es) V) = l := ⟨_, rfl⟩
      obtain ⟨m1, hm1⟩ : ∃ l, (bare (Pl.ins es) V).length = l := ⟨_, rfl⟩
      obtain ⟨m2, hm2⟩ : ∃ l, (bare (Pl.outs es) V).length = l := ⟨_, rfl⟩
      rw [hxs, hys] at HBI
      rw [hm1] at hl1 hn1 HN1
      rw [hm2] at hl2 hn2 HN2
      rw [hxs, hm1] at HO45
      rw [hys, hm2] at HO5
      rw [hm1, hm2]
      clear hxs hys hm1 hm2 hn1 hn2
      go_wp2_with fail
      obtain ⟨wq, hwq⟩ : ∃ wq, w5.alloc (.cells #[.slice s1 m1 sc1, .slice s2 m2 sc2] 37) = wq := ⟨_, rfl⟩
      have HCq := hide (show Cr w wq (.int .i64 (V : Int)) (.slice a n cap) V tg R A (fun x => selA A x k) by rw [← hwq]; exact (unhide HC5).more (b_al _))
      have hq := at_new w5 #[.slice s1 m1 sc1, .slice s2 m2 sc2] 37
      rw [hwq] at hq
      have hsq : w5.heap.size < wq.heap.size := by rw [← hwq]; simp
      have hbq : Below w5.heap.size w5 wq := by rw [← hwq]; exact b_al _
      have HNS1 := hide (ns_of_owns (owns_below (unhide HO45) hbq) (by omega))
      have HNS2 := hide (ns_of_owns (owns_below (unhide HO5) hbq) (by omega))
      have HCC := hide (show Calls Tryd.prog 53 #[.slice (some ⟨w5.heap.size, 0, none⟩) 2 2] wq fun e w' => (∃ v, e = .returned v ∧ w'.ownsRow wq.heap.size 3 1 v (m1 + m2) (zcells (xs ++ ys))) ∧ Below wq.heap.size wq w' from by
        obtain ⟨a1, c1, e1, _, n1⟩ := unhide HNS1
        obtain ⟨a2, c2, e2, _, n2⟩ := unhide HNS2
        cases e1
        cases e2
        exact concat_any wq w5.heap.size 2 s1 s2 m1 sc1 m2 sc2 xs ys (by simp only [World.cell?, hq]; rfl) (by simp only [World.cell?, hq]; rfl) hsq n1 n2 (unhide HN1) (unhide HN2) (by omega) (by omega))
      rw [hwq]
      clear hwq hq hsq hbq HNS1 HNS2 HO45 HO5 HC5 HN1 HN2
      refine (unhide HCC).mono ?_
      rintro e w6 ⟨⟨v6, rfl, ho6⟩, hb6⟩
      have HC6 := hide ((unhide HCq).more hb6)
      have HO6 := hide ho6
      have htq := (unhide HCq).tab.lt
      obtain ⟨e1, ec1, rfl, _, _⟩ := ns_of_owns ho6 (by omega)
      have hb0 : tg < wq.heap.size := htq
      clear hb6 ho6 HCC HCq
      have HCL := hide (show Cr w w6 (.int .i64 (V : Int)) (.slice a n cap) V tg R A (fun x => if x < 0 then chF es A k x else selA A x k) from unhide HC6)
      have HBu := hide (But.refl tg w6)
      clear HC6
      go_wp2_with fail
      go_loopw [43] (fun i wr => ∃ (j : Nat) (R : Nat → Value), i = .int .i64 j ∧ j ≤ V ∧ Hid (Cr w wr (.int .i64 (V : Int)) (.slice a n cap) V tg R A (fun x => if x < j then chF es A k x else selA A x k)) ∧ Hid (But tg w6 wr)) (fun i wr => V - (intOf i).toNat)
      case atStart => exact ⟨0, R, rfl, by omega, HCL, HBu⟩
      case round =>
        clear HCL HBu
        obtain ⟨j, R, rfl, hj, HCL, HBu⟩ := hrel
        by_cases hjV : j < V
        · have hjV2 : (j : Int) < (V : Int) := by omega
          have HNS := hide (show Ns wr e1 (m1 + m2) (xs ++ ys) from by
            obtain ⟨a3, c3, e3, _, n3⟩ := ns_of_owns (owns_but (unhide HO6) (unhide HBu) hb0) (by omega)
            cases e3
            exact n3)
          have HCT := hide (contains_any wr e1 (m1 + m2) ec1 (xs ++ ys) (j : Int) (unhide HNS))
          obtain ⟨bb, hbb⟩ : ∃ bb, decide ((j : Int) ∈ xs ++ ys) = bb := ⟨_, rfl⟩
          rw [hbb] at HCT
          have t0 := (unhide HCL).tab.cell hjV
          have tf := (unhide HCL).tab.fz j
          clear HNS
          cases bb with
          | true =>
            have hend : isEnd es j = true := ((unhide HBI j).1 (of_decide_eq_true hbb)).2
            have HCN := hide (show Cr w wr (.int .i64 (V : Int)) (.slice a n cap) V tg R A (fun x => if x < j + 1 then chF es A k x else selA A x k) from by
              have e : (fun x => if x < j + 1 then chF es A k x else selA A x k) = fun x => if x < j then chF es A k x else selA A x k := by
                funext x
                by_cases h1 : x < j
                · rw [if_pos h1, if_pos (by omega)]
                · rw [if_neg h1]
                  by_cases h2 : x = j
                  · subst h2; rw [if_pos (by omega)]; unfold chF; rw [if_pos hend]
                  · rw [if_neg (by omega)]
              rw [e]; exact unhide HCL)
            clear hbb hend t0 tf
            go_wp2_with fail
            refine (unhide HCT).mono ?_
            rintro e w7 ⟨rfl, hw7⟩
            rw [hw7]
            clear hw7 w7
            go_wp2_with fail
            go_roundw
            case rel => exact ⟨j + 1, R, by go_num, by omega, HCN, HBu⟩
            case measure => simp [intOf]; omega
          | false =>
            have hend : ¬ isEnd es j = true := fun h => of_decide_eq_false hbb ((unhide HBI j).2 ⟨hjV, h⟩)
            have HCN := hide (show Cr w (wr.setCell ⟨tg, j, none⟩ (.slice none 0 0)) (.int .i64 (V : Int)) (.slice a n cap) V tg (upd R j (.slice none 0 0)) A (fun x => if x < j + 1 then chF es A k x else selA A x k) from by
              have := (unhide HCL).drop j
              have e : (fun x => if x < j + 1 then chF es A k x else selA A x k) = upd (fun x => if x < j then chF es A k x else selA A x k) j [] := by
                funext x
                unfold upd
                by_cases h2 : x = j
                · subst h2; rw [if_pos rfl, if_pos (by omega)]; unfold chF; rw [if_neg hend]
                · rw [if_neg h2]
                  dsimp only
                  by_cases h1 : x < j
                  · rw [if_pos h1, if_pos (by omega)]
                  · rw [if_neg h1, if_neg (by omega)]
              rw [e]; exact this)
            have HBN := hide ((unhide HBu).trans (But.set j (.slice none 0 0)))
            clear hbb hend
            go_wp2_with fail
            refine (unhide HCT).mono ?_
            rintro e w7 ⟨rfl, hw7⟩
            rw [hw7]
            clear hw7 w7
            go_wp2_with fail
            go_roundw
            case rel => exact ⟨j + 1, _, by go_num, by omega, HCN, HBN⟩
            case measure => simp [intOf]; omega
        · obtain rfl : j = V := by omega
          have HCH := hide (show Chs wr (some ⟨tg, 0, none⟩) j A (chF es A k) from fun y hy => by
            have := (unhide HCL).chs (fun y hy => by
              rw [if_pos hy]
              unfold chF
              split
              · have := selA_len A y k; omega
              · simp) y hy
            simpa only [hy, if_true] using this)
          have HBF := hide (unhide HCL).bg.bel
          go_wp2_with fail
          go_ret
          exact ⟨⟨tg, rfl, unhide HCH⟩, unhide HBF⟩
end Go.Proofs.YtefagplbpbkpgaaDoor
/-
  The contract of the program's Assign. Conditions: the graph and the lists lie in memory as told; the table of math/bits lies where it should.
-/
namespace Go.Proofs.YtefagplbpbkpgaaDoor
open Go.RowKit
set_option linter.unusedVariables false
set_option maxRecDepth 20000
def NoAns : Ending := .returned (.tuple #[.int .i64 0, .slice none 0 0, .bool false])
set_option maxHeartbeats 4000000 in
theorem assign_no (w : World) (V : Int) (a : Option Addr) (n cap : Nat) (ra : Option Addr) (m rc : Nat) (h : NoCan w V a n cap ra m rc) :
    Calls Tryd.prog 14 #[.agg #[.int .i64 V, .slice a n cap], .slice ra m rc] w fun e w' => e = NoAns ∧ Below w.heap.size w w' := by
  have HB0 := hide (Bg.start w (.int .i64 V) (.slice a n cap))
  have HC := hide h
  clear h
  obtain ⟨g0, g1⟩ := (unhide HB0).cells
  go_enter Tryd.func14, Tryd.ntmps14
  go_wp2_with fail
  refine (unhide HC _ (unhide HB0).bel).mono ?_
  rintro e w1 ⟨rfl, hb1⟩
  have HB1 := hide ((unhide HB0).step hb1)
  clear hb1 HB0 g0 g1 HC
  go_wp2_with fail
  go_ret3
  exact ⟨rfl, (unhide HB1).bel⟩
set_option maxHeartbeats 4000000 in
theorem assign_notbim (w : World) (V : Nat) (a : Option Addr) (n cap : Nat) (es : List (Nat × Nat)) (ra : Option Addr) (m rc : Nat) (q : List (List Nat)) (N : Nat → Nat) (c g : Nat) (h : Gd w V a n cap es ra m rc q N c g) (hn : Nice V es c g) (F : Nat → Nat) (hF : IsFc (facesF N (2 * n) (2 * n)) (2 * n) F) (hb : ¬ Bim (angI (pt.stV es) F N) (2 * n) V) :
    Calls Tryd.prog 14 #[.agg #[.int .i64 V, .slice a n cap], .slice ra m rc] w fun e w' => e = NoAns ∧ Below w.heap.size w w' := by
  have hn128 := h.n128
  have hv64 := h.plain.v64
  have HB0 := hide (Bg.start w (.int .i64 V) (.slice a n cap))
  have HC := hide (fun (u : World) (hu : Below w.heap.size w u) => (h.below hu).yesCan hn)
  have HA := hide (fun (u : World) (hu : Below w.heap.size w u) => (h.below hu).ang F hF)
  have HST := hide (fun (t : Nat) (ht : t < 2 * n) => h.st_lt ht)
  have HNB := hide hb
  clear h hn hF hb
  obtain ⟨g0, g1⟩ := (unhide HB0).cells
  go_enter Tryd.func14, Tryd.ntmps14
  go_wp2_with fail
  refine (unhide HC _ (unhide HB0).bel).mono ?_
  rintro e w1 ⟨rfl, hb1⟩
  have HB1 := hide ((unhide HB0).step hb1)
  clear hb1 HB0 g0 g1 HC
  obtain ⟨g0, g1⟩ := (unhide HB1).cells
  go_wp2_with fail
  refine (unhide HA _ (unhide HB1).bel).mono ?_
  rintro e w2 ⟨⟨ga, rfl, hga, hrow⟩, hb2⟩
  have HB2 := hide ((unhide HB1).step hb2)
  have HR := hide (hrow.as (by omega))
  clear hb2 HB1 g0 g1 HA hrow hga
  obtain ⟨g0, g1⟩ := (unhide HB2).cells
  go_wp2_with fail
  refine (few_any _ V _ (2 * n) (2 * n) (angI (pt.stV es) F N) (unhide HR) hv64 (fun t ht => unhide HST t ht) (fun t ht => knd_lt _ _)).mono ?_
  rintro e w3 ⟨⟨r, rfl, hr⟩, hb3⟩
  have hrt : r = false := by
    cases r with
    | false => rfl
    | true => exact absurd (hr.1 rfl) (unhide HNB)
  subst hrt
  have HB3 := hide ((unhide HB2).step hb3)
  clear hb3 HB2 g0 g1 hr
  go_wp2_with fail
  go_ret3
  exact ⟨rfl, (unhide HB3).bel⟩
set_option maxHeartbeats 4000000 in
theorem assign_alone (w : World) (V : Nat) (a : Option Addr) (cap : Nat) (es : List (Nat × Nat)) (ra : Option Addr) (m rc : Nat) (q : List (List Nat)) (N : Nat → Nat) (c g : Nat) (h : Gd w V a 0 cap es ra m rc q N c g) (hn : Nice V es c g) (F : Nat → Nat) (hF : IsFc (facesF N (2 * 0) (2 * 0)) (2 * 0) F) :
    Calls Tryd.prog 14 #[.agg #[.int .i64 V, .slice a 0 cap], .slice ra m rc] w fun e w' => (∃ gq, e = .returned (.tuple #[.int .i64 0, .slice (some ⟨gq, 0, none⟩) 1 1, .bool true]) ∧ w'.cell? ⟨gq, 0, none⟩ = some (.int .i64 (-1)) ∧ gq < w'.heap.size) ∧ Below w.heap.size w w' := by
  have hv64 := h.plain.v64
  have HB0 := hide (Bg.start w (.int .i64 V) (.slice a 0 cap))
  have HC := hide (fun (u : World) (hu : Below w.heap.size w u) => (h.below hu).yesCan hn)
  have HA := hide (fun (u : World) (hu : Below w.heap.size w u) => (h.below hu).ang F hF)
  clear h hn hF
  obtain ⟨g0, g1⟩ := (unhide HB0).cells
  go_enter Tryd.func14, Tryd.ntmps14
  go_wp2_with fail
  refine (unhide HC _ (unhide HB0).bel).mono ?_
  rintro e w1 ⟨rfl, hb1⟩
  have HB1 := hide ((unhide HB0).step hb1)
  clear hb1 HB0 g0 g1 HC
  obtain ⟨g0, g1⟩ := (unhide HB1).cells
  go_wp2_with fail
  refine (unhide HA _ (unhide HB1).bel).mono ?_
  rintro e w2 ⟨⟨ga, rfl, hga, hrow⟩, hb2⟩
  have HB2 := hide ((unhide HB1).step hb2)
  have HR := hide (hrow.as (by omega))
  clear hb2 HB1 g0 g1 HA hrow hga
  obtain ⟨g0, g1⟩ := (unhide HB2).cells
  go_wp2_with fail
  refine (few_any _ V _ (2 * 0) (2 * 0) (angI (pt.stV es) F N) (unhide HR) hv64 (fun t ht => by omega) (fun t ht => by omega)).mono ?_
  rintro e w3 ⟨⟨r, rfl, hr⟩, hb3⟩
  have hrt : r = true := hr.2 (fun x hx => by simp [pc])
  subst hrt
  have HB3 := hide ((unhide HB2).step hb3)
  clear hb3 HB2 g0 g1 hr
  go_wp2_with fail
  go_ret3
  refine ⟨⟨_, rfl, ?_, ?_⟩, ?_⟩
  · simp only [World.cell?, at_new]; rfl
  · simp
  · exact (unhide HB3).bel.trans ((b_al _).mono (unhide HB3).bel.size)
/-- what Assign tells, where angles are told -/
def AsgAns (w : World) (V K : Nat) (A : Nat → Nat → Nat) (ch : Nat → List Nat) (H : Nat) (e : Ending) (w' : World) : Prop :=
  (∃ outer gG gc gr, e = .returned (.tuple #[.int .i64 (outer : Nat), .slice (some ⟨gG, 0, none⟩) V gc, .bool true]) ∧ outer < K ∧ RowZ w' gG V gr ∧ w.heap.size ≤ gG ∧ Seated ch V gr ∧ (∀ f, f < K → occ (fun h => A h 2) gr f V ≤ capF (rmF A H) outer f) ∧ ∀ o, o < outer → ¬ Fits (fun h => A h 2) ch V K (capF (rmF A H) o)) ∨
  (e = NoAns ∧ ∀ o, o < K → ¬ Fits (fun h => A h 2) ch V K (capF (rmF A H) o))
set_option maxHeartbeats 16000000 in
theorem assign_yes (w : World) (V : Nat) (a : Option Addr) (n cap : Nat) (es : List (Nat × Nat)) (ra : Option Addr) (m rc : Nat) (q : List (List Nat)) (N : Nat → Nat) (c g : Nat) (h : Gd w V a n cap es ra m rc q N c g) (hn : Nice V es c g) (F : Nat → Nat) (hF : IsFc (facesF N (2 * n) (2 * n)) (2 * n) F) (hb : Bim (angI (pt.stV es) F N) (2 * n) V) (h0 : 0 < n)
    (hrm : ∀ f, f < (facesF N (2 * n) (2 * n)).length → 0 ≤ rmF (angI (pt.stV es) F N) (2 * n) f) :
    Calls Tryd.prog 14 #[.agg #[.int .i64 V, .slice a n cap], .slice ra m rc] w fun e w' => AsgAns w V (facesF N (2 * n) (2 * n)).length (angI (pt.stV es) F N) (chF es (angI (pt.stV es) F N) (2 * n)) (2 * n) e w' ∧ Below w.heap.size w w' := by
  have hn128 := h.n128
  have hv64 := h.plain.v64
  have hFl := facesF_len N (2 * n) (2 * n)
  have HB0 := hide (Bg.start w (.int .i64 V) (.slice a n cap))
  have HC := hide (fun (u : World) (hu : Below w.heap.size w u) => (h.below hu).yesCan hn)
  have HA := hide (fun (u : World) (hu : Below w.heap.size w u) => (h.below hu).ang F hF)
  have HFA := hide (fun (u : World) (hu : Below w.heap.size w u) => faces_good u V a n cap (toI es) ((h.below hu).edges) ra m rc q ((h.below hu).rr) h.yes N h.nx h.pm h.lt h.cov)
  have HE := hide (fun (u : World) (hu : Below w.heap.size w u) => (h.below hu).edges)
  have HST := hide (fun (t : Nat) (ht : t < 2 * n) => show angI (pt.stV es) F N t 1 < V from h.st_lt ht)
  have H3 := hide (fun (t : Nat) (ht : t < 2 * n) => show angI (pt.stV es) F N t 3 < 3 from knd_lt _ _)
  have H0 := hide (fun (t : Nat) (ht : t < 2 * n) => show angI (pt.stV es) F N t 0 = t from rfl)
  have H2 := hide (fun (t : Nat) (ht : t < 2 * n) => show angI (pt.stV es) F N t 2 < (facesF N (2 * n) (2 * n)).length from (hF.cov (oth t) (oth_lt ht)).1)
  have HNO := hide h.hno
  have HNE := hide h.ne
  have HPL := hide h.pl
  have HBM := hide hb
  have HRM := hide (fun (f : Nat) (hf : f < (facesF N (2 * n) (2 * n)).length) => show 0 ≤ rmF (angI (pt.stV es) F N) (2 * n) f ∧ rmF (angI (pt.stV es) F N) (2 * n) f ≤ 300 from ⟨hrm f hf, by have := hc_le (angI (pt.stV es) F N) (2 * n) f; unfold rmF; omega⟩)
  clear h hn hF hb hrm
  obtain ⟨A, hAe⟩ : ∃ A, angI (pt.stV es) F N = A := ⟨_, rfl⟩
  rw [hAe] at HA HST H3 H0 H2 HBM HRM ⊢
  obtain ⟨K, hKe⟩ : ∃ K, (facesF N (2 * n) (2 * n)).length = K := ⟨_, rfl⟩
  simp only [hKe] at HFA
  rw [hKe] at H2 HRM hFl ⊢
  obtain ⟨H, hHe⟩ : ∃ H, 2 * n = H := ⟨_, rfl⟩
  rw [hHe] at HA HST H3 H0 H2 HBM HRM hFl ⊢
  simp only [hHe] at HFA
  have hH0 : 0 < H := by omega
  have hH256 : H ≤ 256 := by omega
  have hH1 : ((H : Int) == 0) = false := by rw [beq_eq_false_iff_ne]; omega
  clear hAe hKe hHe h0 hn128
  obtain ⟨g0, g1⟩ := (unhide HB0).cells
  go_enter Tryd.func14, Tryd.ntmps14
  go_wp2_with fail
  refine (unhide HC _ (unhide HB0).bel).mono ?_
  rintro e w1 ⟨rfl, hb1⟩
  have HB1 := hide ((unhide HB0).step hb1)
  clear hb1 HB0 g0 g1 HC
  obtain ⟨g0, g1⟩ := (unhide HB1).cells
  go_wp2_with fail
  refine (unhide HA _ (unhide HB1).bel).mono ?_
  rintro e w2 ⟨⟨ga, rfl, hga, hrow⟩, hb2⟩
  have HB2 := hide ((unhide HB1).step hb2)
  have HR2 := hide (hrow.as hH256)
  clear hb2 HB1 g0 g1 HA hrow hga
  obtain ⟨g0, g1⟩ := (unhide HB2).cells
  go_wp2_with fail
  refine (few_any w2 V _ H H A (unhide HR2) hv64 (unhide HST) (unhide H3)).mono ?_
  rintro e w3 ⟨⟨r, rfl, hr⟩, hb3⟩
  have hrt : r = true := hr.2 (unhide HBM)
  subst hrt
  have HB3 := hide ((unhide HB2).step hb3)
  have HR3 := hide ((unhide HR2).below hb3)
  clear hb3 HB2 HR2 g0 g1 hr
  obtain ⟨g0, g1⟩ := (unhide HB3).cells
  go_wp2_with fail
  refine (choices_any w3 V a n cap es (unhide HE _ (unhide HB3).bel) (unhide HNO) (unhide HNE) (unhide HPL) _ H H A (unhide HR3) (unhide HST)).mono ?_
  rintro e w4 ⟨⟨tg, rfl, hch⟩, hb4⟩
  have HB4 := hide ((unhide HB3).step hb4)
  have HR4 := hide ((unhide HR3).below hb4)
  have HCH4 := hide hch
  clear hb4 HB3 HR3 g0 g1 hch
  obtain ⟨g0, g1⟩ := (unhide HB4).cells
  go_wp2_with fail
  refine (unhide HFA _ (unhide HB4).bel).mono ?_
  rintro e w5 ⟨⟨fa, fc, rfl, _, _⟩, hb5⟩
  have HB5 := hide ((unhide HB4).step hb5)
  have HR5 := hide ((unhide HR4).below hb5)
  have HCH5 := hide ((unhide HCH4).below hb5)
  clear hb5 HB4 HR4 HCH4 g0 g1 HFA
  go_wp2_with fail
  refine (inner_any w5 _ H H A (unhide HR5) K (by omega) (unhide H2) (unhide H3)).mono ?_
  rintro e w6 ⟨⟨gr0, rfl, hgr, hrr⟩, hb6⟩
  have HB6 := hide ((unhide HB5).step hb6)
  have HR6 := hide ((unhide HR5).below hb6)
  have HCH6 := hide ((unhide HCH5).below hb6)
  have HRR6 := hide hrr
  clear hb6 HB5 HR5 HCH5 hgr hrr
  have HN0 := hide (show ∀ o, o < 0 → ¬ Fits (fun h => A h 2) (chF es A H) V K (capF (rmF A H) o) from fun o ho => by omega)
  have HBu := hide (Below.refl w6.heap.size w6)
  have hw6 := (unhide HB6).bel.size
  go_wp2_with fail
  go_loopw [40] (fun i wr => ∃ o : Nat, i = .int .i64 o ∧ o ≤ K ∧ Hid (∀ o', o' < o → ¬ Fits (fun h => A h 2) (chF es A H) V K (capF (rmF A H) o')) ∧ Hid (Below w6.heap.size w6 wr)) (fun i wr => K - (intOf i).toNat)
  case atStart => exact ⟨0, rfl, by omega, HN0, HBu⟩
  case round =>
    clear HN0 HBu
    obtain ⟨o, rfl, ho, HN0, HBu⟩ := hrel
    by_cases hoK : o < K
    · have hoK2 : (o : Int) < (K : Int) := by omega
      have HFT := hide (fit_any wr _ H H A ((unhide HR6).below (unhide HBu)) _ V V (chF es A H) ((unhide HCH6).below (unhide HBu)) gr0 K K (rmF A H) ((unhide HRR6).below (unhide HBu)) o hoK (fun x hx t ht => by
        unfold chF at ht
        split at ht
        · exact (mem_selA.1 ht).1
        · simp at ht) (unhide H0) (unhide H2) hv64 (by omega) (unhide HRM))
      go_wp2_with fail
      refine (unhide HFT).mono ?_
      rintro e w7 ⟨hans, hb7⟩
      have HB7 := hide ((unhide HBu).trans (hb7.mono (unhide HBu).size))
      have HB7' := hide hb7
      have hsz := (unhide HBu).size
      clear hb7 HFT
      rcases hans with ⟨gG, gc, gr, rfl, h1, h2, h3, h4⟩ | ⟨rfl, h1⟩
      · have HANS := hide (show AsgAns w V K A (chF es A H) H (.returned (.tuple #[.int .i64 (o : Nat), .slice (some ⟨gG, 0, none⟩) V gc, .bool true])) w7 from .inl ⟨o, gG, gc, gr, rfl, hoK, h2, by omega, h3, h4, unhide HN0⟩)
        have HBF := hide ((unhide HB6).bel.trans ((unhide HB7).mono hw6))
        clear h1 h2 h3 h4
        go_wp2_with fail
        go_ret3
        exact ⟨unhide HANS, unhide HBF⟩
      · have HN1 := hide (show ∀ o', o' < o + 1 → ¬ Fits (fun h => A h 2) (chF es A H) V K (capF (rmF A H) o') from fun o' ho' => by
          rcases Nat.lt_or_ge o' o with h | h
          · exact unhide HN0 o' h
          · obtain rfl : o' = o := by omega
            exact h1)
        clear h1
        go_wp2_with fail
        go_roundw
        case rel => exact ⟨o + 1, by go_num, by omega, HN1, HB7⟩
        case measure => simp [intOf]; omega
    · obtain rfl : o = K := by omega
      have HBF := hide ((unhide HB6).bel.trans ((unhide HBu).mono hw6))
      go_wp2_with fail
      go_ret3
      exact ⟨.inr ⟨rfl, unhide HN0⟩, unhide HBF⟩
end Go.Proofs.YtefagplbpbkpgaaDoor
/-
  Low and High by turns along each face; some High in each, where there is an order; as many High as edges less inner vertices: plain mathematics. No conditions beyond each theorem's own.
-/
namespace Go.Proofs.YtefagplbpbkpgaaDoor
set_option linter.unusedVariables false
set_option maxRecDepth 20000
/-- how many below k -/
def cn (Q : Nat → Bool) (k : Nat) : Nat := ((List.range k).filter Q).length
theorem cn_congr {Q R : Nat → Bool} {k : Nat} (h : ∀ j, j < k → Q j = R j) : cn Q k = cn R k := by
  unfold cn
  congr 1
  exact List.filter_congr fun j hj => h j (List.mem_range.1 hj)
theorem cn_split (Q R : Nat → Bool) (k : Nat) : cn Q k = cn (fun j => Q j && R j) k + cn (fun j => Q j && !R j) k := by
  unfold cn
  induction k with
  | zero => rfl
  | succ k ih =>
    rw [List.range_succ, List.filter_append, List.filter_append, List.filter_append, List.length_append, List.length_append, List.length_append, ih]
    cases hq : Q k <;> cases hr : R k <;> simp [hq, hr] <;> omega
theorem cn_succ (Q : Nat → Bool) (k : Nat) : cn Q (k + 1) = cn Q k + if Q k = true then 1 else 0 := by
  unfold cn
  rw [List.range_succ, List.filter_append, List.length_append]
  cases hq : Q k <;> simp [hq]
theorem Pm.back' {N : Nat → Nat} {H : Nat} (p : Pm N H) {j : Nat} (hj : j < H) : ∃ i, i < H ∧ N i = j := by
  obtain ⟨t, _, ht⟩ := p.ret hj
  exact ⟨it N t j, p.it_lt hj t, ht⟩
theorem cn_perm {N : Nat → Nat} {H : Nat} (p : Pm N H) (Q : Nat → Bool) : cn (fun j => Q (N j)) H = cn Q H := by
  refine Nat.le_antisymm ?_ ?_
  · refine pt.inj_len (R := fun j i => N j = i) _ _ (List.nodup_range.sublist List.filter_sublist) (fun j hj => ?_) ?_
    · rw [List.mem_filter, List.mem_range] at hj
      exact ⟨N j, by rw [List.mem_filter, List.mem_range]; exact ⟨p.lt j hj.1, hj.2⟩, rfl⟩
    · intro a b c ha hb h1 h2
      rw [List.mem_filter, List.mem_range] at ha hb
      exact p.inj a b ha.1 hb.1 (h1.trans h2.symm)
  · refine pt.inj_len (R := fun i j => N j = i) _ _ (List.nodup_range.sublist List.filter_sublist) (fun i hi => ?_) ?_
    · rw [List.mem_filter, List.mem_range] at hi
      obtain ⟨j, hj, e⟩ := p.back' hi.1
      exact ⟨j, by rw [List.mem_filter, List.mem_range]; exact ⟨hj, by rw [e]; exact hi.2⟩, e⟩
    · intro a b c _ _ h1 h2
      exact h1.symm.trans h2
theorem pm_oth (n : Nat) : Pm oth (2 * n) := ⟨fun j hj => oth_lt hj, fun i j _ _ h => pt.oth_inj h⟩
theorem fc_next {N F : Nat → Nat} {H : Nat} (p : Pm N H) (hF : IsFc (facesF N H H) H F) {j : Nat} (hj : j < H) : F (N j) = F j := by
  obtain ⟨h1, i, h2, h3⟩ := hF.cov j hj
  have hm : (facesF N H H).getD (F j) [] ∈ facesF N H H := by simp [List.getD, h1]
  obtain ⟨r, hr, e⟩ := List.mem_map.1 hm
  rw [List.mem_filter, List.mem_range] at hr
  have hjm : j ∈ orb N H r := by rw [e]; have := getD_mem h2; rwa [h3] at this
  have hnm := p.orb_n hr.1 hjm
  rw [e] at hnm
  obtain ⟨i', hi', e'⟩ := getD_ix hnm
  have := (hF.el (F j) h1 i' hi').2
  rwa [e'] at this
theorem oth_par (j : Nat) : oth j % 2 = 1 - j % 2 := by unfold oth; split <;> omega
section
variable {V : Nat} {es : List (Nat × Nat)} {q : List (List Nat)} {N F : Nat → Nat}
/-- along the order -/
def pos (V : Nat) (es : List (Nat × Nat)) (x : Nat) : Nat := (Pl.order V es).idxOf x
theorem pos_lt (ho : V ≤ (Pl.order V es).length) {e : Nat × Nat} (he : e ∈ es) (h2 : e.2 < V) : pos V es e.1 < pos V es e.2 := by
  have hr := (Pl.order_run V es).1
  have hm : e.2 ∈ Pl.order V es := by
    refine Classical.byContradiction fun hno => ?_
    have := nodup_le V (e.2 :: Pl.order V es) (by rw [List.nodup_cons]; exact ⟨hno, hr.nodup⟩) (by
      intro x hx
      rcases List.mem_cons.1 hx with rfl | hx
      · exact h2
      · exact hr.lt x hx)
    rw [List.length_cons] at this
    omega
  obtain ⟨k, hk, ek⟩ := pt.in_getD hm
  have hst := (Pl.next_some (hr.step k hk)).1
  rw [ek] at hst
  have h1 := (Pl.ready_iff.1 hst).2 e he rfl
  have e2 : pos V es e.2 = k := by unfold pos; rw [← ek]; exact pt.idx_of hr.nodup hk
  obtain ⟨i, hi, ei⟩ := pt.in_getD h1
  rw [List.length_take] at hi
  have ei' : (Pl.order V es).getD i 0 = e.1 := by
    rw [← ei]
    simp [List.getD, show i < k by omega]
  have e1 : pos V es e.1 = i := by unfold pos; rw [← ei']; exact pt.idx_of hr.nodup (by omega)
  omega
theorem pos_half (r : pt.Ro V es q) (ho : V ≤ (Pl.order V es).length) {j : Nat} (hj : j < 2 * es.length) : (j % 2 = 0 → pos V es (pt.stV es j) < pos V es (pt.stV es (oth j))) ∧ (j % 2 = 1 → pos V es (pt.stV es (oth j)) < pos V es (pt.stV es j)) := by
  have hi : j / 2 < es.length := by omega
  have hm : es.getD (j / 2) (0, 0) ∈ es := by simp [List.getD, hi]
  have hp := pos_lt ho hm (r.ends _ hi).2
  constructor
  · intro h0
    unfold pt.stV oth
    rw [if_pos h0, if_pos h0, if_neg (by omega), show (j + 1) / 2 = j / 2 by omega]
    exact hp
  · intro h0
    have h1 : ¬ j % 2 = 0 := by omega
    have e1 : oth j = j - 1 := by unfold oth; rw [if_neg h1]
    rw [e1]
    unfold pt.stV
    rw [if_pos (show (j - 1) % 2 = 0 by omega), if_neg h1, show (j - 1) / 2 = j / 2 by omega]
    exact hp
theorem st_next (r : pt.Ro V es q) (hN : Behind q N) {j : Nat} (hj : j < 2 * es.length) : pt.stV es (N j) = pt.stV es (oth j) := by
  have e : N j = pt.suN N (oth j) := by unfold pt.suN; rw [oth_oth]
  rw [e, pt.stV_su r hN (oth_lt hj)]
/-- in each face some half edge that goes up is followed by one that goes down -/
theorem some_high (r : pt.Ro V es q) (hN : Behind q N) (p : Pm N (2 * es.length)) (hF : IsFc (facesF N (2 * es.length) (2 * es.length)) (2 * es.length) F) (ho : V ≤ (Pl.order V es).length) {j : Nat} (hj : j < 2 * es.length) : ∃ i, i < 2 * es.length ∧ F i = F j ∧ i % 2 = 0 ∧ N i % 2 = 1 := by
  refine Classical.byContradiction fun hno => ?_
  have hFt : ∀ {i : Nat}, i < 2 * es.length → F i = F j → ∀ t, it N t i < 2 * es.length ∧ F (it N t i) = F j := by
    intro i hi hf t
    induction t with
    | zero => exact ⟨hi, hf⟩
    | succ t ih => exact ⟨p.lt _ ih.1, (fc_next p hF ih.1).trans ih.2⟩
  have hev : ∀ i, i < 2 * es.length → F i = F j → i % 2 = 0 → N i % 2 = 0 := fun i h1 h2 h3 => by
    rcases Nat.mod_two_eq_zero_or_one (N i) with h | h
    · exact h
    · exact absurd ⟨i, h1, h2, h3, h⟩ hno
  by_cases hex : ∃ i, i < 2 * es.length ∧ F i = F j ∧ i % 2 = 0
  · obtain ⟨i, hi, hf, h0⟩ := hex
    have hup : ∀ t, (it N t i) % 2 = 0 ∧ pos V es (pt.stV es i) + t ≤ pos V es (pt.stV es (it N t i)) := by
      intro t
      induction t with
      | zero => exact ⟨h0, Nat.le_refl _⟩
      | succ t ih =>
        obtain ⟨a1, a2⟩ := hFt hi hf t
        refine ⟨hev _ a1 a2 ih.1, ?_⟩
        show _ ≤ pos V es (pt.stV es (N (it N t i)))
        rw [st_next r hN a1]
        have := (pos_half r ho a1).1 ih.1
        omega
    obtain ⟨t, _, ht⟩ := p.ret hi
    have := (hup (t + 1)).2
    rw [ht] at this
    omega
  · have hod : ∀ i, i < 2 * es.length → F i = F j → i % 2 = 1 := fun i h1 h2 => by
      rcases Nat.mod_two_eq_zero_or_one i with h | h
      · exact absurd ⟨i, h1, h2, h⟩ hex
      · exact h
    have hdn : ∀ t, pos V es (pt.stV es (it N t j)) + t ≤ pos V es (pt.stV es j) := by
      intro t
      induction t with
      | zero => exact Nat.le_refl _
      | succ t ih =>
        obtain ⟨a1, a2⟩ := hFt hj rfl t
        show pos V es (pt.stV es (N (it N t j))) + (t + 1) ≤ _
        rw [st_next r hN a1]
        have := (pos_half r ho a1).2 (hod _ a1 a2)
        omega
    obtain ⟨t, _, ht⟩ := p.ret hj
    have := hdn (t + 1)
    rw [ht] at this
    omega
/-- the angles of one kind in a face, by the half edges that stand there -/
theorem kind_face (n : Nat) (A : Nat → Nat → Nat) (kd f : Nat) (hA : A = angI (pt.stV es) F N) : cn (fun t => decide (A t 3 = kd ∧ A t 2 = f)) (2 * n) = cn (fun j => decide (knd (oth j) (N j) = kd ∧ F j = f)) (2 * n) := by
  have := cn_perm (pm_oth n) (fun t => decide (A t 3 = kd ∧ A t 2 = f))
  rw [← this]
  refine cn_congr fun j hj => ?_
  subst hA
  show decide (knd (oth j) (N (oth (oth j))) = kd ∧ F (oth (oth j)) = f) = _
  rw [oth_oth]
theorem knd2 (j b : Nat) : knd (oth j) b = 2 ↔ j % 2 = 0 ∧ b % 2 = 1 := by
  have := oth_par j
  unfold knd
  split
  · constructor
    · intro h; omega
    · intro h; omega
  · split
    · constructor
      · intro _; omega
      · intro _; rfl
    · constructor
      · intro h; omega
      · intro h; omega
theorem knd1 (j b : Nat) : knd (oth j) b = 1 ↔ j % 2 = 1 ∧ b % 2 = 0 := by
  have := oth_par j
  unfold knd
  split
  · constructor
    · intro _; omega
    · intro _; rfl
  · split
    · constructor
      · intro h; omega
      · intro h; omega
    · constructor
      · intro h; omega
      · intro h; omega
/-- in each face as many are Low as are High -/
theorem low_high (p : Pm N (2 * es.length)) (hF : IsFc (facesF N (2 * es.length) (2 * es.length)) (2 * es.length) F) (f : Nat) :
    cn (fun t => decide (angI (pt.stV es) F N t 3 = 1 ∧ angI (pt.stV es) F N t 2 = f)) (2 * es.length) = cn (fun t => decide (angI (pt.stV es) F N t 3 = 2 ∧ angI (pt.stV es) F N t 2 = f)) (2 * es.length) := by
  rw [kind_face (es := es) es.length _ 1 f rfl, kind_face (es := es) es.length _ 2 f rfl]
  have h1 := cn_perm p (fun j => decide (F j = f) && decide (j % 2 = 0))
  have h2 := cn_split (fun j => decide (F j = f) && decide (j % 2 = 0)) (fun j => decide (N j % 2 = 0)) (2 * es.length)
  have h3 := cn_split (fun j => decide (F j = f) && decide (N j % 2 = 0)) (fun j => decide (j % 2 = 0)) (2 * es.length)
  have e1 : cn (fun j => decide (F (N j) = f) && decide (N j % 2 = 0)) (2 * es.length) = cn (fun j => decide (F j = f) && decide (N j % 2 = 0)) (2 * es.length) := cn_congr fun j hj => by rw [fc_next p hF hj]
  have e2 : cn (fun j => (decide (F j = f) && decide (j % 2 = 0)) && decide (N j % 2 = 0)) (2 * es.length) = cn (fun j => (decide (F j = f) && decide (N j % 2 = 0)) && decide (j % 2 = 0)) (2 * es.length) := cn_congr fun j hj => by
    cases decide (F j = f) <;> cases decide (j % 2 = 0) <;> cases decide (N j % 2 = 0) <;> rfl
  have e3 : cn (fun j => (decide (F j = f) && decide (j % 2 = 0)) && !decide (N j % 2 = 0)) (2 * es.length) = cn (fun j => decide (knd (oth j) (N j) = 2 ∧ F j = f)) (2 * es.length) := cn_congr fun j hj => by
    rw [Bool.eq_iff_iff]
    simp only [Bool.and_eq_true, decide_eq_true_eq, Bool.not_eq_true', decide_eq_false_iff_not, knd2]
    constructor
    · rintro ⟨⟨a, b⟩, c⟩; exact ⟨⟨b, by omega⟩, a⟩
    · rintro ⟨⟨b, c⟩, a⟩; exact ⟨⟨a, b⟩, by omega⟩
  have e4 : cn (fun j => (decide (F j = f) && decide (N j % 2 = 0)) && !decide (j % 2 = 0)) (2 * es.length) = cn (fun j => decide (knd (oth j) (N j) = 1 ∧ F j = f)) (2 * es.length) := cn_congr fun j hj => by
    rw [Bool.eq_iff_iff]
    simp only [Bool.and_eq_true, decide_eq_true_eq, Bool.not_eq_true', decide_eq_false_iff_not, knd1]
    constructor
    · rintro ⟨⟨a, b⟩, c⟩; exact ⟨⟨by omega, b⟩, a⟩
    · rintro ⟨⟨b, c⟩, a⟩; exact ⟨⟨a, c⟩, by omega⟩
  omega
/-- each face has room for some that is great, or for none: never for fewer -/
theorem room_pos (r : pt.Ro V es q) (hN : Behind q N) (p : Pm N (2 * es.length)) (hF : IsFc (facesF N (2 * es.length) (2 * es.length)) (2 * es.length) F) (ho : V ≤ (Pl.order V es).length) {f : Nat} (hf : f < (facesF N (2 * es.length) (2 * es.length)).length) : 0 ≤ rmF (angI (pt.stV es) F N) (2 * es.length) f := by
  have hm : (facesF N (2 * es.length) (2 * es.length)).getD f [] ∈ facesF N (2 * es.length) (2 * es.length) := by simp [List.getD, hf]
  obtain ⟨h, hh, e⟩ := List.mem_map.1 hm
  rw [List.mem_filter, List.mem_range] at hh
  have hne : 0 < ((facesF N (2 * es.length) (2 * es.length)).getD f []).length := by rw [← e]; exact List.length_pos_of_mem (p.mem_self hh.1)
  obtain ⟨h1, h2⟩ := hF.el f hf 0 hne
  obtain ⟨i, hi, hfi, hi0, hi1⟩ := some_high r hN p hF ho h1
  rw [h2] at hfi
  have : 0 < cn (fun j => decide (knd (oth j) (N j) = 2 ∧ F j = f)) (2 * es.length) := by
    unfold cn
    refine List.length_pos_of_mem (a := i) ?_
    rw [List.mem_filter, List.mem_range]
    exact ⟨hi, decide_eq_true ⟨(knd2 i (N i)).2 ⟨hi0, hi1⟩, hfi⟩⟩
  rw [← kind_face (es := es) es.length _ 2 f rfl] at this
  unfold rmF
  have e2 : hc (angI (pt.stV es) F N) (2 * es.length) f = cn (fun t => decide (angI (pt.stV es) F N t 3 = 2 ∧ angI (pt.stV es) F N t 2 = f)) (2 * es.length) := rfl
  omega
end
end Go.Proofs.YtefagplbpbkpgaaDoor

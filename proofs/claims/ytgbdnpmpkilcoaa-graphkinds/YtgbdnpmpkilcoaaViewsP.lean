/-
  The views' answers and the document's, in one form, over one bundle of facts. Conditions: the view and the graph lie in memory as told.
-/
import Derived.Test.YtgbdnpmpkilcoaaRefOrd
import Derived.Test.YtgbdnpmpkilcoaaLawOpen
import Derived.Test.YtgbdnpmpkilcoaaSpeaks
import Derived.Test.YtgbdnpmpkilcoaaWalkLeast
namespace Go.Proofs.Ytgbdnpmpkilcoaa
open Go.RowKit
set_option linter.unusedVariables false

/-- a row of numbers, told -/
def RowTold (w' : World) (l : List Nat) (e : Ending) : Prop := ∃ a c, e = .returned (.slice a l.length c) ∧ Ns w' a l.length (toIs l)
theorem row_told {w : World} {base : Nat} {v : Value} {l : List Nat} (h : w.ownsRow base 3 1 v l.length (zcells (toIs l))) (hl : l.length ≤ 128) : RowTold w l (.returned v) := by
  obtain ⟨a, c, rfl, _, hN⟩ := ns_of_owns h (by omega)
  exact ⟨a, c, rfl, hN⟩

structure Fits (V : Nat) (es : List (Nat × Nat)) : Prop where
  v64 : V ≤ 64
  n128 : es.length ≤ 128
  ends : ∀ e ∈ es, e.1 < V ∧ e.2 < V
theorem Plain.fits {V : Nat} {es : List (Nat × Nat)} (h : Plain V es) : Fits V es := ⟨h.v64, h.n128, h.ends⟩

theorem ends_none {V : Nat} {es : List (Nat × Nat)} (h : Fits V es) {x : Int} (hx : inB x V = false) (fr : Bool) : ends es fr x es.length = [] := by
  rw [List.eq_nil_iff_forall_not_mem]
  intro i hi
  obtain ⟨h1, h2⟩ := Pl.mem_sel.1 hi
  have h3 := h.ends _ (Pl.at_mem h1)
  have hx2 : ¬ (0 ≤ x ∧ x < (V : Int)) := by simpa [inB] using hx
  cases fr <;> simp [endP] at h2 <;> omega

theorem ends_len (es : List (Nat × Nat)) (fr : Bool) (x : Int) (hn : es.length ≤ 128) : (ends es fr x es.length).length ≤ 128 := Nat.le_trans (Pl.sel_len _ _ _) hn

theorem edges_row {w w' : World} {V : Nat} {es : List (Nat × Nat)} {x : Int} {e : Ending} (hf : Fits V es) (fr : Bool) {L : Nat → List Nat} (hL : ∀ y : Nat, L y = ends es fr y es.length) (h : EdgesTold w w' V L x e) : RowTold w' (ends es fr x es.length) e := by
  rcases h with ⟨y, v, rfl, hy, rfl, ho⟩ | ⟨hi, rfl⟩
  · rw [hL] at ho
    exact row_told ho (ends_len _ _ _ hf.n128)
  · rw [ends_none hf hi]
    exact ⟨none, 0, rfl, Ns.nil _ _⟩

set_option maxHeartbeats 1000000 in
theorem outsE (w : World) (b V : Nat) (es : List (Nat × Nat)) {ea : Option Addr} {ec : Nat} {oa : Option Addr} {oc : Nat} {ia : Option Addr} {ic : Nat} {ra : Option Addr} {rc : Nat} {ord : List Nat} (x : Int)
    (h : Vw w b V es ea ec oa oc ia ic ra rc ord) (hf : Fits V es) :
    Calls Try.prog 18 #[.pointer (some ⟨b, 0, none⟩), .int .i64 x] w fun e w' => RowTold w' (ends es true x es.length) e ∧ Below w.heap.size w w' := by
  have c2 := h.c2
  have HR := hide h.outs
  have HF := hide hf
  clear h hf
  go_enter Try.func18, Try.ntmps18
  go_wp2_with fail
  refine (edgesAt_any w _ V _ x _ (unhide HR) (unhide HF).v64 (fun y => Nat.le_trans (Pl.sel_len _ _ _) (unhide HF).n128)).mono ?_
  rintro e w' ⟨he, hb⟩
  obtain ⟨a1, c1, rfl, hN⟩ := edges_row (unhide HF) true (fun y => (ends_out es y).symm) he
  have HB := hide hb
  have HNN := hide hN
  clear hb hN he
  obtain ⟨q, hq⟩ : ∃ q, (ends es true x es.length).length = q := ⟨_, rfl⟩
  have HQ := hide hq
  rw [hq]
  clear hq
  go_wp2_with fail
  go_ret
  exact ⟨⟨a1, c1, by rw [unhide HQ]; rfl, unhide HNN⟩, unhide HB⟩
set_option maxHeartbeats 1000000 in
theorem insE (w : World) (b V : Nat) (es : List (Nat × Nat)) {ea : Option Addr} {ec : Nat} {oa : Option Addr} {oc : Nat} {ia : Option Addr} {ic : Nat} {ra : Option Addr} {rc : Nat} {ord : List Nat} (x : Int)
    (h : Vw w b V es ea ec oa oc ia ic ra rc ord) (hf : Fits V es) :
    Calls Try.prog 19 #[.pointer (some ⟨b, 0, none⟩), .int .i64 x] w fun e w' => RowTold w' (ends es false x es.length) e ∧ Below w.heap.size w w' := by
  have c3 := h.c3
  have HR := hide h.ins
  have HF := hide hf
  clear h hf
  go_enter Try.func19, Try.ntmps19
  go_wp2_with fail
  refine (edgesAt_any w _ V _ x _ (unhide HR) (unhide HF).v64 (fun y => Nat.le_trans (Pl.sel_len _ _ _) (unhide HF).n128)).mono ?_
  rintro e w' ⟨he, hb⟩
  obtain ⟨a1, c1, rfl, hN⟩ := edges_row (unhide HF) false (fun y => (ends_in es y).symm) he
  have HB := hide hb
  have HNN := hide hN
  clear hb hN he
  obtain ⟨q, hq⟩ : ∃ q, (ends es false x es.length).length = q := ⟨_, rfl⟩
  have HQ := hide hq
  rw [hq]
  clear hq
  go_wp2_with fail
  go_ret
  exact ⟨⟨a1, c1, by rw [unhide HQ]; rfl, unhide HNN⟩, unhide HB⟩

/-- the order told, or that there is none -/
def ordL (V : Nat) (ord : List Nat) : List Nat := if ord.length < V then [] else ord
def OrdTold (w' : World) (V : Nat) (ord : List Nat) (e : Ending) : Prop := ∃ a c, e = .returned (.tuple #[.slice a (ordL V ord).length c, .bool (decide (V ≤ ord.length))]) ∧ Ns w' a (ordL V ord).length (toIs (ordL V ord))
theorem ord_told {w w' : World} {V : Nat} {ord : List Nat} {e : Ending} (h : OrderTold w w' V ord e) (hl : ord.length ≤ 128) : OrdTold w' V ord e := by
  rcases h with ⟨hlt, rfl⟩ | ⟨hge, a, c, rfl, ho⟩
  · unfold OrdTold ordL
    rw [if_pos hlt, show decide (V ≤ ord.length) = false from decide_eq_false (by omega)]
    exact ⟨none, 0, rfl, Ns.nil _ _⟩
  · unfold OrdTold ordL
    rw [if_neg (by omega), show decide (V ≤ ord.length) = true from decide_eq_true hge]
    obtain ⟨a2, c2, hv, _, hN⟩ := ns_of_owns ho (by omega)
    obtain ⟨rfl, rfl⟩ : a = a2 ∧ c = c2 := by simpa using hv
    exact ⟨a, c, rfl, hN⟩

theorem sameE (w : World) (a1 a2 : Option Addr) (n c1 c2 : Nat) (xs : List Int) (h1 : Ns w a1 n xs) (h2 : Ns w a2 n xs) :
    Calls Try.prog 14 #[.slice a1 n c1, .slice a2 n c2] w fun e w' => e = .returned (.bool true) ∧ Below w.heap.size w w' := by
  refine (same_yes w a1 a2 n c1 c2 xs h1 h2).mono ?_
  rintro e w' ⟨rfl, m, rfl⟩
  exact ⟨rfl, below_draws (Below.refl _ _) _⟩

/-- all that the statement asks for, in whatever world it stands -/
structure Vx (w u : World) (b : Nat) (W : Int) (V : Nat) (es : List (Nat × Nat)) (a : Option Addr) (n cap : Nat) (ea : Option Addr) (ec : Nat) : Prop where
  bel : Below w.heap.size w u
  gb : u.heap[w.heap.size]? = some (.cells #[.int .i64 W, .slice a n cap] 24 (0, 0))
  vw : ∃ oa oc ia ic ra rc, Vw u b V es ea ec oa oc ia ic ra rc (Pl.order V es)
theorem Vx.lt {w u : World} {b : Nat} {W : Int} {V : Nat} {es : List (Nat × Nat)} {a : Option Addr} {n cap : Nat} {ea : Option Addr} {ec : Nat} (h : Vx w u b W V es a n cap ea ec) : w.heap.size < u.heap.size := (Array.getElem?_eq_some_iff.1 h.gb).1
theorem Vx.step {w u u' : World} {b : Nat} {W : Int} {V : Nat} {es : List (Nat × Nat)} {a : Option Addr} {n cap : Nat} {ea : Option Addr} {ec : Nat} (h : Vx w u b W V es a n cap ea ec) (hb : Below u.heap.size u u') : Vx w u' b W V es a n cap ea ec := by
  obtain ⟨oa, oc, ia, ic, ra, rc, hv⟩ := h.vw
  exact ⟨h.bel.trans (hb.mono h.bel.size), by rw [hb.block _ h.lt]; exact h.gb, oa, oc, ia, ic, ra, rc, hv.below hb⟩
theorem Vx.cells {w u : World} {b : Nat} {W : Int} {V : Nat} {es : List (Nat × Nat)} {a : Option Addr} {n cap : Nat} {ea : Option Addr} {ec : Nat} (h : Vx w u b W V es a n cap ea ec) :
    u.cell? ⟨w.heap.size, 0, none⟩ = some (.int .i64 W) ∧ u.cell? ⟨w.heap.size, 1, none⟩ = some (.slice a n cap) ∧ u.cell? ⟨b, 0, none⟩ = some (.int .i64 V) ∧ u.cell? ⟨b, 1, none⟩ = some (.slice ea es.length ec) := by
  have h1 := h.gb
  obtain ⟨oa, oc, ia, ic, ra, rc, hv⟩ := h.vw
  exact ⟨by simp [World.cell?, h1], by simp [World.cell?, h1], hv.c0, hv.c1⟩

section
variable {w u : World} {b : Nat} {W : Int} {V : Nat} {es : List (Nat × Nat)} {a : Option Addr} {n cap : Nat} {ea : Option Addr} {ec : Nat}
theorem vx_outs (h : Vx w u b W V es a n cap ea ec) (hf : Fits V es) (x : Int) : Calls Try.prog 18 #[.pointer (some ⟨b, 0, none⟩), .int .i64 x] u fun e u' => RowTold u' (ends es true x es.length) e ∧ Below u.heap.size u u' := by
  obtain ⟨oa, oc, ia, ic, ra, rc, hv⟩ := h.vw
  exact outsE u b V es x hv hf
theorem vx_ins (h : Vx w u b W V es a n cap ea ec) (hf : Fits V es) (x : Int) : Calls Try.prog 19 #[.pointer (some ⟨b, 0, none⟩), .int .i64 x] u fun e u' => RowTold u' (ends es false x es.length) e ∧ Below u.heap.size u u' := by
  obtain ⟨oa, oc, ia, ic, ra, rc, hv⟩ := h.vw
  exact insE u b V es x hv hf
theorem vx_sources (h : Vx w u b W V es a n cap ea ec) (hf : Fits V es) : Calls Try.prog 20 #[.pointer (some ⟨b, 0, none⟩)] u fun e u' => RowTold u' (bare (Pl.ins es) V) e ∧ Below u.heap.size u u' := by
  obtain ⟨oa, oc, ia, ic, ra, rc, hv⟩ := h.vw
  refine (sources_any u b V es _ _ _ _ _ _ _ _ _ hv hf.v64).mono ?_
  rintro e u' ⟨⟨v, rfl, ho⟩, hb⟩
  exact ⟨row_told ho (by have := bare_len (Pl.ins es) V; have := hf.v64; omega), hb⟩
theorem vx_sinks (h : Vx w u b W V es a n cap ea ec) (hf : Fits V es) : Calls Try.prog 21 #[.pointer (some ⟨b, 0, none⟩)] u fun e u' => RowTold u' (bare (Pl.outs es) V) e ∧ Below u.heap.size u u' := by
  obtain ⟨oa, oc, ia, ic, ra, rc, hv⟩ := h.vw
  refine (sinks_any u b V es _ _ _ _ _ _ _ _ _ hv hf.v64).mono ?_
  rintro e u' ⟨⟨v, rfl, ho⟩, hb⟩
  exact ⟨row_told ho (by have := bare_len (Pl.outs es) V; have := hf.v64; omega), hb⟩
theorem vx_order (h : Vx w u b W V es a n cap ea ec) (hf : Fits V es) : Calls Try.prog 16 #[.pointer (some ⟨b, 0, none⟩)] u fun e u' => OrdTold u' V (Pl.order V es) e ∧ Below u.heap.size u u' := by
  obtain ⟨oa, oc, ia, ic, ra, rc, hv⟩ := h.vw
  have hol := (Pl.order_run V es).1.le
  have := hf.v64
  refine (order_any u b V es _ _ _ _ _ _ _ _ _ hv hf.v64 (by omega)).mono ?_
  rintro e u' ⟨ho, hb⟩
  exact ⟨ord_told ho (by omega), hb⟩
theorem vx_same (h : Vx w u b W V es a n cap ea ec) {a2 : Option Addr} {c2 : Nat} {B : Nat} (he : Es B u a2 es.length (toI es)) : Calls Try.prog 17 #[.agg #[.int .i64 V, .slice ea es.length ec], .agg #[.int .i64 V, .slice a2 es.length c2]] u fun e u' => e = .returned (.bool true) ∧ Below u.heap.size u u' := by
  obtain ⟨oa, oc, ia, ic, ra, rc, hv⟩ := h.vw
  exact graph_same u V ea a2 es.length ec c2 (toI es) hv.edges he
end
theorem rf_ends (u : World) (V : Nat) (a : Option Addr) (cap : Nat) (es : List (Nat × Nat)) {B : Nat} (h : Es B u a es.length (toI es)) (hf : Fits V es) (x : Int) (fr : Bool) :
    Calls Try.prog 22 #[.agg #[.int .i64 V, .slice a es.length cap], .int .i64 x, .bool fr] u fun e u' => RowTold u' (ends es fr x es.length) e ∧ Below u.heap.size u u' := by
  refine (refEnds_any u V a cap es h hf.n128 x fr).mono ?_
  rintro e u' ⟨⟨v, rfl, ho⟩, hb⟩
  exact ⟨row_told ho (ends_len _ _ _ hf.n128), hb⟩
theorem rf_bare (u : World) (V : Nat) (a : Option Addr) (cap : Nat) (es : List (Nat × Nat)) {B : Nat} (h : Es B u a es.length (toI es)) (hp : Plain V es) (to : Bool) :
    Calls Try.prog 24 #[.agg #[.int .i64 V, .slice a es.length cap], .bool to] u fun e u' => RowTold u' (bare (atV es to) V) e ∧ Below u.heap.size u u' := by
  refine (refBare_any u V a cap es h hp to).mono ?_
  rintro e u' ⟨⟨v, rfl, ho⟩, hb⟩
  exact ⟨row_told ho (by have := bare_len (atV es to) V; have := hp.v64; omega), hb⟩
theorem rf_order (u : World) (V : Nat) (a : Option Addr) (cap : Nat) (es : List (Nat × Nat)) {B : Nat} (h : Es B u a es.length (toI es)) (hp : Plain V es) :
    Calls Try.prog 23 #[.agg #[.int .i64 V, .slice a es.length cap]] u fun e u' => OrdTold u' V (Pl.order V es) e ∧ Below u.heap.size u u' := by
  have hol := (Pl.order_run V es).1.le
  have := hp.v64
  refine (refOrder_any u V a cap es h hp).mono ?_
  rintro e u' ⟨ho, hb⟩
  exact ⟨ord_told ho (by omega), hb⟩
end Go.Proofs.Ytgbdnpmpkilcoaa

/-
  The contracts of the document's Ends and Bare. Conditions: the graph lies in memory as told.
-/
import Derived.Test.YtefagplbpbkpgaaDoorJ11
import Derived.Test.YtefagplbpbkpgaaDoorJ3
import Derived.Test.YtefagplbpbkpgaaDoorJ9
import Derived.WalkLawsBesides
import Derived.Test.YtefagplbpbkpgaaDoorJ14
namespace Go.Proofs.YtefagplbpbkpgaaDoor
open Go.RowKit
set_option linter.unusedVariables false
set_option maxRecDepth 20000

/-- is x the end of an edge: its tail, or its head -/
def endP (fr : Bool) (x : Int) (e : Nat × Nat) : Bool := if fr then ((e.1 : Int) == x) else ((e.2 : Int) == x)
def ends (es : List (Nat × Nat)) (fr : Bool) (x : Int) (k : Nat) : List Nat := Pl.sel es (endP fr x) k
theorem ends_out (es : List (Nat × Nat)) (x : Nat) : ends es true x es.length = Pl.outs es x := by
  unfold ends Pl.outs
  congr 1
  funext e
  rw [Bool.eq_iff_iff]
  simp [endP]
  omega
theorem ends_in (es : List (Nat × Nat)) (x : Nat) : ends es false x es.length = Pl.ins es x := by
  unfold ends Pl.ins
  congr 1
  funext e
  rw [Bool.eq_iff_iff]
  simp [endP]
  omega

/-- what holds at a round's head: a row is gathered beside the box -/
structure ERel (w wr : World) (x y : Value) (v : Value) (l : List Nat) : Prop where
  bx : Bg w wr x y
  own : wr.ownsRow (w.heap.size + 1) 3 1 v l.length (zcells (toIs l))
theorem ERel.start (w : World) (x y : Value) : ERel w ((w.alloc (.cells #[x, y] 24)).alloc (.cells #[] 3)) x y (.slice (some ⟨w.heap.size + 1, 0, none⟩) 0 0) [] := by
  refine ⟨(Bg.start w x y).step ((Below.refl _ _).alloc (Nat.le_refl _) _), ?_⟩
  have := owns_lit_empty (w.alloc (.cells #[x, y] 24)) 3 1 (w.heap.size + 1) (by simp)
  simpa [zcells, toIs] using this
theorem ERel.step {w wr w4 : World} {x y v v2 : Value} {l : List Nat} {k : Nat} (h : ERel w wr x y v l) (hg : (wr.alloc (.cells #[.int .i64 k] 3)).grownBy w4 v.ownBlock)
    (ho : w4.ownsRow (w.heap.size + 1) 3 1 v2 (l.length + 1) (zcells (toIs l) ++ [.int .i64 k])) : ERel w w4 x y v2 (l ++ [k]) := by
  have hl := h.bx.lt
  have hlo : ∀ g, v.ownBlock = some g → w.heap.size + 1 ≤ g := fun g hv => (h.own.lt g hv).1
  refine ⟨⟨?_, ?_⟩, ?_⟩
  · exact (h.bx.bel.alloc h.bx.bel.size _).grown hg (by have := h.bx.bel.size; simp; omega) fun g hv => by have := hlo g hv; omega
  · rw [hg.block _ (by simp; omega) (fun e => by have := hlo _ e.symm; omega), Below.heap_alloc _ _ _ hl]
    exact h.bx.gb
  · rw [zcells_snoc, toIs_snoc] at ho
    rw [List.length_append]
    exact ho
theorem ERel.more {w wr w' : World} {x y v : Value} {l : List Nat} (h : ERel w wr x y v l) (hb : Below wr.heap.size wr w') : ERel w w' x y v l :=
  ⟨h.bx.step hb, owns_keep h.own fun g hg => hb.block g (h.own.lt g hg).2⟩

set_option maxHeartbeats 4000000 in
theorem refEnds_any (w : World) (V : Nat) (a : Option Addr) (cap : Nat) (es : List (Nat × Nat)) {B : Nat} (h : Es B w a es.length (toI es)) (hn : es.length ≤ 128) (x : Int) (fr : Bool) :
    Calls Tryd.prog 58 #[.agg #[.int .i64 V, .slice a es.length cap], .int .i64 x, .bool fr] w fun e w' => (∃ v, e = .returned v ∧ w'.ownsRow w.heap.size 3 1 v (ends es fr x es.length).length (zcells (toIs (ends es fr x es.length)))) ∧ Below w.heap.size w w' := by
  have HE := hide h
  obtain ⟨n, hnn⟩ : ∃ n, es.length = n := ⟨_, rfl⟩
  have HN := hide hnn
  rw [hnn] at hn ⊢
  obtain ⟨i0, hi0, hz0, hz1, hz2⟩ := info_parts info3
  have HI := hide hi0
  have HZ0 := hide hz0
  have HZ1 := hide hz1
  have HZ2 := hide hz2
  have HS := hide (ERel.start w (.int .i64 V) (.slice a n cap))
  clear h hnn hi0 hz0 hz1 hz2
  go_enter Tryd.func58, Tryd.ntmps58
  go_wp2_with fail
  go_loopw [7, 8] (fun v i wr => ∃ k : Nat, i = .int .i64 k ∧ k ≤ n ∧ Hid (ERel w wr (.int .i64 V) (.slice a n cap) v (ends es fr x k))) (fun v i wr => n - (intOf i).toNat)
  case atStart => exact ⟨0, rfl, by omega, HS⟩
  case round =>
    obtain ⟨k, rfl, hk, HR⟩ := hrel
    have hsl : (ends es fr x k).length ≤ k := Pl.sel_len _ _ _
    obtain ⟨g0, g1⟩ := (unhide HR).bx.cells
    have hsz := (unhide HR).bx.lt
    by_cases hlt : k < n
    · obtain ⟨g, off, ha, hg, e0, e1⟩ := es_at (unhide HE) (i := k) (by rw [unhide HN]; exact hlt)
      obtain ⟨p, q, hpq⟩ : ∃ p q, Pl.at' es k = (p, q) := ⟨_, _, rfl⟩
      rw [hpq] at e0 e1
      simp only at e0 e1
      subst ha
      have hbr := (unhide HR).bx.bel
      have d0 : wr.cell? ⟨g, off + k * 2, none⟩ = some (.int .i64 (p : Nat)) := by rw [hbr.cell (p := ⟨g, off + k * 2, none⟩) hg]; exact e0
      have d1 : wr.cell? ⟨g, off + k * 2 + 1, none⟩ = some (.int .i64 (q : Nat)) := by rw [hbr.cell (p := ⟨g, off + k * 2 + 1, none⟩) hg]; exact e1
      have hss : ends es fr x (k + 1) = ends es fr x k ++ if endP fr x (p, q) then [k] else [] := by unfold ends; rw [Pl.sel_succ, hpq]
      have HSS := hide hss
      have hlt2 : (k : Int) < (n : Int) := by omega
      have hgs : g < wr.heap.size := by have := hbr.size; omega
      obtain ⟨z, hz⟩ : ∃ z : Int, (if fr then ((p : Nat) : Int) else ((q : Nat) : Int)) = z := ⟨_, rfl⟩
      have hend : endP fr x (p, q) = (z == x) := by
        unfold endP
        cases fr
        · simp only [Bool.false_eq_true, if_false] at hz ⊢
          rw [← hz]
        · simp only [if_true] at hz ⊢
          rw [← hz]
      have HEND := hide hend
      have HOWN := hide (unhide HR).own
      obtain ⟨m, hm⟩ : ∃ m, (ends es fr x k).length = m := ⟨_, rfl⟩
      have HM := hide hm
      rw [hm] at hsl
      have hownm := (unhide HR).own
      rw [hm] at hownm
      have HOM := hide hownm
      clear hss hpq hbr e0 e1 hend hm hownm
      cases hb : (z == x) with
      | true =>
        have HB := hide hb
        cases fr with
        | true =>
          simp only [if_true] at hz
          subst hz
          go_wp2_with (at_builtin; refine wpList_append_own _ rfl (.tmp 42) (.tmp 44) 37 rfl (w.heap.size + 1) 3 i0 (.int .i64 0) 1 8 Tryd.underlying37 (unhide HI) (unhide HZ0) (unhide HZ1) (unhide HZ2) rfl (by decide) u7 m (zcells (toIs (ends es true x k))) rfl ((unhide HOM).alloc _) ⟨wr.heap.size, 0, none⟩ 1 1 [.int .i64 k] rfl rfl (cell_one_new _ _ _) (one_int k) ?a3 ?a4 ?a5 ?_)
          case a3 => unfold maxLen; omega
          case a4 => omega
          case a5 => simp; omega
          intro v2 w4 hown4 hg4 _
          have HR4 := hide ((unhide HR).step hg4 (by rw [unhide HM]; exact hown4))
          clear hown4 hg4
          go_wp2_with fail
          go_roundw
          case rel =>
            refine ⟨k + 1, by go_num, by omega, ?_⟩
            rw [unhide HSS, unhide HEND, if_pos (unhide HB)]
            exact HR4
          case measure => simp [intOf]; omega
        | false =>
          simp only [Bool.false_eq_true, if_false] at hz
          subst hz
          go_wp2_with (at_builtin; refine wpList_append_own _ rfl (.tmp 42) (.tmp 44) 37 rfl (w.heap.size + 1) 3 i0 (.int .i64 0) 1 8 Tryd.underlying37 (unhide HI) (unhide HZ0) (unhide HZ1) (unhide HZ2) rfl (by decide) u7 m (zcells (toIs (ends es false x k))) rfl ((unhide HOM).alloc _) ⟨wr.heap.size, 0, none⟩ 1 1 [.int .i64 k] rfl rfl (cell_one_new _ _ _) (one_int k) ?b3 ?b4 ?b5 ?_)
          case b3 => unfold maxLen; omega
          case b4 => omega
          case b5 => simp; omega
          intro v2 w4 hown4 hg4 _
          have HR4 := hide ((unhide HR).step hg4 (by rw [unhide HM]; exact hown4))
          clear hown4 hg4
          go_wp2_with fail
          go_roundw
          case rel =>
            refine ⟨k + 1, by go_num, by omega, ?_⟩
            rw [unhide HSS, unhide HEND, if_pos (unhide HB)]
            exact HR4
          case measure => simp [intOf]; omega
      | false =>
        have HB := hide hb
        cases fr with
        | true =>
          simp only [if_true] at hz
          subst hz
          go_wp2_with fail
          go_roundw
          case rel =>
            refine ⟨k + 1, by go_num, by omega, ?_⟩
            rw [unhide HSS, unhide HEND, unhide HB]
            simp only [Bool.false_eq_true, if_false, List.append_nil]
            exact HR
          case measure => simp [intOf]; omega
        | false =>
          simp only [Bool.false_eq_true, if_false] at hz
          subst hz
          go_wp2_with fail
          go_roundw
          case rel =>
            refine ⟨k + 1, by go_num, by omega, ?_⟩
            rw [unhide HSS, unhide HEND, unhide HB]
            simp only [Bool.false_eq_true, if_false, List.append_nil]
            exact HR
          case measure => simp [intOf]; omega
    · obtain rfl : k = n := by omega
      go_wp2_with fail
      go_ret
      exact ⟨⟨_, rfl, owns_mono (unhide HR).own (by omega)⟩, (unhide HR).bx.bel⟩

/-- the edges at a vertex by which it is no bare one -/
def atV (es : List (Nat × Nat)) (dr : Bool) : Nat → List Nat := if dr then Pl.ins es else Pl.outs es

set_option maxHeartbeats 4000000 in
theorem refBare_any (w : World) (V : Nat) (a : Option Addr) (cap : Nat) (es : List (Nat × Nat)) {B : Nat} (h : Es B w a es.length (toI es)) (hp : Plain V es) (dr : Bool) :
    Calls Tryd.prog 34 #[.agg #[.int .i64 V, .slice a es.length cap], .bool dr] w fun e w' => (∃ v, e = .returned v ∧ w'.ownsRow w.heap.size 3 1 v (bare (atV es dr) V).length (zcells (toIs (bare (atV es dr) V)))) ∧ Below w.heap.size w w' := by
  have hv64 := hp.v64
  have hn128 := hp.n128
  have HE := hide h
  have HS := hide (ERel.start w (.int .i64 V) (.slice a es.length cap))
  obtain ⟨i0, hi0, hz0, hz1, hz2⟩ := info_parts info3
  have HI := hide hi0
  have HZ0 := hide hz0
  have HZ1 := hide hz1
  have HZ2 := hide hz2
  clear h hp hi0 hz0 hz1 hz2
  go_enter Tryd.func34, Tryd.ntmps34
  go_wp2_with fail
  go_loopw [5, 6] (fun v i wr => ∃ k : Nat, i = .int .i64 k ∧ k ≤ V ∧ Hid (ERel w wr (.int .i64 V) (.slice a es.length cap) v (bare (atV es dr) k))) (fun v i wr => V - (intOf i).toNat)
  case atStart => exact ⟨0, rfl, by omega, HS⟩
  case round =>
    obtain ⟨k, rfl, hk, HR⟩ := hrel
    have hsl := bare_len (atV es dr) k
    obtain ⟨g0, g1⟩ := (unhide HR).bx.cells
    have hsz := (unhide HR).bx.lt
    by_cases hlt : k < V
    · have hlt2 : (k : Int) < (V : Int) := by omega
      have hcall := refEnds_any wr V a cap es (B := B) ((unhide HE).below (unhide HR).bx.bel) hn128 k (!dr)
      have hea : ends es (!dr) k es.length = atV es dr k := by
        cases dr
        · exact ends_out es k
        · exact ends_in es k
      rw [hea] at hcall
      have HCALL := hide hcall
      have hbs := bare_succ (atV es dr) k
      obtain ⟨m, hm⟩ : ∃ m, (atV es dr k).length = m := ⟨_, rfl⟩
      have hml : m ≤ 128 := by rw [← hm, ← hea]; exact Nat.le_trans (Pl.sel_len _ _ _) hn128
      have HM := hide hm
      obtain ⟨q, hq⟩ : ∃ q, (bare (atV es dr) k).length = q := ⟨_, rfl⟩
      have HQ := hide hq
      rw [hq] at hsl
      clear hcall hea hq
      by_cases hm0 : m = 0
      · subst hm0
        rw [if_pos (by simp [List.length_eq_zero_iff.1 hm])] at hbs
        have HBS := hide hbs
        clear hbs hm
        go_wp2_with fail
        refine (unhide HCALL).mono ?_
        rintro e w2 ⟨⟨v, rfl, hov⟩, hb2⟩
        rw [unhide HM] at hov
        obtain ⟨va, vc, hv, _, _⟩ := ns_of_owns hov (by omega)
        subst hv
        have HR2 := hide ((unhide HR).more hb2)
        have hownq := (unhide HR2).own
        rw [unhide HQ] at hownq
        have HOQ := hide hownq
        have hsz2 := (unhide HR2).bx.lt
        clear hov hb2 hownq
        go_wp2_with (at_builtin; refine wpList_append_own _ rfl (.tmp 21) (.tmp 23) 37 rfl (w.heap.size + 1) 3 i0 (.int .i64 0) 1 8 Tryd.underlying37 (unhide HI) (unhide HZ0) (unhide HZ1) (unhide HZ2) rfl (by decide) u5 q (zcells (toIs (bare (atV es dr) k))) rfl ((unhide HOQ).alloc _) ⟨w2.heap.size, 0, none⟩ 1 1 [.int .i64 k] rfl rfl (cell_one_new _ _ _) (one_int k) ?a3 ?a4 ?a5 ?_)
        case a3 => unfold maxLen; omega
        case a4 => omega
        case a5 => simp; omega
        intro v2 w4 hown4 hg4 _
        have HR4 := hide ((unhide HR2).step hg4 (by rw [unhide HQ]; exact hown4))
        clear hown4 hg4
        go_wp2_with fail
        go_roundw
        case rel => exact ⟨k + 1, by go_num, by omega, by rw [unhide HBS]; exact HR4⟩
        case measure => simp [intOf]; omega
      · rw [if_neg (by simp; intro he; rw [he] at hm; simp at hm; omega), List.append_nil] at hbs
        have HBS := hide hbs
        have hm1 : ((m : Int) == 0) = false := by rw [beq_eq_false_iff_ne]; omega
        clear hbs hm
        go_wp2_with fail
        refine (unhide HCALL).mono ?_
        rintro e w2 ⟨⟨v, rfl, hov⟩, hb2⟩
        rw [unhide HM] at hov
        obtain ⟨va, vc, hv, _, _⟩ := ns_of_owns hov (by omega)
        subst hv
        have HR2 := hide ((unhide HR).more hb2)
        clear hov hb2
        go_wp2_with fail
        go_roundw
        case rel => exact ⟨k + 1, by go_num, by omega, by rw [unhide HBS]; exact HR2⟩
        case measure => simp [intOf]; omega
    · obtain rfl : k = V := by omega
      go_wp2_with fail
      go_ret
      exact ⟨⟨_, rfl, owns_mono (unhide HR).own (by omega)⟩, (unhide HR).bx.bel⟩
end Go.Proofs.YtefagplbpbkpgaaDoor
/-
  Plain mathematics of what is left: least tails, the way back, the cycle that is told. No conditions beyond each theorem's own.
-/
namespace Go.Proofs.YtefagplbpbkpgaaDoor.Pl
set_option linter.unusedVariables false
set_option maxRecDepth 20000

/-- a vertex that is left -/
def lf (V : Nat) (es : Ed) (x : Nat) : Bool := decide (x ∉ order V es)
/-- the least tail that is left of the first k edges to x, or V -/
def back (V : Nat) (es : Ed) (x k : Nat) : Nat := (List.range k).foldl (fun a i => if (at' es i).2 = x ∧ lf V es (at' es i).1 = true then min a (at' es i).1 else a) V
theorem back_zero (V : Nat) (es : Ed) (x : Nat) : back V es x 0 = V := rfl
theorem back_succ (V : Nat) (es : Ed) (x k : Nat) : back V es x (k + 1) = if (at' es k).2 = x ∧ lf V es (at' es k).1 = true then min (back V es x k) (at' es k).1 else back V es x k := by
  unfold back
  rw [List.range_succ, List.foldl_append]
  rfl
theorem back_le (V : Nat) (es : Ed) (x k : Nat) : back V es x k ≤ V ∧ (∀ i, i < k → (at' es i).2 = x → lf V es (at' es i).1 = true → back V es x k ≤ (at' es i).1) ∧ (back V es x k = V ∨ ∃ i, i < k ∧ (at' es i).2 = x ∧ lf V es (at' es i).1 = true ∧ back V es x k = (at' es i).1) := by
  induction k with
  | zero => exact ⟨Nat.le_refl _, fun i hi => by omega, .inl rfl⟩
  | succ k ih =>
    obtain ⟨h1, h2, h3⟩ := ih
    rw [back_succ]
    by_cases hc : (at' es k).2 = x ∧ lf V es (at' es k).1 = true
    · rw [if_pos hc]
      refine ⟨by omega, fun i hi a b => ?_, ?_⟩
      · by_cases hik : i < k
        · have := h2 i hik a b; omega
        · obtain rfl : i = k := by omega
          omega
      · by_cases hm : back V es x k ≤ (at' es k).1
        · rw [Nat.min_eq_left hm]
          rcases h3 with h3 | ⟨i, hi, a, b, e⟩
          · exact .inl h3
          · exact .inr ⟨i, by omega, a, b, e⟩
        · rw [Nat.min_eq_right (by omega)]
          exact .inr ⟨k, by omega, hc.1, hc.2, rfl⟩
    · rw [if_neg hc]
      refine ⟨h1, fun i hi a b => ?_, ?_⟩
      · by_cases hik : i < k
        · exact h2 i hik a b
        · obtain rfl : i = k := by omega
          exact absurd ⟨a, b⟩ hc
      · rcases h3 with h3 | ⟨i, hi, a, b, e⟩
        · exact .inl h3
        · exact .inr ⟨i, by omega, a, b, e⟩
/-- by the edges to x alone, the first j of them -/
def backI (V : Nat) (es : Ed) (x j : Nat) : Nat := ((ins es x).take j).foldl (fun a i => if lf V es (at' es i).1 = true then min a (at' es i).1 else a) V
theorem backI_zero (V : Nat) (es : Ed) (x : Nat) : backI V es x 0 = V := by simp [backI]
theorem backI_succ (V : Nat) (es : Ed) (x j : Nat) (hj : j < (ins es x).length) : backI V es x (j + 1) = if lf V es (at' es ((ins es x).getD j 0)).1 = true then min (backI V es x j) (at' es ((ins es x).getD j 0)).1 else backI V es x j := by
  unfold backI
  rw [List.take_succ_eq_append_getElem hj, List.foldl_append]
  simp [List.getD, hj]
theorem backI_end (V : Nat) (es : Ed) (x : Nat) : backI V es x (ins es x).length = back V es x es.length := by
  unfold backI back ins sel
  rw [List.take_length, List.foldl_filter]
  congr 1
  funext a i
  by_cases h1 : (at' es i).2 = x
  · simp [h1]
  · simp [h1]
theorem backI_le (V : Nat) (es : Ed) (x j : Nat) : backI V es x j ≤ V := by
  unfold backI
  generalize (ins es x).take j = l
  have : ∀ (l : List Nat) (a : Nat), a ≤ V → l.foldl (fun a i => if lf V es (at' es i).1 = true then min a (at' es i).1 else a) a ≤ V := by
    intro l
    induction l with
    | nil => intro a h; exact h
    | cons i l ih =>
      intro a h
      apply ih
      show (if lf V es (at' es i).1 = true then min a (at' es i).1 else a) ≤ V
      split
      · exact Nat.le_trans (Nat.min_le_left _ _) h
      · exact h
  exact this l V (Nat.le_refl _)

def bk (V : Nat) (es : Ed) (x : Nat) : Nat := back V es x es.length
/-- what is left, by name -/
def Lf (V : Nat) (es : Ed) (x : Nat) : Prop := x < V ∧ x ∉ order V es
theorem lf_iff {V : Nat} {es : Ed} {x : Nat} : lf V es x = true ↔ x ∉ order V es := by simp [lf]
theorem left_tail {V : Nat} {es : Ed} (he : ∀ e ∈ es, e.1 < V ∧ e.2 < V) {x : Nat} (h : Lf V es x) : Lf V es (bk V es x) ∧ ∃ i, i < es.length ∧ at' es i = (bk V es x, x) := by
  have hr := next_none (order_run V es).2 x h.1
  have hne : ¬ (x ∉ order V es ∧ ∀ e ∈ es, e.2 = x → e.1 ∈ order V es) := fun hc => by rw [ready_iff.2 hc] at hr; cases hr
  have : ∃ e ∈ es, e.2 = x ∧ e.1 ∉ order V es := by
    apply Classical.byContradiction
    intro hno
    apply hne
    refine ⟨h.2, fun e he hx => ?_⟩
    apply Classical.byContradiction
    intro h1
    exact hno ⟨e, he, hx, h1⟩
  obtain ⟨e, hem, hx, h1⟩ := this
  obtain ⟨i, hi, rfl⟩ := mem_at hem
  obtain ⟨b1, b2, b3⟩ := back_le V es x es.length
  have hb := b2 i hi hx (lf_iff.2 h1)
  have hv := (he _ hem).1
  rcases b3 with b3 | ⟨j, hj, a, b, e⟩
  · omega
  · have hbk : bk V es x = (at' es j).1 := e
    refine ⟨⟨?_, ?_⟩, j, hj, ?_⟩
    · rw [hbk]; exact (he _ (at_mem hj)).1
    · rw [hbk]; exact lf_iff.1 b
    · rw [hbk, ← a]

def start (V : Nat) (es : Ed) : Option Nat := (List.range V).find? (lf V es)
def walkF (V : Nat) (es : Ed) : Nat → List Nat → Nat → List Nat × Nat
  | 0, l, x => (l, x)
  | f + 1, l, x => if x ∈ l then (l, x) else walkF V es f (l ++ [x]) (bk V es x)
theorem walkF_stop {V : Nat} {es : Ed} {l : List Nat} {x : Nat} (f : Nat) (h : x ∈ l) : walkF V es f l x = (l, x) := by
  cases f with
  | zero => rfl
  | succ f => unfold walkF; rw [if_pos h]
theorem walkF_go {V : Nat} {es : Ed} {l : List Nat} {x : Nat} (f : Nat) (h : x ∉ l) : walkF V es (f + 1) l x = walkF V es f (l ++ [x]) (bk V es x) := by
  conv => lhs; unfold walkF
  rw [if_neg h]
/-- a way back of what is left -/
structure Way (V : Nat) (es : Ed) (l : List Nat) (x : Nat) : Prop where
  nodup : l.Nodup
  left : ∀ y ∈ l, Lf V es y
  here : Lf V es x
  chain : ∀ i, i < l.length → bk V es (l.getD i 0) = (l ++ [x]).getD (i + 1) 0
theorem Way.nil {V : Nat} {es : Ed} {x : Nat} (h : Lf V es x) : Way V es [] x := ⟨by simp, by simp, h, by simp⟩
theorem Way.step {V : Nat} {es : Ed} (he : ∀ e ∈ es, e.1 < V ∧ e.2 < V) {l : List Nat} {x : Nat} (h : Way V es l x) (hx : x ∉ l) : Way V es (l ++ [x]) (bk V es x) := by
  refine ⟨nodup_snoc h.nodup hx, ?_, (left_tail he h.here).1, ?_⟩
  · intro y hy
    simp at hy
    rcases hy with hy | rfl
    · exact h.left y hy
    · exact h.here
  · intro i hi
    simp at hi
    by_cases hil : i < l.length
    · have := h.chain i hil
      have e1 : (l ++ [x]).getD i 0 = l.getD i 0 := by simp [List.getD, List.getElem?_append, hil]
      have e2 : (l ++ [x] ++ [bk V es x]).getD (i + 1) 0 = (l ++ [x]).getD (i + 1) 0 := by
        simp only [List.getD]
        rw [List.getElem?_append_left (by simp; omega)]
      rw [e1, e2, this]
    · obtain rfl : i = l.length := by omega
      simp
theorem Way.room {V : Nat} {es : Ed} {l : List Nat} {x : Nat} (h : Way V es l x) (hx : x ∉ l) : l.length < V := by
  have := nodup_le V (l ++ [x]) (nodup_snoc h.nodup hx) (fun y hy => by
    simp at hy
    rcases hy with hy | rfl
    · exact (h.left y hy).1
    · exact h.here.1)
  simp at this
  omega
theorem Way.fuel {V : Nat} {es : Ed} {l : List Nat} {x : Nat} (h : Way V es l x) (hx : x ∉ l) : walkF V es (V + 1 - l.length) l x = walkF V es (V + 1 - (l ++ [x]).length) (l ++ [x]) (bk V es x) := by
  have := h.room hx
  rw [show V + 1 - l.length = (V + 1 - (l ++ [x]).length) + 1 by simp; omega]
  exact walkF_go _ hx
/-- where the way comes to -/
theorem Way.ends {V : Nat} {es : Ed} (he : ∀ e ∈ es, e.1 < V ∧ e.2 < V) : ∀ (f : Nat) (l : List Nat) (x : Nat), Way V es l x → V + 1 ≤ f + l.length → Way V es (walkF V es f l x).1 (walkF V es f l x).2 ∧ (walkF V es f l x).2 ∈ (walkF V es f l x).1 := by
  intro f
  induction f with
  | zero =>
    intro l x h hl
    by_cases hx : x ∈ l
    · exact ⟨h, hx⟩
    · have := h.room hx; omega
  | succ f ih =>
    intro l x h hl
    by_cases hx : x ∈ l
    · rw [walkF_stop _ hx]
      exact ⟨h, hx⟩
    · rw [walkF_go _ hx]
      exact ih _ _ (h.step he hx) (by simp; omega)

/-- from the m-th back, round to it -/
def turn (wy : List Nat) (m : Nat) : List Nat := (List.range wy.length).map fun i => wy.getD ((m + wy.length - i) % wy.length) 0
theorem turn_length (wy : List Nat) (m : Nat) : (turn wy m).length = wy.length := by simp [turn]
theorem turn_getD (wy : List Nat) (m i : Nat) (hi : i < wy.length) : (turn wy m).getD i 0 = wy.getD ((m + wy.length - i) % wy.length) 0 := by
  simp [turn, List.getD, hi]
theorem turn_rev (wy : List Nat) (m : Nat) (hm : m < wy.length) : wy.reverse.drop (wy.length - 1 - m) ++ wy.reverse.take (wy.length - 1 - m) = turn wy m := by
  apply List.ext_getElem
  · simp [turn]; omega
  · intro i h1 h2
    have hi : i < wy.length := by simpa [turn] using h2
    have e2 : (turn wy m)[i] = wy.getD ((m + wy.length - i) % wy.length) 0 := by simp [turn]
    rw [e2]
    have hget : ∀ j, (hj : j < wy.length) → wy.getD j 0 = wy[j] := fun j hj => by simp [List.getD, hj]
    by_cases him : i ≤ m
    · have : (m + wy.length - i) % wy.length = m - i := by
        rw [show m + wy.length - i = m - i + wy.length by omega, Nat.add_mod_right, Nat.mod_eq_of_lt (by omega)]
      rw [this, hget _ (by omega), List.getElem_append_left (by simp; omega), List.getElem_drop, List.getElem_reverse]
      congr 1
      omega
    · have : (m + wy.length - i) % wy.length = m + wy.length - i := Nat.mod_eq_of_lt (by omega)
      rw [this, hget _ (by omega), List.getElem_append_right (by simp; omega), List.getElem_take, List.getElem_reverse]
      congr 1
      simp
      omega

/-- the vertices of the cycle, backwards -/
def ring (V : Nat) (es : Ed) (a : Nat) : List Nat := (walkF V es (V + 1) [] a).1.drop ((walkF V es (V + 1) [] a).1.findIdx (· == (walkF V es (V + 1) [] a).2))
/-- the least of them stands at m -/
def LeastAt (l : List Nat) (m : Nat) : Prop := m < l.length ∧ ∀ j, j < l.length → l.getD m 0 ≤ l.getD j 0
theorem LeastAt.only {l : List Nat} (hn : l.Nodup) {m k : Nat} (h : LeastAt l m) (h' : LeastAt l k) : m = k := by
  have h1 := h.2 k h'.1
  have h2 := h'.2 m h.1
  have e : l.getD m 0 = l.getD k 0 := by omega
  have hm := h.1
  have hk := h'.1
  simp only [List.getD, List.getElem?_eq_getElem hm, List.getElem?_eq_getElem hk, Option.getD_some] at e
  rcases Nat.lt_trichotomy m k with hlt | heq | hgt
  · exact absurd e (List.pairwise_iff_getElem.1 hn m k hm hk hlt)
  · exact heq
  · exact absurd e.symm (List.pairwise_iff_getElem.1 hn k m hk hm hgt)
end Go.Proofs.YtefagplbpbkpgaaDoor.Pl
/-
  The contracts of isLeft, leastTail, without, Sources, Sinks. Conditions: the view lies in memory as told.
-/
namespace Go.Proofs.YtefagplbpbkpgaaDoor
open Go.RowKit
set_option linter.unusedVariables false
set_option maxRecDepth 20000

theorem mem_toIs {x : Nat} {l : List Nat} : (x : Int) ∈ toIs l ↔ x ∈ l := by
  unfold toIs
  rw [List.mem_map]
  constructor
  · rintro ⟨y, hy, he⟩
    have : y = x := by omega
    exact this ▸ hy
  · intro h
    exact ⟨x, h, rfl⟩

end Go.Proofs.YtefagplbpbkpgaaDoor
/-
  The contract of the document's Order. Conditions: the graph lies in memory as told, its edges' ends are vertices.
-/
namespace Go.Proofs.YtefagplbpbkpgaaDoor
open Go.RowKit
set_option linter.unusedVariables false
set_option maxRecDepth 20000

/-- of the first k edges: each that goes to x has its tail there -/
def allK (es : List (Nat × Nat)) (l : List Nat) (x k : Nat) : Bool := (List.range k).all fun i => (Pl.at' es i).2 != x || decide ((Pl.at' es i).1 ∈ l)
theorem allK_succ (es : List (Nat × Nat)) (l : List Nat) (x k : Nat) : allK es l x (k + 1) = (allK es l x k && ((Pl.at' es k).2 != x || decide ((Pl.at' es k).1 ∈ l))) := by
  unfold allK
  rw [List.range_succ, List.all_append]
  simp
theorem allK_ready (es : List (Nat × Nat)) (l : List Nat) (x : Nat) : Pl.ready es l x = (decide (x ∉ l) && allK es l x es.length) := by
  rw [Bool.eq_iff_iff, Pl.ready_iff, Bool.and_eq_true, decide_eq_true_eq]
  refine and_congr Iff.rfl ?_
  unfold allK
  rw [List.all_eq_true]
  constructor
  · intro h i hi
    by_cases hx : (Pl.at' es i).2 = x
    · simp [h _ (Pl.at_mem (List.mem_range.1 hi)) hx]
    · simp [hx]
  · intro h e he hx
    obtain ⟨i, hi, rfl⟩ := Pl.mem_at he
    have := h i (List.mem_range.2 hi)
    simpa [hx] using this

set_option maxHeartbeats 8000000 in
theorem refOrder_any (w : World) (V : Nat) (a : Option Addr) (cap : Nat) (es : List (Nat × Nat)) {B : Nat} (h : Es B w a es.length (toI es)) (hp : Plain V es) :
    Calls Tryd.prog 22 #[.agg #[.int .i64 V, .slice a es.length cap]] w fun e w' => OrderTold w w' V (Pl.order V es) e ∧ Below w.heap.size w w' := by
  have hv64 := hp.v64
  have hn128 := hp.n128
  have HE := hide h
  obtain ⟨n, hn⟩ : ∃ n, es.length = n := ⟨_, rfl⟩
  have HN := hide hn
  rw [hn] at hn128 ⊢
  obtain ⟨i0, hi0, hz0, hz1, hz2⟩ := info_parts info3
  have HI := hide hi0
  have HZ0 := hide hz0
  have HZ1 := hide hz1
  have HZ2 := hide hz2
  have HS := hide (ERel.start w (.int .i64 V) (.slice a n cap))
  clear h hp hn hi0 hz0 hz1 hz2
  go_enter Tryd.func22, Tryd.ntmps22
  go_wp2_with fail
  go_loopw [4] (fun v wr => ∃ l : List Nat, Hid (Pl.Run V es l) ∧ Hid (Pl.peelF V es (V - l.length) l = Pl.order V es) ∧ Hid (ERel w wr (.int .i64 V) (.slice a n cap) v l)) (fun v wr => V + 1 - lenV v)
  case atStart => exact ⟨[], Pl.Run.nil _ _, rfl, HS⟩
  case round =>
    obtain ⟨l, HRUN, HEND, HR⟩ := hrel
    have hlv := lenV_owns (unhide HR).own
    have HLV := hide hlv
    have hle := (unhide HRUN).le
    obtain ⟨va, vc, hvv, hvc, hNv⟩ := ns_of_owns (unhide HR).own (by omega)
    subst hvv
    obtain ⟨g0, g1⟩ := (unhide HR).bx.cells
    obtain ⟨m, hm⟩ := (⟨_, rfl⟩ : ∃ m, l.length = m)
    have HM := hide hm
    rw [hm] at hle ⊢
    clear hlv hNv hvc
    by_cases hlt : m < V
    · have hlt2 : (m : Int) < (V : Int) := by omega
      have hR0 := unhide HR
      rw [hm] at hR0
      have HR0 := hide hR0
      clear hR0 hm
      go_wp2_with fail
      go_loopw [4, 5, 6] (fun v f x wr => ∃ k : Nat, x = .int .i64 k ∧ k ≤ V ∧ ((f = .bool false ∧ v = .slice va m vc ∧ Hid (∀ y, y < k → Pl.ready es l y = false) ∧ Hid (ERel w wr (.int .i64 V) (.slice a n cap) (.slice va m vc) l)) ∨ (f = .bool true ∧ ∃ x0, Hid (Pl.next V es l = some x0) ∧ Hid (ERel w wr (.int .i64 V) (.slice a n cap) v (l ++ [x0]))))) (fun v f x wr => V + 1 - (intOf x).toNat)
      case atStart => exact ⟨0, rfl, by omega, .inl ⟨rfl, rfl, fun y hy => by omega, HR0⟩⟩
      case round =>
        obtain ⟨k, rfl, hk, hcase⟩ := hrel
        rcases hcase with ⟨rfl, rfl, HA, HRK⟩ | ⟨rfl, x0, HX0, HRK⟩
        · clear g0 g1
          obtain ⟨g0, g1⟩ := (unhide HRK).bx.cells
          have hsz := (unhide HRK).bx.lt
          have hNl : Ns wr va m (toIs l) := by
            obtain ⟨_, _, hv2, _, hN2⟩ := ns_of_owns (unhide HRK).own (by rw [unhide HM]; omega)
            obtain ⟨rfl, _, rfl⟩ : va = _ ∧ m = _ ∧ vc = _ := by simpa using hv2
            rw [unhide HM] at hN2
            exact hN2
          have HNL := hide hNl
          clear hNl
          by_cases hkV : k < V
          · have hkV2 : (k : Int) < (V : Int) := by omega
            by_cases hin : k ∈ l
            · have hix := (ix_nonneg (toIs l) k).2 (mem_toIs.2 hin)
              have HIN := hide hin
              obtain ⟨r, hr⟩ : ∃ r, ix (toIs l) k = r := ⟨_, rfl⟩
              rw [hr] at hix
              have HRX := hide hr
              clear hr hin
              go_wp2_with fail
              refine (has_any wr va m vc (toIs l) k (unhide HNL)).mono ?_
              rintro e w' ⟨rfl, hw'⟩
              obtain rfl := hw'.symm
              rw [unhide HRX]
              go_wp2_with fail
              go_roundw
              case rel =>
                refine ⟨k + 1, by go_num, by omega, .inl ⟨rfl, rfl, fun y hy => ?_, HRK⟩⟩
                by_cases hyk : y < k
                · exact unhide HA y hyk
                · obtain rfl : y = k := by omega
                  rw [allK_ready]
                  simp [unhide HIN]
              case measure => simp [intOf]; omega
            · have hix : ix (toIs l) k < 0 := by
                rcases Int.lt_or_le (ix (toIs l) k) 0 with h | h
                · exact h
                · exact absurd (mem_toIs.1 ((ix_nonneg (toIs l) k).1 h)) hin
              have hix2 : ¬ 0 ≤ ix (toIs l) k := by omega
              have HIN := hide hin
              obtain ⟨r, hr⟩ : ∃ r, ix (toIs l) k = r := ⟨_, rfl⟩
              rw [hr] at hix hix2
              have HRX := hide hr
              clear hr hin
              go_wp2_with fail
              refine (has_any wr va m vc (toIs l) k (unhide HNL)).mono ?_
              rintro e w' ⟨rfl, hw'⟩
              obtain rfl := hw'.symm
              rw [unhide HRX]
              go_wp2_with fail
              go_loop [7, 8] (fun b i => ∃ j : Nat, i = .int .i64 j ∧ j ≤ n ∧ b = .bool (allK es l k j)) (fun b i => n - (intOf i).toNat)
              case atStart => exact ⟨0, rfl, by omega, rfl⟩
              case round =>
                obtain ⟨j, rfl, hj, rfl⟩ := hrel
                by_cases hjn : j < n
                · obtain ⟨ge, off, ha, hge, e0, e1⟩ := es_at ((unhide HE).below (unhide HRK).bx.bel) (i := j) (by rw [unhide HN]; exact hjn)
                  have hst := allK_succ es l k j
                  obtain ⟨p, q, hpq⟩ : ∃ p q, Pl.at' es j = (p, q) := ⟨_, _, rfl⟩
                  rw [hpq] at e0 e1 hst
                  simp only at e0 e1 hst
                  subst ha
                  have hjn2 : (j : Int) < (n : Int) := by omega
                  obtain ⟨bb, hbb⟩ : ∃ bb, allK es l k j = bb := ⟨_, rfl⟩
                  rw [hbb] at hst ⊢
                  have HST := hide hst
                  clear hpq hbb hst
                  cases bb with
                  | false =>
                    go_wp2_with fail
                    go_round
                    case rel => exact ⟨j + 1, by go_num, by omega, by rw [unhide HST]; simp⟩
                    case measure => simp [intOf]; omega
                  | true =>
                    by_cases hqk : q = k
                    · have hq1 : ((q : Int) != (k : Int)) = false := by simp; omega
                      have HQK := hide hqk
                      clear hqk
                      obtain ⟨r2, hr2⟩ : ∃ r, ix (toIs l) p = r := ⟨_, rfl⟩
                      have hdec : decide (0 ≤ r2) = decide (p ∈ l) := by rw [← hr2]; simp [ix_nonneg, mem_toIs]
                      have HDEC := hide hdec
                      have HR2 := hide hr2
                      clear hr2 hdec
                      go_wp2_with (go_at_call 41; refine (has_any wr va m vc (toIs l) p (unhide HNL)).mono ?_; rintro e w' ⟨rfl, hw'⟩; obtain rfl := hw'.symm; rw [unhide HR2])
                      go_round
                      case rel =>
                        refine ⟨j + 1, by go_num, by omega, ?_⟩
                        rw [unhide HST, unhide HQK, ← unhide HDEC]
                        simp
                      case measure => simp [intOf]; omega
                    · have hq1 : ((q : Int) != (k : Int)) = true := by rw [bne_iff_ne]; omega
                      have HQK := hide hqk
                      clear hqk
                      go_wp2_with fail
                      go_round
                      case rel =>
                        refine ⟨j + 1, by go_num, by omega, ?_⟩
                        rw [unhide HST]
                        simp [unhide HQK]
                      case measure => simp [intOf]; omega
                · obtain rfl : j = n := by omega
                  have hrd : Pl.ready es l k = allK es l k j := by
                    rw [allK_ready, unhide HN]
                    simp [unhide HIN]
                  obtain ⟨bb, hbb⟩ : ∃ bb, allK es l k j = bb := ⟨_, rfl⟩
                  rw [hbb] at hrd ⊢
                  have HRD := hide hrd
                  clear hrd hbb
                  cases bb with
                  | false =>
                    go_wp2_with fail
                    go_roundw
                    case rel =>
                      refine ⟨k + 1, by go_num, by omega, .inl ⟨rfl, rfl, fun y hy => ?_, HRK⟩⟩
                      by_cases hyk : y < k
                      · exact unhide HA y hyk
                      · obtain rfl : y = k := by omega
                        exact unhide HRD
                    case measure => simp [intOf]; omega
                  | true =>
                    have HNX := hide (Pl.next_is (unhide HRD) hkV (unhide HA))
                    have hownm := (unhide HRK).own
                    rw [unhide HM] at hownm
                    have HOM := hide hownm
                    clear hownm
                    go_wp2_with (at_builtin; refine wpList_append_own _ rfl (.tmp 59) (.tmp 61) 37 rfl (w.heap.size + 1) 3 i0 (.int .i64 0) 1 8 Tryd.underlying37 (unhide HI) (unhide HZ0) (unhide HZ1) (unhide HZ2) rfl (by decide) (.slice va m vc) m (zcells (toIs l)) rfl ((unhide HOM).alloc _) ⟨wr.heap.size, 0, none⟩ 1 1 [.int .i64 k] rfl rfl (cell_one_new _ _ _) (one_int k) ?a3 ?a4 ?a5 ?_)
                    case a3 => unfold maxLen; omega
                    case a4 => omega
                    case a5 => omega
                    intro v2 w4 hown4 hg4 _
                    have HR4 := hide ((unhide HRK).step hg4 (by rw [unhide HM]; exact hown4))
                    clear hown4 hg4
                    go_wp2_with fail
                    go_roundw
                    case rel => exact ⟨k + 1, by go_num, by omega, .inr ⟨rfl, k, HNX, HR4⟩⟩
                    case measure => simp [intOf]; omega
          · obtain rfl : k = V := by omega
            have hnx := Pl.next_isNone (V := k) (unhide HA)
            have hord : Pl.order k es = l := by rw [← unhide HEND]; exact Pl.peelF_stop _ hnx
            have HORD := hide hord
            clear hnx hord
            go_wp2_with fail
            go_ret2
            refine ⟨.inl ⟨?_, rfl⟩, (unhide HRK).bx.bel⟩
            rw [unhide HORD, unhide HM]
            exact hlt
        · have hlk := lenV_owns (unhide HRK).own
          have HLK := hide hlk
          clear g0 g1 hlk
          obtain ⟨g0, g1⟩ := (unhide HRK).bx.cells
          have HRUN2 := hide ((unhide HRUN).snoc (unhide HX0))
          have HEND2 := hide ((Pl.peelF_step (unhide HRUN) (unhide HX0)).symm.trans (unhide HEND))
          by_cases hkV : k < V
          · have hkV2 : (k : Int) < (V : Int) := by omega
            go_wp2_with fail
            go_roundw
            case rel => exact ⟨l ++ [x0], HRUN2, HEND2, HRK⟩
            case measure =>
              rw [unhide HLK]
              show V + 1 - (l ++ [x0]).length < V + 1 - m
              have := unhide HM
              simp
              omega
          · have hkV2 : ¬ (k : Int) < (V : Int) := by omega
            have hkd : decide ((k : Int) < (V : Int)) = false := decide_eq_false hkV2
            go_wp2_with fail
            go_roundw
            case rel => exact ⟨l ++ [x0], HRUN2, HEND2, HRK⟩
            case measure =>
              rw [unhide HLK]
              show V + 1 - (l ++ [x0]).length < V + 1 - m
              have := unhide HM
              simp
              omega
    · obtain rfl : m = V := by omega
      have hord : Pl.order m es = l := by
        rw [← unhide HEND, hm, Nat.sub_self]
        rfl
      have HORD := hide hord
      clear hord hm
      go_wp2_with fail
      go_ret2
      refine ⟨.inr ⟨by rw [unhide HORD, unhide HM]; exact Nat.le_refl _, va, vc, ?_, ?_⟩, (unhide HR).bx.bel⟩
      · rw [unhide HORD, unhide HM]
        rfl
      · have ho := owns_mono (unhide HR).own (base' := w.heap.size) (by omega)
        rw [unhide HORD]
        exact ho
end Go.Proofs.YtefagplbpbkpgaaDoor
/-
  The contract of the statements' Odd. Conditions: the graph and the lists lie in memory as told.
-/
namespace Go.Proofs.YtefagplbpbkpgaaDoor
open Go.RowKit
set_option linter.unusedVariables false
set_option maxRecDepth 20000
theorem two_mem {l : List Nat} {a b : Nat} (ha : a ∈ l) (hb : b ∈ l) (hne : a ≠ b) : 2 ≤ l.length := by
  match l, ha, hb with
  | [], ha, _ => simp at ha
  | [c], ha, hb => simp at ha hb; omega
  | _ :: _ :: _, _, _ => simp
/-- one part at most just if each vertex hangs together with 0 -/
theorem zero_iff {V : Nat} {es : List (Nat × Nat)} {L : Nat → Int} (hL : pt.IsL V es (fun _ => false) L) {c : Nat} (hc : pt.IsCnt V es c) : (∀ x, x < V → L x = 0) ↔ c ≤ 1 := by
  obtain ⟨r, hr, rfl⟩ := hc
  constructor
  · intro h
    refine nodup_le 1 _ (List.nodup_range.sublist List.filter_sublist) fun v hv => ?_
    rw [List.mem_filter, List.mem_range] at hv
    obtain ⟨y, h1, h2, h3, h4⟩ := (hL v hv.1).2 rfl
    rw [h v hv.1] at h1
    have hy : y = 0 := by omega
    subst hy
    have := ((hr v hv.1).1 hv.2).2 0
    rcases Nat.eq_zero_or_pos v with h0 | h0
    · omega
    · exact absurd h3 (this h0)
  · intro h x hx
    obtain ⟨y, h1, h2, h3, h4⟩ := (hL x hx).2 rfl
    rw [h1]
    by_cases h0 : y = 0
    · subst h0; rfl
    · have hy : y ∈ (List.range V).filter r := by rw [List.mem_filter, List.mem_range]; exact ⟨h2, (hr y h2).2 h4⟩
      have hz : 0 ∈ (List.range V).filter r := by rw [List.mem_filter, List.mem_range]; exact ⟨by omega, (hr 0 (by omega)).2 ⟨rfl, fun y hy => by omega⟩⟩
      have := two_mem hy hz h0
      omega
set_option maxHeartbeats 4000000 in
theorem odd_bad (w : World) (V : Int) (a : Option Addr) (n cap : Nat) (es : List (Int × Int)) {B : Nat} (h : Es B w a n es) (ra : Option Addr) (m rc : Nat) (rs : List (List Int)) (hr : Rr w ra m rs) (hsm : ∀ k, k < m → (rs.getD k []).length ≤ 1000) (hm1 : m ≤ 1000) (hno : ¬ IsRot V n es rs) :
    Calls Tryd.prog 9 #[.agg #[.int .i64 V, .slice a n cap], .slice ra m rc] w fun e w' => e = .returned (.bool true) ∧ Below w.heap.size w w' := by
  have HB0 := hide (Bg.start w (.int .i64 V) (.slice a n cap))
  have HC := hide (fun (u : World) (hu : Below w.heap.size w u) => refright_any u V a n cap es (h.below hu) ra m rc rs (hr.below hu) hsm hm1)
  have HNO := hide hno
  clear h hr hsm hno
  obtain ⟨g0, g1⟩ := (unhide HB0).cells
  go_enter Tryd.func9, Tryd.ntmps9
  go_wp2_with fail
  refine (unhide HC _ (unhide HB0).bel).mono ?_
  rintro e w1 ⟨⟨r, rfl, hr⟩, hb1⟩
  have hrt : r = false := by
    cases r with
    | false => rfl
    | true => exact absurd (hr.1 rfl) (unhide HNO)
  subst hrt
  have HB1 := hide ((unhide HB0).step hb1)
  clear hb1 HB0 g0 g1 HC hr
  go_wp2_with fail
  go_ret
  exact ⟨rfl, (unhide HB1).bel⟩
set_option maxHeartbeats 8000000 in
theorem odd_good (w : World) (V : Nat) (a : Option Addr) (n cap : Nat) (es : List (Nat × Nat)) (ra : Option Addr) (m rc : Nat) (q : List (List Nat)) (N : Nat → Nat) (c g : Nat) (h : Gd w V a n cap es ra m rc q N c g) (hsm : ∀ k, k < m → ((rowsI q).getD k []).length ≤ 1000) :
    Calls Tryd.prog 9 #[.agg #[.int .i64 V, .slice a n cap], .slice ra m rc] w fun e w' => Told (¬ Nice V es c g) e ∧ Below w.heap.size w w' := by
  have hv64 := h.plain.v64
  obtain ⟨L, hL⟩ := pt.isL_ex V es (fun _ => false)
  have hz := zero_iff hL h.cnt
  have HB0 := hide (Bg.start w (.int .i64 V) (.slice a n cap))
  have HC := hide (fun (u : World) (hu : Below w.heap.size w u) => refright_any u V a n cap (toI es) ((h.below hu).edges) ra m rc _ ((h.below hu).rr) hsm (by have := h.mV; omega))
  have HO := hide (fun (u : World) (hu : Below w.heap.size w u) => show Calls Tryd.prog 22 #[.agg #[.int .i64 V, .slice a n cap]] u fun e w' => OrderTold u w' V (Pl.order V es) e ∧ Below u.heap.size u w' from by
    have := refOrder_any u V a cap es (by rw [h.ne]; exact (h.below hu).edges) h.pl
    rwa [h.ne] at this)
  have HG := hide (fun (u : World) (hu : Below w.heap.size w u) => refgenus_any u V a n cap es ((h.below hu).edges) h.ne h.plain ra m rc q ((h.below hu).rr) h.ro N h.nx c g h.cnt h.eul)
  have HP := hide (fun (u : World) (hu : Below w.heap.size w u) (wa : Option Addr) (wcap : Nat) (hw : pt.Bs u wa V (fun _ => false)) => show Calls Tryd.prog 24 #[.agg #[.int .i64 V, .slice a n cap], .slice wa V wcap] u fun e w' => (∃ pa pc, e = .returned (.slice pa V pc) ∧ Ns w' pa V ((List.range V).map L)) ∧ Below u.heap.size u w' from by
    refine (pt.refpart_any u V a n cap es ((h.below hu).edges) h.ne h.plain wa wcap _ hw L hL).mono ?_
    rintro e w' ⟨⟨v, rfl, ho⟩, hb⟩
    obtain ⟨pa, pc, rfl, _, hns⟩ := ns_of_owns ho (by omega)
    exact ⟨⟨pa, pc, rfl, hns⟩, hb⟩)
  have HYES := hide h.yes
  have HZ := hide hz
  obtain ⟨i0, hi0, hz0, hz1, hz2⟩ := info_parts info4
  have HI := hide hi0
  have HZ0 := hide hz0
  have HZ1 := hide hz1
  have hzb : i0.bytes * V ≤ 281474976710656 := by rw [hz2]; omega
  have hml : V ≤ maxLen := by unfold maxLen; omega
  clear h hsm hL hz hi0 hz0 hz1 hz2
  obtain ⟨g0, g1⟩ := (unhide HB0).cells
  go_enter Tryd.func9, Tryd.ntmps9
  go_wp2_with fail
  refine (unhide HC _ (unhide HB0).bel).mono ?_
  rintro e w1 ⟨⟨r, rfl, hr⟩, hb1⟩
  have hrt : r = true := hr.2 (unhide HYES)
  subst hrt
  have HB1 := hide ((unhide HB0).step hb1)
  clear hb1 HB0 g0 g1 HC hr
  obtain ⟨g0, g1⟩ := (unhide HB1).cells
  go_wp2_with fail
  refine (unhide HO _ (unhide HB1).bel).mono ?_
  rintro e w2 ⟨ho, hb2⟩
  have HB2 := hide ((unhide HB1).step hb2)
  clear hb2 HB1 g0 g1 HO
  obtain ⟨g0, g1⟩ := (unhide HB2).cells
  rcases ho with ⟨hlt, rfl⟩ | ⟨hge, oa2, oc2, rfl, _⟩
  · have HN := hide (show ¬ Nice V es c g from fun hn => by have := hn.2.2; omega)
    clear hlt
    go_wp2_with fail
    go_ret
    exact ⟨Told.yes (unhide HN), (unhide HB2).bel⟩
  · have HGE := hide hge
    clear hge
    go_wp2_with fail
    refine (unhide HG _ (unhide HB2).bel).mono ?_
    rintro e w3 ⟨rfl, hb3⟩
    have HB3 := hide ((unhide HB2).step hb3)
    clear hb3 HB2 g0 g1 HG
    obtain ⟨g0, g1⟩ := (unhide HB3).cells
    by_cases hg : g = 0
    · subst hg
      go_upto_region 6 with fail
      have XD := hide ((unhide HB3).step b_dr)
      refine wp_region_held_drew (S := fun u => u.cell? ⟨w.heap.size, 0, none⟩ = some (.int .i64 (V : Int)) ∧ u.cell? ⟨w.heap.size, 1, none⟩ = some (.slice a n cap)) (by kernel_rfl) (unhide XD).cells (fun hS => ?_)
      generalize w3.drew = wd at XD hS ⊢
      clear g0 g1 HB3
      refine wpAnyH_take (i := 0) (v := ?_) rfl (by kernel_rfl) (by kernel_rfl) (by kernel_rfl) (fun _ _ _ h => h) (Or.inl ⟨by rfl, ?_⟩) hS ?_
      rotate_left
      · intro u hu; (try dsimp only at hu); go_simp; try with_reducible rfl
      simp only [Act.put, List.getElem_toArray, List.getElem_cons_zero, List.setIfInBounds_toArray, List.set_cons_zero, List.set_cons_succ]
      refine wpAnyH_take (i := 1) (v := ?_) rfl (by kernel_rfl) (by kernel_rfl) (by kernel_rfl) (fun _ _ _ h => h) (Or.inl ⟨by rfl, ?_⟩) hS ?_
      rotate_left
      · intro u hu; (try dsimp only at hu); go_simp; try with_reducible rfl
      simp only [Act.put, List.getElem_toArray, List.getElem_cons_zero, List.getElem_cons_succ, List.setIfInBounds_toArray, List.set_cons_zero, List.set_cons_succ]
      refine wpAnyH_take (i := 2) (v := ?_) rfl (by kernel_rfl) (by kernel_rfl) (by kernel_rfl) (fun _ _ _ h => h) (Or.inl ⟨by rfl, ?_⟩) hS ?_
      rotate_left
      · intro u hu; (try dsimp only at hu); go_simp; try with_reducible rfl
      simp only [Act.put, List.getElem_toArray, List.getElem_cons_zero, List.getElem_cons_succ, List.setIfInBounds_toArray, List.set_cons_zero, List.set_cons_succ]
      refine wpAnyH_take (i := 6) (v := ?_) rfl (by kernel_rfl) (by kernel_rfl) (by kernel_rfl) (fun _ _ _ h => h) (Or.inl ⟨by rfl, ?_⟩) hS ?_
      rotate_left
      · intro u hu; (try dsimp only at hu); go_simp; try with_reducible rfl
      simp only [Act.put, List.getElem_toArray, List.getElem_cons_zero, List.getElem_cons_succ, List.setIfInBounds_toArray, List.set_cons_zero, List.set_cons_succ]
      refine wpAnyH_ready (rs := [3]) (by kernel_rfl) (by simp) ?_
      refine AllReadyH.cons rfl (fun K hK => ?_) AllReadyH.nil
      refine step_make_full (P := Tryd.prog) rfl (.tmp 28) (.tmp 28) 42 rfl wd.heap.size 4 i0 (.bool false) 1 Tryd.underlying42 (unhide HI) (unhide HZ0) (unhide HZ1) .i64 .i64 _ _ V rfl rfl rfl rfl hzb hml (Nat.le_refl _) ?_
      intro wm hown hgr
      change World.ownsRow _ _ _ _ _ _ (madeCells #[Value.bool false] (V * 1)).toList at hown
      rw [toList_madeCells_one, Nat.mul_one] at hown
      have hbm : Below wd.heap.size wd wm := ⟨hgr.os, hgr.tape, hgr.output, hgr.size, fun k hk => hgr.block k hk (by simp)⟩
      have XM := hide ((unhide XD).step hbm)
      have HRW := hide (pt.RowB.read (f := fun _ => false) (pt.Row.of_owns hown) (by omega))
      clear hown hgr hbm
      refine hK.out _ _ (unhide XM).cells (fun hS2 => ?_)
      clear hK K hS
      refine wpAnyH_ready (rs := [4]) (by kernel_rfl) (by simp) ?_
      refine AllReadyH.cons rfl (fun K hK => ?_) AllReadyH.nil
      go_simp
      go_wp2_with (go_at_call 24; refine (unhide HP _ (unhide XM).bel _ _ (unhide HRW)).mono ?_; rintro e w7 ⟨⟨pa, pc, rfl, hns⟩, hb7⟩; have HNS := hide hns; have X7 := hide ((unhide XM).step hb7); clear hns hb7)
      refine hK.out _ _ (unhide X7).cells (fun hS3 => ?_)
      clear hK K hS2
      refine wpAnyH_take (i := 5) (v := ?_) rfl (by kernel_rfl) (by kernel_rfl) (by kernel_rfl) (fun _ _ _ h => h) (Or.inl ⟨by rfl, ?_⟩) hS3 ?_
      rotate_left
      · intro u hu; (try dsimp only at hu); go_simp; try with_reducible rfl
      simp only [Act.put, List.getElem_toArray, List.getElem_cons_zero, List.getElem_cons_succ, List.setIfInBounds_toArray, List.set_cons_zero, List.set_cons_succ]
      refine wpAnyH_done (by kernel_rfl) ?_ _
      have HL0 := hide (show ∀ x, x < 0 → L x = 0 from fun x hx => by omega)
      go_wp2_with fail
      go_loopw [32] (fun i wr => ∃ k : Nat, i = .int .i64 k ∧ k ≤ V ∧ Hid (∀ x, x < k → L x = 0) ∧ wr = w7) (fun i wr => V - (intOf i).toNat)
      case atStart => exact ⟨0, rfl, by omega, HL0, rfl⟩
      case round =>
        clear HL0
        obtain ⟨k, rfl, hk, HL0, rfl⟩ := hrel
        by_cases hkV : k < V
        · have hkV2 : (k : Int) < (V : Int) := by omega
          obtain ⟨gl, ol, hla, hgl, e1⟩ := (unhide HNS).2.2 k hkV
          subst hla
          have e2 : ((List.range V).map L).getD k 0 = L k := by simp [List.getD, hkV]
          rw [e2] at e1
          clear e2
          by_cases h0 : L k = 0
          · have HL1 := hide (show ∀ x, x < k + 1 → L x = 0 from fun x hx => by
              rcases Nat.lt_or_ge x k with h | h
              · exact unhide HL0 x h
              · obtain rfl : x = k := by omega
                exact h0)
            rw [h0] at e1
            clear h0
            go_wp2_with fail
            go_roundw
            case rel => exact ⟨k + 1, by go_num, by omega, HL1, (by first | rfl | trivial)⟩
            case measure => simp [intOf]; omega
          · have HN := hide (show ¬ Nice V es c 0 from fun hn => h0 ((unhide HZ).2 hn.2.1 k hkV))
            obtain ⟨z, hz⟩ : ∃ z, L k = z := ⟨_, rfl⟩
            rw [hz] at e1 h0
            clear hz
            have hz1 : (z != 0) = true := by simp; exact h0
            go_wp2_with fail
            go_ret
            exact ⟨Told.yes (unhide HN), (unhide X7).bel⟩
        · obtain rfl : k = V := by omega
          have HN := hide (show Nice k es c 0 from ⟨rfl, (unhide HZ).1 (unhide HL0), unhide HGE⟩)
          go_wp2_with fail
          go_ret
          exact ⟨Told.no (fun h => h (unhide HN)), (unhide X7).bel⟩
    · have hg1 : ((g : Int) != 0) = true := by simp; omega
      have HN := hide (show ¬ Nice V es c g from fun hn => hg hn.1)
      go_wp2_with fail
      go_ret
      exact ⟨Told.yes (unhide HN), (unhide HB3).bel⟩
end Go.Proofs.YtefagplbpbkpgaaDoor

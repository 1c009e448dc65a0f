/-
  The contract of the document's Angles. Conditions: the graph and the lists lie in memory as told, and the lists are a rotation.
-/
import Derived.Test.YtefagplbpbkpgaaDoorJ11
import Derived.Maps.AppendAt
namespace Go.Proofs.YtefagplbpbkpgaaDoor
open Go.RowKit
set_option linter.unusedVariables false
set_option maxRecDepth 20000
theorem info36 : (Tryd.prog.info? 36).map (fun i => (i.zero, i.size, i.bytes)) = some (some (.agg #[.int .i64 0, .int .i64 0, .int .i64 0, .int .i64 0]), 4, 32) := by kernel_rfl
/-- angles as cells -/
def acells (A : Nat → Nat → Nat) (k : Nat) : List Value := (List.range k).flatMap fun t => [.int .i64 (A t 0 : Nat), .int .i64 (A t 1 : Nat), .int .i64 (A t 2 : Nat), .int .i64 (A t 3 : Nat)]
theorem acells_succ (A : Nat → Nat → Nat) (k : Nat) : acells A (k + 1) = acells A k ++ [.int .i64 (A k 0 : Nat), .int .i64 (A k 1 : Nat), .int .i64 (A k 2 : Nat), .int .i64 (A k 3 : Nat)] := by
  simp [acells, List.range_succ]
theorem acells_length (A : Nat → Nat → Nat) (k : Nat) : (acells A k).length = k * 4 := by
  induction k with
  | zero => rfl
  | succ k ih => rw [acells_succ, List.length_append, ih]; simp; omega
theorem acells_at (A : Nat → Nat → Nat) (k : Nat) : ∀ t, t < k → (acells A k)[t * 4]? = some (.int .i64 (A t 0 : Nat)) ∧ (acells A k)[t * 4 + 1]? = some (.int .i64 (A t 1 : Nat)) ∧ (acells A k)[t * 4 + 2]? = some (.int .i64 (A t 2 : Nat)) ∧ (acells A k)[t * 4 + 3]? = some (.int .i64 (A t 3 : Nat)) := by
  induction k with
  | zero => intro t ht; omega
  | succ k ih =>
    intro t ht
    have hl := acells_length A k
    rw [acells_succ]
    by_cases h : t < k
    · rw [List.getElem?_append_left (by omega), List.getElem?_append_left (by omega), List.getElem?_append_left (by omega), List.getElem?_append_left (by omega)]
      exact ih t h
    · obtain rfl : t = k := by omega
      rw [List.getElem?_append_right (by omega), List.getElem?_append_right (by omega), List.getElem?_append_right (by omega), List.getElem?_append_right (by omega), hl]
      refine ⟨?_, ?_, ?_, ?_⟩
      · rw [show t * 4 - t * 4 = 0 by omega]; rfl
      · rw [show t * 4 + 1 - t * 4 = 1 by omega]; rfl
      · rw [show t * 4 + 2 - t * 4 = 2 by omega]; rfl
      · rw [show t * 4 + 3 - t * 4 = 3 by omega]; rfl
theorem as_of_owns {w : World} {base : Nat} {ty : TypeId} {v : Value} {n : Nat} {A : Nat → Nat → Nat} (h : w.ownsRow base ty 4 v n (acells A n)) (hn : n ≤ 256) : ∃ a c, v = .slice a n c ∧ n ≤ c ∧ As w a n A := by
  rcases h.2 with ⟨hv, h0⟩ | ⟨g, cap, cur, rfl, hb, hg, h1, h2, h3, h4⟩
  · exact ⟨none, 0, by rw [hv, h0], by omega, hn, fun t ht => by omega⟩
  · refine ⟨_, cap, rfl, h1, hn, fun t ht => ⟨g, 0, rfl, (Array.getElem?_eq_some_iff.1 hg).1, ?_⟩⟩
    obtain ⟨e0, e1, e2, e3⟩ := acells_at A n t ht
    exact ⟨by rw [Nat.zero_add, h.cellAt (t * 4) (by omega), e0], by rw [Nat.zero_add, h.cellAt (t * 4 + 1) (by omega), e1], by rw [Nat.zero_add, h.cellAt (t * 4 + 2) (by omega), e2], by rw [Nat.zero_add, h.cellAt (t * 4 + 3) (by omega), e3]⟩
theorem at_new (w : World) (cs : Array Value) (ty : TypeId) : (w.alloc (.cells cs ty)).heap[w.heap.size]? = some (.cells cs ty (0, 0)) := (MapKept.heap_alloc w _).1
theorem four_new (w : World) (x0 x1 x2 x3 : Value) (ty : TypeId) : ∀ j u, [x0, x1, x2, x3][j]? = some u → (w.alloc (.cells #[x0, x1, x2, x3] ty)).cell? ((⟨w.heap.size, 0, none⟩ : Addr).add j) = some u := by
  intro j u h
  have hj : j < 4 := by
    have := (List.getElem?_eq_some_iff.1 h).1
    simpa using this
  obtain rfl | rfl | rfl | rfl : j = 0 ∨ j = 1 ∨ j = 2 ∨ j = 3 := by omega
  all_goals
    simp only [List.getElem?_cons_zero, List.getElem?_cons_succ, Option.some.injEq] at h
    subst h
    show World.cell? _ ⟨w.heap.size, _, none⟩ = _
    simp only [World.cell?, at_new]
    rfl
theorem one4 (x0 x1 x2 x3 : Int) : ∀ u ∈ [Value.int .i64 x0, .int .i64 x1, .int .i64 x2, .int .i64 x3], u.oneCell' = true := by
  intro u hu
  simp at hu
  rcases hu with rfl | rfl | rfl | rfl <;> rfl
/-- the list of angles that grows behind the faces -/
structure Al (b0 : Nat) (w1 wr : World) (v : Value) (k : Nat) (A : Nat → Nat → Nat) : Prop where
  own : wr.ownsRow b0 36 4 v k (acells A k)
  but : But b0 w1 wr
  blk : ∀ t, v.ownBlock = some t → t = b0 ∨ w1.heap.size ≤ t
theorem Al.step {b0 : Nat} {w1 wr wr' : World} {v : Value} {k : Nat} {A : Nat → Nat → Nat} (h : Al b0 w1 wr v k A) (hb : Below wr.heap.size wr wr') (hb0 : b0 ≤ w1.heap.size) : Al b0 w1 wr' v k A :=
  ⟨owns_below h.own hb, h.but.trans (But.of hb (Nat.le_trans hb0 h.but.size)), h.blk⟩
theorem Al.push {b0 : Nat} {w1 wr w7 : World} {o : Obj} {v v2 : Value} {k : Nat} {A : Nat → Nat → Nat} (h : Al b0 w1 wr v k A) (hown : w7.ownsRow b0 36 4 v2 (k + 1) (acells A (k + 1))) (hg : (wr.alloc o).grownBy w7 v.ownBlock) (hob : v2.ownBlock = v.ownBlock ∨ v2.ownBlock = some (wr.heap.size + 1)) (hb : b0 < w1.heap.size) : Al b0 w1 w7 v2 (k + 1) A := by
  have hs : (wr.alloc o).heap.size = wr.heap.size + 1 := by simp
  have hsz := h.but.size
  have hs7 := hg.size
  have key : ∀ i, i < w1.heap.size → i ≠ b0 → w7.heap[i]? = wr.heap[i]? := fun i hi hne => by
    rw [hg.block i (by omega) (fun e => by rcases h.blk i e.symm with h1 | h1 <;> omega)]
    exact Below.heap_alloc wr o i (by omega)
  refine ⟨hown, ⟨⟨hg.os.trans h.but.bel.os, hg.tape.trans h.but.bel.tape, hg.output.trans h.but.bel.output, by omega, fun i hi => ?_⟩, by omega, fun i h1 h2 => by rw [key i h1 h2, h.but.far i h1 h2]⟩, fun t ht => ?_⟩
  · rw [key i (by omega) (by omega)]
    exact h.but.bel.block i hi
  · rcases hob with e | e
    · exact h.blk t (by rw [← e]; exact ht)
    · rw [e] at ht
      cases ht
      exact .inr (by omega)
end Go.Proofs.YtefagplbpbkpgaaDoor
/-
  The walk of the document's Angles. Conditions: the graph and the lists lie in memory as told, and the lists are a rotation.
-/
namespace Go.Proofs.YtefagplbpbkpgaaDoor
open Go.RowKit
set_option linter.unusedVariables false
set_option maxRecDepth 20000
/-- an angle's cells -/
def bx (a b c d : Int) (t : Nat) : Value := .int .i64 (if t = 0 then a else if t = 1 then b else if t = 2 then c else d)
theorem bx_new (w : World) (a b c d : Int) (ty : TypeId) : Row (w.alloc (.cells #[.int .i64 a, .int .i64 b, .int .i64 c, .int .i64 d] ty)) w.heap.size ty 4 (bx a b c d) := by
  refine ⟨_, at_new w _ ty, fun t ht => ?_⟩
  obtain rfl | rfl | rfl | rfl : t = 0 ∨ t = 1 ∨ t = 2 ∨ t = 3 := by omega
  all_goals rfl
theorem Row.bx2 {w : World} {g : Nat} {ty : TypeId} {a b c d : Int} (h : Row w g ty 4 (bx a b c d)) (z : Int) : Row (w.setCell ⟨g, 2, none⟩ (.int .i64 z)) g ty 4 (bx a b z d) :=
  (Row.set h 2 (.int .i64 z)).congr fun t ht => by
    obtain rfl | rfl | rfl | rfl : t = 0 ∨ t = 1 ∨ t = 2 ∨ t = 3 := by omega
    all_goals rfl
theorem Row.bx3 {w : World} {g : Nat} {ty : TypeId} {a b c d : Int} (h : Row w g ty 4 (bx a b c d)) (z : Int) : Row (w.setCell ⟨g, 3, none⟩ (.int .i64 z)) g ty 4 (bx a b c z) :=
  (Row.set h 3 (.int .i64 z)).congr fun t ht => by
    obtain rfl | rfl | rfl | rfl : t = 0 ∨ t = 1 ∨ t = 2 ∨ t = 3 := by omega
    all_goals rfl
theorem Row.bxc {w : World} {g : Nat} {ty : TypeId} {a b c d : Int} (h : Row w g ty 4 (bx a b c d)) : w.cell? ⟨g, 0, none⟩ = some (.int .i64 a) ∧ w.cell? ⟨g, 1, none⟩ = some (.int .i64 b) ∧ w.cell? ⟨g, 2, none⟩ = some (.int .i64 c) ∧ w.cell? ⟨g, 3, none⟩ = some (.int .i64 d) :=
  ⟨h.cell (t := 0) (by omega), h.cell (t := 1) (by omega), h.cell (t := 2) (by omega), h.cell (t := 3) (by omega)⟩
theorem Ns.keepB {w u : World} {b0 : Nat} {a : Option Addr} {n : Nat} {xs : List Int} (h : Ns w a n xs) (hno : ∀ o, w.cell? ⟨b0, o, none⟩ = none) (hs : w.heap.size ≤ u.heap.size) (hk : ∀ g, g < w.heap.size → g ≠ b0 → u.heap[g]? = w.heap[g]?) : Ns u a n xs := by
  refine ⟨h.1, h.2.1, fun k hk' => ?_⟩
  obtain ⟨g, off, ha, hg, c⟩ := h.2.2 k hk'
  have hne : g ≠ b0 := fun e => by rw [e, hno] at c; cases c
  exact ⟨g, off, ha, Nat.lt_of_lt_of_le hg hs, by rw [World.cell?_of_block (w := w) (hk g hg hne)]; exact c⟩
theorem Rr.keepB {w u : World} {b0 : Nat} {a : Option Addr} {n : Nat} {rs : List (List Int)} (h : Rr w a n rs) (hno : ∀ o, w.cell? ⟨b0, o, none⟩ = none) (hs : w.heap.size ≤ u.heap.size) (hk : ∀ g, g < w.heap.size → g ≠ b0 → u.heap[g]? = w.heap[g]?) : Rr u a n rs := by
  refine ⟨h.1, h.2.1, fun k hk' => ?_⟩
  obtain ⟨g, off, la, lc, ha, hg, c, hl, hn⟩ := h.2.2 k hk'
  have hne : g ≠ b0 := fun e => by rw [e, hno] at c; cases c
  exact ⟨g, off, la, lc, ha, Nat.lt_of_lt_of_le hg hs, by rw [World.cell?_of_block (w := w) (hk g hg hne)]; exact c, hl, hn.keepB hno hs hk⟩
/-- before the place (f, i) the number o isn't -/
def NotYet (L : List (List Nat)) (o f i : Nat) : Prop := ∀ f' i', (f' < f ∨ f' = f ∧ i' < i) → f' < L.length → i' < (L.getD f' []).length → (L.getD f' []).getD i' 0 ≠ o
set_option maxHeartbeats 8000000 in
theorem refangles_any (w : World) (V : Nat) (a : Option Addr) (n cap : Nat) (es : List (Nat × Nat)) (ra : Option Addr) (m rc : Nat) (q : List (List Nat)) (N : Nat → Nat) (c g : Nat) (h : Gd w V a n cap es ra m rc q N c g) (F : Nat → Nat) (hF : IsFc (facesF N (2 * n) (2 * n)) (2 * n) F) :
    Calls Tryd.prog 12 #[.agg #[.int .i64 V, .slice a n cap], .slice ra m rc] w fun e w' => (∃ v, e = .returned v ∧ w'.ownsRow w.heap.size 36 4 v (2 * n) (acells (angI (pt.stV es) F N) (2 * n))) ∧ Below w.heap.size w w' := by
  have hn128 := h.n128
  have HB0 := hide ((Bg.start w (.int .i64 V) (.slice a n cap)).step (b_al (.cells #[] 36)))
  have hw1s : ((w.alloc (.cells #[.int .i64 (V : Int), .slice a n cap] 24)).alloc (.cells #[] 36)).heap.size = w.heap.size + 2 := by simp
  have HOW := hide (show ((w.alloc (.cells #[.int .i64 (V : Int), .slice a n cap] 24)).alloc (.cells #[] 36)).ownsRow (w.heap.size + 1) 36 4 (.slice (some ⟨w.heap.size + 1, 0, none⟩) 0 0) 0 (acells (angI (pt.stV es) F N) 0) from by
    have := owns_lit_empty (w.alloc (.cells #[.int .i64 (V : Int), .slice a n cap] 24)) 36 4 (w.heap.size + 1) (by simp)
    rwa [show (w.alloc (.cells #[.int .i64 (V : Int), .slice a n cap] 24)).heap.size = w.heap.size + 1 by simp] at this)
  have HE0 := hide (show ((w.alloc (.cells #[.int .i64 (V : Int), .slice a n cap] 24)).alloc (.cells #[] 36)).heap[w.heap.size + 1]? = some (.cells #[] 36 (0, 0)) from by
    have := at_new (w.alloc (.cells #[.int .i64 (V : Int), .slice a n cap] 24)) #[] 36
    rwa [show (w.alloc (.cells #[.int .i64 (V : Int), .slice a n cap] 24)).heap.size = w.heap.size + 1 by simp] at this)
  have HF := hide (fun (u : World) (hu : Below w.heap.size w u) => reffaces_any u V a n cap es ((h.below hu).edges) h.ne hn128 ra m rc q ((h.below hu).rr) h.ro N h.nx)
  have HAT := hide (fun (u : World) (hu : Below w.heap.size w u) (j : Nat) (hj : j < 2 * n) => show Calls Tryd.prog 29 #[.agg #[.int .i64 V, .slice a n cap], .int .i64 (j : Nat)] u fun e w' => e = .returned (.int .i64 (pt.stV es j : Nat)) ∧ Below u.heap.size u w' from by
    have := at_any u V a n cap (toI es) ((h.below hu).edges) j hj hn128
    rwa [pt.atI_toI] at this)
  have HRR := hide (fun (u : World) (hu : Below w.heap.size w u) => (h.below hu).rr)
  have HST := hide (fun (t : Nat) (ht : t < 2 * n) => h.ro.at (h := t) (by rw [h.ne]; exact ht))
  have HQV := hide h.qV
  have HMV := hide h.mV
  have HNX := hide h.nx
  have HND := hide h.ro.one
  have HLT := hide h.lt
  have HNL := hide h.pm.lt
  have hFl := facesF_len N (2 * n) (2 * n)
  have HLL := hide (fun (l : List Nat) (hl : l ∈ facesF N (2 * n) (2 * n)) => h.pm.faces_len (Nat.le_refl _) l hl)
  have HOL := hide (fun (j : Nat) (hj : j < 2 * n) => oth_lt hj)
  obtain ⟨H, hH⟩ : ∃ H, 2 * n = H := ⟨_, rfl⟩
  rw [hH] at HF HAT HST HLT HNL hFl HLL hF HOL ⊢
  have hH256 : H ≤ 256 := by omega
  have hmul : IntKind.i64.wrap (2 * (n : Int)) = (H : Int) := by rw [IntKind.wrap_i64]; omega
  obtain ⟨L, hL⟩ : ∃ L, facesF N H H = L := ⟨_, rfl⟩
  rw [hL] at HF hFl HLL hF
  obtain ⟨Fl, hFL⟩ : ∃ Fl, L.length = Fl := ⟨_, rfl⟩
  rw [hFL] at HF hFl
  have HFL := hide hFL
  have HFC := hide hF
  have HLL2 := hide (fun (f : Nat) (hf : f < L.length) => show (L.getD f []).length ≤ H from unhide HLL _ (by simp [List.getD, hf]))
  obtain ⟨i0, hi0, hz0, hz1, hz2⟩ := info_parts info36
  have HI := hide hi0
  have HZ0 := hide hz0
  have HZ1 := hide hz1
  have HZ2 := hide hz2
  clear h hF hL hH hFL hi0 hz0 hz1 hz2 HLL
  obtain ⟨A, hA⟩ : ∃ A, angI (pt.stV es) F N = A := ⟨_, rfl⟩
  rw [hA] at HOW ⊢
  have HA := hide hA
  clear hA
  go_enter Tryd.func12, Tryd.ntmps12
  go_wp2_with fail
  obtain ⟨wa, hwa⟩ : ∃ wa, (w.alloc (.cells #[.int .i64 (V : Int), .slice a n cap] 24)).alloc (.cells #[] 36) = wa := ⟨_, rfl⟩
  rw [hwa] at HB0 HOW hw1s HE0 ⊢
  clear hwa
  obtain ⟨b0, hb0⟩ : ∃ b0, w.heap.size + 1 = b0 := ⟨_, rfl⟩
  rw [hb0] at HOW HE0 ⊢
  refine (unhide HF _ (unhide HB0).bel).mono ?_
  rintro e w1 ⟨⟨va, vc, rfl, hvc, hrf⟩, hb1⟩
  have hbs : b0 < w1.heap.size := by have := hb1.size; omega
  have HB1 := hide ((unhide HB0).step hb1)
  have HAl0 := hide (show Al b0 w1 w1 (.slice (some ⟨b0, 0, none⟩) 0 0) 0 A from ⟨owns_below (unhide HOW) hb1, But.refl _ _, fun t ht => by simp [Value.ownBlock] at ht; exact .inl ht.symm⟩)
  have HRF := hide hrf
  have HN0 := hide (fun (o : Nat) => show w1.cell? ⟨b0, o, none⟩ = none from by
    have e : w1.heap[b0]? = some (.cells #[] 36 (0, 0)) := by rw [hb1.block b0 (by omega)]; exact unhide HE0
    simp only [World.cell?, e]
    rfl)
  have hbw : w.heap.size < b0 := by omega
  have HFB := hide (show ∀ k, k < Fl → ∀ gr or, va = some ⟨gr, or, none⟩ → True from fun _ _ _ _ _ => trivial)
  clear hrf hb1 HOW HF HE0 hvc HFB HB0 hw1s
  go_wp2_with fail
  go_loopw [5, 7] (fun v5 i wr => ∃ k : Nat, i = .int .i64 k ∧ k ≤ H ∧ Hid (Al b0 w1 wr v5 k A)) (fun v5 i wr => H - (intOf i).toNat)
  case atStart => exact ⟨0, rfl, by omega, HAl0⟩
  case round =>
    clear HAl0
    obtain ⟨k, rfl, hk, HAl⟩ := hrel
    have HBk := hide ((unhide HB1).bel.trans ((unhide HAl).but.bel.mono (Nat.le_of_lt hbw)))
    have hwr := (unhide HAl).but.size
    have HBX := hide (show Bg w wr (.int .i64 (V : Int)) (.slice a n cap) from ⟨unhide HBk, by rw [(unhide HAl).but.far _ (by omega) (by omega)]; exact (unhide HB1).gb⟩)
    obtain ⟨g0, g1⟩ := (unhide HBX).cells
    by_cases hkH : k < H
    · have hkH2 : (k : Int) < (H : Int) := by omega
      have HC1 := hide (unhide HAT wr (unhide HBk) k hkH)
      have hst := (unhide HST k hkH).1
      have HMEM := hide (unhide HST k hkH).2
      obtain ⟨x, hx⟩ : ∃ x, pt.stV es k = x := ⟨_, rfl⟩
      rw [hx] at HC1 hst HMEM
      have HXE := hide hx
      clear hx
      go_wp2_with fail
      refine (unhide HC1).mono ?_
      rintro e w2 ⟨rfl, hb2⟩
      have HAl2 := hide ((unhide HAl).step hb2 (Nat.le_of_lt hbs))
      have HBX2 := hide ((unhide HBX).step hb2)
      have hs2 := hb2.size
      clear hb2 HAl HBX HC1 g0 g1 HBk
      obtain ⟨gr, or, la, lc, ha, hgr, c0, hlc, hls⟩ := (unhide HRR w (Below.refl _ _)).2.2 x (by rw [unhide HMV]; exact hst)
      subst ha
      rw [rowsI_getD, toIs_length] at c0 hls
      have d0 : w2.cell? ⟨gr, or + x, none⟩ = some (.slice la (q.getD x []).length lc) := by rw [(unhide HBX2).bel.cell (p := ⟨gr, or + x, none⟩) hgr]; exact c0
      have hxm : (x : Int) < (m : Int) := by have := unhide HMV; omega
      obtain ⟨l, hl⟩ : ∃ l, q.getD x [] = l := ⟨_, rfl⟩
      rw [hl] at d0 c0 hls
      obtain ⟨len, hlen⟩ : ∃ len, l.length = len := ⟨_, rfl⟩
      rw [hlen] at d0 c0 hls
      have hln := hls.2.1
      have HL := hide hl
      have HLEN := hide hlen
      have HLS := hide hls
      obtain ⟨p, hp, hpe⟩ := pt.in_getD (show k ∈ l by rw [← hl, ← unhide HXE]; exact (unhide HST k hkH).2)
      rw [hlen] at hp
      have HNDl := hide (show l.Nodup by rw [← hl]; exact unhide HND x hst)
      have hNb : N (oth k) = l.getD ((p + 1) % len) 0 := by
        have := unhide HNX x (by rw [unhide HQV]; exact hst) p (by rw [hl, hlen]; exact hp)
        rw [hl, hlen, hpe] at this
        exact this
      have HNB := hide hNb
      have HPE := hide hpe
      have hwb := (unhide HBX2).bel.size
      have hsz2 : w1.heap.size ≤ w2.heap.size := (unhide HAl2).but.size
      obtain ⟨wb, hwbe⟩ : ∃ wb, w2.alloc (.cells #[.int .i64 (k : Int), .int .i64 (x : Int), .int .i64 0, .int .i64 0] 36) = wb := ⟨_, rfl⟩
      have HRB := hide (show Row wb w2.heap.size 36 4 (bx k x 0 0) by rw [← hwbe]; exact bx_new w2 k x 0 0 36)
      have HAl3 := hide (show Al b0 w1 wb u5 k A by rw [← hwbe]; exact (unhide HAl2).step (b_al _) (Nat.le_of_lt hbs))
      have hbb : Below w.heap.size w wb := by rw [← hwbe]; exact bto (unhide HBX2).bel (b_al _)
      obtain ⟨b, hb⟩ : ∃ b, w2.heap.size = b := ⟨_, rfl⟩
      have hwbs : b < wb.heap.size := by rw [← hwbe, ← hb]; simp
      have hbw1 : w1.heap.size ≤ b := by omega
      rw [hb] at HRB
      have HBB := hide hbb
      have HTB := hide (fun (t : Nat) (ht : u5.ownBlock = some t) => show t < b from by rw [← hb]; exact ((unhide HAl2).own.lt t ht).2)
      have HWB := hide hwbe
      have HBe := hide hb
      clear c0 hlc hls hl hlen hpe hNb hbb hwbe hb hs2 hwr
      go_wp2_with fail
      rw [unhide HBe, unhide HWB]
      have HBu := hide (But.refl b wb)
      have HKD := hide (show (0 ≤ p ∧ (0 : Nat) = 0) ∨ (p < 0 ∧ (0 : Nat) = knd k (N (oth k))) from .inl ⟨Nat.zero_le _, rfl⟩)
      have HFAR := hide (fun (u : World) (hu : But b wb u) => show Below w.heap.size w u from (unhide HBB).trans (hu.bel.mono (by omega)))
      clear d0 HAl2 HBX2
      go_loopw [11] (fun i wr => ∃ (i' y : Nat), i = .int .i64 i' ∧ i' ≤ len ∧ Hid ((i' ≤ p ∧ y = 0) ∨ (p < i' ∧ y = knd k (N (oth k)))) ∧ Hid (Row wr b 36 4 (bx k x 0 y)) ∧ Hid (But b wb wr)) (fun i wr => len - (intOf i).toNat)
      case atStart => exact ⟨0, 0, rfl, by omega, HKD, HRB, HBu⟩
      case round =>
        clear HKD HRB HBu
        obtain ⟨i', y, rfl, hi', HKD, HRB, HBu⟩ := hrel
        by_cases hil : i' < len
        · have hil2 : (i' : Int) < (len : Int) := by omega
          have hpp : (i' + 1) % len < len := Nat.mod_lt _ (by omega)
          obtain ⟨gl, ol, hla, hgl, e1⟩ := (unhide HLS).2.2 i' hil
          obtain ⟨gl', ol', hla', _, e2⟩ := (unhide HLS).2.2 _ hpp
          subst hla
          simp only [Option.some.injEq, Addr.mk.injEq] at hla'
          obtain ⟨rfl, rfl, _⟩ := hla'
          rw [toIs_getD] at e1 e2
          obtain ⟨hh, hhe⟩ : ∃ hh, l.getD i' 0 = hh := ⟨_, rfl⟩
          obtain ⟨z, hze⟩ : ∃ z, l.getD ((i' + 1) % len) 0 = z := ⟨_, rfl⟩
          rw [hhe] at e1
          rw [hze] at e2
          have hBW := unhide HFAR wr (unhide HBu)
          have d1 : wr.cell? ⟨gl, ol + i', none⟩ = some (.int .i64 (hh : Nat)) := by rw [hBW.cell (p := ⟨gl, ol + i', none⟩) hgl]; exact e1
          have d2 : wr.cell? ⟨gl, ol + (i' + 1) % len, none⟩ = some (.int .i64 (z : Nat)) := by rw [hBW.cell (p := ⟨gl, ol + (i' + 1) % len, none⟩) hgl]; exact e2
          have hW : IntKind.i64.wrap ((i' : Int) + 1) = (i' : Int) + 1 := by rw [IntKind.wrap_i64]; omega
          have hT : ((i' : Int) + 1).tmod (len : Int) = (((i' + 1) % len : Nat) : Int) := by rw [show ((i' : Int) + 1) = ((i' + 1 : Nat) : Int) by omega, Int.ofNat_tmod]
          have hW2 : IntKind.i64.wrap (((i' + 1) % len : Nat) : Int) = (((i' + 1) % len : Nat) : Int) := by rw [IntKind.wrap_i64]; omega
          have hN0 : ¬ len = 0 := by omega
          have hN1 : ((len : Int) == 0) = false := by rw [beq_eq_false_iff_ne]; omega
          have hp2 : (((i' + 1) % len : Nat) : Int) < (len : Int) := by omega
          have HHE := hide hhe
          have HZE := hide hze
          by_cases hip : i' = p
          · have hhk : hh = k := by rw [← hhe, hip]; exact unhide HPE
            have hNz : N (oth k) = z := by rw [unhide HNB, ← hip]; exact hze
            have HIP := hide hip
            have hfz := (unhide HRB).fz 3
            have hc3 := (unhide HRB).bxc.2.2.2
            have hzH : z < H := by rw [← hNz]; exact unhide HNL _ (unhide HOL k hkH)
            obtain ⟨r, hr⟩ : ∃ r, k % 2 = r := ⟨_, rfl⟩
            obtain ⟨r2, hr2⟩ : ∃ r, z % 2 = r := ⟨_, rfl⟩
            have hm1 : (k : Int).tmod 2 = (r : Int) := by rw [← hr, show (2 : Int) = ((2 : Nat) : Int) from rfl, Int.ofNat_tmod]
            have hm2 : (z : Int).tmod 2 = (r2 : Int) := by rw [← hr2, show (2 : Int) = ((2 : Nat) : Int) from rfl, Int.ofNat_tmod]
            have hkd : knd k (N (oth k)) = if r = 0 ∧ r2 = 0 then 1 else if r = 1 ∧ r2 = 1 then 2 else 0 := by rw [hNz, ← hr, ← hr2]; rfl
            have HKK := hide hkd
            have hy0 : y = 0 := by
              rcases unhide HKD with ⟨_, h⟩ | ⟨h, _⟩
              · exact h
              · omega
            subst hy0
            have hrr : r = 0 ∨ r = 1 := by omega
            have hrr2 : r2 = 0 ∨ r2 = 1 := by omega
            have HS := hide (fun (v : Int) => (show Row (wr.setCell ⟨b, 3, none⟩ (.int .i64 v)) b 36 4 (bx k x 0 v) from (unhide HRB).bx3 v))
            have HSB := hide (fun (v : Int) => (unhide HBu).trans (But.set 3 (.int .i64 v)))
            have hc3' : wr.cell? ⟨b, 3, none⟩ = some (.int .i64 0) := hc3
            clear hc3
            subst hhk
            clear hr hr2 hkd hhe hze hNz e1 e2 hBW
            generalize (i' + 1) % len = pp at *
            rcases hrr with rfl | rfl <;> rcases hrr2 with rfl | rfl
            · have HK2 := hide (show (i' + 1 ≤ p ∧ (1 : Nat) = 0) ∨ (p < i' + 1 ∧ (1 : Nat) = knd hh (N (oth hh))) from .inr ⟨by have := unhide HIP; omega, (unhide HKK).symm⟩)
              clear hip
              go_wp2_with fail
              go_roundw
              case rel => exact ⟨i' + 1, 1, by go_num, by omega, HK2, hide (unhide HS 1), hide (unhide HSB 1)⟩
              case measure => simp [intOf]; omega
            · have HK2 := hide (show (i' + 1 ≤ p ∧ (0 : Nat) = 0) ∨ (p < i' + 1 ∧ (0 : Nat) = knd hh (N (oth hh))) from .inr ⟨by have := unhide HIP; omega, (unhide HKK).symm⟩)
              clear hip
              go_wp2_with fail
              go_roundw
              case rel => exact ⟨i' + 1, 0, by go_num, by omega, HK2, HRB, HBu⟩
              case measure => simp [intOf]; omega
            · have HK2 := hide (show (i' + 1 ≤ p ∧ (0 : Nat) = 0) ∨ (p < i' + 1 ∧ (0 : Nat) = knd hh (N (oth hh))) from .inr ⟨by have := unhide HIP; omega, (unhide HKK).symm⟩)
              clear hip
              go_wp2_with fail
              go_roundw
              case rel => exact ⟨i' + 1, 0, by go_num, by omega, HK2, HRB, HBu⟩
              case measure => simp [intOf]; omega
            · have HK2 := hide (show (i' + 1 ≤ p ∧ (2 : Nat) = 0) ∨ (p < i' + 1 ∧ (2 : Nat) = knd hh (N (oth hh))) from .inr ⟨by have := unhide HIP; omega, (unhide HKK).symm⟩)
              clear hip
              go_wp2_with fail
              go_roundw
              case rel => exact ⟨i' + 1, 2, by go_num, by omega, HK2, hide (unhide HS 2), hide (unhide HSB 2)⟩
              case measure => simp [intOf]; omega
          · have hhk : ¬ hh = k := fun e => hip (pt.getD_inj (unhide HNDl) (by rw [unhide HLEN]; exact hil) (by rw [unhide HLEN]; exact hp) (by rw [unhide HHE, unhide HPE]; exact e))
            have hhk2 : ((hh : Int) != (k : Int)) = true := by simp; omega
            have HK2 := hide (show (i' + 1 ≤ p ∧ y = 0) ∨ (p < i' + 1 ∧ y = knd k (N (oth k))) from by
              rcases unhide HKD with ⟨h1, h2⟩ | ⟨h1, h2⟩
              · exact .inl ⟨by omega, h2⟩
              · exact .inr ⟨by omega, h2⟩)
            clear hhe hze e1 e2 hBW hip
            generalize (i' + 1) % len = pp at *
            go_wp2_with fail
            go_roundw
            case rel => exact ⟨i' + 1, y, by go_num, by omega, HK2, HRB, HBu⟩
            case measure => simp [intOf]; omega
        · obtain rfl : i' = len := by omega
          have hyk : y = knd k (N (oth k)) := by
            rcases unhide HKD with ⟨h, _⟩ | ⟨_, h⟩
            · omega
            · exact h
          have HYK := hide hyk
          obtain ⟨kk, hkk⟩ : ∃ kk, (k : Int) + 1 - 2 * ((k % 2 : Nat) : Int) = kk := ⟨_, rfl⟩
          obtain ⟨o, ho⟩ : ∃ o, oth k = o := ⟨_, rfl⟩
          have hko : kk = (o : Int) := by rw [← hkk, ← ho]; unfold oth; split <;> omega
          have hoH : o < H := by rw [← ho]; exact unhide HOL k hkH
          subst hko
          obtain ⟨r, hr⟩ : ∃ r, k % 2 = r := ⟨_, rfl⟩
          have hm1 : (k : Int).tmod 2 = (r : Int) := by rw [← hr, show (2 : Int) = ((2 : Nat) : Int) from rfl, Int.ofNat_tmod]
          have hw1 : IntKind.i64.wrap ((k : Int) + 1) = (k : Int) + 1 := by rw [IntKind.wrap_i64]; omega
          have hw2 : IntKind.i64.wrap (r : Int) = (r : Int) := by rw [IntKind.wrap_i64]; omega
          have hw3 : IntKind.i64.wrap (2 * (r : Int)) = 2 * (r : Int) := by rw [IntKind.wrap_i64]; omega
          rw [hr] at hkk
          have hw4 : IntKind.i64.wrap ((k : Int) + 1 - 2 * (r : Int)) = (o : Int) := by rw [hkk, IntKind.wrap_i64]; omega
          have HO := hide ho
          clear hyk ho hr hkk
          go_wp2_with fail
          have HNY := hide (show (0 : Nat) = F o ∨ NotYet L o 0 0 from .inr fun f' i' h => by omega)
          have HRD := hide (fun (u : World) (hu : But b wb u) => show Rr u va Fl (rowsI L) from by
            refine (unhide HRF).keepB (b0 := b0) (unhide HN0) (Nat.le_trans (unhide HAl3).but.size hu.size) fun g hg hne => ?_
            rw [hu.bel.block g (by omega)]
            exact (unhide HAl3).but.far g hg hne)
          go_loopw [14] (fun i wx => ∃ (f z : Nat), i = .int .i64 f ∧ f ≤ Fl ∧ Hid (z = F o ∨ NotYet L o f 0) ∧ Hid (Row wx b 36 4 (bx k x z y)) ∧ Hid (But b wb wx)) (fun i wx => Fl - (intOf i).toNat)
          case atStart => exact ⟨0, 0, rfl, by omega, HNY, HRB, HBu⟩
          case round =>
            clear HNY HRB HBu HKD
            obtain ⟨f, z, rfl, hf, HNY, HRB, HBu⟩ := hrel
            by_cases hfl : f < Fl
            · have hfl2 : (f : Int) < (Fl : Int) := by omega
              obtain ⟨L1, hL1⟩ : ∃ l, L.getD f [] = l := ⟨_, rfl⟩
              obtain ⟨l1, hl1⟩ : ∃ l, L1.length = l := ⟨_, rfl⟩
              have hl1H : l1 ≤ H := by rw [← hl1, ← hL1]; exact unhide HLL2 f (by rw [unhide HFL]; exact hfl)
              have HL1 := hide hL1
              have Hl1 := hide hl1
              have HRX := hide (fun (u : World) (hu : But b wb u) => show ∃ gr or la lc, va = some ⟨gr, or, none⟩ ∧ u.cell? ⟨gr, or + f, none⟩ = some (.slice la l1 lc) ∧ Ns u la l1 (toIs L1) from by
                obtain ⟨gr, or, la, lc, ha, hg, c, hl, hn⟩ := (unhide HRD u hu).2.2 f hfl
                rw [rowsI_getD, toIs_length, unhide HL1, unhide Hl1] at c hn
                exact ⟨gr, or, la, lc, ha, c, hn⟩)
              obtain ⟨gf, of, la1, lc1, ha1, c1, hn1⟩ := unhide HRX wr (unhide HBu)
              subst ha1
              clear hL1 hl1 c1 hn1
              have HNY1 := HNY
              rename World => wo
              go_wp2_with fail
              go_loopw [15] (fun i wx => ∃ (i' z : Nat), i = .int .i64 i' ∧ i' ≤ l1 ∧ Hid (z = F o ∨ NotYet L o f i') ∧ Hid (Row wx b 36 4 (bx k x z y)) ∧ Hid (But b wb wx)) (fun i wx => l1 - (intOf i).toNat)
              case atStart => exact ⟨0, z, rfl, by omega, HNY, HRB, HBu⟩
              case round =>
                clear HNY HNY1 HRB HBu
                obtain ⟨i', z, rfl, hi', HNY, HRB, HBu⟩ := hrel
                obtain ⟨gf2, of2, la2, lc2, ha2, c1, hn1⟩ := unhide HRX wr (unhide HBu)
                simp only [Option.some.injEq, Addr.mk.injEq] at ha2
                obtain ⟨rfl, rfl, _⟩ := ha2
                have hfz := (unhide HRB).fz 2
                have hc2 := (unhide HRB).bxc.2.2.1
                by_cases hil : i' < l1
                · have hil2 : (i' : Int) < (l1 : Int) := by omega
                  obtain ⟨gl, ol, hla, hgl, e1⟩ := hn1.2.2 i' hil
                  subst hla
                  rw [toIs_getD] at e1
                  obtain ⟨hh, hhe⟩ : ∃ hh, L1.getD i' 0 = hh := ⟨_, rfl⟩
                  rw [hhe] at e1
                  have HHE := hide hhe
                  clear hn1 hhe
                  by_cases hho : hh = o
                  · subst hho
                    have hfo : F hh = f := by
                      have := ((unhide HFC).el f (by rw [unhide HFL]; exact hfl) i' (by rw [unhide HL1, unhide Hl1]; exact hil)).2
                      rw [unhide HL1, unhide HHE] at this
                      exact this
                    have HN2 := hide (show f = F hh ∨ NotYet L hh f (i' + 1) from .inl hfo.symm)
                    have HS := hide (show Row (wr.setCell ⟨b, 2, none⟩ (.int .i64 (f : Int))) b 36 4 (bx k x (f : Nat) y) from (unhide HRB).bx2 f)
                    have HSB := hide ((unhide HBu).trans (But.set 2 (.int .i64 (f : Int))))
                    clear hfo
                    go_wp2_with fail
                    go_roundw
                    case rel => exact ⟨i' + 1, f, by go_num, by omega, HN2, HS, HSB⟩
                    case measure => simp [intOf]; omega
                  · have hho2 : ((hh : Int) == (o : Int)) = false := by rw [beq_eq_false_iff_ne]; omega
                    have HN2 := hide (show z = F o ∨ NotYet L o f (i' + 1) from by
                      rcases unhide HNY with h | h
                      · exact .inl h
                      · refine .inr fun f' j' hh' h1 h2 e => ?_
                        rcases hh' with h3 | ⟨h3, h4⟩
                        · exact h f' j' (.inl h3) h1 h2 e
                        · rcases Nat.lt_or_ge j' i' with h5 | h5
                          · exact h f' j' (.inr ⟨h3, h5⟩) h1 h2 e
                          · obtain rfl : j' = i' := by omega
                            subst h3
                            rw [unhide HL1, unhide HHE] at e
                            exact hho e)
                    go_wp2_with fail
                    go_roundw
                    case rel => exact ⟨i' + 1, z, by go_num, by omega, HN2, HRB, HBu⟩
                    case measure => simp [intOf]; omega
                · obtain rfl : i' = l1 := by omega
                  have HN2 := hide (show z = F o ∨ NotYet L o (f + 1) 0 from by
                    rcases unhide HNY with h | h
                    · exact .inl h
                    · refine .inr fun f' j' hh' h1 h2 e => ?_
                      rcases Nat.lt_or_ge f' f with h3 | h3
                      · exact h f' j' (.inl h3) h1 h2 e
                      · obtain rfl : f' = f := by omega
                        rw [unhide HL1, unhide Hl1] at h2
                        exact h f' j' (.inr ⟨rfl, h2⟩) h1 (by rw [unhide HL1, unhide Hl1]; exact h2) e)
                  clear hn1
                  go_wp2_with fail
                  go_roundw
                  case rel => exact ⟨f + 1, z, by go_num, by omega, HN2, HRB, HBu⟩
                  case measure => simp [intOf]; omega
            · obtain rfl : f = Fl := by omega
              have hzF : z = F o := by
                rcases unhide HNY with h | h
                · exact h
                · obtain ⟨h1, i, h2, h3⟩ := (unhide HFC).cov o hoH
                  exact absurd h3 (h (F o) i (.inl (by rw [← unhide HFL]; exact h1)) h1 h2)
              obtain ⟨c0, c1, c2, c3⟩ := (unhide HRB).bxc
              have hA0 : A k 0 = k := by rw [← unhide HA]; rfl
              have hA1 : A k 1 = x := by rw [← unhide HA]; exact unhide HXE
              have hA2 : A k 2 = z := by rw [← unhide HA, hzF, ← unhide HO]; rfl
              have hA3 : A k 3 = y := by rw [← unhide HA, unhide HYK]; rfl
              have HAC := hide (show acells A (k + 1) = acells A k ++ [.int .i64 (k : Int), .int .i64 (x : Int), .int .i64 (z : Int), .int .i64 (y : Int)] by rw [acells_succ, hA0, hA1, hA2, hA3])
              have hsz3 : w1.heap.size ≤ wr.heap.size := Nat.le_trans (unhide HAl3).but.size (unhide HBu).size
              have HAl4 := hide (show Al b0 w1 wr u5 k A from ⟨owns_keep (unhide HAl3).own fun t ht => (unhide HBu).bel.block t (unhide HTB t ht), ⟨(unhide HAl3).but.bel.trans ((unhide HBu).bel.mono (by omega)), hsz3, fun i h1 h2 => ((unhide HBu).bel.block i (by omega)).trans ((unhide HAl3).but.far i h1 h2)⟩, (unhide HAl3).blk⟩)
              clear hzF hA0 hA1 hA2 hA3 HNY
              go_wp2_with (at_builtin; refine wpList_append_own_at _ rfl (.tmp 108) (.tmp 110) 32 rfl b0 36 i0 (.agg #[.int .i64 0, .int .i64 0, .int .i64 0, .int .i64 0]) 4 32 Tryd.underlying32 (unhide HI) (unhide HZ0) (unhide HZ1) (unhide HZ2) rfl (by decide) u5 k (acells A k) rfl ((unhide HAl4).own.alloc _) ⟨wr.heap.size, 0, none⟩ 1 1 [.int .i64 (k : Int), .int .i64 (x : Int), .int .i64 (z : Int), .int .i64 (y : Int)] rfl rfl (four_new _ _ _ _ _ _) (one4 _ _ _ _) ?a3 ?a4 ?a5 ?_)
              case a3 => unfold maxLen; omega
              case a4 => omega
              case a5 => first | omega | (simp; omega)
              intro v2 w7 hown7 hg7 _ hob
              rw [← unhide HAC] at hown7
              have HAl7 := hide ((unhide HAl4).push hown7 hg7 hob hbs)
              clear hown7 hg7 hob c0 c1 c2 c3
              go_wp2_with fail
              go_roundw
              case rel => exact ⟨k + 1, by go_num, by omega, HAl7⟩
              case measure => simp [intOf]; omega
    · obtain rfl : k = H := by omega
      have HO := hide (owns_mono (unhide HAl).own (Nat.le_of_lt hbw))
      go_wp2_with fail
      go_ret
      exact ⟨⟨_, rfl, unhide HO⟩, unhide HBk⟩
end Go.Proofs.YtefagplbpbkpgaaDoor

/-
  The contract of Of: the view of a graph. Conditions: the graph's edges lie in memory as told.
-/
import Derived.Test.YtdkchihomllokaaOfParts
namespace Go.Proofs.Ytdkchihomllokaa
open Go.RowKit
set_option linter.unusedVariables false
set_option maxRecDepth 20000
set_option linter.unusedSimpArgs false

/-- a graph of ints that may be is one of plain numbers -/
theorem plain_of_good {V : Int} {n : Nat} {zs : List (Int × Int)} (hl : zs.length = n) (h : Good V n zs) : ∃ (v : Nat) (es : List (Nat × Nat)), V = v ∧ zs = toI es ∧ n = es.length ∧ Plain v es := by
  obtain ⟨h1, h2, h3, h4⟩ := h
  refine ⟨V.toNat, zs.map fun e => (e.1.toNat, e.2.toNat), by omega, ?_, by simp [hl], by omega, by omega, by simp; omega, ?_⟩
  · apply List.ext_getElem
    · simp [toI]
    · intro i hi _
      have := h4 i (by omega)
      rw [show zs.getD i (0, 0) = zs[i] by simp [List.getD, hi]] at this
      unfold OkE at this
      apply Prod.ext
      · simp [toI]; omega
      · simp [toI]; omega
  · intro e he
    obtain ⟨z, hz, rfl⟩ := List.mem_map.1 he
    obtain ⟨i, hi, rfl⟩ := List.mem_iff_getElem.1 hz
    have := h4 i (by omega)
    rw [show zs.getD i (0, 0) = zs[i] by simp [List.getD, hi]] at this
    unfold OkE at this
    simp
    omega
theorem good_of_plain {v : Nat} {es : List (Nat × Nat)} (h : Plain v es) : Good (v : Int) es.length (toI es) := by
  refine ⟨by have := h.v1; omega, by have := h.v64; omega, h.n128, fun k hk => ?_⟩
  rw [toI_getD]
  have := h.at hk
  unfold Pl.at' at this
  refine ⟨?_, ?_, ?_, ?_⟩ <;> dsimp only <;> omega

/-- clone, whatever the slice -/
theorem cloneE_any (w : World) (a : Option Addr) (n c : Nat) (xs : List (Int × Int)) {B : Nat} (h : Es B w a n xs) (hno : a = none → n = 0 ∧ c = 0) (hn : n ≤ 1000000) :
    Calls Try.prog 50 #[.slice a n c] w fun e w' => (∃ v, e = .returned v ∧ w'.ownsRow w.heap.size 62 2 v n (ecells xs)) ∧ Below w.heap.size w w' := by
  cases a with
  | none =>
    obtain ⟨rfl, rfl⟩ := hno rfl
    have hx : xs = [] := List.eq_nil_of_length_eq_zero h.1
    subst hx
    refine (cloneE_nil w).mono ?_
    rintro e w' ⟨rfl, rfl⟩
    exact ⟨⟨_, rfl, World.ownsRow_nil _ _ _ _⟩, Below.refl _ _⟩
  | some p =>
    refine (cloneE_some w p n c xs h hn).mono ?_
    rintro e w' ⟨⟨v, rfl, ho, _⟩, hb⟩
    exact ⟨⟨v, rfl, ho⟩, hb⟩
theorem clone_any (w : World) (a : Option Addr) (n c : Nat) (xs : List Int) (h : Ns w a n xs) (hno : a = none → n = 0 ∧ c = 0) (hn : n ≤ 1000000) :
    Calls Try.prog 31 #[.slice a n c] w fun e w' => (∃ v, e = .returned v ∧ w'.ownsRow w.heap.size 3 1 v n (zcells xs)) ∧ Below w.heap.size w w' := by
  cases a with
  | none =>
    obtain ⟨rfl, rfl⟩ := hno rfl
    have hx : xs = [] := List.eq_nil_of_length_eq_zero h.1
    subst hx
    refine (clone_nil w).mono ?_
    rintro e w' ⟨rfl, rfl⟩
    exact ⟨⟨_, rfl, World.ownsRow_nil _ _ _ _⟩, Below.refl _ _⟩
  | some p =>
    refine (clone_some w p n c xs h hn).mono ?_
    rintro e w' ⟨⟨v, rfl, ho, _⟩, hb⟩
    exact ⟨⟨v, rfl, ho⟩, hb⟩

set_option maxHeartbeats 2000000 in
theorem of_bad (w : World) (V : Int) (a : Option Addr) (n cap : Nat) (zs : List (Int × Int)) {B : Nat} (h : Es B w a n zs) (hbad : ¬ Good V n zs) :
    Calls Try.prog 27 #[.agg #[.int .i64 V, .slice a n cap]] w fun e w' => (∃ b, e = .returned (.pointer (some ⟨b, 0, none⟩)) ∧ w.heap.size ≤ b ∧ w'.heap[b]? = some (.cells #[.int .i64 0, .slice none 0 0, .slice none 0 0, .slice none 0 0, .slice none 0 0] 90)) ∧ Below w.heap.size w w' := by
  have HE := hide h
  have HBAD := hide hbad
  clear h hbad
  have hb0 : Below w.heap.size w (w.alloc (.cells #[.int .i64 V, .slice a n cap] 24)) := (Below.refl _ _).alloc (Nat.le_refl _) _
  go_enter Try.func27, Try.ntmps27
  go_wp2_with fail
  refine (may_any _ V a n cap zs ((unhide HE).below hb0)).mono ?_
  rintro e w1 ⟨⟨r, rfl, hr⟩, hb1⟩
  have hrf : r = false := by
    cases r with
    | false => rfl
    | true => exact absurd (hr.1 rfl) (unhide HBAD)
  subst hrf
  have HB := hide (hb0.trans (hb1.mono (by simp)))
  clear hr hb0 hb1
  go_wp2_with fail
  go_ret
  exact ⟨⟨w1.heap.size, rfl, (unhide HB).size, (MapKept.heap_alloc w1 _).1⟩, (unhide HB).alloc (unhide HB).size _⟩

theorem orel_start {w w3 w5 w7 : World} {b V : Nat} {es : List (Nat × Nat)} {ev : Value} {x1 : Value} (hp : Plain V es) (hb : w.heap.size ≤ b) (hbel : Below w.heap.size w w3) (hv : w3.heap[b]? = some (.cells #[.int .i64 V, x1, .slice none 0 0, .slice none 0 0, .slice none 0 0] 90 (0, 0)))
    (he : w3.ownsRow w.heap.size 62 2 ev es.length (ecells (toI es)))
    (hg5 : (w3.setCell ⟨b, 1, none⟩ ev).grownBy w5 none) (ho5 : w5.ownsRow w.heap.size 34 1 (.slice (some ⟨w3.heap.size, 0, none⟩) V V) V (List.replicate V (.slice none 0 0)))
    (hg7 : (w5.setCell ⟨b, 2, none⟩ (.slice (some ⟨w3.heap.size, 0, none⟩) V V)).grownBy w7 none) (ho7 : w7.ownsRow w.heap.size 34 1 (.slice (some ⟨w5.heap.size, 0, none⟩) V V) V (List.replicate V (.slice none 0 0))) :
    ORel w (w7.setCell ⟨b, 3, none⟩ (.slice (some ⟨w5.heap.size, 0, none⟩) V V)) b w3.heap.size w5.heap.size V es ev (fun _ => .slice none 0 0) 0 0 := by
  have hv1 := hp.v1
  have hbl : b < w3.heap.size := (Array.getElem?_eq_some_iff.1 hv).1
  have s3 : (w3.setCell ⟨b, 1, none⟩ ev).heap.size = w3.heap.size := by simp [World.setCell]
  have z5 : w3.heap.size ≤ w5.heap.size := by have := hg5.size; omega
  have s5 : (w5.setCell ⟨b, 2, none⟩ (.slice (some ⟨w3.heap.size, 0, none⟩) V V)).heap.size = w5.heap.size := by simp [World.setCell]
  have z7 : w5.heap.size ≤ w7.heap.size := by have := hg7.size; omega
  have hlt5 : w3.heap.size < w5.heap.size := (ho5.lt _ rfl).2
  have k5 : ∀ i, i < w3.heap.size → i ≠ b → w5.heap[i]? = w3.heap[i]? := fun i hi hne => by rw [hg5.block i (by omega) (by simp), heap_set_other _ _ _ hne]
  have k7 : ∀ i, i < w5.heap.size → i ≠ b → w7.heap[i]? = w5.heap[i]? := fun i hi hne => by rw [hg7.block i (by omega) (by simp), heap_set_other _ _ _ hne]
  have v5 : w5.heap[b]? = some (.cells #[.int .i64 V, ev, .slice none 0 0, .slice none 0 0, .slice none 0 0] 90 (0, 0)) := by
    rw [hg5.block b (by omega) (by simp)]
    simp [World.setCell, Array.getElem?_modify, hv]
  have v7 : w7.heap[b]? = some (.cells #[.int .i64 V, ev, .slice (some ⟨w3.heap.size, 0, none⟩) V V, .slice none 0 0, .slice none 0 0] 90 (0, 0)) := by
    rw [hg7.block b (by omega) (by simp)]
    simp [World.setCell, Array.getElem?_modify, v5]
  have tabOf : ∀ {u : World} {g : Nat}, u.ownsRow w.heap.size 34 1 (.slice (some ⟨g, 0, none⟩) V V) V (List.replicate V (.slice none 0 0)) → Tab u g V (fun _ => .slice none 0 0) := by
    intro u g ho
    rcases ho.2 with ⟨hv, _⟩ | ⟨g', cap, cur, hv, hb, hg, h1, h2, h3, h4⟩
    · cases hv
    · cases hv
      refine ⟨cur, hg, by omega, fun t ht => ?_⟩
      have : (cur.toList.take (V * 1))[t]? = (List.replicate V (Value.slice none 0 0))[t]? := by rw [h4]
      rw [List.getElem?_take] at this
      simpa [ht] using this
  have bw3 : Below w.heap.size w (w3.setCell ⟨b, 1, none⟩ ev) := hbel.setCell (p := ⟨b, 1, none⟩) hb _
  have bw5 : Below w.heap.size w w5 := bw3.grown hg5 (by rw [s3]; exact hbel.size) (fun k hk => by cases hk)
  have bw7 : Below w.heap.size w w7 := (bw5.setCell (p := ⟨b, 2, none⟩) hb _).grown hg7 (by rw [s5]; have := hbel.size; omega) (fun k hk => by cases hk)
  have hsz := hbel.size
  refine ⟨bw7.setCell (p := ⟨b, 3, none⟩) hb _, hb, hsz, by omega, ?_, ?_, ?_, ?_, by omega, ?_⟩
  · simp [World.setCell, Array.getElem?_modify, v7]
  · refine owns_keep he fun g hge => ?_
    have h1 := (he.lt g hge).2
    have hne : g ≠ b := fun e => owns_ne he hv (by decide) (by rw [hge, e])
    rw [heap_set_other _ _ _ hne, k7 g (by omega) hne, k5 g h1 hne]
  · refine (tabOf ho5).keep ?_
    rw [heap_set_other _ _ _ (show w3.heap.size ≠ b by omega), k7 _ hlt5 (by omega)]
  · exact (tabOf ho7).keep (heap_set_other _ _ _ (show w5.heap.size ≠ b by omega))
  · refine ⟨fun j hj => ?_, fun i j _ _ _ g hg => by simp [Value.ownBlock] at hg⟩
    have : half V es 0 0 j = [] := by unfold half; split <;> rfl
    rw [this]
    exact World.ownsRow_nil _ _ _ _

/-- the view that a graph that may be has -/
def Viewed (w w' : World) (V : Nat) (es : List (Nat × Nat)) (e : Ending) : Prop :=
  ∃ b ea ec oa oc ia ic ra rc, e = .returned (.pointer (some ⟨b, 0, none⟩)) ∧ w.heap.size ≤ b ∧ Vw w' b V es ea ec oa oc ia ic ra rc (Pl.order V es)

theorem owns_rs {w : World} {base tg V : Nat} {R : Nat → Value} {L : Nat → List Nat} (ht : Tab w tg V R) (ho : ∀ j, j < V → w.ownsRow base 3 1 (R j) (L j).length (zcells (toIs (L j)))) (hb : ∀ j, j < V → (L j).length ≤ 128) : Rs w (some ⟨tg, 0, none⟩) V L := by
  intro k hk
  obtain ⟨a, c, hv, hc, hN⟩ := ns_of_owns (ho k hk) (by have := hb k hk; omega)
  refine ⟨tg, 0, a, c, rfl, ht.lt, by rw [Nat.zero_add, ht.cell hk, hv], hc, ?_, hN⟩
  intro ha
  subst ha
  rcases (ho k hk).2 with ⟨h1, h2⟩ | ⟨g, cap, cur, h1, _⟩
  · rw [hv] at h1
    simp only [Value.slice.injEq] at h1
    exact h1.2.2
  · rw [hv] at h1
    simp at h1

theorem cell_set_far (w : World) (p q : Addr) (v : Value) (h : q.block ≠ p.block) : (w.setCell p v).cell? q = w.cell? q := World.cell?_of_block (w := w) (heap_set_other _ _ _ h)
theorem box_block (w : World) (x y : Value) (t : TypeId) (o : Obj) : ((w.alloc (.cells #[x, y] t)).alloc o).drew.heap[w.heap.size]? = some (.cells #[x, y] t (0, 0)) := by
  show ((w.alloc (.cells #[x, y] t)).alloc o).heap[w.heap.size]? = _
  rw [Below.heap_alloc _ _ _ (by simp)]
  exact (MapKept.heap_alloc w _).1
theorem one_int (k : Nat) : ∀ u ∈ [Value.int .i64 (k : Int)], u.oneCell' = true := by
  intro u hu
  simp at hu
  subst hu
  rfl
theorem news_drew (w : World) (x : Value) (t : TypeId) (H : Nat) (hH : w.heap.size = H) : ∀ j u, [x][j]? = some u → (w.alloc (.cells #[x] t)).drew.cell? ((⟨H, 0, none⟩ : Addr).add j) = some u := by
  subst hH
  exact cell_one_new w x t

/-- behind the append to a row of outs, ahead of the store -/
theorem out_facts {w wr W w4 : World} {b og ig V : Nat} {es : List (Nat × Nat)} {ev : Value} {R : Nat → Value} {k x y m g2 cap2 : Nat} {rv : Value} {cx : List Value} (h : ORel w wr b og ig V es ev R k k) (hxy : Pl.at' es k = (x, y)) (hx : x < V) (hrv : R x = rv)
    (hm : (half V es k k x).length = m) (hcx : zcells (toIs (half V es k k x)) = cx) (hW : Below wr.heap.size wr W) 
    (ho : w4.ownsRow w.heap.size 3 1 (.slice (some ⟨g2, 0, none⟩) (m + 1) cap2) (m + 1) (cx ++ [.int .i64 k])) (hg : W.grownBy w4 rv.ownBlock) (hat : rv.ownBlock = some g2 ∨ g2 = W.heap.size)
    {c0 c1 : Value} (e0 : W.heap[wr.heap.size]? = some (.cells #[c0, c1] 62 (0, 0))) :
    w4.cell? ⟨b, 2, none⟩ = some (.slice (some ⟨og, 0, none⟩) V V) ∧ w4.cell? ⟨wr.heap.size, 0, none⟩ = some c0 ∧ w4.heap[wr.heap.size]? = some (.cells #[c0, c1] 62 (0, 0)) ∧ w4.cell? ⟨og, x, none⟩ = some rv ∧ w4.frozen? ⟨og, x, none⟩ = false ∧
    ORel w (w4.setCell ⟨og, x, none⟩ (.slice (some ⟨g2, 0, none⟩) (m + 1) cap2)) b og ig V es ev (upd R x (.slice (some ⟨g2, 0, none⟩) (m + 1) cap2)) (k + 1) k := by
  subst hrv
  subst hm
  subst hcx
  have ho' : w4.ownsRow w.heap.size 3 1 (.slice (some ⟨g2, 0, none⟩) ((half V es k k x).length + 1) cap2) ((half V es k k x).length + 1) (zcells (toIs (half V es k k x ++ [k]))) := by
    rw [← toIs_snoc, ← zcells_snoc]
    exact ho
  have hat' : (Value.slice (some ⟨g2, 0, none⟩) ((half V es k k x).length + 1) cap2).ownBlock = (R x).ownBlock ∨ (Value.slice (some ⟨g2, 0, none⟩) ((half V es k k x).length + 1) cap2).ownBlock = some W.heap.size := by
    rcases hat with h | h
    · exact .inl h.symm
    · exact .inr (by rw [h]; rfl)
  obtain ⟨h1, h2, h3, h4, h5, h6⟩ := h.grown (j := x) (by omega) hW hg ho' hat'
  have hnew : some wr.heap.size ≠ (R x).ownBlock := fun e => by have := ((h.rows.own x (by omega)).lt _ e.symm).2; omega
  have he : w4.heap[wr.heap.size]? = some (.cells #[c0, c1] 62 (0, 0)) := by
    rw [hg.block _ (Array.getElem?_eq_some_iff.1 e0).1 hnew]
    exact e0
  refine ⟨?_, by simp [World.cell?, he], he, h4.cell hx, h4.fz x, h.stepOut hxy hx hW hg ho' hat'⟩
  rw [World.cell?_of_block (w := wr) h2]
  exact h.cells.2.2.1

/-- behind the append to a row of ins, ahead of the store -/
theorem in_facts {w wr W w4 : World} {b og ig V : Nat} {es : List (Nat × Nat)} {ev : Value} {R : Nat → Value} {k x y m g2 cap2 eb : Nat} {rv : Value} {cx : List Value} (h : ORel w wr b og ig V es ev R (k + 1) k) (hxy : Pl.at' es k = (x, y)) (hy : y < V) (hrv : R (V + y) = rv)
    (hm : (half V es (k + 1) k (V + y)).length = m) (hcx : zcells (toIs (half V es (k + 1) k (V + y))) = cx) (hW : Below wr.heap.size wr W)
    (ho : w4.ownsRow w.heap.size 3 1 (.slice (some ⟨g2, 0, none⟩) (m + 1) cap2) (m + 1) (cx ++ [.int .i64 k])) (hg : W.grownBy w4 rv.ownBlock) (hat : rv.ownBlock = some g2 ∨ g2 = W.heap.size)
    {c0 c1 : Value} (e0 : wr.heap[eb]? = some (.cells #[c0, c1] 62 (0, 0))) :
    w4.cell? ⟨b, 3, none⟩ = some (.slice (some ⟨ig, 0, none⟩) V V) ∧ w4.cell? ⟨eb, 1, none⟩ = some c1 ∧ w4.cell? ⟨ig, y, none⟩ = some rv ∧ w4.frozen? ⟨ig, y, none⟩ = false ∧
    ORel w (w4.setCell ⟨ig, y, none⟩ (.slice (some ⟨g2, 0, none⟩) (m + 1) cap2)) b og ig V es ev (upd R (V + y) (.slice (some ⟨g2, 0, none⟩) (m + 1) cap2)) (k + 1) (k + 1) := by
  subst hrv
  subst hm
  subst hcx
  have ho' : w4.ownsRow w.heap.size 3 1 (.slice (some ⟨g2, 0, none⟩) ((half V es (k + 1) k (V + y)).length + 1) cap2) ((half V es (k + 1) k (V + y)).length + 1) (zcells (toIs (half V es (k + 1) k (V + y) ++ [k]))) := by
    rw [← toIs_snoc, ← zcells_snoc]
    exact ho
  have hat' : (Value.slice (some ⟨g2, 0, none⟩) ((half V es (k + 1) k (V + y)).length + 1) cap2).ownBlock = (R (V + y)).ownBlock ∨ (Value.slice (some ⟨g2, 0, none⟩) ((half V es (k + 1) k (V + y)).length + 1) cap2).ownBlock = some W.heap.size := by
    rcases hat with h | h
    · exact .inl h.symm
    · exact .inr (by rw [h]; rfl)
  obtain ⟨h1, h2, h3, h4, h5, h6⟩ := h.grown (j := V + y) (by omega) hW hg ho' hat'
  have hlt : eb < wr.heap.size := (Array.getElem?_eq_some_iff.1 e0).1
  have he : w4.heap[eb]? = some (.cells #[c0, c1] 62 (0, 0)) := by
    rw [hg.block _ (Nat.lt_of_lt_of_le hlt hW.size) (fun e => owns_ne (h.rows.own (V + y) (by omega)) e0 (by decide) e.symm), hW.block _ hlt]
    exact e0
  refine ⟨?_, by simp [World.cell?, he], h5.cell hy, h5.fz y, h.stepIn hxy hy hW hg ho' hat'⟩
  rw [World.cell?_of_block (w := wr) h2]
  exact h.cells.2.2.2.1

theorem none_cap {w : World} {base : Nat} {e : TypeId} {size n rc : Nat} {xs : List Value} (h : w.ownsRow base e size (.slice none n rc) n xs) : rc = 0 := by
  rcases h.2 with ⟨h1, h2⟩ | ⟨g, cap, cur, h1, _⟩
  · simp only [Value.slice.injEq] at h1
    exact h1.2.2
  · simp at h1

/-- the view, behind the store of its order -/
theorem vw_end {w w9 : World} {b og ig V base : Nat} {es : List (Nat × Nat)} {ea : Option Addr} {ec : Nat} {R : Nat → Value} {ra : Option Addr} {rc : Nat} {l : List Nat} (h : ORel w w9 b og ig V es (.slice ea es.length ec) R es.length es.length) (hn : es.length ≤ 128) (hl : l.length ≤ 64)
    (ho : w9.ownsRow base 3 1 (.slice ra l.length rc) l.length (zcells (toIs l))) (hb : b < base) :
    Vw (w9.setCell ⟨b, 4, none⟩ (.slice ra l.length rc)) b V es ea ec (some ⟨og, 0, none⟩) V (some ⟨ig, 0, none⟩) V ra rc l := by
  have hv := h.vb
  have hv2 : (w9.setCell ⟨b, 4, none⟩ (.slice ra l.length rc)).heap[b]? = some (.cells #[.int .i64 V, .slice ea es.length ec, .slice (some ⟨og, 0, none⟩) V V, .slice (some ⟨ig, 0, none⟩) V V, .slice ra l.length rc] 90 (0, 0)) := by
    simp [World.setCell, Array.getElem?_modify, hv]
  have ho2 : (w9.setCell ⟨b, 4, none⟩ (.slice ra l.length rc)).ownsRow base 3 1 (.slice ra l.length rc) l.length (zcells (toIs l)) := ownsRow_setCell_below ho (by show b < base; exact hb) _
  have he : (w9.setCell ⟨b, 4, none⟩ (.slice ra l.length rc)).ownsRow w.heap.size 62 2 (.slice ea es.length ec) es.length (ecells (toI es)) :=
    owns_keep h.ed fun g hg => heap_set_other _ _ _ (fun e => owns_ne h.ed hv (by decide) (by rw [hg]; exact congrArg some e))
  have hot := h.ot.keep (heap_set_other w9 ⟨b, 4, none⟩ (.slice ra l.length rc) (Ne.symm h.b_og.1))
  have hit := h.it.keep (heap_set_other w9 ⟨b, 4, none⟩ (.slice ra l.length rc) (Ne.symm h.b_og.2))
  have hrows := h.rows.keep (w' := w9.setCell ⟨b, 4, none⟩ (.slice ra l.length rc)) fun j g hj hg => heap_set_other _ _ _ (fun e => h.block_b hj (by rw [hg]; exact congrArg some e))
  obtain ⟨_, _, hx, hEs⟩ := es_of_owns he (by omega)
  obtain ⟨rfl, rfl⟩ : ea = _ ∧ ec = _ := by simpa using hx
  obtain ⟨_, _, hx2, hrc, hNr⟩ := ns_of_owns ho2 (by omega)
  obtain ⟨rfl, rfl⟩ : ra = _ ∧ rc = _ := by simpa using hx2
  have hlenO : ∀ x, (Pl.outs es x).length ≤ 128 := fun x => Nat.le_trans (Pl.sel_len _ _ _) hn
  have hlenI : ∀ x, (Pl.ins es x).length ≤ 128 := fun x => Nat.le_trans (Pl.sel_len _ _ _) hn
  refine ⟨by simp [World.cell?, hv2], by simp [World.cell?, hv2], by simp [World.cell?, hv2], by simp [World.cell?, hv2], by simp [World.cell?, hv2], ⟨hrc, fun hr => by subst hr; exact none_cap ho⟩, hEs.mono (Nat.zero_le _), ?_, ?_, hNr⟩
  · exact owns_rs hot (fun j hj => by have := hrows.own j (by omega); unfold half at this; rw [if_pos hj] at this; exact this) (fun j _ => hlenO j)
  · exact owns_rs hit (fun j hj => by have := hrows.own (V + j) (by omega); unfold half at this; rw [if_neg (by omega), Nat.add_sub_cancel_left] at this; exact this) (fun j _ => hlenI j)

set_option maxHeartbeats 8000000 in
theorem of_good (w : World) (V : Nat) (a : Option Addr) (cap : Nat) (es : List (Nat × Nat)) {B : Nat} (h : Es B w a es.length (toI es)) (hno : a = none → es.length = 0 ∧ cap = 0) (hp : Plain V es) :
    Calls Try.prog 27 #[.agg #[.int .i64 V, .slice a es.length cap]] w fun e w' => Viewed w w' V es e ∧ Below w.heap.size w w' := by
  have hv1 := hp.v1
  have hv64 := hp.v64
  have hn128 := hp.n128
  have HE := hide h
  have HP := hide hp
  have HNO := hide hno
  obtain ⟨i0, hi0, hz0, hz1, hz2⟩ := info_parts info3
  have HI := hide hi0
  have HZ0 := hide hz0
  have HZ1 := hide hz1
  have HZ2 := hide hz2
  obtain ⟨j0, hj0, hy0, hy1, hy2⟩ := info_parts info28
  have HJ := hide hj0
  have HY0 := hide hy0
  have HY1 := hide hy1
  have hzb : j0.bytes * V ≤ 281474976710656 := by rw [hy2]; omega
  clear h hp hno hi0 hz0 hz1 hz2 hj0 hy0 hy1 hy2
  have hb0 : Below w.heap.size w (w.alloc (.cells #[.int .i64 V, .slice a es.length cap] 24)) := (Below.refl _ _).alloc (Nat.le_refl _) _
  go_enter Try.func27, Try.ntmps27
  go_wp2_with fail
  refine (may_any _ V a es.length cap (toI es) ((unhide HE).below hb0)).mono ?_
  rintro e w1 ⟨⟨r, rfl, hr⟩, hb1⟩
  have hrf : r = true := hr.2 (good_of_plain (unhide HP))
  subst hrf
  have d0 : w1.cell? ⟨w.heap.size, 0, none⟩ = some (.int .i64 V) := by rw [hb1.cell (p := ⟨w.heap.size, 0, none⟩) (by simp)]; simp
  have d1 : w1.cell? ⟨w.heap.size, 1, none⟩ = some (.slice a es.length cap) := by rw [hb1.cell (p := ⟨w.heap.size, 1, none⟩) (by simp)]; simp
  have hl1 : w.heap.size < w1.heap.size := by have := hb1.size; simp at this; omega
  have hbw1 := hb0.trans (hb1.mono (by simp))
  have HB1 := hide hbw1
  have HE1 := hide ((unhide HE).below hbw1)
  clear hr hb0 hb1 hbw1
  go_wp2_with fail
  have hb2 : Below w1.heap.size w1 (w1.alloc (.cells #[.int .i64 V, .slice a es.length cap, .slice none 0 0, .slice none 0 0, .slice none 0 0] 90)) := (Below.refl _ _).alloc (Nat.le_refl _) _
  refine (cloneE_any _ a es.length cap (toI es) ((unhide HE1).below hb2) (unhide HNO) (by omega)).mono ?_
  rintro e w3 ⟨⟨ev, rfl, hoe⟩, hb3⟩
  obtain ⟨ea, ec, hev, _⟩ := es_of_owns hoe (by omega)
  subst hev
  have hv3 : w3.heap[w1.heap.size]? = some (.cells #[.int .i64 V, .slice a es.length cap, .slice none 0 0, .slice none 0 0, .slice none 0 0] 90 (0, 0)) := by
    rw [hb3.block _ (by simp)]
    exact (MapKept.heap_alloc w1 _).1
  have HV3 := hide hv3
  have e0 : w3.cell? ⟨w1.heap.size, 0, none⟩ = some (.int .i64 V) := by simp [World.cell?, hv3]
  have e1 : w3.cell? ⟨w1.heap.size, 1, none⟩ = some (.slice a es.length cap) := by simp [World.cell?, hv3]
  have e2 : w3.cell? ⟨w1.heap.size, 2, none⟩ = some (.slice none 0 0) := by simp [World.cell?, hv3]
  have e3 : w3.cell? ⟨w1.heap.size, 3, none⟩ = some (.slice none 0 0) := by simp [World.cell?, hv3]
  have f1 : w3.frozen? ⟨w1.heap.size, 1, none⟩ = false := by simp [World.frozen?, hv3]
  have hbw3 : Below w.heap.size w w3 := ((unhide HB1).trans (hb2.mono (by omega))).trans (hb3.mono (by simp; omega))
  have HB3 := hide hbw3
  have HOE := hide (owns_mono hoe (base' := w.heap.size) (by simp; omega))
  have hl3 : w1.heap.size < w3.heap.size := (Array.getElem?_eq_some_iff.1 hv3).1
  have hsz3 : w.heap.size ≤ w3.heap.size := by omega
  clear hv3 hb2 hb3 hbw3 hoe d0 d1
  go_wp2_with (refine wpList_make_full _ rfl (.tmp 26) (.tmp 26) 56 rfl w.heap.size 34 j0 (.slice none 0 0) 1 Try.underlying56 (unhide HJ) (unhide HY0) (unhide HY1) .i64 .i64 _ _ V rfl rfl rfl rfl hzb ?m1 ?m2 ?_)
  case m1 => unfold maxLen; omega
  case m2 => simp [World.setCell]; omega
  intro w5 ho5 hg5
  rw [toList_madeCells_one] at ho5
  have hv5 : w5.heap[w1.heap.size]? = some (.cells #[.int .i64 V, .slice ea es.length ec, .slice none 0 0, .slice none 0 0, .slice none 0 0] 90 (0, 0)) := by
    rw [hg5.block _ (by simp [World.setCell]; omega) (by simp)]
    simp [World.setCell, Array.getElem?_modify, unhide HV3]
  have g0 : w5.cell? ⟨w1.heap.size, 0, none⟩ = some (.int .i64 V) := by simp [World.cell?, hv5]
  have g2 : w5.cell? ⟨w1.heap.size, 2, none⟩ = some (.slice none 0 0) := by simp [World.cell?, hv5]
  have k2 : w5.frozen? ⟨w1.heap.size, 2, none⟩ = false := by simp [World.frozen?, hv5]
  have HV5 := hide hv5
  have HO5 := hide ho5
  have HG5 := hide hg5
  have hsz5 : w.heap.size ≤ w5.heap.size := by have := (Array.getElem?_eq_some_iff.1 hv5).1; omega
  have hl5 : w1.heap.size < w5.heap.size := (Array.getElem?_eq_some_iff.1 hv5).1
  clear hv5 ho5 hg5 e0 e1 e2 e3 f1
  go_wp2_with (refine wpList_make_full _ rfl (.tmp 35) (.tmp 35) 56 rfl w.heap.size 34 j0 (.slice none 0 0) 1 Try.underlying56 (unhide HJ) (unhide HY0) (unhide HY1) .i64 .i64 _ _ V rfl rfl rfl rfl hzb ?m3 ?m4 ?_)
  case m3 => unfold maxLen; omega
  case m4 => simp [World.setCell]; omega
  intro w7 ho7 hg7
  rw [toList_madeCells_one] at ho7
  have hO := orel_start (unhide HP) (show w.heap.size ≤ w1.heap.size by omega) (unhide HB3) (unhide HV3) (unhide HOE) (unhide HG5) (unhide HO5) hg7 ho7
  have hv7 : w7.heap[w1.heap.size]? = some (.cells #[.int .i64 V, .slice ea es.length ec, .slice (some ⟨w3.heap.size, 0, none⟩) V V, .slice none 0 0, .slice none 0 0] 90 (0, 0)) := by
    rw [hg7.block _ (by simp [World.setCell]; omega) (by simp)]
    simp [World.setCell, Array.getElem?_modify, unhide HV5]
  have p1 : w7.cell? ⟨w1.heap.size, 1, none⟩ = some (.slice ea es.length ec) := by simp [World.cell?, hv7]
  have p3 : w7.cell? ⟨w1.heap.size, 3, none⟩ = some (.slice none 0 0) := by simp [World.cell?, hv7]
  have k3 : w7.frozen? ⟨w1.heap.size, 3, none⟩ = false := by simp [World.frozen?, hv7]
  have HO := hide hO
  clear hO hv7 ho7 hg7 g0 g2 k2
  go_wp2_with fail
  go_loopw [45] (fun i wr => ∃ (k : Nat) (R : Nat → Value), i = .int .i64 k ∧ k ≤ es.length ∧ Hid (ORel w wr w1.heap.size w3.heap.size w5.heap.size V es (.slice ea es.length ec) R k k)) (fun i wr => es.length - (intOf i).toNat)
  case atStart => exact ⟨0, _, rfl, by omega, HO⟩
  case round =>
    obtain ⟨k, R, rfl, hk, HR⟩ := hrel
    by_cases hlt : k < es.length
    · obtain ⟨_, _, hv, hEs⟩ := es_of_owns (unhide HR).ed (by omega)
      obtain ⟨rfl, rfl⟩ : ea = _ ∧ ec = _ := by simpa using hv
      obtain ⟨g, off, ha, hg, d0, d1⟩ := es_at hEs hlt
      have hxyV := (unhide HP).at hlt
      obtain ⟨x, y, hxy⟩ : ∃ x y, Pl.at' es k = (x, y) := ⟨_, _, rfl⟩
      rw [hxy] at d0 d1 hxyV
      obtain ⟨hxV, hyV⟩ := hxyV
      simp only at d0 d1 hxV hyV
      have HXY := hide hxy
      subst ha
      obtain ⟨_, _, b2, b3, _⟩ := (unhide HR).cells
      have t0 := (unhide HR).ot.cell (x := x) hxV
      have t1 := (unhide HR).ot.fz x
      have n1 := (unhide HR).block_b (j := x) (by omega)
      have n2 := (unhide HR).block_og (j := x) (by omega)
      have hown := (unhide HR).rows.own x (by omega)
      have hlenx : (half V es k k x).length ≤ 128 := by
        have := Pl.sel_len es (fun e => e.1 == x) k
        unfold half
        rw [if_pos hxV]
        omega
      obtain ⟨rv, hrv⟩ : ∃ rv, R x = rv := ⟨_, rfl⟩
      rw [hrv] at t0 n1 n2 hown
      have HRV := hide hrv
      obtain ⟨m, hm⟩ : ∃ m, (half V es k k x).length = m := ⟨_, rfl⟩
      rw [hm] at hown hlenx
      obtain ⟨cx, hcx⟩ : ∃ cx, zcells (toIs (half V es k k x)) = cx := ⟨_, rfl⟩
      rw [hcx] at hown
      have HM := hide hm
      have HCX := hide hcx
      have HOWN := hide hown
      have N1 := hide n1
      have N2 := hide n2
      have hbl := (unhide HR).b_lt
      have hol := (unhide HR).ot.lt
      have hlt2 : (k : Int) < (es.length : Int) := by omega
      have hxV2 : (x : Int) < (V : Int) := by omega
      have hyV2 : (y : Int) < (V : Int) := by omega
      clear hEs hv hxy hrv hm hcx hown n1 n2 p1 p3 k3
      go_wp2_with fail
      have HBW := hide (show Below wr.heap.size wr ((wr.alloc (.cells #[.int .i64 x, .int .i64 y] 62)).alloc (.cells #[.int .i64 k] 3)).drew from (((Below.refl _ _).alloc (Nat.le_refl _) _).alloc (by simp) _).drew)
      have HBX := hide (box_block wr (.int .i64 x) (.int .i64 y) 62 (.cells #[.int .i64 k] 3))
      have HOW := hide (show ((wr.alloc (.cells #[.int .i64 x, .int .i64 y] 62)).alloc (.cells #[.int .i64 k] 3)).drew.ownsRow w.heap.size 3 1 rv m cx from (((unhide HOWN).alloc _).alloc _).drew)
      have HNW := hide (news_drew (wr.alloc (.cells #[.int .i64 x, .int .i64 y] 62)) (.int .i64 k) 3 (wr.heap.size + 1) (by simp))
      have HBA := hide (show w.heap.size ≤ ((wr.alloc (.cells #[.int .i64 x, .int .i64 y] 62)).alloc (.cells #[.int .i64 k] 3)).drew.heap.size from Nat.le_trans (unhide HR).bel.size (unhide HBW).size)
      have hb63 : m + 1 ≤ maxLen := by unfold maxLen; omega
      have hbby : (m + 1) * 8 ≤ 140737488355328 := by omega
      have hne1 : w1.heap.size ≠ w3.heap.size := by omega
      have hne2 : wr.heap.size ≠ w3.heap.size := by omega
      refine wp_region_held_drew (S := fun u => u.cell? ⟨w1.heap.size, 2, none⟩ = some (.slice (some ⟨w3.heap.size, 0, none⟩) V V) ∧ u.cell? ⟨wr.heap.size, 0, none⟩ = some (.int .i64 x)) (by kernel_rfl) (by go_keep) (fun hS0 => ?_)
      refine wpAnyH_take (i := 0) (v := ?_) rfl (by kernel_rfl) (by kernel_rfl) (by kernel_rfl) (fun _ _ _ h => h) (Or.inl ⟨by rfl, ?_⟩) hS0 ?_
      rotate_left
      · intro u hu; (try dsimp only at hu); go_simp; try with_reducible rfl
      simp only [Act.put, List.setIfInBounds_toArray, List.set_cons_zero, List.set_cons_succ]
      refine wpAnyH_take (i := 1) (v := ?_) rfl (by kernel_rfl) (by kernel_rfl) (by kernel_rfl) (fun _ _ _ h => h) (Or.inl ⟨by rfl, ?_⟩) hS0 ?_
      rotate_left
      · intro u hu; (try dsimp only at hu); go_simp; try with_reducible rfl
      simp only [Act.put, List.setIfInBounds_toArray, List.set_cons_zero, List.set_cons_succ]
      refine wpAnyH_take (i := 2) (v := ?_) rfl (by kernel_rfl) (by kernel_rfl) (by kernel_rfl) (fun _ _ _ h => h) (Or.inl ⟨by rfl, ?_⟩) hS0 ?_
      rotate_left
      · intro u hu; (try dsimp only at hu); go_simp; try with_reducible rfl
      simp only [Act.put, List.setIfInBounds_toArray, List.set_cons_zero, List.set_cons_succ]
      refine wpAnyH_take (i := 3) (v := ?_) rfl (by kernel_rfl) (by kernel_rfl) (by kernel_rfl) (fun _ _ _ h => h) (Or.inl ⟨by rfl, ?_⟩) hS0 ?_
      rotate_left
      · intro u hu; (try dsimp only at hu); go_simp; try with_reducible rfl
      simp only [Act.put, List.setIfInBounds_toArray, List.set_cons_zero, List.set_cons_succ]
      refine wpAnyH_take (i := 4) (v := ?_) rfl (by kernel_rfl) (by kernel_rfl) (by kernel_rfl) (fun _ _ _ h => h) (Or.inl ⟨by rfl, ?_⟩) hS0 ?_
      rotate_left
      · intro u hu; (try dsimp only at hu); go_simp; try with_reducible rfl
      simp only [Act.put, List.setIfInBounds_toArray, List.set_cons_zero, List.set_cons_succ]
      refine wpAnyH_take (i := 5) (v := ?_) rfl (by kernel_rfl) (by kernel_rfl) (by kernel_rfl) (fun _ _ _ h => h) (Or.inl ⟨by rfl, ?_⟩) hS0 ?_
      rotate_left
      · intro u hu; (try dsimp only at hu); go_simp; try with_reducible rfl
      simp only [Act.put, List.setIfInBounds_toArray, List.set_cons_zero, List.set_cons_succ]
      refine wpAnyH_take (i := 6) (v := ?_) rfl (by kernel_rfl) (by kernel_rfl) (by kernel_rfl) (fun _ _ _ h => h) (Or.inl ⟨by rfl, ?_⟩) hS0 ?_
      rotate_left
      · intro u hu; (try dsimp only at hu); go_simp; try with_reducible rfl
      simp only [Act.put, List.setIfInBounds_toArray, List.set_cons_zero, List.set_cons_succ]
      refine wpAnyH_take (i := 7) (v := ?_) rfl (by kernel_rfl) (by kernel_rfl) (by kernel_rfl) (fun _ _ _ h => h) (Or.inl ⟨by rfl, ?_⟩) hS0 ?_
      rotate_left
      · intro u hu; (try dsimp only at hu); go_simp; try with_reducible rfl
      simp only [Act.put, List.setIfInBounds_toArray, List.set_cons_zero, List.set_cons_succ]
      refine wpAnyH_take (i := 8) (v := ?_) rfl (by kernel_rfl) (by kernel_rfl) (by kernel_rfl) (fun _ _ _ h => h) (Or.inl ⟨by rfl, ?_⟩) hS0 ?_
      rotate_left
      · intro u hu; (try dsimp only at hu); go_simp; try with_reducible rfl
      simp only [Act.put, List.setIfInBounds_toArray, List.set_cons_zero, List.set_cons_succ]
      refine wpAnyH_take (i := 9) (v := ?_) rfl (by kernel_rfl) (by kernel_rfl) (by kernel_rfl) (fun _ _ _ h => h) (Or.inl ⟨by rfl, ?_⟩) hS0 ?_
      rotate_left
      · intro u hu; (try dsimp only at hu); go_simp; try with_reducible rfl
      simp only [Act.put, List.setIfInBounds_toArray, List.set_cons_zero, List.set_cons_succ]
      refine wpAnyH_take (i := 10) (v := ?_) rfl (by kernel_rfl) (by kernel_rfl) (by kernel_rfl) (fun _ _ _ h => h) (Or.inl ⟨by rfl, ?_⟩) hS0 ?_
      rotate_left
      · intro u hu; (try dsimp only at hu); go_simp; try with_reducible rfl
      simp only [Act.put, List.setIfInBounds_toArray, List.set_cons_zero, List.set_cons_succ]
      refine wpAnyH_take (i := 11) (v := ?_) rfl (by kernel_rfl) (by kernel_rfl) (by kernel_rfl) (fun _ _ _ h => h) (Or.inl ⟨by rfl, ?_⟩) hS0 ?_
      rotate_left
      · intro u hu; (try dsimp only at hu); go_simp; try with_reducible rfl
      simp only [Act.put, List.setIfInBounds_toArray, List.set_cons_zero, List.set_cons_succ]
      refine wpAnyH_take (i := 12) (v := ?_) rfl (by kernel_rfl) (by kernel_rfl) (by kernel_rfl) (fun _ _ _ h => h) (Or.inl ⟨by rfl, ?_⟩) hS0 ?_
      rotate_left
      · intro u hu; (try dsimp only at hu); go_simp; try with_reducible rfl
      simp only [Act.put, List.setIfInBounds_toArray, List.set_cons_zero, List.set_cons_succ]
      refine wpAnyH_take (i := 14) (v := ?_) rfl (by kernel_rfl) (by kernel_rfl) (by kernel_rfl) (fun _ _ _ h => h) (Or.inl ⟨by rfl, ?_⟩) hS0 ?_
      rotate_left
      · intro u hu; (try dsimp only at hu); go_simp; try with_reducible rfl
      simp only [Act.put, List.setIfInBounds_toArray, List.set_cons_zero, List.set_cons_succ]
      refine wpAnyH_ready (rs := [13, 15]) (by kernel_rfl) (by simp) ?_
      refine AllReadyH.cons rfl (fun K hK => ?_) (AllReadyH.cons rfl (fun K hK => ?_) AllReadyH.nil)
      all_goals go_simp
      all_goals refine hK.out _ _ (by go_keep) (fun hH => ?_)
      all_goals clear hK K hS0
      refine wpAnyH_ready (rs := [15]) (by kernel_rfl) (by simp) ?_
      rotate_left
      refine wpAnyH_ready (rs := [13]) (by kernel_rfl) (by simp) ?_
      all_goals
        refine AllReadyH.cons rfl (fun K hK => ?_) AllReadyH.nil
        go_simp
        refine hK.out _ _ (by go_keep) (fun hS0 => ?_)
        clear hK K hH
        refine wpAnyH_ready (rs := [16]) (by kernel_rfl) (by simp) ?_
        refine AllReadyH.cons rfl (fun K hK => ?_) AllReadyH.nil
        refine step_append_lies _ rfl (.tmp 63) (.tmp 65) 34 rfl w.heap.size 3 i0 (.int .i64 0) 1 8 Try.underlying34 (unhide HI) (unhide HZ0) (unhide HZ1) (unhide HZ2) rfl (by decide) rv m cx rfl (unhide HOW) ⟨wr.heap.size + 1, 0, none⟩ 1 1 [.int .i64 k] rfl rfl (unhide HNW) (one_int k) (by decide) hb63 hbby (unhide HBA) _ rfl ?_
        intro g2 cap2 w4 hown4 hg4 hat4 hlt4
        have HF := hide (out_facts (unhide HR) (unhide HXY) hxV (unhide HRV) (unhide HM) (unhide HCX) (unhide HBW) hown4 hg4 hat4 (c0 := .int .i64 x) (c1 := .int .i64 y) (unhide HBX))
        obtain ⟨z2, z3, z4, z5, z6, _⟩ := unhide HF
        refine hK.out _ _ ⟨z2, z3⟩ (fun hS1 => ?_)
        clear hK K hown4 hg4 hat4
        refine wpAnyH_take (i := 17) (v := ?_) rfl (by kernel_rfl) (by kernel_rfl) (by kernel_rfl) (fun _ _ _ h => h) (Or.inl ⟨by rfl, ?_⟩) hS1 ?_
        rotate_left
        · intro u hu; (try dsimp only at hu); go_simp; try with_reducible rfl
        simp only [Act.put, List.setIfInBounds_toArray, List.set_cons_zero, List.set_cons_succ]
        refine wpAnyH_ready (rs := [18]) (by kernel_rfl) (by simp) ?_
        refine AllReadyH.cons rfl (fun K hK => ?_) AllReadyH.nil
        go_simp
        refine hK.out _ _ ⟨by rw [cell_set_far _ _ _ _ hne1]; exact z2, by rw [cell_set_far _ _ _ _ hne2]; exact z3⟩ (fun hS2 => ?_)
        clear hK K hS1 hS2
        refine wpAnyH_done (by kernel_rfl) ?_ _
        have hO2 := (unhide HF).2.2.2.2.2
        have yb : (w4.setCell ⟨w3.heap.size, x, none⟩ (.slice (some ⟨g2, 0, none⟩) (m + 1) cap2)).heap[wr.heap.size]? = some (.cells #[.int .i64 x, .int .i64 y] 62 (0, 0)) := by rw [heap_set_other _ _ _ hne2]; exact z4
        have hil := (unhide HR).it.lt
        generalize hwr2 : w4.setCell ⟨w3.heap.size, x, none⟩ (.slice (some ⟨g2, 0, none⟩) (m + 1) cap2) = wr2 at *
        clear hwr2 z2 z3 z4 z5 z6 HF hS0 hlt4 hne1 hne2 hb63 hbby HBA HNW HOW HBW t0 t1 b2 b3 d0 d1 hbl hol
        obtain ⟨R2, hR2⟩ : ∃ R2, upd R x (.slice (some ⟨g2, 0, none⟩) (m + 1) cap2) = R2 := ⟨_, rfl⟩
        rw [hR2] at hO2
        clear hR2 HOWN HCX HM HRV hlenx N1 N2
        have HR2 := hide hO2
        obtain ⟨_, _, _, b3, _⟩ := hO2.cells
        have t0 := hO2.it.cell (x := y) hyV
        have t1 := hO2.it.fz y
        have hown := hO2.rows.own (V + y) (by omega)
        have hlenx : (half V es (k + 1) k (V + y)).length ≤ 128 := by
          have := Pl.sel_len es (fun e => e.2 == V + y - V) k
          unfold half
          rw [if_neg (by omega)]
          omega
        obtain ⟨rv2, hrv2⟩ : ∃ rv, R2 (V + y) = rv := ⟨_, rfl⟩
        simp only [hrv2] at t0 hown
        have HRV := hide hrv2
        obtain ⟨m2, hm2⟩ : ∃ m, (half V es (k + 1) k (V + y)).length = m := ⟨_, rfl⟩
        rw [hm2] at hown hlenx
        obtain ⟨cx2, hcx2⟩ : ∃ cx, zcells (toIs (half V es (k + 1) k (V + y))) = cx := ⟨_, rfl⟩
        rw [hcx2] at hown
        have HM := hide hm2
        have HCX := hide hcx2
        have hbl := hO2.b_lt
        have hol := hO2.it.lt
        have HOWN := hide hown
        have HBW := hide (show Below wr2.heap.size wr2 (wr2.alloc (.cells #[.int .i64 k] 3)).drew from ((Below.refl _ _).alloc (Nat.le_refl _) _).drew)
        have HOW := hide (show (wr2.alloc (.cells #[.int .i64 k] 3)).drew.ownsRow w.heap.size 3 1 rv2 m2 cx2 from ((unhide HOWN).alloc _).drew)
        have HNW := hide (news_drew wr2 (.int .i64 k) 3 wr2.heap.size rfl)
        have HBA := hide (show w.heap.size ≤ (wr2.alloc (.cells #[.int .i64 k] 3)).drew.heap.size from Nat.le_trans hO2.bel.size (unhide HBW).size)
        have hne1 : w1.heap.size ≠ w5.heap.size := by omega
        have hne2 : wr.heap.size ≠ w5.heap.size := by omega
        have hb63 : m2 + 1 ≤ maxLen := by unfold maxLen; omega
        have hbby : (m2 + 1) * 8 ≤ 140737488355328 := by omega
        have y1 : wr2.cell? ⟨wr.heap.size, 1, none⟩ = some (.int .i64 y) := by simp [World.cell?, yb]
        have hwl : wr.heap.size < wr2.heap.size := World.block_lt_of_cell? _ _ y1
        have HYB := hide yb
        clear hO2 hrv2 hm2 hcx2 hown yb
        go_wp2_with fail
        refine wp_region_held_drew (S := fun u => u.cell? ⟨w1.heap.size, 3, none⟩ = some (.slice (some ⟨w5.heap.size, 0, none⟩) V V) ∧ u.cell? ⟨wr.heap.size, 1, none⟩ = some (.int .i64 y)) (by kernel_rfl) (by go_keep) (fun hS0 => ?_)
        refine wpAnyH_take (i := 0) (v := ?_) rfl (by kernel_rfl) (by kernel_rfl) (by kernel_rfl) (fun _ _ _ h => h) (Or.inl ⟨by rfl, ?_⟩) hS0 ?_
        rotate_left
        · intro u hu; (try dsimp only at hu); go_simp; try with_reducible rfl
        simp only [Act.put, List.setIfInBounds_toArray, List.set_cons_zero, List.set_cons_succ]
        refine wpAnyH_take (i := 1) (v := ?_) rfl (by kernel_rfl) (by kernel_rfl) (by kernel_rfl) (fun _ _ _ h => h) (Or.inl ⟨by rfl, ?_⟩) hS0 ?_
        rotate_left
        · intro u hu; (try dsimp only at hu); go_simp; try with_reducible rfl
        simp only [Act.put, List.setIfInBounds_toArray, List.set_cons_zero, List.set_cons_succ]
        refine wpAnyH_take (i := 2) (v := ?_) rfl (by kernel_rfl) (by kernel_rfl) (by kernel_rfl) (fun _ _ _ h => h) (Or.inl ⟨by rfl, ?_⟩) hS0 ?_
        rotate_left
        · intro u hu; (try dsimp only at hu); go_simp; try with_reducible rfl
        simp only [Act.put, List.setIfInBounds_toArray, List.set_cons_zero, List.set_cons_succ]
        refine wpAnyH_take (i := 3) (v := ?_) rfl (by kernel_rfl) (by kernel_rfl) (by kernel_rfl) (fun _ _ _ h => h) (Or.inl ⟨by rfl, ?_⟩) hS0 ?_
        rotate_left
        · intro u hu; (try dsimp only at hu); go_simp; try with_reducible rfl
        simp only [Act.put, List.setIfInBounds_toArray, List.set_cons_zero, List.set_cons_succ]
        refine wpAnyH_take (i := 4) (v := ?_) rfl (by kernel_rfl) (by kernel_rfl) (by kernel_rfl) (fun _ _ _ h => h) (Or.inl ⟨by rfl, ?_⟩) hS0 ?_
        rotate_left
        · intro u hu; (try dsimp only at hu); go_simp; try with_reducible rfl
        simp only [Act.put, List.setIfInBounds_toArray, List.set_cons_zero, List.set_cons_succ]
        refine wpAnyH_take (i := 5) (v := ?_) rfl (by kernel_rfl) (by kernel_rfl) (by kernel_rfl) (fun _ _ _ h => h) (Or.inl ⟨by rfl, ?_⟩) hS0 ?_
        rotate_left
        · intro u hu; (try dsimp only at hu); go_simp; try with_reducible rfl
        simp only [Act.put, List.setIfInBounds_toArray, List.set_cons_zero, List.set_cons_succ]
        refine wpAnyH_take (i := 6) (v := ?_) rfl (by kernel_rfl) (by kernel_rfl) (by kernel_rfl) (fun _ _ _ h => h) (Or.inl ⟨by rfl, ?_⟩) hS0 ?_
        rotate_left
        · intro u hu; (try dsimp only at hu); go_simp; try with_reducible rfl
        simp only [Act.put, List.setIfInBounds_toArray, List.set_cons_zero, List.set_cons_succ]
        refine wpAnyH_take (i := 7) (v := ?_) rfl (by kernel_rfl) (by kernel_rfl) (by kernel_rfl) (fun _ _ _ h => h) (Or.inl ⟨by rfl, ?_⟩) hS0 ?_
        rotate_left
        · intro u hu; (try dsimp only at hu); go_simp; try with_reducible rfl
        simp only [Act.put, List.setIfInBounds_toArray, List.set_cons_zero, List.set_cons_succ]
        refine wpAnyH_take (i := 8) (v := ?_) rfl (by kernel_rfl) (by kernel_rfl) (by kernel_rfl) (fun _ _ _ h => h) (Or.inl ⟨by rfl, ?_⟩) hS0 ?_
        rotate_left
        · intro u hu; (try dsimp only at hu); go_simp; try with_reducible rfl
        simp only [Act.put, List.setIfInBounds_toArray, List.set_cons_zero, List.set_cons_succ]
        refine wpAnyH_take (i := 9) (v := ?_) rfl (by kernel_rfl) (by kernel_rfl) (by kernel_rfl) (fun _ _ _ h => h) (Or.inl ⟨by rfl, ?_⟩) hS0 ?_
        rotate_left
        · intro u hu; (try dsimp only at hu); go_simp; try with_reducible rfl
        simp only [Act.put, List.setIfInBounds_toArray, List.set_cons_zero, List.set_cons_succ]
        refine wpAnyH_take (i := 10) (v := ?_) rfl (by kernel_rfl) (by kernel_rfl) (by kernel_rfl) (fun _ _ _ h => h) (Or.inl ⟨by rfl, ?_⟩) hS0 ?_
        rotate_left
        · intro u hu; (try dsimp only at hu); go_simp; try with_reducible rfl
        simp only [Act.put, List.setIfInBounds_toArray, List.set_cons_zero, List.set_cons_succ]
        refine wpAnyH_take (i := 11) (v := ?_) rfl (by kernel_rfl) (by kernel_rfl) (by kernel_rfl) (fun _ _ _ h => h) (Or.inl ⟨by rfl, ?_⟩) hS0 ?_
        rotate_left
        · intro u hu; (try dsimp only at hu); go_simp; try with_reducible rfl
        simp only [Act.put, List.setIfInBounds_toArray, List.set_cons_zero, List.set_cons_succ]
        refine wpAnyH_take (i := 12) (v := ?_) rfl (by kernel_rfl) (by kernel_rfl) (by kernel_rfl) (fun _ _ _ h => h) (Or.inl ⟨by rfl, ?_⟩) hS0 ?_
        rotate_left
        · intro u hu; (try dsimp only at hu); go_simp; try with_reducible rfl
        simp only [Act.put, List.setIfInBounds_toArray, List.set_cons_zero, List.set_cons_succ]
        refine wpAnyH_take (i := 14) (v := ?_) rfl (by kernel_rfl) (by kernel_rfl) (by kernel_rfl) (fun _ _ _ h => h) (Or.inl ⟨by rfl, ?_⟩) hS0 ?_
        rotate_left
        · intro u hu; (try dsimp only at hu); go_simp; try with_reducible rfl
        simp only [Act.put, List.setIfInBounds_toArray, List.set_cons_zero, List.set_cons_succ]
        refine wpAnyH_ready (rs := [13, 15]) (by kernel_rfl) (by simp) ?_
        refine AllReadyH.cons rfl (fun K hK => ?_) (AllReadyH.cons rfl (fun K hK => ?_) AllReadyH.nil)
        all_goals go_simp
        all_goals refine hK.out _ _ (by go_keep) (fun hH => ?_)
        all_goals clear hK K hS0
        refine wpAnyH_ready (rs := [15]) (by kernel_rfl) (by simp) ?_
        rotate_left
        refine wpAnyH_ready (rs := [13]) (by kernel_rfl) (by simp) ?_
        all_goals
          refine AllReadyH.cons rfl (fun K hK => ?_) AllReadyH.nil
          go_simp
          refine hK.out _ _ (by go_keep) (fun hS0 => ?_)
          clear hK K hH
          refine wpAnyH_ready (rs := [16]) (by kernel_rfl) (by simp) ?_
          refine AllReadyH.cons rfl (fun K hK => ?_) AllReadyH.nil
          refine step_append_lies _ rfl (.tmp 81) (.tmp 83) 34 rfl w.heap.size 3 i0 (.int .i64 0) 1 8 Try.underlying34 (unhide HI) (unhide HZ0) (unhide HZ1) (unhide HZ2) rfl (by decide) rv2 m2 cx2 rfl (unhide HOW) ⟨wr2.heap.size, 0, none⟩ 1 1 [.int .i64 k] rfl rfl (unhide HNW) (one_int k) (by decide) hb63 hbby (unhide HBA) _ rfl ?_
          intro g2 cap2 w4 hown4 hg4 hat4 hlt4
          have HF := hide (in_facts (unhide HR2) (unhide HXY) hyV (unhide HRV) (unhide HM) (unhide HCX) (unhide HBW) hown4 hg4 hat4 (unhide HYB))
          obtain ⟨z2, z3, z5, z6, _⟩ := unhide HF
          refine hK.out _ _ ⟨z2, z3⟩ (fun hS1 => ?_)
          clear hK K hown4 hg4 hat4
          refine wpAnyH_take (i := 17) (v := ?_) rfl (by kernel_rfl) (by kernel_rfl) (by kernel_rfl) (fun _ _ _ h => h) (Or.inl ⟨by rfl, ?_⟩) hS1 ?_
          rotate_left
          · intro u hu; (try dsimp only at hu); go_simp; try with_reducible rfl
          simp only [Act.put, List.setIfInBounds_toArray, List.set_cons_zero, List.set_cons_succ]
          refine wpAnyH_ready (rs := [18]) (by kernel_rfl) (by simp) ?_
          refine AllReadyH.cons rfl (fun K hK => ?_) AllReadyH.nil
          go_simp
          refine hK.out _ _ ⟨by rw [cell_set_far _ _ _ _ hne1]; exact z2, by rw [cell_set_far _ _ _ _ hne2]; exact z3⟩ (fun hS2 => ?_)
          clear hK K hS1 hS2
          refine wpAnyH_done (by kernel_rfl) ?_ _
          have HO3 := hide (unhide HF).2.2.2.2
          clear HF hS0 z2 z3 z5 z6
          go_wp2_with fail
          go_roundw
          case rel => exact ⟨k + 1, _, by go_num, by omega, HO3⟩
          case measure => simp [intOf]; omega
    · obtain rfl : k = es.length := by omega
      have hR := unhide HR
      obtain ⟨q0, q1, q2, q3, q4, q5⟩ := hR.cells
      obtain ⟨_, _, hv, hEs⟩ := es_of_owns hR.ed (by omega)
      obtain ⟨rfl, rfl⟩ : ea = _ ∧ ec = _ := by simpa using hv
      have hlenO : ∀ x, (Pl.outs es x).length ≤ 128 := fun x => Nat.le_trans (Pl.sel_len _ _ _) hn128
      have hlenI : ∀ x, (Pl.ins es x).length ≤ 128 := fun x => Nat.le_trans (Pl.sel_len _ _ _) hn128
      have hrO : Rs wr (some ⟨w3.heap.size, 0, none⟩) V (Pl.outs es) := owns_rs hR.ot (fun j hj => by have := hR.rows.own j (by omega); unfold half at this; rw [if_pos hj] at this; exact this) (fun j _ => hlenO j)
      have hrI : Rs wr (some ⟨w5.heap.size, 0, none⟩) V (Pl.ins es) := owns_rs hR.it (fun j hj => by have := hR.rows.own (V + j) (by omega); unfold half at this; rw [if_neg (by omega), Nat.add_sub_cancel_left] at this; exact this) (fun j _ => hlenI j)
      have hVw : Vw wr w1.heap.size V es ea ec (some ⟨w3.heap.size, 0, none⟩) V (some ⟨w5.heap.size, 0, none⟩) V none 0 [] := ⟨q0, q1, q2, q3, q4, ⟨by simp, fun _ => rfl⟩, hEs.mono (Nat.zero_le _), hrO, hrI, Ns.nil _ _⟩
      have HVW := hide hVw
      have HB := hide hR.bel
      have hbl := hR.b_lt
      clear hR hv hEs hrO hrI hlenO hlenI hVw q0 q1 q2 q3 p1 p3 k3
      go_wp2_with fail
      refine (peel_any _ _ V es _ _ _ _ _ _ _ _ _ (unhide HP) (unhide HVW)).mono ?_
      rintro e w9 ⟨⟨ov, rfl, hov⟩, hb9⟩
      have hol := (Pl.order_run V es).1.le
      obtain ⟨ra, rc, hov2, _, _⟩ := ns_of_owns hov (by omega)
      subst hov2
      have q6 : w9.cell? ⟨w1.heap.size, 4, none⟩ = some (.slice none 0 0) := by rw [hb9.cell (p := ⟨w1.heap.size, 4, none⟩) hbl]; exact q4
      have q7 : w9.frozen? ⟨w1.heap.size, 4, none⟩ = false := by rw [hb9.frozen (p := ⟨w1.heap.size, 4, none⟩) hbl]; exact q5
      have HVE := hide (vw_end ((unhide HR).more hb9) hn128 (by omega) hov hbl)
      have HB9 := hide ((unhide HB).trans (hb9.mono (unhide HB).size))
      clear hov hb9 q4 q5
      go_wp2_with fail
      go_ret
      exact ⟨⟨w1.heap.size, _, _, _, _, _, _, _, _, rfl, by omega, unhide HVE⟩, (unhide HB9).setCell (p := ⟨w1.heap.size, 4, none⟩) (by show w.heap.size ≤ w1.heap.size; omega) _⟩
end Go.Proofs.Ytdkchihomllokaa

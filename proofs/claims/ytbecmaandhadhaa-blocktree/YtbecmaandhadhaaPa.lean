/-
  The contract of block.places: for each vertex the places of the blocks that have an edge at it, rising. Conditions: the graph and the blocks lie in memory as told.
-/
import Derived.Test.YtbecmaandhadhaaEn
namespace Go.Proofs.Ytbecmaandhadhaa
open Go.RowKit
set_option linter.unusedVariables false
set_option maxRecDepth 20000

/-- of the first k lists those with an edge at x -/
def plK (es : List (Nat × Nat)) (L : List (List Nat)) (k x : Nat) : List Nat := (List.range k).filter fun i => hasAt es (L.getD i []) x
theorem plK_succ (es : List (Nat × Nat)) (L : List (List Nat)) (k x : Nat) : plK es L (k + 1) x = plK es L k x ++ if hasAt es (L.getD k []) x = true then [k] else [] := by
  unfold plK
  rw [List.range_succ, List.filter_append]
  congr 1
  rw [List.filter_cons]
  rfl
theorem plK_len (es : List (Nat × Nat)) (L : List (List Nat)) (k x : Nat) : (plK es L k x).length ≤ k := by
  have := List.length_filter_le (fun i => hasAt es (L.getD i []) x) (List.range k)
  simpa [plK] using this
/-- while the ends E of the k-th list are gone through: the first j are -/
def plJ (es : List (Nat × Nat)) (L : List (List Nat)) (k : Nat) (E : List Nat) (j x : Nat) : List Nat := plK es L k x ++ if x ∈ E.take j then [k] else []
theorem plJ_zero (es : List (Nat × Nat)) (L : List (List Nat)) (k : Nat) (E : List Nat) : plJ es L k E 0 = plK es L k := by
  funext x
  simp [plJ]
theorem plJ_end {V : Nat} {es : List (Nat × Nat)} {L : List (List Nat)} {k : Nat} (x : Nat) (hx : x < V) : plJ es L k (endsOf V es (L.getD k [])) (endsOf V es (L.getD k [])).length x = plK es L (k + 1) x := by
  unfold plJ
  rw [plK_succ, List.take_length]
  congr 1
  simp only [mem_endsOf, hx, true_and]
theorem plJ_step {es : List (Nat × Nat)} {L : List (List Nat)} {k : Nat} {E : List Nat} {j : Nat} (hj : j < E.length) (hE : E.Pairwise (· < ·)) : upd (plJ es L k E j) (E.getD j 0) (plJ es L k E j (E.getD j 0) ++ [k]) = plJ es L k E (j + 1) ∧ plJ es L k E j (E.getD j 0) = plK es L k (E.getD j 0) := by
  have hnot : E.getD j 0 ∉ E.take j := by
    intro hin
    obtain ⟨i, hi, hie⟩ := List.mem_iff_getElem.1 hin
    simp only [List.length_take] at hi
    rw [List.getElem_take] at hie
    have := List.pairwise_iff_getElem.1 hE i j (by omega) hj (by omega)
    simp [List.getD, hj] at hie
    omega
  have h1 : plJ es L k E j (E.getD j 0) = plK es L k (E.getD j 0) := by
    unfold plJ
    rw [if_neg hnot, List.append_nil]
  refine ⟨?_, h1⟩
  funext x
  unfold upd
  have htk : E.take (j + 1) = E.take j ++ [E.getD j 0] := by
    rw [List.take_add_one]
    simp [List.getD, hj]
  by_cases hx : x = E.getD j 0
  · rw [if_pos hx, h1]
    unfold plJ
    rw [htk, if_pos (by rw [hx]; simp), hx]
  · rw [if_neg hx]
    unfold plJ
    rw [htk]
    by_cases hin : x ∈ E.take j
    · rw [if_pos hin, if_pos (by simp [hin])]
    · rw [if_neg hin, if_neg (by rw [List.mem_append, List.mem_singleton]; rintro (h | h); exact hin h; exact hx h)]

/-- a table of rows that grow, each in a block of its own -/
structure Tr (w0 wr : World) (tg V : Nat) (R : Nat → Value) (F : Nat → List Nat) : Prop where
  bel : Below w0.heap.size w0 wr
  tlo : w0.heap.size ≤ tg
  tab : Tab wr tg V R
  rows : Rows wr w0.heap.size V R F
theorem Tr.more {w0 wr W : World} {tg V : Nat} {R : Nat → Value} {F : Nat → List Nat} (h : Tr w0 wr tg V R F) (hW : Below wr.heap.size wr W) : Tr w0 W tg V R F :=
  ⟨h.bel.trans (hW.mono h.bel.size), h.tlo, h.tab.keep (hW.block tg h.tab.lt), h.rows.keep fun j g hj hg => hW.block g ((h.rows.own j hj).lt g hg).2⟩
theorem Tr.congr {w0 wr : World} {tg V : Nat} {R : Nat → Value} {F F' : Nat → List Nat} (h : Tr w0 wr tg V R F) (hF : ∀ x, x < V → F x = F' x) : Tr w0 wr tg V R F' :=
  ⟨h.bel, h.tlo, h.tab, ⟨fun j hj => by rw [← hF j hj]; exact h.rows.own j hj, h.rows.apart⟩⟩
/-- a row has grown, and is stored -/
theorem Tr.step {w0 wr W w4 : World} {tg V : Nat} {R : Nat → Value} {F : Nat → List Nat} (h : Tr w0 wr tg V R F) {x k g2 cap2 m : Nat} {cx : List Value} (hx : x < V) (hm : (F x).length = m) (hcx : zcells (toIs (F x)) = cx) (hW : Below wr.heap.size wr W)
    (ho : w4.ownsRow w0.heap.size 3 1 (.slice (some ⟨g2, 0, none⟩) (m + 1) cap2) (m + 1) (cx ++ [.int .i64 k])) (hg : W.grownBy w4 (R x).ownBlock) (hat : (R x).ownBlock = some g2 ∨ g2 = W.heap.size) :
    w4.cell? ⟨tg, x, none⟩ = some (R x) ∧ w4.frozen? ⟨tg, x, none⟩ = false ∧
      Tr w0 (w4.setCell ⟨tg, x, none⟩ (.slice (some ⟨g2, 0, none⟩) (m + 1) cap2)) tg V (upd R x (.slice (some ⟨g2, 0, none⟩) (m + 1) cap2)) (upd F x (F x ++ [k])) ∧
      (wr.heap.size ≤ w4.heap.size ∧ ∀ i, i < wr.heap.size → i ≠ tg → (∀ j, j < V → (R j).ownBlock ≠ some i) → (w4.setCell ⟨tg, x, none⟩ (.slice (some ⟨g2, 0, none⟩) (m + 1) cap2)).heap[i]? = wr.heap[i]? ∧ ∀ j, j < V → (upd R x (.slice (some ⟨g2, 0, none⟩) (m + 1) cap2) j).ownBlock ≠ some i) := by
  subst hm
  subst hcx
  have ho' : w4.ownsRow w0.heap.size 3 1 (.slice (some ⟨g2, 0, none⟩) ((F x).length + 1) cap2) ((F x).length + 1) (zcells (toIs (F x ++ [k]))) := by
    rw [← toIs_snoc, ← zcells_snoc]
    exact ho
  have hat' : (Value.slice (some ⟨g2, 0, none⟩) ((F x).length + 1) cap2).ownBlock = (R x).ownBlock ∨ (Value.slice (some ⟨g2, 0, none⟩) ((F x).length + 1) cap2).ownBlock = some W.heap.size := by
    rcases hat with h | h
    · exact .inl h.symm
    · exact .inr (by rw [h]; rfl)
  have hblk : ∀ i, i < wr.heap.size → (R x).ownBlock ≠ some i → w4.heap[i]? = wr.heap[i]? := fun i hi hne => by
    rw [hg.block i (Nat.lt_of_lt_of_le hi hW.size) (fun he => hne he.symm), hW.block i hi]
  have htg : ∀ j, j < V → (R j).ownBlock ≠ some tg := fun j hj => h.tab.ne (h.rows.own j hj) (by decide)
  have htab4 : Tab w4 tg V R := h.tab.keep (hblk tg h.tab.lt (htg x hx))
  have hrows := h.rows.append hx (fun i hi => hW.block i hi) hW.size hg ho' hat'
  have hbel4 : Below w0.heap.size w0 w4 := (h.bel.trans (hW.mono h.bel.size)).grown hg (Nat.le_trans h.bel.size hW.size) fun k hk => ((h.rows.own x hx).lt k hk).1
  have hsz4 : wr.heap.size ≤ w4.heap.size := Nat.le_trans hW.size hg.size
  refine ⟨htab4.cell hx, htab4.fz x, ⟨hbel4.setCell (p := ⟨tg, x, none⟩) h.tlo _, h.tlo, htab4.set x _, hrows.keep fun j g hj hgj => heap_set_other _ _ _ (fun e => htab4.ne (hrows.own j hj) (by decide) (by rw [hgj]; exact congrArg some e))⟩, hsz4, fun i hi h1 h2 => ⟨?_, fun j hj => ?_⟩⟩
  · rw [heap_set_other _ _ _ h1, hblk i hi (h2 x hx)]
  · by_cases hjx : j = x
    · subst hjx
      rw [upd_same]
      intro e
      have : g2 = i := Option.some.inj e
      rcases hat with h3 | h3
      · rw [this] at h3; exact h2 j hj h3
      · have := hW.size; omega
    · rw [upd_other _ _ hjx]
      exact h2 j hj
/-- a list in memory apart from the table -/
structure Le (w : World) (tg V : Nat) (R : Nat → Value) (a : Option Addr) (E : List Nat) : Prop where
  ns : Ns w a E.length (toIs E)
  far : ∀ p, a = some p → p.block < w.heap.size ∧ p.block ≠ tg ∧ ∀ j, j < V → (R j).ownBlock ≠ some p.block
theorem Le.step {w w' : World} {tg V : Nat} {R R' : Nat → Value} {a : Option Addr} {E : List Nat} (h : Le w tg V R a E) (hs : w.heap.size ≤ w'.heap.size) (hf : ∀ i, i < w.heap.size → i ≠ tg → (∀ j, j < V → (R j).ownBlock ≠ some i) → w'.heap[i]? = w.heap[i]? ∧ ∀ j, j < V → (R' j).ownBlock ≠ some i) : Le w' tg V R' a E := by
  refine ⟨⟨h.ns.1, h.ns.2.1, fun k hk => ?_⟩, fun p hp => ?_⟩
  · obtain ⟨g, off, ha, hg, c0⟩ := h.ns.2.2 k hk
    obtain ⟨f1, f2, f3⟩ := h.far _ ha
    exact ⟨g, off, ha, Nat.lt_of_lt_of_le hg hs, by rw [World.cell?_of_block (w := w) (hf g hg f2 f3).1]; exact c0⟩
  · obtain ⟨f1, f2, f3⟩ := h.far _ hp
    exact ⟨Nat.lt_of_lt_of_le f1 hs, f2, (hf _ f1 f2 f3).2⟩

theorem Tr.base {w w0 wr : World} {tg V : Nat} {R : Nat → Value} {F : Nat → List Nat} (h : Tr w0 wr tg V R F) (hb : Below w.heap.size w w0) : Tr w wr tg V R F :=
  ⟨hb.trans (h.bel.mono hb.size), Nat.le_trans hb.size h.tlo, h.tab, ⟨fun j hj => owns_mono (h.rows.own j hj) hb.size, h.rows.apart⟩⟩
theorem tr_start {w0 w1 : World} {V : Nat} {F : Nat → List Nat} (hF : ∀ x, F x = []) (hb : Below w0.heap.size w0 w1) {tg : Nat} (ht : w0.heap.size ≤ tg) (ho : w1.ownsRow w0.heap.size 29 1 (.slice (some ⟨tg, 0, none⟩) V V) V (List.replicate V (.slice none 0 0))) : Tr w0 w1 tg V (fun _ => .slice none 0 0) F := by
  refine ⟨hb, ht, ?_, ⟨fun j hj => by rw [hF]; exact World.ownsRow_nil _ _ _ _, fun i j _ _ _ g hg => by simp [Value.ownBlock] at hg⟩⟩
  rcases ho.2 with ⟨hv, _⟩ | ⟨g', cap, cur, hv, hb, hg, h1, h2, h3, h4⟩
  · cases hv
  · cases hv
    refine ⟨cur, hg, by omega, fun t ht => ?_⟩
    have : (cur.toList.take (V * 1))[t]? = (List.replicate V (Value.slice none 0 0))[t]? := by rw [h4]
    rw [List.getElem?_take] at this
    simpa [ht] using this
theorem Tr.le {w0 wr w' : World} {tg V : Nat} {R : Nat → Value} {F : Nat → List Nat} (h : Tr w0 wr tg V R F) {E : List Nat} {g c : Nat} (ho : w'.ownsRow wr.heap.size 3 1 (.slice (some ⟨g, 0, none⟩) E.length c) E.length (zcells (toIs E))) (hE : E.length ≤ 1000) : Le w' tg V R (some ⟨g, 0, none⟩) E := by
  obtain ⟨a', c', hv, _, hN⟩ := ns_of_owns ho (by omega)
  simp only [Value.slice.injEq, true_and] at hv
  obtain ⟨rfl, rfl⟩ := hv
  have hlt := ho.lt g rfl
  refine ⟨hN, fun p hp => ?_⟩
  obtain rfl := Option.some.inj hp
  refine ⟨hlt.2, ?_, fun j hj e => ?_⟩
  · have := h.tab.lt
    show g ≠ tg
    omega
  · have := ((h.rows.own j hj).lt g e).2
    omega

set_option maxHeartbeats 8000000 in
theorem places_any (w : World) (V : Nat) (a : Option Addr) (cap : Nat) (es : List (Nat × Nat)) {B0 : Nat} (h : Es B0 w a es.length (toI es)) (hp : Plain V es) (pa : Option Addr) (pc : Nat) (L : List (List Nat)) (hL : Rs w pa L.length fun k => L.getD k [])
    (hLm : ∀ B ∈ L, B ≠ [] ∧ B.length ≤ 128 ∧ ∀ i ∈ B, i < es.length) (hLn : 0 < L.length) (hLl : L.length ≤ 128) :
    Calls Try.prog 28 #[.agg #[.int .i64 V, .slice a es.length cap], .slice pa L.length pc] w fun e w' => (∃ tg R, e = .returned (.slice (some ⟨tg, 0, none⟩) V V) ∧ Tr w w' tg V R (plK es L L.length)) ∧ Below w.heap.size w w' := by
  have hn128 := hp.n128
  have hv64 := hp.v64
  have hv1 := hp.v1
  have HE := hide h
  have HP := hide hp
  have HL := hide hL
  have HM := hide hLm
  have HB0 := hide (show Below w.heap.size w (w.alloc (.cells #[.int .i64 V, .slice a es.length cap] 24)) from (Below.refl _ _).alloc (Nat.le_refl _) _)
  obtain ⟨i0, hi0, hz0, hz1, hz2⟩ := info_parts info3
  have HI := hide hi0
  have HZ0 := hide hz0
  have HZ1 := hide hz1
  have HZ2 := hide hz2
  obtain ⟨j0, hj0, hy0, hy1, hy2⟩ := info_parts info28
  have HJ := hide hj0
  have HY0 := hide hy0
  have HY1 := hide hy1
  have hzb : j0.bytes * V ≤ 281474976710656 := by rw [hy2]; omega
  obtain ⟨n, hn⟩ : ∃ n, L.length = n := ⟨_, rfl⟩
  rw [hn] at hLn hLl
  rw [hn]
  have HN := hide hn
  have hn0 : ((n : Int) == 0) = false := by rw [beq_eq_false_iff_ne]; omega
  clear h hp hL hLm hi0 hz0 hz1 hz2 hj0 hy0 hy1 hy2 hn
  obtain ⟨w0, hw0⟩ : ∃ w0, w0 = w.alloc (.cells #[.int .i64 V, .slice a es.length cap] 24) := ⟨_, rfl⟩
  have hsz0 : w0.heap.size = w.heap.size + 1 := by rw [hw0]; simp
  have HBX := hide (show w0.heap[w.heap.size]? = some (.cells #[.int .i64 V, .slice a es.length cap] 24 (0, 0)) by rw [hw0]; exact (MapKept.heap_alloc w _).1)
  have HW0 := hide hw0
  go_enter Try.func28, Try.ntmps28
  go_wp2_with (refine wpList_make_full _ rfl (.tmp 14) (.tmp 14) 27 rfl (w.heap.size + 1) 29 j0 (.slice none 0 0) 1 Try.underlying27 (unhide HJ) (unhide HY0) (unhide HY1) .i64 .i64 _ _ V rfl rfl rfl rfl hzb ?m1 ?m2 ?_)
  case m1 => unfold maxLen; omega
  case m2 => simp
  intro w1 ho1 hg1
  rw [toList_madeCells_one] at ho1
  rw [← unhide HW0] at hg1
  have hb01 : Below w0.heap.size w0 w1 := ⟨hg1.os, hg1.tape, hg1.output, hg1.size, fun i hi => hg1.block i hi (by simp)⟩
  have HT1 := hide (tr_start (F := plK es L 0) (fun x => rfl) hb01 (show w0.heap.size ≤ w.heap.size + 1 by omega) (by rw [hsz0]; exact ho1))
  have HB0' := hide (show Below w.heap.size w w0 by rw [unhide HW0]; exact unhide HB0)
  clear ho1 hg1 hb01 HB0 hw0 HW0
  go_wp2_with fail
  go_loopw [18] (fun i wr => ∃ (k : Nat) (R : Nat → Value), i = .int .i64 k ∧ k ≤ n ∧ Hid (Tr w0 wr (w.heap.size + 1) V R (plK es L k))) (fun i wr => n - (intOf i).toNat)
  case atStart => exact ⟨0, _, rfl, by omega, HT1⟩
  case round =>
    clear HT1
    obtain ⟨k, R, rfl, hk, HT⟩ := hrel
    have hbw := (unhide HB0').trans ((unhide HT).bel.mono (unhide HB0').size)
    by_cases hlt : k < n
    · have hkL : k < L.length := by rw [unhide HN]; exact hlt
      have hmemL : L.getD k [] ∈ L := by simp [List.getD, hkL]
      obtain ⟨hB1, hB2, hB3⟩ := unhide HM _ hmemL
      obtain ⟨g, off, ak, ck, hpa, hg, r0, hck, hnk, hNk⟩ := unhide HL k hkL
      subst hpa
      simp only at r0 hck hnk hNk
      have s0 : wr.cell? ⟨g, off + k, none⟩ = some (.slice ak (L.getD k []).length ck) := by rw [hbw.cell (p := ⟨g, off + k, none⟩) hg]; exact r0
      have hbx : wr.heap[w.heap.size]? = some (.cells #[.int .i64 V, .slice a es.length cap] 24 (0, 0)) := by rw [(unhide HT).bel.block _ (by omega)]; exact unhide HBX
      have s1 : wr.cell? ⟨w.heap.size, 0, none⟩ = some (.int .i64 V) := by simp [World.cell?, hbx]
      have s2 : wr.cell? ⟨w.heap.size, 1, none⟩ = some (.slice a es.length cap) := by simp [World.cell?, hbx]
      have HEN := hide (ends_any wr V a cap es ((unhide HE).below hbw) (unhide HP) ak ck (L.getD k []) (hNk.below hbw) hB3 hB1 hB2)
      have hlt2 : (k : Int) < (n : Int) := by omega
      have HEL := hide (endsOf_len V es (L.getD k []))
      have HES := hide (endsOf_lt V es (L.getD k []))
      have HEE := hide (show ∀ x, x < V → plJ es L k (endsOf V es (L.getD k [])) (endsOf V es (L.getD k [])).length x = plK es L (k + 1) x from fun x hx => plJ_end x hx)
      have HEM := hide (show ∀ x ∈ endsOf V es (L.getD k []), x < V from fun x hx => (mem_endsOf.1 hx).1)
      generalize endsOf V es (L.getD k []) = E at HEN HEL HES HEE HEM
      generalize (L.getD k []).length = bl at s0 HEN
      clear r0 hck hnk hNk hB1 hB2 hB3 hmemL hkL
      go_wp2_with fail
      refine (unhide HEN).mono ?_
      rintro en w2 ⟨⟨gE, cE, rfl, hoE⟩, hb2⟩
      have HLE := hide ((unhide HT).le hoE (by have := unhide HEL; omega))
      have HT2 := hide ((unhide HT).more hb2)
      clear hoE hb2 HEN HT s0 s1 s2 hbx
      obtain ⟨eN, heN⟩ : ∃ eN, E.length = eN := ⟨_, rfl⟩
      rw [heN]
      have HNE := hide heN
      have heb : eN ≤ 64 := by have := unhide HEL; omega
      clear heN
      go_wp2_with fail
      obtain ⟨wo, rfl⟩ : ∃ wo, wo = wr := ⟨_, rfl⟩
      go_loopw [27] (fun i wr => ∃ (j : Nat) (R : Nat → Value), i = .int .i64 j ∧ j ≤ eN ∧ Hid (Tr w0 wr (w.heap.size + 1) V R (plJ es L k E j)) ∧ Hid (Le wr (w.heap.size + 1) V R (some ⟨gE, 0, none⟩) E)) (fun i wr => eN - (intOf i).toNat)
      case atStart => exact ⟨0, R, rfl, by omega, by rw [plJ_zero]; exact HT2, HLE⟩
      case round =>
        clear HT2 HLE hbw
        obtain ⟨j, R, rfl, hj, HT, HLE⟩ := hrel
        by_cases hjlt : j < eN
        · have hjE : j < E.length := by rw [unhide HNE]; exact hjlt
          obtain ⟨g2, off2, he2, hg2, t0⟩ := ns_at (unhide HLE).ns hjE
          obtain ⟨rfl, rfl⟩ : gE = g2 ∧ 0 = off2 := by simpa using he2
          obtain ⟨hst, hsv⟩ := plJ_step (es := es) (L := L) (k := k) hjE (unhide HES)
          have hxV := unhide HEM (E.getD j 0) (by simp [List.getD, hjE])
          generalize E.getD j 0 = x at t0 hst hsv hxV
          have hown := (unhide HT).rows.own x hxV
          obtain ⟨rx, hrx⟩ : ∃ rx, R x = rx := ⟨_, rfl⟩
          have hlenx : (plJ es L k E j x).length ≤ k := by rw [hsv]; exact plK_len es L k x
          obtain ⟨m, hm⟩ : ∃ m, (plJ es L k E j x).length = m := ⟨_, rfl⟩
          rw [hm] at hown hlenx
          obtain ⟨ax, cx, hvx, _, _⟩ := ns_of_owns hown (by omega)
          have t1 := (unhide HT).tab.cell hxV
          rw [hvx] at t1 hown
          have HVX := hide hvx
          have HMX := hide hm
          have HOW := hide (hown.alloc (.cells #[.int .i64 (k : Int)] 3))
          have HST := hide hst
          have hszr : w0.heap.size ≤ wr.heap.size := (unhide HT).bel.size
          have hjlt2 : (j : Int) < (eN : Int) := by omega
          have hxV2 : (x : Int) < (V : Int) := by omega
          have hb63 : m + 1 ≤ maxLen := by unfold maxLen; omega
          have hbby : (m + 1) * 8 ≤ 140737488355328 := by omega
          rw [Nat.zero_add] at t0
          clear hst hsv hvx hm hown hrx he2 hjE
          go_wp2_with (at_builtin; refine wpList_append_lies _ rfl (.tmp 36) (.tmp 38) 29 rfl w0.heap.size 3 i0 (.int .i64 0) 1 8 Try.underlying29 (unhide HI) (unhide HZ0) (unhide HZ1) (unhide HZ2) rfl (by decide) (.slice ax m cx) m (zcells (toIs (plJ es L k E j x))) rfl (unhide HOW) ⟨wr.heap.size, 0, none⟩ 1 1 [.int .i64 k] rfl rfl (cell_one_new _ _ _) (one_int k) (by decide) hb63 hbby ?c6 _ rfl ?_)
          case c6 => simp; omega
          intro g4 cap4 w4 hown4 hg4 hat4 hlt4
          obtain ⟨z1, z2, hT5, hsz5, hfar5⟩ := (unhide HT).step hxV (unhide HMX) rfl (show Below wr.heap.size wr (wr.alloc (.cells #[.int .i64 (k : Int)] 3)) from (Below.refl _ _).alloc (Nat.le_refl _) _) (by rw [hsz0]; exact hown4) (by rw [unhide HVX]; exact hg4) (by rw [unhide HVX]; simpa using hat4)
          rw [unhide HVX] at z1
          rw [unhide HST] at hT5
          have HT5 := hide hT5
          have HL5 := hide ((unhide HLE).step (by simpa [World.setCell] using hsz5) hfar5)
          clear hT5 hsz5 hfar5 hown4 hg4 hat4 t0 t1 HOW HT HLE
          go_wp2_with fail
          go_roundw
          case rel => exact ⟨j + 1, _, by go_num, by omega, HT5, HL5⟩
          case measure => simp [intOf]; omega
        · obtain rfl : j = eN := by omega
          have hfin := unhide HEE
          rw [unhide HNE] at hfin
          have HT6 := hide ((unhide HT).congr hfin)
          clear hfin HT HLE
          go_wp2_with fail
          go_roundw
          case rel => exact ⟨k + 1, R, by go_num, by omega, HT6⟩
          case measure => simp [intOf]; omega
    · obtain rfl : k = n := by omega
      have HBW := hide hbw
      clear hbw
      go_wp2_with fail
      go_ret
      exact ⟨⟨_, R, rfl, (unhide HT).base (unhide HB0')⟩, unhide HBW⟩
end Go.Proofs.Ytbecmaandhadhaa


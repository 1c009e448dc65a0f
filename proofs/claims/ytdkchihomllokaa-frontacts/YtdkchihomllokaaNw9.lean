/-
  The contract of New. Conditions: the graph's edges lie in memory as told.
-/
import Derived.Test.YtdkchihomllokaaCln
import Derived.Test.YtdkchihomllokaaChk
namespace Go.Proofs.Ytdkchihomllokaa
open Go.RowKit
set_option linter.unusedVariables false
set_option maxRecDepth 20000

theorem field64 (w : World) (c p : Int) (va : Option Addr) (m k : Nat) : (Instr.field 64 (.agg #[.int .i64 c, .int .i64 p, .slice va m k]) 0).run Try.prog w = .ok (.int .i64 c) w := by
  simp [Instr.field, run_underlying Try.underlying64, asAgg, part, Result.andThen]
set_option maxHeartbeats 2000000 in
/-- a graph with a fault has no front -/
theorem new_bad (w : World) (V : Int) (a : Option Addr) (n cap : Nat) (c p : Int) (hc : c ≠ 0)
    (hchk : ∀ u, Below w.heap.size w u → Calls Try.prog 26 #[.agg #[.int .i64 V, .slice a n cap]] u fun e u' => (∃ va m k, e = .returned (.agg #[.int .i64 c, .int .i64 p, .slice va m k])) ∧ Below u.heap.size u u') :
    Calls Try.prog 8 #[.agg #[.int .i64 V, .slice a n cap]] w fun e w' => e = .returned (.tuple #[.pointer none, .int .i64 1]) ∧ Below w.heap.size w w' := by
  have hb0 := b_al (w := w) (.cells #[.int .i64 V, .slice a n cap] 24)
  have C := hide (hchk _ hb0)
  have HB0 := hide hb0
  have hc' : (c != 0) = true := by simp [hc]
  have hc2 : (c == 0) = false := by simp [hc]
  have HC := hide hc
  clear hchk hb0 hc
  have q64 := field64
  go_enter Try.func8, Try.ntmps8
  go_wp2_with fail
  refine (unhide C).mono ?_
  rintro e w1 ⟨⟨va, m, k, rfl⟩, hb1⟩
  have HB1 := hide ((unhide HB0).trans (hb1.mono (unhide HB0).size))
  clear C hb1
  go_wp2_with fail
  go_ret2
  exact ⟨rfl, unhide HB1⟩

theorem es_keep {B : Nat} {w w' : World} {a : Option Addr} {n : Nat} {es : List (Int × Int)} (h : Es B w a n es) (hk : ∀ i, i < w.heap.size → w'.heap[i]? = w.heap[i]?) (hs : w.heap.size ≤ w'.heap.size) : Es B w' a n es := by
  obtain ⟨h1, h2, h3⟩ := h
  refine ⟨h1, h2, fun k hk' => ?_⟩
  obtain ⟨g, off, ha, hB, hg, c0, c1⟩ := h3 k hk'
  exact ⟨g, off, ha, hB, Nat.lt_of_lt_of_le hg hs, by rw [World.cell?_of_block (w := w) (hk g hg)]; exact c0, by rw [World.cell?_of_block (w := w) (hk g hg)]; exact c1⟩
theorem ns_keep {w w' : World} {a : Option Addr} {n : Nat} {xs : List Int} (h : Ns w a n xs) (hk : ∀ i, i < w.heap.size → w'.heap[i]? = w.heap[i]?) (hs : w.heap.size ≤ w'.heap.size) : Ns w' a n xs := by
  obtain ⟨h1, h2, h3⟩ := h
  refine ⟨h1, h2, fun k hk' => ?_⟩
  obtain ⟨g, off, ha, hg, c0⟩ := h3 k hk'
  exact ⟨g, off, ha, Nat.lt_of_lt_of_le hg hs, by rw [World.cell?_of_block (w := w) (hk g hg)]; exact c0⟩
theorem rs_keep {w w' : World} {a : Option Addr} {n : Nat} {L : Nat → List Nat} (h : Rs w a n L) (hk : ∀ i, i < w.heap.size → w'.heap[i]? = w.heap[i]?) (hs : w.heap.size ≤ w'.heap.size) : Rs w' a n L := by
  intro k hk'
  obtain ⟨g, off, ak, ck, ha, hg, c0, hl, hno, hN⟩ := h k hk'
  exact ⟨g, off, ak, ck, ha, Nat.lt_of_lt_of_le hg hs, by rw [World.cell?_of_block (w := w) (hk g hg)]; exact c0, hl, hno, ns_keep hN hk hs⟩
theorem vw_keep {w w' : World} {b V : Nat} {es : List (Nat × Nat)} {ea : Option Addr} {ec : Nat} {oa : Option Addr} {oc : Nat} {ia : Option Addr} {ic : Nat} {ra : Option Addr} {rc : Nat} {ord : List Nat} (h : Vw w b V es ea ec oa oc ia ic ra rc ord) (hk : ∀ i, i < w.heap.size → w'.heap[i]? = w.heap[i]?) (hs : w.heap.size ≤ w'.heap.size) : Vw w' b V es ea ec oa oc ia ic ra rc ord := by
  have hl := h.lt
  have hc : ∀ o, w'.cell? ⟨b, o, none⟩ = w.cell? ⟨b, o, none⟩ := fun o => World.cell?_of_block (w := w) (hk b hl)
  exact ⟨by rw [hc]; exact h.c0, by rw [hc]; exact h.c1, by rw [hc]; exact h.c2, by rw [hc]; exact h.c3, by rw [hc]; exact h.c4, h.rcap, es_keep h.edges hk hs, rs_keep h.outs hk hs, rs_keep h.ins hk hs, ns_keep h.order hk hs⟩

/-- the counts while they are gathered -/
structure Nk (w1 wr : World) (b V : Nat) (es : List (Nat × Nat)) (vb : Nat) (k : Nat) (ia : Option Addr) (ic : Nat) : Prop where
  bel : Below w1.heap.size w1 wr
  box : wr.heap[b]? = some (.cells #[.slice none 0 0, .pointer (some ⟨vb, 0, none⟩), .slice ia k ic, .slice none 0 0] 45 (0, 0))
  own : wr.ownsRow (b + 1) 3 1 (.slice ia k ic) k (zcells (toIs ((insL V es).take k)))
theorem Nk.below {w1 wr w' : World} {b V : Nat} {es : List (Nat × Nat)} {vb k : Nat} {ia : Option Addr} {ic : Nat} (h : Nk w1 wr b V es vb k ia ic) (hb : Below wr.heap.size wr w') : Nk w1 w' b V es vb k ia ic :=
  ⟨h.bel.trans (hb.mono h.bel.size), by rw [hb.block b (Array.getElem?_eq_some_iff.1 h.box).1]; exact h.box, owns_below' h.own hb⟩
theorem Nk.cells {w1 wr : World} {b V : Nat} {es : List (Nat × Nat)} {vb k : Nat} {ia : Option Addr} {ic : Nat} (h : Nk w1 wr b V es vb k ia ic) :
    wr.cell? ⟨b, 1, none⟩ = some (.pointer (some ⟨vb, 0, none⟩)) ∧ wr.cell? ⟨b, 2, none⟩ = some (.slice ia k ic) ∧ wr.frozen? ⟨b, 2, none⟩ = false ∧ b < wr.heap.size := by
  have h1 := h.box
  refine ⟨by simp [World.cell?, h1], by simp [World.cell?, h1], by simp [World.frozen?, h1], (Array.getElem?_eq_some_iff.1 h1).1⟩

/-- the front of a good graph -/
def NewTold (V : Nat) (es : List (Nat × Nat)) (w w' : World) (e : Ending) : Prop :=
  ∃ b s, e = .returned (.tuple #[.pointer (some ⟨b, 0, none⟩), .int .i64 0]) ∧ w.heap.size ≤ b ∧ Fb w'.heap.size w' b V s none 0 [] (.slice none 0 0) [] ∧ Sn w'.heap.size b w' V es s

set_option maxHeartbeats 8000000 in
theorem new_good (w : World) (V : Nat) (a : Option Addr) (cap : Nat) (es : List (Nat × Nat)) (h : Es 0 w a es.length (toI es)) (hno : a = none → es.length = 0 ∧ cap = 0) (hcap : es.length ≤ cap) (hp : Plain V es) (hok : IsFault V es 0 0 []) :
    Calls Try.prog 8 #[.agg #[.int .i64 V, .slice a es.length cap]] w fun e w' => NewTold V es w w' e ∧ Below w.heap.size w w' := by
  obtain ⟨i0, hi0, hz0, hz1, hz2⟩ := info_parts info3
  have HI := hide hi0
  have HZ0 := hide hz0
  have HZ1 := hide hz1
  have HZ2 := hide hz2
  have HE := hide h
  have HNO := hide hno
  have HP := hide hp
  have HOK := hide hok
  have hv64 := hp.v64
  have hb0 := b_al (w := w) (.cells #[.int .i64 (V : Nat), .slice a es.length cap] 24)
  have C := hide (check_good _ V a cap es (h.below hb0) hno hcap hp)
  have hx0 : (w.alloc (.cells #[.int .i64 (V : Nat), .slice a es.length cap] 24)).heap[w.heap.size]? = some (.cells #[.int .i64 (V : Nat), .slice a es.length cap] 24 (0, 0)) := (MapKept.heap_alloc w _).1
  have hs0 : (w.alloc (.cells #[.int .i64 (V : Nat), .slice a es.length cap] 24)).heap.size = w.heap.size + 1 := by simp
  have HX0 := hide hx0
  have HB0 := hide hb0
  have HS0 := hide hs0
  obtain ⟨W, hW⟩ : ∃ W, w.alloc (.cells #[.int .i64 (V : Nat), .slice a es.length cap] 24) = W := ⟨_, rfl⟩
  rw [hW] at C HX0 HB0 HS0
  have gw0 : W.cell? ⟨w.heap.size, 0, none⟩ = some (.int .i64 (V : Nat)) := by have := unhide HX0; simp [World.cell?, this]
  have gw1 : W.cell? ⟨w.heap.size, 1, none⟩ = some (.slice a es.length cap) := by have := unhide HX0; simp [World.cell?, this]
  obtain ⟨n, hn⟩ : ∃ n, es.length = n := ⟨_, rfl⟩
  have HN := hide hn
  rw [hn] at hW HX0 gw1 ⊢
  have C' := hide (show Calls Try.prog 26 #[.agg #[.int .i64 (V : Nat), .slice a n cap]] W fun e w' => CheckTold w' V es e ∧ Below W.heap.size W w' by rw [← hn]; exact unhide C)
  clear h hno hcap hp hok hi0 hz0 hz1 hz2 hb0 hx0 hs0 C hn
  have q64 := field64
  go_enter Try.func8, Try.ntmps8
  go_wp2_with fail
  refine (unhide C').mono ?_
  rintro e w1 ⟨⟨c, p, l, va, k, hf, rfl, _⟩, hb1⟩
  obtain ⟨rfl, rfl, rfl⟩ := hf.only (unhide HP) (unhide HOK)
  have hx1 : w1.heap[w.heap.size]? = some (.cells #[.int .i64 (V : Nat), .slice a n cap] 24 (0, 0)) := by rw [hb1.block _ (by rw [unhide HS0]; omega)]; exact unhide HX0
  have hB1 : Below w.heap.size w w1 := (unhide HB0).trans (hb1.mono (by rw [unhide HS0]; omega))
  have hs1 : w.heap.size + 1 ≤ w1.heap.size := by have := hb1.size; rw [unhide HS0] at this; exact this
  have g0 : w1.cell? ⟨w.heap.size, 0, none⟩ = some (.int .i64 (V : Nat)) := by simp [World.cell?, hx1]
  have g1 : w1.cell? ⟨w.heap.size, 1, none⟩ = some (.slice a n cap) := by simp [World.cell?, hx1]
  have C2 := hide (of_good w1 V a cap es ((unhide HE).below hB1) (unhide HNO) (unhide HP))
  rw [unhide HN] at C2
  have HX1 := hide hx1
  have HB1 := hide hB1
  clear C' hf hb1 hx1 hB1 hW gw0 gw1
  go_wp2_with fail
  refine (unhide C2).mono ?_
  rintro e w2 ⟨⟨vb, ea, ec, oa, oc, ja, jc, qa, qc, rfl, hvb, hV⟩, hb2⟩
  have hx2 : w2.heap[w.heap.size]? = some (.cells #[.int .i64 (V : Nat), .slice a n cap] 24 (0, 0)) := by rw [hb2.block _ (by omega)]; exact unhide HX1
  have hs2 : w.heap.size + 1 ≤ w2.heap.size := by have := hb2.size; omega
  obtain ⟨b, hbe⟩ : ∃ b, w2.heap.size = b := ⟨_, rfl⟩
  have hK0 : Nk w2 (w2.alloc (.cells #[.slice none 0 0, .pointer (some ⟨vb, 0, none⟩), .slice none 0 0, .slice none 0 0] 45)) b V es vb 0 none 0 :=
    ⟨b_al _, by rw [← hbe]; exact (MapKept.heap_alloc w2 _).1, World.ownsRow_nil _ _ _ _⟩
  have HVW := hide hV
  have HK0 := hide hK0
  have HB2 := hide ((unhide HB1).trans (hb2.mono (unhide HB1).size))
  have HX2 := hide hx2
  have HBE := hide hbe
  have e0 : (w2.alloc (.cells #[.slice none 0 0, .pointer (some ⟨vb, 0, none⟩), .slice none 0 0, .slice none 0 0] 45)).cell? ⟨w.heap.size, 0, none⟩ = some (.int .i64 (V : Nat)) := by rw [cell_old _ _ _ (show w.heap.size < w2.heap.size by omega)]; simp [World.cell?, hx2]
  clear C2 hb2 hV hK0 hx2 g0 g1 HX1 HB1 hs1
  go_wp2_with fail
  try rw [hbe]
  clear hbe
  go_loopw [16] (fun i wr => ∃ (k : Nat) (ia : Option Addr) (ic : Nat), i = .int .i64 k ∧ k ≤ V ∧ Hid (Nk w2 wr b V es vb k ia ic)) (fun i wr => V - (intOf i).toNat)
  case atStart => exact ⟨0, none, 0, rfl, by omega, HK0⟩
  case round =>
    obtain ⟨k, ia, ic, rfl, hk, HK⟩ := hrel
    by_cases hlt : k < V
    · have hkV : (k : Int) < (V : Int) := by omega
      have hwk : IntKind.i64.wrap ((k : Int) + 1) = (k : Int) + 1 := by rw [IntKind.wrap_i64]; omega
      have hc := (unhide HK).cells
      go_wp2_with fail
      refine wp_region_held_drew (S := fun u => u.cell? ⟨b, 1, none⟩ = some (.pointer (some ⟨vb, 0, none⟩))) (by kernel_rfl) hc.1 (fun hS0 => ?_)
      have HK3 := hide ((unhide HK).below b_dr)
      clear hc HK
      generalize wr.drew = w3 at hS0 HK3 ⊢
      clear wr
      have hc3 := (unhide HK3).cells
      have C10 := hide (ins_any w3 vb V es _ _ _ _ _ _ _ _ _ (k : Nat) ((unhide HVW).below (unhide HK3).bel) (unhide HP))
      have y3 := hc3.2.1
      refine wpAnyH_take (i := 0) (v := ?_) rfl (by kernel_rfl) (by kernel_rfl) (by kernel_rfl) (fun _ _ _ h => h) (Or.inl ⟨by rfl, ?_⟩) hS0 ?_
      rotate_left
      · intro u hu; (try dsimp only at hu); go_simp; try with_reducible rfl
      simp only [Act.put, List.getElem_toArray, List.getElem_cons_zero, List.setIfInBounds_toArray, List.set_cons_zero, List.set_cons_succ]
      refine wpAnyH_take (i := 1) (v := ?_) rfl (by kernel_rfl) (by kernel_rfl) (by kernel_rfl) (fun _ _ _ h => h) (Or.inl ⟨by rfl, ?_⟩) hS0 ?_
      rotate_left
      · intro u hu; (try dsimp only at hu); go_simp; try with_reducible rfl
      simp only [Act.put, List.getElem_toArray, List.getElem_cons_zero, List.getElem_cons_succ, List.setIfInBounds_toArray, List.set_cons_zero, List.set_cons_succ]
      refine wpAnyH_take (i := 2) (v := ?_) rfl (by kernel_rfl) (by kernel_rfl) (by kernel_rfl) (fun _ _ _ h => h) (Or.inl ⟨by rfl, ?_⟩) hS0 ?_
      rotate_left
      · intro u hu; (try dsimp only at hu); go_simp; try with_reducible rfl
      simp only [Act.put, List.getElem_toArray, List.getElem_cons_zero, List.getElem_cons_succ, List.setIfInBounds_toArray, List.set_cons_zero, List.set_cons_succ]
      refine wpAnyH_take (i := 3) (v := ?_) rfl (by kernel_rfl) (by kernel_rfl) (by kernel_rfl) (fun _ _ _ h => h) (Or.inl ⟨by rfl, ?_⟩) hS0 ?_
      rotate_left
      · intro u hu; (try dsimp only at hu); go_simp; try with_reducible rfl
      simp only [Act.put, List.getElem_toArray, List.getElem_cons_zero, List.getElem_cons_succ, List.setIfInBounds_toArray, List.set_cons_zero, List.set_cons_succ]
      refine wpAnyH_take (i := 5) (v := ?_) rfl (by kernel_rfl) (by kernel_rfl) (by kernel_rfl) (fun _ _ _ h => h) (Or.inl ⟨by rfl, ?_⟩) hS0 ?_
      rotate_left
      · intro u hu; (try dsimp only at hu); go_simp; try with_reducible rfl
      simp only [Act.put, List.getElem_toArray, List.getElem_cons_zero, List.getElem_cons_succ, List.setIfInBounds_toArray, List.set_cons_zero, List.set_cons_succ]
      refine wpAnyH_take (i := 6) (v := ?_) rfl (by kernel_rfl) (by kernel_rfl) (by kernel_rfl) (fun _ _ _ h => h) (Or.inl ⟨by rfl, ?_⟩) hS0 ?_
      rotate_left
      · intro u hu; (try dsimp only at hu); go_simp; try with_reducible rfl
      simp only [Act.put, List.getElem_toArray, List.getElem_cons_zero, List.getElem_cons_succ, List.setIfInBounds_toArray, List.set_cons_zero, List.set_cons_succ]
      refine wpAnyH_take (i := 7) (v := ?_) rfl (by kernel_rfl) (by kernel_rfl) (by kernel_rfl) (fun _ _ _ h => h) (Or.inl ⟨by rfl, ?_⟩) hS0 ?_
      rotate_left
      · intro u hu; (try dsimp only at hu); go_simp; try with_reducible rfl
      simp only [Act.put, List.getElem_toArray, List.getElem_cons_zero, List.getElem_cons_succ, List.setIfInBounds_toArray, List.set_cons_zero, List.set_cons_succ]
      refine wpAnyH_take (i := 8) (v := ?_) rfl (by kernel_rfl) (by kernel_rfl) (by kernel_rfl) (fun _ _ _ h => h) (Or.inl ⟨by rfl, ?_⟩) hS0 ?_
      rotate_left
      · intro u hu; (try dsimp only at hu); go_simp; try with_reducible rfl
      simp only [Act.put, List.getElem_toArray, List.getElem_cons_zero, List.getElem_cons_succ, List.setIfInBounds_toArray, List.set_cons_zero, List.set_cons_succ]
      refine wpAnyH_take (i := 9) (v := ?_) rfl (by kernel_rfl) (by kernel_rfl) (by kernel_rfl) (fun _ _ _ h => h) (Or.inl ⟨by rfl, ?_⟩) hS0 ?_
      rotate_left
      · intro u hu; (try dsimp only at hu); go_simp; try with_reducible rfl
      simp only [Act.put, List.getElem_toArray, List.getElem_cons_zero, List.getElem_cons_succ, List.setIfInBounds_toArray, List.set_cons_zero, List.set_cons_succ]
      refine wpAnyH_ready (rs := [4, 10]) (by kernel_rfl) (by simp) ?_
      refine AllReadyH.cons rfl (fun K hK => ?_) (AllReadyH.cons rfl (fun K hK => ?_) AllReadyH.nil)
      · go_simp
        refine hK.out _ _ hS0 (fun hS9 => ?_)
        clear hK K
        refine wpAnyH_ready (rs := [10]) (by kernel_rfl) (by simp) ?_
        refine AllReadyH.cons rfl (fun K hK => ?_) AllReadyH.nil
        go_simp
        refine (unhide C10).mono ?_
        rintro e w4 ⟨he, hb4⟩
        obtain ⟨v4, rfl, ho4⟩ : ∃ v, e = .returned v ∧ w4.ownsRow w3.heap.size 3 1 v (Pl.ins es k).length (zcells (toIs (Pl.ins es k))) := by
          rcases he with ⟨y', v, hy', hlt', he, ho⟩ | ⟨hi, _⟩
          · obtain rfl : k = y' := by omega
            exact ⟨v, he, ho⟩
          · simp [inB] at hi; omega
        obtain ⟨a4, c4, rfl⟩ := own_shape ho4
        have hK4 := (unhide HK3).below hb4
        have hc4 := hK4.cells
        have hb45 := b_al (w := w4) (.cells #[.int .i64 ((Pl.ins es k).length : Nat)] 3)
        have hK5 := hK4.below hb45
        have hc5 := hK5.cells
        have hw5s : (w4.alloc (.cells #[.int .i64 ((Pl.ins es k).length : Nat)] 3)).heap.size = w4.heap.size + 1 := by simp
        obtain ⟨v6, w6, r6, own6, hg6, _, hat6⟩ := run_append_own_at (P := Try.prog) (w4.alloc (.cells #[.int .i64 ((Pl.ins es k).length : Nat)] 3)) (b + 1) 34 34 3 i0 (.int .i64 0) 1 8 Try.underlying34 (unhide HI) (unhide HZ0) (unhide HZ1) (unhide HZ2) rfl (by decide) (.slice ia k ic) k (zcells (toIs ((insL V es).take k))) hK5.own ⟨w4.heap.size, 0, none⟩ 1 1 [.int .i64 ((Pl.ins es k).length : Nat)] rfl (cell_one_new _ _ _) (one_int _) (by unfold maxLen; omega) (by omega) (by omega)
        rw [zcells_snoc, toIs_snoc, show (insL V es).take k ++ [(Pl.ins es k).length] = (insL V es).take (k + 1) by rw [List.take_add_one, List.getElem?_eq_getElem (by rw [insL_len]; exact hlt), ← insL_at V es hlt, List.getD_eq_getElem?_getD, List.getElem?_eq_getElem (by rw [insL_len]; exact hlt)]; rfl] at own6
        obtain ⟨va6, vc6, rfl⟩ := own_shape own6
        have hbb6 : w6.heap[b]? = some (.cells #[.slice none 0 0, .pointer (some ⟨vb, 0, none⟩), .slice ia k ic, .slice none 0 0] 45 (0, 0)) := by
          rw [hg6.block b (by omega) (fun e => by have := (hK5.own.lt b e.symm).1; omega)]; exact hK5.box
        have y6 : w6.cell? ⟨b, 2, none⟩ = some (.slice ia k ic) := by simp [World.cell?, hbb6]
        have f6 : w6.frozen? ⟨b, 2, none⟩ = false := by simp [World.frozen?, hbb6]
        have s6 : w6.cell? ⟨b, 1, none⟩ = some (.pointer (some ⟨vb, 0, none⟩)) := by simp [World.cell?, hbb6]
        have HK7 := hide (show Nk w2 (w6.setCell ⟨b, 2, none⟩ (.slice va6 (k + 1) vc6)) b V es vb (k + 1) va6 vc6 from
          ⟨((hK5.bel).grown hg6 (hK5.bel).size (fun g hg => by have := (hK5.own.lt g hg).1; rw [unhide HBE]; omega)).setCell (p := ⟨b, 2, none⟩) (by rw [unhide HBE]; exact Nat.le_refl _) _, box_set2 hbb6,
            owns_keep own6 (fun g hg => Below.heap_setCell _ _ _ _ (by have := (own6.lt g hg).1; show g ≠ b; omega))⟩)
        have s7 := (unhide HK7).cells.1
        have y4 := hc4.2.1
        have y5 := hc5.2.1
        have s4 := hc4.1
        have s5 := hc5.1
        clear hK4 hK5 hc4 hc5 hb45 hw5s own6 hg6 hat6 hbb6 ho4 he hb4
        obtain ⟨m4, hm4⟩ : ∃ m4, (Pl.ins es k).length = m4 := ⟨_, rfl⟩
        rw [hm4] at r6 y5 s5 ⊢
        clear hm4
        refine hK.out _ _ s4 (fun hS1 => ?_)
        clear hK K C10
        refine wpAnyH_take (i := 11) (v := ?_) rfl (by kernel_rfl) (by kernel_rfl) (by kernel_rfl) (fun _ _ _ h => h) (Or.inl ⟨by rfl, ?_⟩) hS1 ?_
        rotate_left
        · intro u hu; (try dsimp only at hu); go_simp; try with_reducible rfl
        simp only [Act.put, List.getElem_toArray, List.getElem_cons_zero, List.getElem_cons_succ, List.setIfInBounds_toArray, List.set_cons_zero, List.set_cons_succ]
        refine wpAnyH_ready (rs := [12]) (by kernel_rfl) (by simp) ?_
        refine AllReadyH.cons rfl (fun K hK => ?_) AllReadyH.nil
        go_simp
        refine hK.out _ _ s5 (fun hS2 => ?_)
        clear hK K
        refine wpAnyH_ready (rs := [13]) (by kernel_rfl) (by simp) ?_
        refine AllReadyH.cons rfl (fun K hK => ?_) AllReadyH.nil
        refine Eq.mpr (if_pos rfl) ?_
        change Oper.wp Try.prog { dst := some 32, op := Op.call { callee := .builtin .append, args := #[.tmp 23, .tmp 31], argTypes := #[34, 34] }, type := 34, pos := _, after := _, guard := _ } _ _ _ _
        unfold Oper.wp execOp
        simp only [resolve, invoke, builtin, Sem.run_bind, Sem.run_pure, Result.andThen_ok, List.map_toArray, List.map_cons, List.map_nil]
        change Oper.upon _ _ _ _ _ ((Sem.run Try.prog (Builtin.append_ #[34, 34] 34 #[.slice ia k ic, .slice (some ⟨w4.heap.size, 0, none⟩) 1 1]) _).andThen _)
        rw [r6]
        simp only [Result.andThen_ok, Oper.upon]
        refine hK.out _ _ s6 (fun hS5 => ?_)
        clear hK K r6
        refine wpAnyH_take (i := 14) (v := ?_) rfl (by kernel_rfl) (by kernel_rfl) (by kernel_rfl) (fun _ _ _ h => h) (Or.inl ⟨by rfl, ?_⟩) hS5 ?_
        rotate_left
        · intro u hu; (try dsimp only at hu); go_simp; try with_reducible rfl
        simp only [Act.put, List.getElem_toArray, List.getElem_cons_zero, List.getElem_cons_succ, List.setIfInBounds_toArray, List.set_cons_zero, List.set_cons_succ]
        refine wpAnyH_take (i := 15) (v := ?_) rfl (by kernel_rfl) (by kernel_rfl) (by kernel_rfl) (fun _ _ _ h => h) (Or.inl ⟨by rfl, ?_⟩) hS5 ?_
        rotate_left
        · intro u hu; (try dsimp only at hu); go_simp; try with_reducible rfl
        simp only [Act.put, List.getElem_toArray, List.getElem_cons_zero, List.getElem_cons_succ, List.setIfInBounds_toArray, List.set_cons_zero, List.set_cons_succ]
        refine wpAnyH_ready (rs := [16]) (by kernel_rfl) (by simp) ?_
        refine AllReadyH.cons rfl (fun K hK => ?_) AllReadyH.nil
        go_simp
        refine hK.out _ _ s7 (fun hS6 => ?_)
        clear hK K y3 y4 y5 y6 f6 s4 s5 s6 hc3
        refine wpAnyH_done (by kernel_rfl) ?_ _
        go_wp2_with fail
        go_roundw
        case rel => exact ⟨k + 1, va6, vc6, by go_num, by omega, HK7⟩
        case measure => simp [intOf]; omega
      · go_simp
        refine (unhide C10).mono ?_
        rintro e w4 ⟨he, hb4⟩
        obtain ⟨v4, rfl, ho4⟩ : ∃ v, e = .returned v ∧ w4.ownsRow w3.heap.size 3 1 v (Pl.ins es k).length (zcells (toIs (Pl.ins es k))) := by
          rcases he with ⟨y', v, hy', hlt', he, ho⟩ | ⟨hi, _⟩
          · obtain rfl : k = y' := by omega
            exact ⟨v, he, ho⟩
          · simp [inB] at hi; omega
        obtain ⟨a4, c4, rfl⟩ := own_shape ho4
        have hK4 := (unhide HK3).below hb4
        have hc4 := hK4.cells
        have hb45 := b_al (w := w4) (.cells #[.int .i64 ((Pl.ins es k).length : Nat)] 3)
        have hK5 := hK4.below hb45
        have hc5 := hK5.cells
        have hw5s : (w4.alloc (.cells #[.int .i64 ((Pl.ins es k).length : Nat)] 3)).heap.size = w4.heap.size + 1 := by simp
        obtain ⟨v6, w6, r6, own6, hg6, _, hat6⟩ := run_append_own_at (P := Try.prog) (w4.alloc (.cells #[.int .i64 ((Pl.ins es k).length : Nat)] 3)) (b + 1) 34 34 3 i0 (.int .i64 0) 1 8 Try.underlying34 (unhide HI) (unhide HZ0) (unhide HZ1) (unhide HZ2) rfl (by decide) (.slice ia k ic) k (zcells (toIs ((insL V es).take k))) hK5.own ⟨w4.heap.size, 0, none⟩ 1 1 [.int .i64 ((Pl.ins es k).length : Nat)] rfl (cell_one_new _ _ _) (one_int _) (by unfold maxLen; omega) (by omega) (by omega)
        rw [zcells_snoc, toIs_snoc, show (insL V es).take k ++ [(Pl.ins es k).length] = (insL V es).take (k + 1) by rw [List.take_add_one, List.getElem?_eq_getElem (by rw [insL_len]; exact hlt), ← insL_at V es hlt, List.getD_eq_getElem?_getD, List.getElem?_eq_getElem (by rw [insL_len]; exact hlt)]; rfl] at own6
        obtain ⟨va6, vc6, rfl⟩ := own_shape own6
        have hbb6 : w6.heap[b]? = some (.cells #[.slice none 0 0, .pointer (some ⟨vb, 0, none⟩), .slice ia k ic, .slice none 0 0] 45 (0, 0)) := by
          rw [hg6.block b (by omega) (fun e => by have := (hK5.own.lt b e.symm).1; omega)]; exact hK5.box
        have y6 : w6.cell? ⟨b, 2, none⟩ = some (.slice ia k ic) := by simp [World.cell?, hbb6]
        have f6 : w6.frozen? ⟨b, 2, none⟩ = false := by simp [World.frozen?, hbb6]
        have s6 : w6.cell? ⟨b, 1, none⟩ = some (.pointer (some ⟨vb, 0, none⟩)) := by simp [World.cell?, hbb6]
        have HK7 := hide (show Nk w2 (w6.setCell ⟨b, 2, none⟩ (.slice va6 (k + 1) vc6)) b V es vb (k + 1) va6 vc6 from
          ⟨((hK5.bel).grown hg6 (hK5.bel).size (fun g hg => by have := (hK5.own.lt g hg).1; rw [unhide HBE]; omega)).setCell (p := ⟨b, 2, none⟩) (by rw [unhide HBE]; exact Nat.le_refl _) _, box_set2 hbb6,
            owns_keep own6 (fun g hg => Below.heap_setCell _ _ _ _ (by have := (own6.lt g hg).1; show g ≠ b; omega))⟩)
        have s7 := (unhide HK7).cells.1
        have y4 := hc4.2.1
        have y5 := hc5.2.1
        have s4 := hc4.1
        have s5 := hc5.1
        clear hK4 hK5 hc4 hc5 hb45 hw5s own6 hg6 hat6 hbb6 ho4 he hb4
        obtain ⟨m4, hm4⟩ : ∃ m4, (Pl.ins es k).length = m4 := ⟨_, rfl⟩
        rw [hm4] at r6 y5 s5 ⊢
        clear hm4
        refine hK.out _ _ s4 (fun hS1 => ?_)
        clear hK K C10
        refine wpAnyH_take (i := 11) (v := ?_) rfl (by kernel_rfl) (by kernel_rfl) (by kernel_rfl) (fun _ _ _ h => h) (Or.inl ⟨by rfl, ?_⟩) hS1 ?_
        rotate_left
        · intro u hu; (try dsimp only at hu); go_simp; try with_reducible rfl
        simp only [Act.put, List.getElem_toArray, List.getElem_cons_zero, List.getElem_cons_succ, List.setIfInBounds_toArray, List.set_cons_zero, List.set_cons_succ]
        refine wpAnyH_ready (rs := [4, 12]) (by kernel_rfl) (by simp) ?_
        refine AllReadyH.cons rfl (fun K hK => ?_) (AllReadyH.cons rfl (fun K hK => ?_) AllReadyH.nil)
        · go_simp
          refine hK.out _ _ s4 (fun hS2 => ?_)
          clear hK K
          refine wpAnyH_ready (rs := [12]) (by kernel_rfl) (by simp) ?_
          refine AllReadyH.cons rfl (fun K hK => ?_) AllReadyH.nil
          go_simp
          refine hK.out _ _ s5 (fun hS3 => ?_)
          clear hK K
          refine wpAnyH_ready (rs := [13]) (by kernel_rfl) (by simp) ?_
          refine AllReadyH.cons rfl (fun K hK => ?_) AllReadyH.nil
          refine Eq.mpr (if_pos rfl) ?_
          change Oper.wp Try.prog { dst := some 32, op := Op.call { callee := .builtin .append, args := #[.tmp 23, .tmp 31], argTypes := #[34, 34] }, type := 34, pos := _, after := _, guard := _ } _ _ _ _
          unfold Oper.wp execOp
          simp only [resolve, invoke, builtin, Sem.run_bind, Sem.run_pure, Result.andThen_ok, List.map_toArray, List.map_cons, List.map_nil]
          change Oper.upon _ _ _ _ _ ((Sem.run Try.prog (Builtin.append_ #[34, 34] 34 #[.slice ia k ic, .slice (some ⟨w4.heap.size, 0, none⟩) 1 1]) _).andThen _)
          rw [r6]
          simp only [Result.andThen_ok, Oper.upon]
          refine hK.out _ _ s6 (fun hS5 => ?_)
          clear hK K r6
          refine wpAnyH_take (i := 14) (v := ?_) rfl (by kernel_rfl) (by kernel_rfl) (by kernel_rfl) (fun _ _ _ h => h) (Or.inl ⟨by rfl, ?_⟩) hS5 ?_
          rotate_left
          · intro u hu; (try dsimp only at hu); go_simp; try with_reducible rfl
          simp only [Act.put, List.getElem_toArray, List.getElem_cons_zero, List.getElem_cons_succ, List.setIfInBounds_toArray, List.set_cons_zero, List.set_cons_succ]
          refine wpAnyH_take (i := 15) (v := ?_) rfl (by kernel_rfl) (by kernel_rfl) (by kernel_rfl) (fun _ _ _ h => h) (Or.inl ⟨by rfl, ?_⟩) hS5 ?_
          rotate_left
          · intro u hu; (try dsimp only at hu); go_simp; try with_reducible rfl
          simp only [Act.put, List.getElem_toArray, List.getElem_cons_zero, List.getElem_cons_succ, List.setIfInBounds_toArray, List.set_cons_zero, List.set_cons_succ]
          refine wpAnyH_ready (rs := [16]) (by kernel_rfl) (by simp) ?_
          refine AllReadyH.cons rfl (fun K hK => ?_) AllReadyH.nil
          go_simp
          refine hK.out _ _ s7 (fun hS6 => ?_)
          clear hK K y3 y4 y5 y6 f6 s4 s5 s6 hc3
          refine wpAnyH_done (by kernel_rfl) ?_ _
          go_wp2_with fail
          go_roundw
          case rel => exact ⟨k + 1, va6, vc6, by go_num, by omega, HK7⟩
          case measure => simp [intOf]; omega
        · go_simp
          refine hK.out _ _ s5 (fun hS2 => ?_)
          clear hK K
          refine wpAnyH_ready (rs := [4]) (by kernel_rfl) (by simp) ?_
          refine AllReadyH.cons rfl (fun K hK => ?_) AllReadyH.nil
          go_simp
          refine hK.out _ _ s5 (fun hS3 => ?_)
          clear hK K
          refine wpAnyH_ready (rs := [13]) (by kernel_rfl) (by simp) ?_
          refine AllReadyH.cons rfl (fun K hK => ?_) AllReadyH.nil
          refine Eq.mpr (if_pos rfl) ?_
          change Oper.wp Try.prog { dst := some 32, op := Op.call { callee := .builtin .append, args := #[.tmp 23, .tmp 31], argTypes := #[34, 34] }, type := 34, pos := _, after := _, guard := _ } _ _ _ _
          unfold Oper.wp execOp
          simp only [resolve, invoke, builtin, Sem.run_bind, Sem.run_pure, Result.andThen_ok, List.map_toArray, List.map_cons, List.map_nil]
          change Oper.upon _ _ _ _ _ ((Sem.run Try.prog (Builtin.append_ #[34, 34] 34 #[.slice ia k ic, .slice (some ⟨w4.heap.size, 0, none⟩) 1 1]) _).andThen _)
          rw [r6]
          simp only [Result.andThen_ok, Oper.upon]
          refine hK.out _ _ s6 (fun hS5 => ?_)
          clear hK K r6
          refine wpAnyH_take (i := 14) (v := ?_) rfl (by kernel_rfl) (by kernel_rfl) (by kernel_rfl) (fun _ _ _ h => h) (Or.inl ⟨by rfl, ?_⟩) hS5 ?_
          rotate_left
          · intro u hu; (try dsimp only at hu); go_simp; try with_reducible rfl
          simp only [Act.put, List.getElem_toArray, List.getElem_cons_zero, List.getElem_cons_succ, List.setIfInBounds_toArray, List.set_cons_zero, List.set_cons_succ]
          refine wpAnyH_take (i := 15) (v := ?_) rfl (by kernel_rfl) (by kernel_rfl) (by kernel_rfl) (fun _ _ _ h => h) (Or.inl ⟨by rfl, ?_⟩) hS5 ?_
          rotate_left
          · intro u hu; (try dsimp only at hu); go_simp; try with_reducible rfl
          simp only [Act.put, List.getElem_toArray, List.getElem_cons_zero, List.getElem_cons_succ, List.setIfInBounds_toArray, List.set_cons_zero, List.set_cons_succ]
          refine wpAnyH_ready (rs := [16]) (by kernel_rfl) (by simp) ?_
          refine AllReadyH.cons rfl (fun K hK => ?_) AllReadyH.nil
          go_simp
          refine hK.out _ _ s7 (fun hS6 => ?_)
          clear hK K y3 y4 y5 y6 f6 s4 s5 s6 hc3
          refine wpAnyH_done (by kernel_rfl) ?_ _
          go_wp2_with fail
          go_roundw
          case rel => exact ⟨k + 1, va6, vc6, by go_num, by omega, HK7⟩
          case measure => simp [intOf]; omega
    · obtain rfl : k = V := by omega
      have HKE := HK
      go_wp2_with fail
      go_ret2
      have hK := unhide HKE
      have hc := hK.cells
      have hv1 := (unhide HP).v1
      have hown := hK.own
      rw [List.take_of_length_le (show (insL k es).length ≤ k by rw [insL_len]; exact Nat.le_refl _)] at hown
      obtain ⟨ia', ic', hv', _, hN⟩ := ns_of_owns hown (by omega)
      cases hv'
      refine ⟨⟨b, ⟨vb, ia, ic, ea, ec, oa, oc, ja, jc, qa, qc, Pl.order k es⟩, rfl, by have := unhide HBE; omega, ⟨?_, fun _ => ⟨rfl, rfl⟩, Nat.le_refl _, (fun g off he => by cases he), (fun g off he => by cases he), Cr.nil _ _ _, World.ownsRow_nil _ _ _ _, by simp [Value.ownBlock], ⟨Nat.zero_le _, Nat.zero_le _⟩⟩, Nat.le_refl _, fun w' hN' hk' => ⟨?_, ?_⟩⟩, (unhide HB2).trans (hK.bel.mono (unhide HB2).size)⟩
      · exact hK.box
      · have hbel : ∀ i, i < w2.heap.size → w'.heap[i]? = w2.heap[i]? := fun i hi => by
          rw [hk' i (by have := hK.bel.size; omega) (by have := unhide HBE; omega)]; exact hK.bel.block i hi
        exact vw_keep (unhide HVW) hbel (by have := hK.bel.size; omega)
      · obtain ⟨o1, o2, o3⟩ := hN
        refine ⟨o1, o2, fun q hq => ?_⟩
        obtain ⟨g, off, ha, hg, d0⟩ := o3 q hq
        have hgb : b + 1 ≤ g := by
          rcases hown.2 with ⟨hv, h0⟩ | ⟨g', cap', cur, hv, hb', _⟩
          · omega
          · rw [ha] at hv; simp only [Value.slice.injEq, Option.some.injEq, Addr.mk.injEq] at hv; omega
        exact ⟨g, off, ha, by omega, by rw [World.cell?_of_block (w := _) (hk' g hg (by omega))]; exact d0⟩
end Go.Proofs.Ytdkchihomllokaa


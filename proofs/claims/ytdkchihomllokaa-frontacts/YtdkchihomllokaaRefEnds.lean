/-
  The contracts of the document's Ends and Bare. Conditions: the graph lies in memory as told.
-/
import Derived.Test.YtdkchihomllokaaWo
import Derived.Test.YtdkchihomllokaaBx
namespace Go.Proofs.Ytdkchihomllokaa
open Go.RowKit
set_option linter.unusedVariables false
set_option maxRecDepth 20000

/-- is x the end of an edge: its tail, or its head -/
def endP (fr : Bool) (x : Int) (e : Nat × Nat) : Bool := if fr then ((e.1 : Int) == x) else ((e.2 : Int) == x)
def ends (es : List (Nat × Nat)) (fr : Bool) (x : Int) (k : Nat) : List Nat := Pl.sel es (endP fr x) k
theorem ends_out (es : List (Nat × Nat)) (x : Nat) : ends es true x es.length = Pl.outs es x := by
  unfold ends Pl.outs
  congr 1
  funext e
  rw [Bool.eq_iff_iff]
  simp [endP]
  omega
theorem ends_in (es : List (Nat × Nat)) (x : Nat) : ends es false x es.length = Pl.ins es x := by
  unfold ends Pl.ins
  congr 1
  funext e
  rw [Bool.eq_iff_iff]
  simp [endP]
  omega

/-- what holds at a round's head: a row is gathered beside the box -/
structure ERel (w wr : World) (x y : Value) (v : Value) (l : List Nat) : Prop where
  bx : Bg w wr x y
  own : wr.ownsRow (w.heap.size + 1) 3 1 v l.length (zcells (toIs l))
theorem ERel.start (w : World) (x y : Value) : ERel w ((w.alloc (.cells #[x, y] 24)).alloc (.cells #[] 3)) x y (.slice (some ⟨w.heap.size + 1, 0, none⟩) 0 0) [] := by
  refine ⟨(Bg.start w x y).step ((Below.refl _ _).alloc (Nat.le_refl _) _), ?_⟩
  have := owns_lit_empty (w.alloc (.cells #[x, y] 24)) 3 1 (w.heap.size + 1) (by simp)
  simpa [zcells, toIs] using this
theorem ERel.step {w wr w4 : World} {x y v v2 : Value} {l : List Nat} {k : Nat} (h : ERel w wr x y v l) (hg : (wr.alloc (.cells #[.int .i64 k] 3)).grownBy w4 v.ownBlock)
    (ho : w4.ownsRow (w.heap.size + 1) 3 1 v2 (l.length + 1) (zcells (toIs l) ++ [.int .i64 k])) : ERel w w4 x y v2 (l ++ [k]) := by
  have hl := h.bx.lt
  have hlo : ∀ g, v.ownBlock = some g → w.heap.size + 1 ≤ g := fun g hv => (h.own.lt g hv).1
  refine ⟨⟨?_, ?_⟩, ?_⟩
  · exact (h.bx.bel.alloc h.bx.bel.size _).grown hg (by have := h.bx.bel.size; simp; omega) fun g hv => by have := hlo g hv; omega
  · rw [hg.block _ (by simp; omega) (fun e => by have := hlo _ e.symm; omega), Below.heap_alloc _ _ _ hl]
    exact h.bx.gb
  · rw [zcells_snoc, toIs_snoc] at ho
    rw [List.length_append]
    exact ho
theorem ERel.more {w wr w' : World} {x y v : Value} {l : List Nat} (h : ERel w wr x y v l) (hb : Below wr.heap.size wr w') : ERel w w' x y v l :=
  ⟨h.bx.step hb, owns_keep h.own fun g hg => hb.block g (h.own.lt g hg).2⟩

set_option maxHeartbeats 4000000 in
theorem refEnds_any (w : World) (V : Nat) (a : Option Addr) (cap : Nat) (es : List (Nat × Nat)) {B : Nat} (h : Es B w a es.length (toI es)) (hn : es.length ≤ 128) (x : Int) (fr : Bool) :
    Calls Try.prog 24 #[.agg #[.int .i64 V, .slice a es.length cap], .int .i64 x, .bool fr] w fun e w' => (∃ v, e = .returned v ∧ w'.ownsRow w.heap.size 3 1 v (ends es fr x es.length).length (zcells (toIs (ends es fr x es.length)))) ∧ Below w.heap.size w w' := by
  have HE := hide h
  obtain ⟨n, hnn⟩ : ∃ n, es.length = n := ⟨_, rfl⟩
  have HN := hide hnn
  rw [hnn] at hn ⊢
  obtain ⟨i0, hi0, hz0, hz1, hz2⟩ := info_parts info3
  have HI := hide hi0
  have HZ0 := hide hz0
  have HZ1 := hide hz1
  have HZ2 := hide hz2
  have HS := hide (ERel.start w (.int .i64 V) (.slice a n cap))
  clear h hnn hi0 hz0 hz1 hz2
  go_enter Try.func24, Try.ntmps24
  go_wp2_with fail
  go_loopw [7, 8] (fun v i wr => ∃ k : Nat, i = .int .i64 k ∧ k ≤ n ∧ Hid (ERel w wr (.int .i64 V) (.slice a n cap) v (ends es fr x k))) (fun v i wr => n - (intOf i).toNat)
  case atStart => exact ⟨0, rfl, by omega, HS⟩
  case round =>
    obtain ⟨k, rfl, hk, HR⟩ := hrel
    have hsl : (ends es fr x k).length ≤ k := Pl.sel_len _ _ _
    obtain ⟨g0, g1⟩ := (unhide HR).bx.cells
    have hsz := (unhide HR).bx.lt
    by_cases hlt : k < n
    · obtain ⟨g, off, ha, hg, e0, e1⟩ := es_at (unhide HE) (i := k) (by rw [unhide HN]; exact hlt)
      obtain ⟨p, q, hpq⟩ : ∃ p q, Pl.at' es k = (p, q) := ⟨_, _, rfl⟩
      rw [hpq] at e0 e1
      simp only at e0 e1
      subst ha
      have hbr := (unhide HR).bx.bel
      have d0 : wr.cell? ⟨g, off + k * 2, none⟩ = some (.int .i64 (p : Nat)) := by rw [hbr.cell (p := ⟨g, off + k * 2, none⟩) hg]; exact e0
      have d1 : wr.cell? ⟨g, off + k * 2 + 1, none⟩ = some (.int .i64 (q : Nat)) := by rw [hbr.cell (p := ⟨g, off + k * 2 + 1, none⟩) hg]; exact e1
      have hss : ends es fr x (k + 1) = ends es fr x k ++ if endP fr x (p, q) then [k] else [] := by unfold ends; rw [Pl.sel_succ, hpq]
      have HSS := hide hss
      have hlt2 : (k : Int) < (n : Int) := by omega
      have hgs : g < wr.heap.size := by have := hbr.size; omega
      obtain ⟨z, hz⟩ : ∃ z : Int, (if fr then ((p : Nat) : Int) else ((q : Nat) : Int)) = z := ⟨_, rfl⟩
      have hend : endP fr x (p, q) = (z == x) := by
        unfold endP
        cases fr
        · simp only [Bool.false_eq_true, if_false] at hz ⊢
          rw [← hz]
        · simp only [if_true] at hz ⊢
          rw [← hz]
      have HEND := hide hend
      have HOWN := hide (unhide HR).own
      obtain ⟨m, hm⟩ : ∃ m, (ends es fr x k).length = m := ⟨_, rfl⟩
      have HM := hide hm
      rw [hm] at hsl
      have hownm := (unhide HR).own
      rw [hm] at hownm
      have HOM := hide hownm
      clear hss hpq hbr e0 e1 hend hm hownm
      cases hb : (z == x) with
      | true =>
        have HB := hide hb
        cases fr with
        | true =>
          simp only [if_true] at hz
          subst hz
          go_wp2_with (at_builtin; refine wpList_append_own _ rfl (.tmp 42) (.tmp 44) 34 rfl (w.heap.size + 1) 3 i0 (.int .i64 0) 1 8 Try.underlying34 (unhide HI) (unhide HZ0) (unhide HZ1) (unhide HZ2) rfl (by decide) u7 m (zcells (toIs (ends es true x k))) rfl ((unhide HOM).alloc _) ⟨wr.heap.size, 0, none⟩ 1 1 [.int .i64 k] rfl rfl (cell_one_new _ _ _) (one_int k) ?a3 ?a4 ?a5 ?_)
          case a3 => unfold maxLen; omega
          case a4 => omega
          case a5 => simp; omega
          intro v2 w4 hown4 hg4 _
          have HR4 := hide ((unhide HR).step hg4 (by rw [unhide HM]; exact hown4))
          clear hown4 hg4
          go_wp2_with fail
          go_roundw
          case rel =>
            refine ⟨k + 1, by go_num, by omega, ?_⟩
            rw [unhide HSS, unhide HEND, if_pos (unhide HB)]
            exact HR4
          case measure => simp [intOf]; omega
        | false =>
          simp only [Bool.false_eq_true, if_false] at hz
          subst hz
          go_wp2_with (at_builtin; refine wpList_append_own _ rfl (.tmp 42) (.tmp 44) 34 rfl (w.heap.size + 1) 3 i0 (.int .i64 0) 1 8 Try.underlying34 (unhide HI) (unhide HZ0) (unhide HZ1) (unhide HZ2) rfl (by decide) u7 m (zcells (toIs (ends es false x k))) rfl ((unhide HOM).alloc _) ⟨wr.heap.size, 0, none⟩ 1 1 [.int .i64 k] rfl rfl (cell_one_new _ _ _) (one_int k) ?b3 ?b4 ?b5 ?_)
          case b3 => unfold maxLen; omega
          case b4 => omega
          case b5 => simp; omega
          intro v2 w4 hown4 hg4 _
          have HR4 := hide ((unhide HR).step hg4 (by rw [unhide HM]; exact hown4))
          clear hown4 hg4
          go_wp2_with fail
          go_roundw
          case rel =>
            refine ⟨k + 1, by go_num, by omega, ?_⟩
            rw [unhide HSS, unhide HEND, if_pos (unhide HB)]
            exact HR4
          case measure => simp [intOf]; omega
      | false =>
        have HB := hide hb
        cases fr with
        | true =>
          simp only [if_true] at hz
          subst hz
          go_wp2_with fail
          go_roundw
          case rel =>
            refine ⟨k + 1, by go_num, by omega, ?_⟩
            rw [unhide HSS, unhide HEND, unhide HB]
            simp only [Bool.false_eq_true, if_false, List.append_nil]
            exact HR
          case measure => simp [intOf]; omega
        | false =>
          simp only [Bool.false_eq_true, if_false] at hz
          subst hz
          go_wp2_with fail
          go_roundw
          case rel =>
            refine ⟨k + 1, by go_num, by omega, ?_⟩
            rw [unhide HSS, unhide HEND, unhide HB]
            simp only [Bool.false_eq_true, if_false, List.append_nil]
            exact HR
          case measure => simp [intOf]; omega
    · obtain rfl : k = n := by omega
      go_wp2_with fail
      go_ret
      exact ⟨⟨_, rfl, owns_mono (unhide HR).own (by omega)⟩, (unhide HR).bx.bel⟩

/-- the edges at a vertex by which it is no bare one -/
def atV (es : List (Nat × Nat)) (to : Bool) : Nat → List Nat := if to then Pl.ins es else Pl.outs es

set_option maxHeartbeats 4000000 in
theorem refBare_any (w : World) (V : Nat) (a : Option Addr) (cap : Nat) (es : List (Nat × Nat)) {B : Nat} (h : Es B w a es.length (toI es)) (hp : Plain V es) (to : Bool) :
    Calls Try.prog 55 #[.agg #[.int .i64 V, .slice a es.length cap], .bool to] w fun e w' => (∃ v, e = .returned v ∧ w'.ownsRow w.heap.size 3 1 v (bare (atV es to) V).length (zcells (toIs (bare (atV es to) V)))) ∧ Below w.heap.size w w' := by
  have hv64 := hp.v64
  have hn128 := hp.n128
  have HE := hide h
  have HS := hide (ERel.start w (.int .i64 V) (.slice a es.length cap))
  obtain ⟨i0, hi0, hz0, hz1, hz2⟩ := info_parts info3
  have HI := hide hi0
  have HZ0 := hide hz0
  have HZ1 := hide hz1
  have HZ2 := hide hz2
  clear h hp hi0 hz0 hz1 hz2
  go_enter Try.func55, Try.ntmps55
  go_wp2_with fail
  go_loopw [5, 6] (fun v i wr => ∃ k : Nat, i = .int .i64 k ∧ k ≤ V ∧ Hid (ERel w wr (.int .i64 V) (.slice a es.length cap) v (bare (atV es to) k))) (fun v i wr => V - (intOf i).toNat)
  case atStart => exact ⟨0, rfl, by omega, HS⟩
  case round =>
    obtain ⟨k, rfl, hk, HR⟩ := hrel
    have hsl := bare_len (atV es to) k
    obtain ⟨g0, g1⟩ := (unhide HR).bx.cells
    have hsz := (unhide HR).bx.lt
    by_cases hlt : k < V
    · have hlt2 : (k : Int) < (V : Int) := by omega
      have hcall := refEnds_any wr V a cap es (B := B) ((unhide HE).below (unhide HR).bx.bel) hn128 k (!to)
      have hea : ends es (!to) k es.length = atV es to k := by
        cases to
        · exact ends_out es k
        · exact ends_in es k
      rw [hea] at hcall
      have HCALL := hide hcall
      have hbs := bare_succ (atV es to) k
      obtain ⟨m, hm⟩ : ∃ m, (atV es to k).length = m := ⟨_, rfl⟩
      have hml : m ≤ 128 := by rw [← hm, ← hea]; exact Nat.le_trans (Pl.sel_len _ _ _) hn128
      have HM := hide hm
      obtain ⟨q, hq⟩ : ∃ q, (bare (atV es to) k).length = q := ⟨_, rfl⟩
      have HQ := hide hq
      rw [hq] at hsl
      clear hcall hea hq
      by_cases hm0 : m = 0
      · subst hm0
        rw [if_pos (by simp [List.length_eq_zero_iff.1 hm])] at hbs
        have HBS := hide hbs
        clear hbs hm
        go_wp2_with fail
        refine (unhide HCALL).mono ?_
        rintro e w2 ⟨⟨v, rfl, hov⟩, hb2⟩
        rw [unhide HM] at hov
        obtain ⟨va, vc, hv, _, _⟩ := ns_of_owns hov (by omega)
        subst hv
        have HR2 := hide ((unhide HR).more hb2)
        have hownq := (unhide HR2).own
        rw [unhide HQ] at hownq
        have HOQ := hide hownq
        have hsz2 := (unhide HR2).bx.lt
        clear hov hb2 hownq
        go_wp2_with (at_builtin; refine wpList_append_own _ rfl (.tmp 21) (.tmp 23) 34 rfl (w.heap.size + 1) 3 i0 (.int .i64 0) 1 8 Try.underlying34 (unhide HI) (unhide HZ0) (unhide HZ1) (unhide HZ2) rfl (by decide) u5 q (zcells (toIs (bare (atV es to) k))) rfl ((unhide HOQ).alloc _) ⟨w2.heap.size, 0, none⟩ 1 1 [.int .i64 k] rfl rfl (cell_one_new _ _ _) (one_int k) ?a3 ?a4 ?a5 ?_)
        case a3 => unfold maxLen; omega
        case a4 => omega
        case a5 => simp; omega
        intro v2 w4 hown4 hg4 _
        have HR4 := hide ((unhide HR2).step hg4 (by rw [unhide HQ]; exact hown4))
        clear hown4 hg4
        go_wp2_with fail
        go_roundw
        case rel => exact ⟨k + 1, by go_num, by omega, by rw [unhide HBS]; exact HR4⟩
        case measure => simp [intOf]; omega
      · rw [if_neg (by simp; intro he; rw [he] at hm; simp at hm; omega), List.append_nil] at hbs
        have HBS := hide hbs
        have hm1 : ((m : Int) == 0) = false := by rw [beq_eq_false_iff_ne]; omega
        clear hbs hm
        go_wp2_with fail
        refine (unhide HCALL).mono ?_
        rintro e w2 ⟨⟨v, rfl, hov⟩, hb2⟩
        rw [unhide HM] at hov
        obtain ⟨va, vc, hv, _, _⟩ := ns_of_owns hov (by omega)
        subst hv
        have HR2 := hide ((unhide HR).more hb2)
        clear hov hb2
        go_wp2_with fail
        go_roundw
        case rel => exact ⟨k + 1, by go_num, by omega, by rw [unhide HBS]; exact HR2⟩
        case measure => simp [intOf]; omega
    · obtain rfl : k = V := by omega
      go_wp2_with fail
      go_ret
      exact ⟨⟨_, rfl, owns_mono (unhide HR).own (by omega)⟩, (unhide HR).bx.bel⟩
end Go.Proofs.Ytdkchihomllokaa

/-
  The contract of the document's own Read. Conditions: the bytes that are handed in lie in memory as told.
-/
import Derived.Test.YtdcfhdpbpfgohaaRead
import Derived.Test.YtdcfhdpbpfgohaaSameInts
import Derived.Test.YtdcfhdpbpfgohaaRefPlain
import Derived.Deep.CutBlock
import Derived.Deep.CutRange
import Derived.Deep.RegionHeld3
import Derived.Deep.RegionLaw
import Derived.Deep.AppendLies
namespace Go.Proofs.Ytdcfhdpbpfgohaa
open Go.RowKit
set_option linter.unusedVariables false

/-- what holds at a round's head of the first loop -/
structure RRel (w wr : World) (v : Value) (nums : List Nat) : Prop where
  bel : Below w.heap.size w wr
  sz : w.heap.size < wr.heap.size
  rb : wr.heap[w.heap.size]? = some (.cells #[.int .i64 0, .slice none 0 0] 26)
  own : wr.ownsRow (w.heap.size + 1) 3 1 v nums.length (icells nums)
theorem RRel.cells {w wr : World} {v : Value} {nums : List Nat} (h : RRel w wr v nums) :
    wr.cell? ⟨w.heap.size, 0, none⟩ = some (.int .i64 0) ∧ wr.cell? ⟨w.heap.size, 1, none⟩ = some (.slice none 0 0) ∧ wr.frozen? ⟨w.heap.size, 0, none⟩ = false ∧ wr.frozen? ⟨w.heap.size, 1, none⟩ = false := by
  have h1 := h.rb
  simp [World.cell?, World.frozen?, h1]
theorem RRel.start (w : World) : RRel w ((w.alloc (.cells #[.int .i64 0, .slice none 0 0] 26)).alloc (.cells #[] 3)) (.slice (some ⟨w.heap.size + 1, 0, none⟩) 0 0) [] := by
  refine ⟨((Below.refl _ _).alloc (Nat.le_refl _) _).alloc (by simp) _, by simp; omega, ?_, ?_⟩
  · rw [Below.heap_alloc _ _ _ (by simp)]
    exact (MapKept.heap_alloc w _).1
  · have := World.ownsRow_lit (base := w.heap.size + 1) (e := 3) (size := 1) (w.alloc (.cells #[.int .i64 0, .slice none 0 0] 26)) #[] 0 (by simp) (by unfold maxLen; omega) (by simp)
    rw [World.size_alloc] at this
    exact this
theorem RRel.step {w wr w4 : World} {v v2 : Value} {nums : List Nat} {x : Nat} (h : RRel w wr v nums)
    (hg : (wr.alloc (.cells #[.int .i64 x] 3)).grownBy w4 v.ownBlock) (ho : w4.ownsRow (w.heap.size + 1) 3 1 v2 (nums.length + 1) (icells nums ++ [.int .i64 x])) :
    RRel w w4 v2 (nums ++ [x]) := by
  have hsz := h.sz
  have hlt : ∀ g, v.ownBlock = some g → w.heap.size + 1 ≤ g := fun g hv => (h.own.lt g hv).1
  have hblk : ∀ i, i < w.heap.size + 1 → w4.heap[i]? = wr.heap[i]? := by
    intro i hi
    rw [hg.block i (by simp; omega) (fun he => by have := hlt i he.symm; omega)]
    exact Below.heap_alloc _ _ _ (by omega)
  have hs2 : wr.heap.size + 1 ≤ w4.heap.size := by have := hg.size; simpa using this
  exact ⟨h.bel.trans ⟨hg.os, hg.tape, hg.output, by omega, fun i hi => hblk i (by omega)⟩, by omega, by rw [hblk _ (by omega)]; exact h.rb, by simpa [icells] using ho⟩
/-- a result that tells a fault: nothing older has turned -/
theorem RRel.done {w wr : World} {v : Value} {nums : List Nat} (h : RRel w wr v nums) (x y : Value) :
    Below w.heap.size w ((wr.setCell ⟨w.heap.size, 0, none⟩ x).setCell ⟨w.heap.size, 1, none⟩ y) :=
  (h.bel.setCell (p := ⟨w.heap.size, 0, none⟩) (Nat.le_refl _) _).setCell (p := ⟨w.heap.size, 1, none⟩) (Nat.le_refl _) _

set_option maxRecDepth 100000 in
set_option maxHeartbeats 4000000 in
theorem refread_large (w : World) (a : Option Addr) (n cap : Nat) (hn : 4096 < n) :
    Calls Try.prog 8 #[.slice a n cap] w fun e w' => e = .returned (.tuple #[.agg #[.int .i64 0, .slice none 0 0], .int .i64 10, .int .i64 4096]) ∧ Below w.heap.size w w' := by
  go_enter Try.func8, Try.ntmps8
  go_wp2_with fail
  refine bodyPost_ret (v := .tuple #[.agg #[.int .i64 0, .slice none 0 0], .int .i64 10, .int .i64 4096]) (by simp [results, Try.results8, go_sem]) rfl ⟨rfl, ?_⟩
  exact (Below.refl _ _).alloc (Nat.le_refl _) _

/-- what the document's Read answers -/
def RPost (l : List UInt8) (w : World) (e : Ending) (w' : World) : Prop :=
  ∃ (V : Nat) (es : List (Nat × Nat)) (code p : Nat) (av : Option Addr) (cv : Nat), e = .returned (.tuple #[.agg #[.int .i64 V, .slice av es.length cv], .int .i64 code, .int .i64 p]) ∧ Es (w.heap.size + 1) w' av es.length (toI es) ∧ Below w.heap.size w w' ∧ Pl.readR l = (V, es, code, p)

theorem es_nil (B : Nat) (w : World) (a : Option Addr) : Es B w a 0 (toI []) := ⟨rfl, by omega, fun k hk => by omega⟩
theorem rpost_fault {l : List UInt8} {w w' : World} {code p : Nat} (hb : Below w.heap.size w w') (hr : Pl.readR l = (0, [], code, p)) :
    RPost l w (.returned (.tuple #[.agg #[.int .i64 0, .slice none 0 0], .int .i64 code, .int .i64 p])) w' :=
  ⟨0, [], code, p, none, 0, rfl, es_nil _ _ _, hb, hr⟩

theorem syn_at {l : List UInt8} {i : Nat} (hl : l.length ≤ 4096) (hx : Pl.run l 0 [] false 0 0 = .inl i) : Pl.readR l = (0, [], 11, i) := Pl.syn_of hl (by rw [hx]; rfl)

/-- one step of the document's reading -/
theorem run_at {l : List UInt8} {i : Nat} (hi : i < l.length) (nums : List Nat) (op : Bool) (m d : Nat) : Pl.run (l.drop i) i nums op m d =
    if Pl.full nums = true ∧ op = false then .inl i
    else if Pl.isD (l.getD i 0) then
      if op = true ∧ Pl.over m d (l.getD i 0) = true then .inl i
      else Pl.run (l.drop (i + 1)) (i + 1) nums true (if op then 10 * m + Pl.dv (l.getD i 0) else Pl.dv (l.getD i 0)) (if op then d + 1 else 1)
    else if op = true ∧ l.getD i 0 = Pl.want nums then Pl.run (l.drop (i + 1)) (i + 1) (nums ++ [m]) false m d
    else .inl i := by
  rw [List.drop_eq_getElem_cons hi]
  conv => lhs; unfold Pl.run
  simp [hi]

/-- what holds at a round's head of the second loop; wc: the world at its first round's head, but for the graph's variable -/
structure GR2 (wc wr : World) (V : Int) (v : Value) (j : Nat) (es : List (Nat × Nat)) : Prop where
  keep : Below wc.heap.size wc wr
  sz : wc.heap.size < wr.heap.size
  gb : wr.heap[wc.heap.size]? = some (.cells #[.int .i64 V, v] 26)
  own : wr.ownsRow (wc.heap.size + 1) 44 2 v j (ecells (es.take j))
theorem GR2.start (wc : World) (V : Int) (es : List (Nat × Nat)) : GR2 wc (wc.alloc (.cells #[.int .i64 V, .slice none 0 0] 26)) V (.slice none 0 0) 0 es :=
  ⟨(Below.refl _ _).alloc (Nat.le_refl _) _, by simp, (MapKept.heap_alloc wc _).1, World.ownsRow_nil _ _ _ _⟩
theorem GR2.cells {wc wr : World} {V : Int} {v : Value} {j : Nat} {es : List (Nat × Nat)} (h : GR2 wc wr V v j es) :
    wr.cell? ⟨wc.heap.size, 0, none⟩ = some (.int .i64 V) ∧ wr.cell? ⟨wc.heap.size, 1, none⟩ = some v ∧ wr.frozen? ⟨wc.heap.size, 1, none⟩ = false := by
  have h1 := h.gb
  simp [World.cell?, World.frozen?, h1]
theorem take_edge {es : List (Nat × Nat)} {j : Nat} (h : j < es.length) : es.take (j + 1) = es.take j ++ [((es.getD j (0, 0)).1, (es.getD j (0, 0)).2)] := by
  have e : es.getD j (0, 0) = es[j] := by simp [h]
  rw [e, List.take_succ_eq_append_getElem h]
theorem GR2.step {wc wr wd w4 : World} {V : Int} {v v2 : Value} {j x y : Nat} {es : List (Nat × Nat)} (h : GR2 wc wr V v j es) (hj : j < es.length) (hx : (es.getD j (0, 0)).1 = x) (hy : (es.getD j (0, 0)).2 = y)
    (hd : wd.heap = wr.heap ∧ wd.os = wr.os ∧ wd.tape = wr.tape ∧ wd.output = wr.output)
    (hg : (wd.alloc (.cells #[.int .i64 x, .int .i64 y] 44)).grownBy w4 v.ownBlock) (ho : w4.ownsRow (wc.heap.size + 1) 44 2 v2 (j + 1) (ecells (es.take j) ++ [.int .i64 x, .int .i64 y])) :
    GR2 wc (w4.setCell ⟨wc.heap.size, 1, none⟩ v2) V v2 (j + 1) es ∧ w4.cell? ⟨wc.heap.size, 1, none⟩ = some v ∧ w4.frozen? ⟨wc.heap.size, 1, none⟩ = false := by
  obtain ⟨hd1, hd2, hd3, hd4⟩ := hd
  have hsz := h.sz
  have hlt : ∀ g, v.ownBlock = some g → wc.heap.size + 1 ≤ g := fun g hv => (h.own.lt g hv).1
  have hds : wd.heap.size = wr.heap.size := by rw [hd1]
  have hblk : ∀ i, i < wc.heap.size + 1 → w4.heap[i]? = wr.heap[i]? := by
    intro i hi
    rw [hg.block i (by simp; omega) (fun he => by have := hlt i he.symm; omega), Below.heap_alloc _ _ _ (by omega), hd1]
  have hs2 : wr.heap.size + 1 ≤ w4.heap.size := by have := hg.size; simp at this; omega
  have hset : ∀ i, i ≠ wc.heap.size → (w4.setCell ⟨wc.heap.size, 1, none⟩ v2).heap[i]? = w4.heap[i]? := fun i hi => Below.heap_setCell _ _ _ _ hi
  have hgb := h.gb
  rw [← hblk _ (by omega)] at hgb
  refine ⟨⟨?_, by simp [World.setCell]; omega, ?_, ?_⟩, by simp [World.cell?, hgb], by simp [World.frozen?, hgb]⟩
  · refine h.keep.trans ⟨hg.os.trans hd2, hg.tape.trans hd3, hg.output.trans hd4, by simp [World.setCell]; omega, fun i hi => ?_⟩
    rw [hset i (by omega), hblk i (by omega)]
  · simp [World.setCell, Array.getElem?_modify, hgb]
  · rw [take_edge hj, hx, hy, ecells_snoc]
    exact ownsRow_setCell_below ho (by simp) _

theorem flat_at (es : List (Nat × Nat)) : ∀ j, j < es.length → (Pl.flat es).getD (j * 2) 0 = (es.getD j (0, 0)).1 ∧ (Pl.flat es).getD (j * 2 + 1) 0 = (es.getD j (0, 0)).2 := by
  induction es with
  | nil => intro j hj; simp at hj
  | cons e es ih =>
    intro j hj
    have h2 : Pl.flat (e :: es) = e.1 :: e.2 :: Pl.flat es := by simp [Pl.flat]
    rw [h2]
    cases j with
    | zero => simp
    | succ j =>
      have := ih j (by simpa using hj)
      rw [show (j + 1) * 2 = j * 2 + 1 + 1 by omega]
      simpa using this

set_option maxRecDepth 100000 in
set_option maxHeartbeats 4000000 in
theorem refread_small (w : World) (a : Option Addr) (n cap : Nat) (l : List UInt8) (hB : Bs w a n l) (hn : n ≤ 4096) :
    Calls Try.prog 8 #[.slice a n cap] w fun e w' => RPost l w e w' := by
  have hll := hB.1
  have HLL := hide hll
  have HBS := hide hB
  obtain ⟨i0, hi0, hz0, hz1, hz2⟩ := info_parts info3
  have HI := hide hi0
  have HZ0 := hide hz0
  have HZ1 := hide hz1
  have HZ2 := hide hz2
  clear hB hll hi0 hz0 hz1 hz2
  have hdn : decide ((4096 : Int) < (n : Int)) = false := decide_eq_false (by omega)
  go_enter Try.func8, Try.ntmps8
  go_upto_block 0 with fail
  go_cut [3, 4, 5, 6, 7, 8, 9, 10, 11] from 20 to 106 (fun x3 x4 v o x7 x8 x9 x10 x11 wx => ∃ (nums : List Nat) (op : Bool) (av : Option Addr) (cv : Nat), v = .slice av nums.length cv ∧ o = .bool op ∧ RRel w wx v nums ∧ nums.length ≤ n ∧ Pl.run l 0 [] false 0 0 = .inr (nums, op))
  case first =>
    go_wp2_with fail
    go_loopw [5, 6, 7, 8, 9] (fun v o q t j wr => ∃ (nums : List Nat) (op : Bool) (m d i : Nat) (av : Option Addr) (cv : Nat), v = .slice av nums.length cv ∧ o = .bool op ∧ q = .int .i64 m ∧ t = .int .i64 d ∧ j = .int .i64 i ∧ i ≤ n ∧ nums.length ≤ i ∧ m ≤ 999999 ∧ d ≤ i ∧ RRel w wr v nums ∧ Pl.run (l.drop i) i nums op m d = Pl.run l 0 [] false 0 0) (fun v o q t j wr => n - (intOf j).toNat)
    case atStart => exact ⟨[], false, 0, 0, 0, _, _, rfl, rfl, rfl, rfl, rfl, by omega, Nat.le_refl _, by omega, by omega, RRel.start w, rfl⟩
    case round =>
      obtain ⟨nums, op, m, d, i, av, cv, rfl, rfl, rfl, rfl, rfl, hi, hnl, hm, hd, hR, hrun⟩ := hrel
      have HRUN := hide hrun
      have HR := hide hR
      have HOWN := hide hR.own
      obtain ⟨r0, r1, rf0, rf1⟩ := hR.cells
      have hsz := hR.sz
      by_cases hlt : i < n
      · obtain ⟨g, off, ha, hg, d0⟩ := ((unhide HBS).below hR.bel).2 i hlt
        have hstep := run_at (l := l) (i := i) (by rw [unhide HLL]; exact hlt) nums op m d
        rw [unhide HRUN] at hstep
        have HST := hide hstep
        obtain ⟨c, hc⟩ : ∃ c, l.getD i 0 = c := ⟨_, rfl⟩
        rw [hc] at d0
        have HC := hide hc
        have hc255 : (c.toNat : Int) ≤ 255 := by have := c.toNat_lt; omega
        clear hstep hc hR hrun
        subst ha
        obtain ⟨T, hT⟩ : ∃ T, (Pl.full nums && !op) = T := ⟨_, rfl⟩
        have HTT := hide hT
        clear hT
        go_upto_region 10 with fail
        go_cut [48] from 20 to 106 (fun b wx => b = .bool T ∧ wr = wx)
        case first =>
          by_cases h2 : 2 ≤ nums.length
          · by_cases he : nums.length % 2 = 0
            · cases op with
              | true =>
                have hpar : ((nums.length : Int) % 2 == 0) = true := by rw [beq_iff_eq]; omega
                go_wp2_with fail
                go_meet
                exact ⟨by rw [← unhide HTT]; simp, rfl⟩
              | false =>
                have hpar : ((nums.length : Int) % 2 == 0) = true := by rw [beq_iff_eq]; omega
                obtain ⟨gv, c2, hv, hgb, hgl⟩ := (unhide HOWN).form (by omega)
                have hc1 := (unhide HOWN)
                rw [hv] at hc1
                have hcell := hc1.cellAt 1 (by omega)
                cases hv
                have hq : wr.cell? ⟨gv, 1, none⟩ = some (.int .i64 (nums.getD 1 0)) := by
                  rw [hcell]
                  have h1 : 1 < nums.length := by omega
                  simp [icells, h1]
                obtain ⟨q1, hq1⟩ : ∃ q, nums.getD 1 0 = q := ⟨_, rfl⟩
                rw [hq1] at hq
                have HQ1 := hide hq1
                clear hcell hc1 hq1
                have h1l : (1 : Int) < (nums.length : Int) := by omega
                go_wp2_with fail
                go_meet
                refine ⟨congrArg Value.bool ?_, rfl⟩
                have hq2 := unhide HQ1
                rw [← unhide HTT]
                rw [Bool.eq_iff_iff]
                unfold Pl.full
                simp only [Bool.not_false, Bool.and_true, decide_eq_true_eq, beq_iff_eq]
                rw [hq2]
                omega
            · have hpar : ((nums.length : Int) % 2 == 0) = false := by rw [beq_eq_false_iff_ne]; omega
              have hful : Pl.full nums = false := by unfold Pl.full; rw [decide_eq_false_iff_not]; omega
              have HF := hide hful
              clear hful
              go_wp2_with fail
              go_meet
              exact ⟨by rw [← unhide HTT, unhide HF]; rfl, rfl⟩
          · have hful : Pl.full nums = false := by unfold Pl.full; rw [decide_eq_false_iff_not]; omega
            have HF := hide hful
            have hd2 : decide ((2 : Int) ≤ (nums.length : Int)) = false := decide_eq_false (by omega)
            clear hful
            go_wp2_with fail
            go_meet
            exact ⟨by rw [← unhide HTT, unhide HF]; rfl, rfl⟩
        case rest =>
          obtain ⟨rfl, rfl⟩ := hcut
          have hst := unhide HST
          rw [unhide HC] at hst
          cases op with
          | true =>
            obtain rfl : T = false := by rw [← unhide HTT]; simp
            simp only [Bool.true_eq_false, and_false, if_false, true_and, if_true] at hst
            by_cases hD : Pl.isD c = true
            · rw [if_pos hD] at hst
              have hDD := (Pl.isD_iff _).1 hD
              have hlo : (48 : Int) ≤ (c.toNat : Int) := by omega
              have hhi : (c.toNat : Int) ≤ 57 := by omega
              by_cases hO : Pl.over m d c = true
              · rw [if_pos hO] at hst
                have HX := hide hst
                have hov : (m = 0 ∧ d = 1) ∨ 999999 < 10 * m + (c.toNat - 48) := by
                  have := hO
                  unfold Pl.over at this
                  rw [decide_eq_true_eq] at this
                  exact this
                clear hst hD hDD hO HST
                by_cases h01 : m = 0 ∧ d = 1
                · obtain ⟨h0, h1⟩ := h01
                  have hb0 : ((m : Int) == 0) = true := by rw [beq_iff_eq]; omega
                  have hb1 : ((d : Int) == 1) = true := by rw [beq_iff_eq]; omega
                  clear h0 h1 hov
                  go_wp2_with fail
                  refine bodyPost_ret (v := .tuple #[.agg #[.int .i64 0, .slice none 0 0], .int .i64 11, .int .i64 i]) (by simp [results, Try.results8, go_sem, r0, r1]) rfl ?_
                  exact rpost_fault (code := 11) ((unhide HR).done _ _) (syn_at (by rw [unhide HLL]; exact hn) (unhide HX))
                · have hbig : (999999 : Int) < 10 * (m : Int) + (c.toNat : Int) - 48 := by
                    rcases hov with h | h
                    · exact absurd h h01
                    · omega
                  clear hov
                  by_cases h0 : m = 0
                  · have hb0 : ((m : Int) == 0) = true := by rw [beq_iff_eq]; omega
                    have hb1 : ((d : Int) == 1) = false := by rw [beq_eq_false_iff_ne]; omega
                    clear h0 h01
                    go_wp2_with fail
                    refine bodyPost_ret (v := .tuple #[.agg #[.int .i64 0, .slice none 0 0], .int .i64 11, .int .i64 i]) (by simp [results, Try.results8, go_sem, r0, r1]) rfl ?_
                    exact rpost_fault (code := 11) ((unhide HR).done _ _) (syn_at (by rw [unhide HLL]; exact hn) (unhide HX))
                  · have hb0 : ((m : Int) == 0) = false := by rw [beq_eq_false_iff_ne]; omega
                    clear h0 h01
                    go_wp2_with fail
                    refine bodyPost_ret (v := .tuple #[.agg #[.int .i64 0, .slice none 0 0], .int .i64 11, .int .i64 i]) (by simp [results, Try.results8, go_sem, r0, r1]) rfl ?_
                    exact rpost_fault (code := 11) ((unhide HR).done _ _) (syn_at (by rw [unhide HLL]; exact hn) (unhide HX))
              · rw [if_neg hO] at hst
                have HX := hide hst
                have hov : ¬ ((m = 0 ∧ d = 1) ∨ 999999 < 10 * m + (c.toNat - 48)) := by
                  intro h
                  apply hO
                  unfold Pl.over
                  rw [decide_eq_true_eq]
                  exact h
                have hdv : Pl.dv c = c.toNat - 48 := rfl
                have HDV := hide hdv
                clear hst hD hDD hO HST hdv
                have hsm : 10 * (m : Int) + (c.toNat : Int) - 48 ≤ 999999 := by omega
                by_cases h0 : m = 0
                · have hb0 : ((m : Int) == 0) = true := by rw [beq_iff_eq]; omega
                  have hb1 : ((d : Int) == 1) = false := by rw [beq_eq_false_iff_ne]; omega
                  clear hov h0
                  go_wp2_with fail
                  go_roundw
                  case rel =>
                    first
                      | exact ⟨nums, true, 10 * m + (c.toNat - 48), d + 1, i + 1, _, _, by first | rfl | simp, rfl, by go_num, by go_num, by go_num, by omega, by first | omega | (simp; omega), by omega, by omega, unhide HR, (unhide HX).symm⟩
                      | ((repeat apply Exists.intro); exact ⟨⟨nums, true, 10 * m + (c.toNat - 48), d + 1, i + 1, _, _, by first | rfl | simp, rfl, by go_num, by go_num, by go_num, by omega, by first | omega | (simp; omega), by omega, by omega, unhide HR, (unhide HX).symm⟩, rfl⟩)
                  case measure => simp [intOf]; omega
                · have hb0 : ((m : Int) == 0) = false := by rw [beq_eq_false_iff_ne]; omega
                  clear hov h0
                  go_wp2_with fail
                  go_roundw
                  case rel =>
                    first
                      | exact ⟨nums, true, 10 * m + (c.toNat - 48), d + 1, i + 1, _, _, by first | rfl | simp, rfl, by go_num, by go_num, by go_num, by omega, by first | omega | (simp; omega), by omega, by omega, unhide HR, (unhide HX).symm⟩
                      | ((repeat apply Exists.intro); exact ⟨⟨nums, true, 10 * m + (c.toNat - 48), d + 1, i + 1, _, _, by first | rfl | simp, rfl, by go_num, by go_num, by go_num, by omega, by first | omega | (simp; omega), by omega, by omega, unhide HR, (unhide HX).symm⟩, rfl⟩)
                  case measure => simp [intOf]; omega
            · rw [if_neg hD] at hst
              have hDD : ¬ (48 ≤ c.toNat ∧ c.toNat ≤ 57) := fun h => hD ((Pl.isD_iff _).2 h)
              by_cases hw : c = Pl.want nums
              · rw [if_pos hw] at hst
                have HX := hide hst
                by_cases hpar : nums.length % 2 = 1
                · have hc10 : (c.toNat : Int) = 10 := by
                    rw [hw]; unfold Pl.want; rw [if_pos hpar]; rfl
                  have hpb : ((nums.length : Int) % 2 == 1) = true := by rw [beq_iff_eq]; omega
                  have HW := hide hw
                  clear hst hD hDD HST hw
                  have hlo2 : decide ((48 : Int) ≤ (c.toNat : Int)) = false := decide_eq_false (by omega)
                  have hne : ((c.toNat : Int) != 10) = false := by rw [hc10]; rfl
                  clear hc10
                  go_wp2_with (at_builtin; refine wpList_append_own _ rfl (.tmp 103) (.tmp 105) 28 rfl (w.heap.size + 1) 3 i0 (.int .i64 0) 1 8 Try.underlying28 (unhide HI) (unhide HZ0) (unhide HZ1) (unhide HZ2) rfl (by decide) (.slice av nums.length cv) nums.length (icells nums) rfl ((unhide HOWN).alloc _) ⟨wr.heap.size, 0, none⟩ 1 1 [.int .i64 m] rfl rfl (cell_one_new _ _ _) ?c2 ?c3 ?c4 ?c5 ?_)
                  case c2 => first | rfl | (intro u hu; simp at hu; subst hu; rfl)
                  case c3 => unfold maxLen; omega
                  case c4 => omega
                  case c5 => first | omega | (simp; omega)
                  intro v2 w4 hown4 hg4 _
                  have HR4 := hide ((unhide HR).step hg4 hown4)
                  obtain ⟨g2, cap2, hv2, _, _⟩ := hown4.form (by omega)
                  subst hv2
                  clear hown4 hg4
                  go_wp2_with fail
                  go_roundw
                  case rel =>
                    first
                      | exact ⟨nums ++ [m], false, m, d, i + 1, some ⟨g2, 0, none⟩, cap2, by simp, rfl, by go_num, by go_num, by go_num, by omega, by first | omega | (simp; omega), by omega, by omega, unhide HR4, (unhide HX).symm⟩
                      | ((repeat apply Exists.intro); exact ⟨⟨nums ++ [m], false, m, d, i + 1, some ⟨g2, 0, none⟩, cap2, by simp, rfl, by go_num, by go_num, by go_num, by omega, by first | omega | (simp; omega), by omega, by omega, unhide HR4, (unhide HX).symm⟩, rfl⟩)
                  case measure => simp [intOf]; omega
                · have hc10 : (c.toNat : Int) = 32 := by
                    rw [hw]; unfold Pl.want; rw [if_neg hpar]; rfl
                  have hpb : ((nums.length : Int) % 2 == 1) = false := by rw [beq_eq_false_iff_ne]; omega
                  have HW := hide hw
                  clear hst hD hDD HST hw
                  have hlo2 : decide ((48 : Int) ≤ (c.toNat : Int)) = false := decide_eq_false (by omega)
                  have hne : ((c.toNat : Int) != 32) = false := by rw [hc10]; rfl
                  clear hc10
                  go_wp2_with (at_builtin; refine wpList_append_own _ rfl (.tmp 103) (.tmp 105) 28 rfl (w.heap.size + 1) 3 i0 (.int .i64 0) 1 8 Try.underlying28 (unhide HI) (unhide HZ0) (unhide HZ1) (unhide HZ2) rfl (by decide) (.slice av nums.length cv) nums.length (icells nums) rfl ((unhide HOWN).alloc _) ⟨wr.heap.size, 0, none⟩ 1 1 [.int .i64 m] rfl rfl (cell_one_new _ _ _) ?c2 ?c3 ?c4 ?c5 ?_)
                  case c2 => first | rfl | (intro u hu; simp at hu; subst hu; rfl)
                  case c3 => unfold maxLen; omega
                  case c4 => omega
                  case c5 => first | omega | (simp; omega)
                  intro v2 w4 hown4 hg4 _
                  have HR4 := hide ((unhide HR).step hg4 hown4)
                  obtain ⟨g2, cap2, hv2, _, _⟩ := hown4.form (by omega)
                  subst hv2
                  clear hown4 hg4
                  go_wp2_with fail
                  go_roundw
                  case rel =>
                    first
                      | exact ⟨nums ++ [m], false, m, d, i + 1, some ⟨g2, 0, none⟩, cap2, by simp, rfl, by go_num, by go_num, by go_num, by omega, by first | omega | (simp; omega), by omega, by omega, unhide HR4, (unhide HX).symm⟩
                      | ((repeat apply Exists.intro); exact ⟨⟨nums ++ [m], false, m, d, i + 1, some ⟨g2, 0, none⟩, cap2, by simp, rfl, by go_num, by go_num, by go_num, by omega, by first | omega | (simp; omega), by omega, by omega, unhide HR4, (unhide HX).symm⟩, rfl⟩)
                  case measure => simp [intOf]; omega
              · rw [if_neg hw] at hst
                have HX := hide hst
                clear hst hD HST
                by_cases hpar : nums.length % 2 = 1
                · have hc10 : ((c.toNat : Int) != 10) = true := by
                    rw [bne_iff_ne]
                    intro h
                    apply hw
                    unfold Pl.want
                    rw [if_pos hpar]
                    exact UInt8.toNat_inj.1 (by show _ = 10; omega)
                  have hpb : ((nums.length : Int) % 2 == 1) = true := by rw [beq_iff_eq]; omega
                  clear hw
                  by_cases hlo : (48 : Int) ≤ (c.toNat : Int)
                  · have hhi : decide ((c.toNat : Int) ≤ 57) = false := decide_eq_false (by omega)
                    clear hDD
                    go_wp2_with fail
                    refine bodyPost_ret (v := .tuple #[.agg #[.int .i64 0, .slice none 0 0], .int .i64 11, .int .i64 i]) (by simp [results, Try.results8, go_sem, r0, r1]) rfl ?_
                    exact rpost_fault (code := 11) ((unhide HR).done _ _) (syn_at (by rw [unhide HLL]; exact hn) (unhide HX))
                  · have hlo2 : decide ((48 : Int) ≤ (c.toNat : Int)) = false := decide_eq_false hlo
                    clear hDD
                    go_wp2_with fail
                    refine bodyPost_ret (v := .tuple #[.agg #[.int .i64 0, .slice none 0 0], .int .i64 11, .int .i64 i]) (by simp [results, Try.results8, go_sem, r0, r1]) rfl ?_
                    exact rpost_fault (code := 11) ((unhide HR).done _ _) (syn_at (by rw [unhide HLL]; exact hn) (unhide HX))
                · have hc10 : ((c.toNat : Int) != 32) = true := by
                    rw [bne_iff_ne]
                    intro h
                    apply hw
                    unfold Pl.want
                    rw [if_neg hpar]
                    exact UInt8.toNat_inj.1 (by show _ = 32; omega)
                  have hpb : ((nums.length : Int) % 2 == 1) = false := by rw [beq_eq_false_iff_ne]; omega
                  clear hw
                  by_cases hlo : (48 : Int) ≤ (c.toNat : Int)
                  · have hhi : decide ((c.toNat : Int) ≤ 57) = false := decide_eq_false (by omega)
                    clear hDD
                    go_wp2_with fail
                    refine bodyPost_ret (v := .tuple #[.agg #[.int .i64 0, .slice none 0 0], .int .i64 11, .int .i64 i]) (by simp [results, Try.results8, go_sem, r0, r1]) rfl ?_
                    exact rpost_fault (code := 11) ((unhide HR).done _ _) (syn_at (by rw [unhide HLL]; exact hn) (unhide HX))
                  · have hlo2 : decide ((48 : Int) ≤ (c.toNat : Int)) = false := decide_eq_false hlo
                    clear hDD
                    go_wp2_with fail
                    refine bodyPost_ret (v := .tuple #[.agg #[.int .i64 0, .slice none 0 0], .int .i64 11, .int .i64 i]) (by simp [results, Try.results8, go_sem, r0, r1]) rfl ?_
                    exact rpost_fault (code := 11) ((unhide HR).done _ _) (syn_at (by rw [unhide HLL]; exact hn) (unhide HX))
          | false =>
            simp only [and_true, Bool.false_eq_true, false_and, if_false] at hst
            cases hful : Pl.full nums with
            | true =>
              obtain rfl : T = true := by rw [← unhide HTT, hful]; rfl
              rw [if_pos hful] at hst
              have HX := hide hst
              clear hst HST
              go_wp2_with fail
              refine bodyPost_ret (v := .tuple #[.agg #[.int .i64 0, .slice none 0 0], .int .i64 11, .int .i64 i]) (by simp [results, Try.results8, go_sem, r0, r1]) rfl ?_
              exact rpost_fault (code := 11) ((unhide HR).done _ _) (syn_at (by rw [unhide HLL]; exact hn) (unhide HX))
            | false =>
              obtain rfl : T = false := by rw [← unhide HTT, hful]; rfl
              rw [if_neg (by rw [hful]; simp)] at hst
              by_cases hD : Pl.isD c = true
              · rw [if_pos hD] at hst
                have hDD := (Pl.isD_iff _).1 hD
                have hlo : (48 : Int) ≤ (c.toNat : Int) := by omega
                have hhi : (c.toNat : Int) ≤ 57 := by omega
                have HX := hide hst
                have hdv : Pl.dv c = c.toNat - 48 := rfl
                have HDV := hide hdv
                clear hst hD hDD HST hdv
                go_wp2_with fail
                go_roundw
                case rel =>
                  first
                    | exact ⟨nums, true, c.toNat - 48, 1, i + 1, _, _, by first | rfl | simp, rfl, by go_num, by go_num, by go_num, by omega, by first | omega | (simp; omega), by omega, by omega, unhide HR, (unhide HX).symm⟩
                    | ((repeat apply Exists.intro); exact ⟨⟨nums, true, c.toNat - 48, 1, i + 1, _, _, by first | rfl | simp, rfl, by go_num, by go_num, by go_num, by omega, by first | omega | (simp; omega), by omega, by omega, unhide HR, (unhide HX).symm⟩, rfl⟩)
                case measure => simp [intOf]; omega
              · rw [if_neg hD] at hst
                have hDD : ¬ (48 ≤ c.toNat ∧ c.toNat ≤ 57) := fun h => hD ((Pl.isD_iff _).2 h)
                have HX := hide hst
                clear hst hD HST
                by_cases hpar : nums.length % 2 = 1
                · have hpb : ((nums.length : Int) % 2 == 1) = true := by rw [beq_iff_eq]; omega
                  by_cases hlo : (48 : Int) ≤ (c.toNat : Int)
                  · have hhi : decide ((c.toNat : Int) ≤ 57) = false := decide_eq_false (by omega)
                    clear hDD
                    go_wp2_with fail
                    refine bodyPost_ret (v := .tuple #[.agg #[.int .i64 0, .slice none 0 0], .int .i64 11, .int .i64 i]) (by simp [results, Try.results8, go_sem, r0, r1]) rfl ?_
                    exact rpost_fault (code := 11) ((unhide HR).done _ _) (syn_at (by rw [unhide HLL]; exact hn) (unhide HX))
                  · have hlo2 : decide ((48 : Int) ≤ (c.toNat : Int)) = false := decide_eq_false hlo
                    clear hDD
                    go_wp2_with fail
                    refine bodyPost_ret (v := .tuple #[.agg #[.int .i64 0, .slice none 0 0], .int .i64 11, .int .i64 i]) (by simp [results, Try.results8, go_sem, r0, r1]) rfl ?_
                    exact rpost_fault (code := 11) ((unhide HR).done _ _) (syn_at (by rw [unhide HLL]; exact hn) (unhide HX))
                · have hpb : ((nums.length : Int) % 2 == 1) = false := by rw [beq_eq_false_iff_ne]; omega
                  by_cases hlo : (48 : Int) ≤ (c.toNat : Int)
                  · have hhi : decide ((c.toNat : Int) ≤ 57) = false := decide_eq_false (by omega)
                    clear hDD
                    go_wp2_with fail
                    refine bodyPost_ret (v := .tuple #[.agg #[.int .i64 0, .slice none 0 0], .int .i64 11, .int .i64 i]) (by simp [results, Try.results8, go_sem, r0, r1]) rfl ?_
                    exact rpost_fault (code := 11) ((unhide HR).done _ _) (syn_at (by rw [unhide HLL]; exact hn) (unhide HX))
                  · have hlo2 : decide ((48 : Int) ≤ (c.toNat : Int)) = false := decide_eq_false hlo
                    clear hDD
                    go_wp2_with fail
                    refine bodyPost_ret (v := .tuple #[.agg #[.int .i64 0, .slice none 0 0], .int .i64 11, .int .i64 i]) (by simp [results, Try.results8, go_sem, r0, r1]) rfl ?_
                    exact rpost_fault (code := 11) ((unhide HR).done _ _) (syn_at (by rw [unhide HLL]; exact hn) (unhide HX))
      · obtain rfl : i = n := by omega
        have hx := unhide HRUN
        rw [List.drop_eq_nil_of_le (by rw [unhide HLL]; exact Nat.le_refl _)] at hx
        have HX := hide hx
        clear hx hrun hR
        go_wp2_with fail
        go_meet
        exact ⟨nums, op, av, cv, rfl, rfl, unhide HR, hnl, (unhide HX).symm⟩
  case rest =>
    obtain ⟨nums, op, av, cv, rfl, rfl, hR, hnl, hrun⟩ := hcut
    have HR := hide hR
    have HX := hide hrun
    obtain ⟨r0, r1, rf0, rf1⟩ := hR.cells
    have hsz := hR.sz
    have HOWN := hide hR.own
    clear hR hrun
    cases op with
    | true =>
      have hsyn := Pl.syn_of (p := n) (by rw [unhide HLL]; exact hn) (by rw [unhide HX, unhide HLL]; rfl)
      have HS := hide hsyn
      clear hsyn
      go_wp2_with fail
      refine bodyPost_ret (v := .tuple #[.agg #[.int .i64 0, .slice none 0 0], .int .i64 11, .int .i64 n]) (by simp [results, Try.results8, go_sem, r0, r1]) rfl ?_
      exact rpost_fault (code := 11) ((unhide HR).done _ _) (unhide HS)
    | false =>
      by_cases hful : Pl.full nums = true
      · obtain ⟨c, V, es, hg, hnum⟩ := Pl.ok_of (l := l) (nums := nums) (by rw [unhide HX, unhide HLL]; simp [Pl.fin, hful])
        have hfl := Pl.flat_len es
        have hlen : nums.length = es.length * 2 + 2 := by rw [hnum]; simp [hfl]
        have hq0 : nums.getD 0 0 = V := by rw [hnum]; rfl
        have hq1 : nums.getD 1 0 = es.length := by rw [hnum]; rfl
        have hqe : ∀ j, j < es.length → nums.getD (j * 2 + 2) 0 = (es.getD j (0, 0)).1 ∧ nums.getD (j * 2 + 2 + 1) 0 = (es.getD j (0, 0)).2 := by
          intro j hj
          have := flat_at es j hj
          rw [hnum]
          exact this
        obtain ⟨gv, c2, hv, hgb, hgl⟩ := (unhide HOWN).form (by omega)
        have hcs : ∀ j, j < nums.length → wc.cell? ⟨gv, j, none⟩ = some (.int .i64 (nums.getD j 0)) := by
          have hc1 := (unhide HOWN)
          rw [hv] at hc1
          intro j hj
          rw [hc1.cellAt j (by omega)]
          simp [icells, hj]
        cases hv
        have g0 := hcs 0 (by omega)
        have g1 := hcs 1 (by omega)
        rw [hq0] at g0
        rw [hq1] at g1
        have HCS := hide hcs
        have HQE := hide hqe
        have HG := hide hg
        have hl0 : (0 : Int) < (nums.length : Int) := by omega
        have hl1 : (1 : Int) < (nums.length : Int) := by omega
        have hl2 : decide ((nums.length : Int) < 2) = false := decide_eq_false (by omega)
        have hpar : ((nums.length : Int) % 2 == 1) = false := by rw [beq_eq_false_iff_ne]; omega
        have hcnt : (((nums.length : Int) - 2) / 2 != (es.length : Int)) = false := by
          have : ((nums.length : Int) - 2) / 2 = (es.length : Int) := by omega
          rw [this]
          simp
        have HLEN := hide hlen
        clear hcs hqe hg hlen hq0 hq1 hnum hfl hful
        by_cases hlim : 1 ≤ V ∧ V ≤ 24 ∧ es.length ≤ 40
        · obtain ⟨hv1, hv2, hv3⟩ := hlim
          have e1 : decide ((V : Int) < 1) = false := decide_eq_false (by omega)
          have e2 : decide ((24 : Int) < (V : Int)) = false := decide_eq_false (by omega)
          have e3 : decide ((40 : Int) < (es.length : Int)) = false := decide_eq_false (by omega)
          have hbw := (unhide HR).bel
          have hbs := hbw.size
          have HBW := hide hbw
          have h44 := info44
          obtain ⟨i4, hi4, hy0, hy1, hy2⟩ := info_parts info44
          have HI4 := hide hi4
          have HY0 := hide hy0
          have HY1 := hide hy1
          have HY2 := hide hy2
          clear hi4 hy0 hy1 hy2 h44 hbw
          go_wp2_with fail
          go_loopw [13] (fun q wr => ∃ (k j : Nat) (v : Value), q = .int .i64 (k : Int) ∧ k = j * 2 + 2 ∧ j ≤ es.length ∧ GR2 wc wr V v j es) (fun q wr => nums.length - (intOf q).toNat)
          case atStart => exact ⟨2, 0, _, rfl, rfl, Nat.zero_le _, GR2.start wc V es⟩
          case round =>
            obtain ⟨k, j, v, rfl, hk, hj, hG⟩ := hrel
            have HK := hide hk
            have HG2 := hide hG
            obtain ⟨k0, k1, kf1⟩ := hG.cells
            have hgsz := hG.sz
            have hlen := unhide HLEN
            have hnb : nums.length ≤ 82 := by omega
            have HOW2 := hide hG.own
            by_cases hlt : j < es.length
            · obtain ⟨x, hx⟩ : ∃ x, (es.getD j (0, 0)).1 = x := ⟨_, rfl⟩
              obtain ⟨y, hy⟩ : ∃ y, (es.getD j (0, 0)).2 = y := ⟨_, rfl⟩
              have hqe := unhide HQE j hlt
              rw [hx, hy] at hqe
              rw [← hk] at hqe
              have n0 : wr.cell? ⟨gv, k, none⟩ = some (.int .i64 x) := by
                rw [hG.keep.cell (p := ⟨gv, k, none⟩) hgl, unhide HCS _ (by omega), hqe.1]
              have n1 : wr.cell? ⟨gv, k + 1, none⟩ = some (.int .i64 y) := by
                rw [hG.keep.cell (p := ⟨gv, k + 1, none⟩) hgl, unhide HCS _ (by omega), hqe.2]
              have HX1 := hide hx
              have HY3 := hide hy
              have b1 : (k : Int) < (nums.length : Int) := by omega
              have b2 : (k : Int) + 1 < (nums.length : Int) := by omega
              have b3 : (0 : Int) ≤ (k : Int) + 1 := by omega
              have hwr : IntKind.i64.wrap ((k : Int) + 1) = (k : Int) + 1 := by rw [IntKind.wrap_i64]; omega
              have hn1 : ((k : Int) + 1).toNat = k + 1 := by omega
              clear hx hy hqe hG hlen hk
              go_wp2_with fail
              go_region_law ((refine step_append_lies _ (by rfl) (.tmp 160) (.tmp 171) 24 (by rfl) (wc.heap.size + 1) 44 i4 (.agg #[.int .i64 0, .int .i64 0]) 2 16 Try.underlying24 (unhide HI4) (unhide HY0) (unhide HY1) (unhide HY2) rfl (by decide) v j (ecells (es.take j)) (by simp [Act.eval]) (by exact (unhide HOW2).alloc _) ⟨wr.heap.size, 0, none⟩ 1 1 [.int .i64 x, .int .i64 y] (by simp [Act.eval]) rfl (by exact cell_two_new _ _ _ _) (by intro u hu; simp at hu; rcases hu with rfl | rfl <;> rfl) (by decide) (by unfold maxLen; omega) (by omega) (by simp; omega) _ rfl ?_; intro g2 cap2 w4 hown4 hg4 _ _; have R4 := (unhide HG2).step (wd := wr.drew) hlt (unhide HX1) (unhide HY3) ⟨rfl, rfl, rfl, rfl⟩ hg4 hown4; have x1 := R4.2.1; have xf1 := R4.2.2; have HR4 := hide R4.1; clear R4 hown4 hg4))
              all_goals go_wp2_with fail
              all_goals exact ⟨⟨k + 2, j + 1, _, by go_num, by have := unhide HK; omega, by omega, unhide HR4⟩, by simp [intOf]; omega⟩
            · obtain rfl : j = es.length := by omega
              have how := hG.own
              rw [List.take_length] at how
              obtain ⟨ae, ce, hve, hE⟩ := es_of_owns how rfl (by omega)
              subst hve
              have hkb := hG.keep
              have s0 : wr.cell? ⟨w.heap.size, 0, none⟩ = some (.int .i64 0) := by rw [hkb.cell (p := ⟨w.heap.size, 0, none⟩) hsz]; exact r0
              have s1 : wr.cell? ⟨w.heap.size, 1, none⟩ = some (.slice none 0 0) := by rw [hkb.cell (p := ⟨w.heap.size, 1, none⟩) hsz]; exact r1
              have sf0 : wr.frozen? ⟨w.heap.size, 0, none⟩ = false := by rw [hkb.frozen (p := ⟨w.heap.size, 0, none⟩) hsz]; exact rf0
              have sf1 : wr.frozen? ⟨w.heap.size, 1, none⟩ = false := by rw [hkb.frozen (p := ⟨w.heap.size, 1, none⟩) hsz]; exact rf1
              have HBEL := hide ((unhide HBW).trans (hkb.mono hbs))
              have HE := hide hE
              have hk3 : ¬ (k : Int) < (nums.length : Int) := by omega
              clear how hE hkb hlen hk hG r0 r1 rf0 rf1 g0 g1
              go_wp2_with fail
              go_loopw [14] (fun q w3 => ∃ (i m : Nat), q = .int .i64 (i : Int) ∧ i ≤ es.length ∧ (∀ t, t < i → Pl.bad V (es.getD t (0, 0)) = false) ∧ w3 = wr.drewN m) (fun q w3 => es.length - (intOf q).toNat)
              case atStart => exact ⟨0, 0, rfl, Nat.zero_le _, fun t ht => by omega, rfl⟩
              case round =>
                obtain ⟨i, m, rfl, hi, hgood, rfl⟩ := hrel
                have HGO := hide hgood
                clear hgood
                by_cases hlt3 : i < es.length
                · obtain ⟨ge, oe, hae, hBe, hge, d0, d1⟩ := (unhide HE).2.2 i hlt3
                  rw [toI_getD] at d0 d1
                  subst hae
                  obtain ⟨x, hx⟩ : ∃ x, (es.getD i (0, 0)).1 = x := ⟨_, rfl⟩
                  obtain ⟨y, hy⟩ : ∃ y, (es.getD i (0, 0)).2 = y := ⟨_, rfl⟩
                  rw [hx] at d0
                  rw [hy] at d1
                  have HX1 := hide hx
                  have HY3 := hide hy
                  have b1 : (i : Int) < (es.length : Int) := by omega
                  clear hx hy
                  by_cases hxv : V ≤ x
                  · have q1 : decide ((V : Int) ≤ (x : Int)) = true := decide_eq_true (by omega)
                    go_wp2_with fail
                    go_quiet (fail)
                    go_wp2_with fail
                    refine bodyPost_ret (v := .tuple #[.agg #[.int .i64 0, .slice none 0 0], .int .i64 12, .int .i64 i]) (by simp [results, Try.results8, go_sem, s0, s1]) rfl ?_
                    exact rpost_fault (code := 12) ((((below_draws (unhide HBEL) _).setCell (p := ⟨w.heap.size, 0, none⟩) (Nat.le_refl _) _).setCell (p := ⟨w.heap.size, 1, none⟩) (Nat.le_refl _) _)) (Pl.readR_vertex (by rw [unhide HLL]; exact hn) (unhide HG) ⟨hv1, hv2, hv3⟩ hlt3 (unhide HGO) (by unfold Pl.bad; rw [unhide HX1, unhide HY3, decide_eq_true_eq]; omega))
                  · have q1 : decide ((V : Int) ≤ (x : Int)) = false := decide_eq_false (by omega)
                    by_cases hyv : V ≤ y
                    · have q2 : decide ((V : Int) ≤ (y : Int)) = true := decide_eq_true (by omega)
                      go_wp2_with fail
                      go_quiet (fail)
                      go_wp2_with fail
                      refine bodyPost_ret (v := .tuple #[.agg #[.int .i64 0, .slice none 0 0], .int .i64 12, .int .i64 i]) (by simp [results, Try.results8, go_sem, s0, s1]) rfl ?_
                      exact rpost_fault (code := 12) ((((below_draws (unhide HBEL) _).setCell (p := ⟨w.heap.size, 0, none⟩) (Nat.le_refl _) _).setCell (p := ⟨w.heap.size, 1, none⟩) (Nat.le_refl _) _)) (Pl.readR_vertex (by rw [unhide HLL]; exact hn) (unhide HG) ⟨hv1, hv2, hv3⟩ hlt3 (unhide HGO) (by unfold Pl.bad; rw [unhide HX1, unhide HY3, decide_eq_true_eq]; omega))
                    · have q2 : decide ((V : Int) ≤ (y : Int)) = false := decide_eq_false (by omega)
                      go_wp2_with fail
                      go_quiet (fail)
                      go_wp2_with fail
                      go_roundw
                      case rel =>
                        refine ⟨i + 1, _, by go_num, by omega, fun t ht => ?_, rfl⟩
                        by_cases hti : t < i
                        · exact unhide HGO t hti
                        · obtain rfl : t = i := by omega
                          unfold Pl.bad
                          rw [unhide HX1, unhide HY3, decide_eq_false_iff_not]
                          omega
                      case measure => simp [intOf]; omega
                · obtain rfl : i = es.length := by omega
                  go_wp2_with fail
                  refine bodyPost_ret (v := .tuple #[.agg #[.int .i64 V, .slice ae es.length ce], .int .i64 0, .int .i64 0]) (by simp [results, Try.results8, go_sem, s0, s1]) rfl ?_
                  refine ⟨V, es, 0, 0, ae, ce, rfl, ?_, ((below_draws (unhide HBEL) _).setCell (p := ⟨w.heap.size, 0, none⟩) (Nat.le_refl _) _).setCell (p := ⟨w.heap.size, 1, none⟩) (Nat.le_refl _) _, Pl.readR_ok (by rw [unhide HLL]; exact hn) (unhide HG) ⟨hv1, hv2, hv3⟩ (unhide HGO)⟩
                  exact (Es.setCell (Es.setCell (w := wr.drewN m) ((unhide HE).mono (B' := w.heap.size + 1) (by omega)) (p := ⟨w.heap.size, 0, none⟩) (by simp) _) (p := ⟨w.heap.size, 1, none⟩) (by simp) _)
        · have hsyn := Pl.readR_limits (by rw [unhide HLL]; exact hn) (unhide HG) hlim
          have HS := hide hsyn
          clear hsyn
          by_cases h1 : V < 1
          · have e1 : decide ((V : Int) < 1) = true := decide_eq_true (by omega)
            clear hlim
            go_wp2_with fail
            refine bodyPost_ret (v := .tuple #[.agg #[.int .i64 0, .slice none 0 0], .int .i64 10, .int .i64 0]) (by simp [results, Try.results8, go_sem, r0, r1]) rfl ?_
            exact rpost_fault (code := 10) (p := 0) ((unhide HR).done _ _) (unhide HS)
          · have e1 : decide ((V : Int) < 1) = false := decide_eq_false (by omega)
            by_cases h2 : 24 < V
            · have e2 : decide ((24 : Int) < (V : Int)) = true := decide_eq_true (by omega)
              clear hlim
              go_wp2_with fail
              refine bodyPost_ret (v := .tuple #[.agg #[.int .i64 0, .slice none 0 0], .int .i64 10, .int .i64 0]) (by simp [results, Try.results8, go_sem, r0, r1]) rfl ?_
              exact rpost_fault (code := 10) (p := 0) ((unhide HR).done _ _) (unhide HS)
            · have e2 : decide ((24 : Int) < (V : Int)) = false := decide_eq_false (by omega)
              have e3 : decide ((40 : Int) < (es.length : Int)) = true := decide_eq_true (by omega)
              clear hlim
              go_wp2_with fail
              refine bodyPost_ret (v := .tuple #[.agg #[.int .i64 0, .slice none 0 0], .int .i64 10, .int .i64 0]) (by simp [results, Try.results8, go_sem, r0, r1]) rfl ?_
              exact rpost_fault (code := 10) (p := 0) ((unhide HR).done _ _) (unhide HS)
      · have hful2 : Pl.full nums = false := by simpa using hful
        have hsyn := Pl.syn_of (p := n) (by rw [unhide HLL]; exact hn) (by rw [unhide HX, unhide HLL]; simp [Pl.fin, hful2])
        have HS := hide hsyn
        clear hsyn
        have hnf : ¬ (2 ≤ nums.length ∧ nums.length % 2 = 0 ∧ (nums.length - 2) / 2 = nums.getD 1 0) := by
          intro h
          apply hful
          unfold Pl.full
          rw [decide_eq_true_eq]
          exact h
        clear hful hful2
        by_cases h2 : 2 ≤ nums.length
        · have hl2 : decide ((nums.length : Int) < 2) = false := decide_eq_false (by omega)
          by_cases hodd : nums.length % 2 = 1
          · have hpar : ((nums.length : Int) % 2 == 1) = true := by rw [beq_iff_eq]; omega
            clear hnf
            go_wp2_with fail
            refine bodyPost_ret (v := .tuple #[.agg #[.int .i64 0, .slice none 0 0], .int .i64 11, .int .i64 n]) (by simp [results, Try.results8, go_sem, r0, r1]) rfl ?_
            exact rpost_fault (code := 11) ((unhide HR).done _ _) (unhide HS)
          · have hpar : ((nums.length : Int) % 2 == 1) = false := by rw [beq_eq_false_iff_ne]; omega
            obtain ⟨gv, c2, hv, hgb, hgl⟩ := (unhide HOWN).form (by omega)
            have g1 : wc.cell? ⟨gv, 1, none⟩ = some (.int .i64 (nums.getD 1 0)) := by
              have hc1 := (unhide HOWN)
              rw [hv] at hc1
              rw [hc1.cellAt 1 (by omega)]
              have h1 : 1 < nums.length := by omega
              simp [icells, h1]
            cases hv
            have hcnt : (((nums.length : Int) - 2) / 2 != (nums.getD 1 0 : Int)) = true := by
              rw [bne_iff_ne]
              intro h
              apply hnf
              exact ⟨h2, by omega, by omega⟩
            obtain ⟨q1, hq1⟩ : ∃ q, nums.getD 1 0 = q := ⟨_, rfl⟩
            rw [hq1] at g1 hcnt
            have hl1 : (1 : Int) < (nums.length : Int) := by omega
            clear hnf hq1
            go_wp2_with fail
            refine bodyPost_ret (v := .tuple #[.agg #[.int .i64 0, .slice none 0 0], .int .i64 11, .int .i64 n]) (by simp [results, Try.results8, go_sem, r0, r1]) rfl ?_
            exact rpost_fault (code := 11) ((unhide HR).done _ _) (unhide HS)
        · have hl2 : decide ((nums.length : Int) < 2) = true := decide_eq_true (by omega)
          clear hnf
          go_wp2_with fail
          refine bodyPost_ret (v := .tuple #[.agg #[.int .i64 0, .slice none 0 0], .int .i64 11, .int .i64 n]) (by simp [results, Try.results8, go_sem, r0, r1]) rfl ?_
          exact rpost_fault (code := 11) ((unhide HR).done _ _) (unhide HS)
end Go.Proofs.Ytdcfhdpbpfgohaa

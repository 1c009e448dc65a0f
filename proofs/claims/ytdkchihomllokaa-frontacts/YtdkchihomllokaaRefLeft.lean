/-
  The contract of the document's Left. Conditions: the graph lies in memory as told, its edges' ends are vertices.
-/
import Derived.Test.YtdkchihomllokaaVw
import Derived.Test.YtdkchihomllokaaBx
import Derived.Test.YtdkchihomllokaaPlLeft
import Derived.OwnWalk
namespace Go.Proofs.Ytdkchihomllokaa
open Go.RowKit
set_option linter.unusedVariables false
set_option maxRecDepth 20000

/-- a row of bools that may be written -/
def RowB (w : World) (g n : Nat) (f : Nat → Bool) : Prop := ∃ cur, w.heap[g]? = some (.cells cur 4 (0, 0)) ∧ ∀ t, t < n → cur[t]? = some (.bool (f t))
theorem RowB.cell {w : World} {g n : Nat} {f : Nat → Bool} (h : RowB w g n f) {t : Nat} (ht : t < n) : w.cell? ⟨g, t, none⟩ = some (.bool (f t)) := by
  obtain ⟨cur, h1, h2⟩ := h
  simp [World.cell?, h1, h2 t ht]
theorem RowB.fz {w : World} {g n : Nat} {f : Nat → Bool} (h : RowB w g n f) (o : Nat) : w.frozen? ⟨g, o, none⟩ = false := by
  obtain ⟨cur, h1, h2⟩ := h
  simp [World.frozen?, h1]
theorem RowB.set {w : World} {g n : Nat} {f : Nat → Bool} (h : RowB w g n f) (p : Nat) (v : Bool) : RowB (w.setCell ⟨g, p, none⟩ (.bool v)) g n (fun t => if t = p then v else f t) := by
  obtain ⟨cur, h1, h2⟩ := h
  refine ⟨cur.setIfInBounds p (.bool v), by simp [World.setCell, Array.getElem?_modify, h1], fun t ht => ?_⟩
  rw [Array.getElem?_setIfInBounds]
  have hb := (Array.getElem?_eq_some_iff.1 (h2 t ht)).1
  by_cases htp : t = p
  · subst htp
    simp [hb]
  · rw [if_neg (fun e => htp e.symm)]
    simp [htp, h2 t ht]
theorem RowB.lt {w : World} {g n : Nat} {f : Nat → Bool} (h : RowB w g n f) : g < w.heap.size := by
  obtain ⟨cur, h1, h2⟩ := h
  exact (Array.getElem?_eq_some_iff.1 h1).1
theorem RowB.keep {w w' : World} {g n : Nat} {f : Nat → Bool} (h : RowB w g n f) (he : w'.heap[g]? = w.heap[g]?) : RowB w' g n f := by
  obtain ⟨cur, h1, h2⟩ := h
  exact ⟨cur, by rw [he]; exact h1, h2⟩
theorem RowB.congr {w : World} {g n : Nat} {f f' : Nat → Bool} (h : RowB w g n f) (he : ∀ t, t < n → f t = f' t) : RowB w g n f' := by
  obtain ⟨cur, h1, h2⟩ := h
  exact ⟨cur, h1, fun t ht => by rw [h2 t ht, he t ht]⟩
theorem RowB.of_owns {w : World} {base g n cap : Nat} (h : w.ownsRow base 4 1 (.slice (some ⟨g, 0, none⟩) n cap) n (List.replicate n (.bool false))) : RowB w g n (fun _ => false) := by
  rcases h.2 with ⟨hv, _⟩ | ⟨g', cap', cur, hv, hb, hg, h1, h2, h3, h4⟩
  · cases hv
  · cases hv
    refine ⟨cur, hg, fun t ht => ?_⟩
    have : (cur.toList.take (n * 1))[t]? = (List.replicate n (Value.bool false))[t]? := by rw [h4]
    rw [List.getElem?_take] at this
    simpa [ht] using this

set_option maxHeartbeats 8000000 in
theorem refLeft_any (w : World) (V : Nat) (a : Option Addr) (cap : Nat) (es : List (Nat × Nat)) {B : Nat} (h : Es B w a es.length (toI es)) (hp : Plain V es) :
    Calls Try.prog 70 #[.agg #[.int .i64 V, .slice a es.length cap]] w fun e w' => (∃ g, e = .returned (.slice (some ⟨g, 0, none⟩) V V) ∧ w.heap.size ≤ g ∧ RowB w' g V (Pl.lft es V)) ∧ Below w.heap.size w w' := by
  have hv64 := hp.v64
  have hv1 := hp.v1
  have hn128 := hp.n128
  have HE := hide h
  have HP := hide hp
  obtain ⟨n, hn⟩ : ∃ n, es.length = n := ⟨_, rfl⟩
  have HN := hide hn
  rw [hn] at hn128 ⊢
  obtain ⟨i0, hi0, hz0, hz1, hz2⟩ := info_parts info4
  have HI := hide hi0
  have HZ0 := hide hz0
  have HZ1 := hide hz1
  have hzb : i0.bytes * V ≤ 281474976710656 := by rw [hz2]; omega
  have HB0 := hide (Bg.start w (.int .i64 V) (.slice a n cap))
  clear h hp hn hi0 hz0 hz1 hz2
  go_enter Try.func70, Try.ntmps70
  go_wp2_with (refine wpList_make_full _ rfl (.tmp 10) (.tmp 10) 106 rfl (w.heap.size + 1) 4 i0 (.bool false) 1 Try.underlying106 (unhide HI) (unhide HZ0) (unhide HZ1) .i64 .i64 _ _ V rfl rfl rfl rfl hzb ?m1 ?m2 ?_)
  case m1 => unfold maxLen; omega
  case m2 => simp
  intro w1 hown1 hg1
  rw [toList_madeCells_one] at hown1
  have hg1s := hg1.size
  have HBX1 := hide ((unhide HB0).step ⟨hg1.os, hg1.tape, hg1.output, hg1.size, fun k hk => hg1.block k hk (by simp)⟩)
  have HR1 := hide (RowB.of_owns hown1)
  obtain ⟨g0, g1⟩ := (unhide HBX1).cells
  have hsz1 := (unhide HBX1).lt
  clear hown1 hg1 hg1s
  go_wp2_with fail
  go_loopw [4] (fun i wr => ∃ (k : Nat) (f : Nat → Bool), i = .int .i64 k ∧ k ≤ V ∧ Hid (RowB wr (w.heap.size + 1) V f) ∧ Hid (∀ t, t < k → f t = true) ∧ Hid (Bg w wr (.int .i64 V) (.slice a n cap))) (fun i wr => V - (intOf i).toNat)
  case atStart => exact ⟨0, _, rfl, by omega, HR1, fun t ht => by omega, HBX1⟩
  case round =>
    obtain ⟨k, f, rfl, hk, HF, HK, HBX⟩ := hrel
    obtain ⟨q0, q1⟩ := (unhide HBX).cells
    have hsz := (unhide HBX).lt
    by_cases hlt : k < V
    · have s0 := (unhide HF).cell (t := k) hlt
      have s1 := (unhide HF).fz k
      have hlt2 : (k : Int) < (V : Int) := by omega
      go_wp2_with fail
      go_roundw
      case rel =>
        refine ⟨k + 1, _, by go_num, by omega, (unhide HF).set k true, fun t ht => ?_, ?_⟩
        · by_cases htk : t = k
          · simp [htk]
          · simp only [htk, if_false]
            exact unhide HK t (by omega)
        · exact ⟨(unhide HBX).bel.setCell (p := ⟨w.heap.size + 1, k, none⟩) (Nat.le_succ _) _, by rw [Below.heap_setCell _ _ _ _ (show w.heap.size ≠ w.heap.size + 1 by omega)]; exact (unhide HBX).gb⟩
      case measure => simp [intOf]; omega
    · obtain rfl : k = V := by omega
      have HF0 := hide ((unhide HF).congr (f' := Pl.lft es 0) (fun t ht => unhide HK t ht))
      clear HF HK HR1 HBX1 g0 g1
      go_wp2_with fail
      go_loopw [3, 5] (fun v i wr => ∃ (r g : Nat), i = .int .i64 r ∧ r ≤ k ∧ v = .slice (some ⟨g, 0, none⟩) k k ∧ w.heap.size < g ∧ Hid (RowB wr g k (Pl.lft es r)) ∧ Hid (Bg w wr (.int .i64 k) (.slice a n cap))) (fun v i wr => k - (intOf i).toNat)
      case atStart => exact ⟨0, w.heap.size + 1, rfl, by omega, rfl, by omega, HF0, HBX⟩
      case round =>
        obtain ⟨r, g, rfl, hr, rfl, hg, HF, HBX⟩ := hrel
        clear q0 q1 hsz
        obtain ⟨q0, q1⟩ := (unhide HBX).cells
        have hsz := (unhide HBX).lt
        have hgl := (unhide HF).lt
        by_cases hrk : r < k
        · have hrk2 : (r : Int) < (k : Int) := by omega
          go_wp2_with (refine wpList_make_full _ rfl (.tmp 28) (.tmp 28) 106 rfl (w.heap.size + 1) 4 i0 (.bool false) 1 Try.underlying106 (unhide HI) (unhide HZ0) (unhide HZ1) .i64 .i64 _ _ k rfl rfl rfl rfl hzb ?m3 ?m4 ?_)
          case m3 => unfold maxLen; omega
          case m4 => omega
          intro w4 hown4 hg4
          rw [toList_madeCells_one] at hown4
          have HR4 := hide ((RowB.of_owns hown4).congr (f' := Pl.lftK es (Pl.lft es r) 0) (fun t ht => rfl))
          have HF4 := hide ((unhide HF).keep (hg4.block g hgl (by simp)))
          have HBX4 := hide ((unhide HBX).step ⟨hg4.os, hg4.tape, hg4.output, hg4.size, fun k hk => hg4.block k hk (by simp)⟩)
          have hgw := (unhide HR4).lt
          have hne : g ≠ wr.heap.size := by omega
          have hsw : w.heap.size < wr.heap.size := hsz
          clear hown4 hg4 q0 q1
          obtain ⟨wo, rfl⟩ : ∃ wo, wo = wr := ⟨wr, rfl⟩
          go_wp2_with fail
          go_loopw [7] (fun i wx => ∃ j : Nat, i = .int .i64 j ∧ j ≤ n ∧ Hid (RowB wx wo.heap.size k (Pl.lftK es (Pl.lft es r) j)) ∧ Hid (RowB wx g k (Pl.lft es r)) ∧ Hid (Bg w wx (.int .i64 k) (.slice a n cap))) (fun i wx => n - (intOf i).toNat)
          case atStart => exact ⟨0, rfl, by omega, HR4, HF4, HBX4⟩
          case round =>
            obtain ⟨j, rfl, hj, HX, HF, HBX⟩ := hrel
            obtain ⟨q0, q1⟩ := (unhide HBX).cells
            have hszj := (unhide HBX).lt
            by_cases hjn : j < n
            · obtain ⟨ge, off, ha, hge, e0, e1⟩ := es_at (unhide HE) (i := j) (by rw [unhide HN]; exact hjn)
              have hxyV := (unhide HP).at (i := j) (by rw [unhide HN]; exact hjn)
              have hst := fun t => Pl.lftK_succ es (Pl.lft es r) j t
              obtain ⟨x, y, hxy⟩ : ∃ x y, Pl.at' es j = (x, y) := ⟨_, _, rfl⟩
              rw [hxy] at e0 e1 hxyV
              simp only [hxy] at hst
              obtain ⟨hxV, hyV⟩ := hxyV
              simp only at e0 e1 hxV hyV
              subst ha
              have hbr := (unhide HBX).bel
              have d0 : wr.cell? ⟨ge, off + j * 2, none⟩ = some (.int .i64 (x : Nat)) := by rw [hbr.cell (p := ⟨ge, off + j * 2, none⟩) hge]; exact e0
              have d1 : wr.cell? ⟨ge, off + j * 2 + 1, none⟩ = some (.int .i64 (y : Nat)) := by rw [hbr.cell (p := ⟨ge, off + j * 2 + 1, none⟩) hge]; exact e1
              have l0 := (unhide HF).cell (t := x) hxV
              have l1 := (unhide HF).cell (t := y) hyV
              have hfl := (unhide HF).lt
              have hxl := (unhide HX).lt
              have s0 := (unhide HX).cell (t := y) hyV
              have s1 := (unhide HX).fz y
              have hgs : ge < wr.heap.size := by have := hbr.size; omega
              have HST := hide hst
              have hjn2 : (j : Int) < (n : Int) := by omega
              have hxV2 : (x : Int) < (k : Int) := by omega
              have hyV2 : (y : Int) < (k : Int) := by omega
              have hbox : Below wr.heap.size wr (wr.alloc (.cells #[.int .i64 x, .int .i64 y] 62)) := (Below.refl _ _).alloc (Nat.le_refl _) _
              have HX1 := hide ((unhide HX).keep (hbox.block _ hxl))
              have HF1 := hide ((unhide HF).keep (hbox.block _ hfl))
              have HBX1 := hide ((unhide HBX).step hbox)
              clear hxy hst hbr e0 e1 hbox
              cases hbx : Pl.lft es r x with
              | false =>
                rw [hbx] at l0
                have HB := hide hbx
                go_wp2_with fail
                go_roundw
                case rel =>
                  refine ⟨j + 1, by go_num, by omega, (unhide HX1).congr (fun t ht => ?_), HF1, HBX1⟩
                  rw [unhide HST, unhide HB]
                  simp
                case measure => simp [intOf]; omega
              | true =>
                rw [hbx] at l0
                have HB := hide hbx
                cases hby : Pl.lft es r y with
                | false =>
                  rw [hby] at l1
                  have HB2 := hide hby
                  go_wp2_with fail
                  go_roundw
                  case rel =>
                    refine ⟨j + 1, by go_num, by omega, (unhide HX1).congr (fun t ht => ?_), HF1, HBX1⟩
                    rw [unhide HST, unhide HB2]
                    simp
                  case measure => simp [intOf]; omega
                | true =>
                  rw [hby] at l1
                  have HB2 := hide hby
                  go_wp2_with fail
                  go_roundw
                  case rel =>
                    have hsl : (wr.setCell ⟨wo.heap.size, y, none⟩ (.bool true)).heap.size = wr.heap.size := by simp [World.setCell]
                    refine ⟨j + 1, by go_num, by omega, ?_, ?_, ?_⟩
                    · refine (((unhide HX).set y true).keep (Below.heap_alloc _ _ _ (by rw [hsl]; exact hxl))).congr (fun t ht => ?_)
                      rw [unhide HST, unhide HB, unhide HB2]
                      by_cases hty : t = y
                      · simp [hty]
                      · simp [hty, Ne.symm hty]
                    · exact ((unhide HF).keep (Below.heap_setCell _ ⟨wo.heap.size, y, none⟩ _ _ hne)).keep (Below.heap_alloc _ _ _ (by rw [hsl]; exact hfl))
                    · have hb1 : Bg w (wr.setCell ⟨wo.heap.size, y, none⟩ (.bool true)) (.int .i64 k) (.slice (some ⟨ge, off, none⟩) n cap) := ⟨(unhide HBX).bel.setCell (p := ⟨wo.heap.size, y, none⟩) (Nat.le_of_lt hsw) _, by rw [Below.heap_setCell _ _ _ _ (show w.heap.size ≠ wo.heap.size by omega)]; exact (unhide HBX).gb⟩
                      exact hb1.step ((Below.refl _ _).alloc (Nat.le_refl _) _)
                  case measure => simp [intOf]; omega
            · obtain rfl : j = n := by omega
              go_wp2_with fail
              go_roundw
              case rel =>
                refine ⟨r + 1, wo.heap.size, by go_num, by omega, rfl, hsw, ?_, HBX⟩
                have := unhide HX
                rw [← unhide HN] at this
                exact this
              case measure => simp [intOf]; omega
        · obtain rfl : r = k := by omega
          go_wp2_with fail
          go_ret
          exact ⟨⟨g, rfl, by omega, unhide HF⟩, (unhide HBX).bel⟩
end Go.Proofs.Ytdkchihomllokaa

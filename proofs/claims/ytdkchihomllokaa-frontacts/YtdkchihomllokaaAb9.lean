/-
  The contract of above: what comes into the row above a vertex. Conditions: the front's view lies in memory as told; the edges are some.
-/
import Derived.Test.YtdkchihomllokaaFro
import Derived.Test.YtdkchihomllokaaCli
namespace Go.Proofs.Ytdkchihomllokaa
open Go.RowKit
set_option linter.unusedVariables false
set_option maxRecDepth 20000

def itemAt (es : List (Nat × Nat)) (x : Nat) (i : Nat) : It := ((i : Int), (x : Int), ((Pl.at' es i).2 : Int))
def aboveF (es : List (Nat × Nat)) (x : Nat) (outs : List Nat) : List It := if outs.length = 0 then [(-1, (x : Int), -1)] else outs.map (itemAt es x)
theorem three_i (x y z : Int) : ∀ q ∈ [Value.int .i64 x, Value.int .i64 y, Value.int .i64 z], q.oneCell' = true := by
  intro q hq
  simp only [List.mem_cons, List.not_mem_nil, or_false] at hq
  rcases hq with rfl | rfl | rfl <;> rfl
theorem three_new (w : World) (x y z : Value) (t : TypeId) : ∀ j q, [x, y, z][j]? = some q → (w.alloc (.cells #[x, y, z] t)).cell? ((⟨w.heap.size, 0, none⟩ : Addr).add j) = some q := by
  intro j q hj
  match j, hj with
  | 0, hj => simp at hj; subst hj; simp [Addr.add]
  | 1, hj => simp at hj; subst hj; simp [Addr.add]
  | 2, hj => simp at hj; subst hj; simp [Addr.add]

set_option maxHeartbeats 4000000 in
theorem above_any (w : World) (b V : Nat) (es : List (Nat × Nat)) (s : Fs) (hb1 : w.cell? ⟨b, 1, none⟩ = some (.pointer (some ⟨s.vb, 0, none⟩))) (hD : Sd w V es s) (x : Nat) (outs : List Nat) (oa : Option Addr) (oc : Nat) (hO : Ns w oa outs.length (toIs outs)) (ho : ∀ i ∈ outs, i < es.length) (hol : outs.length ≤ 128) (hm : es.length ≤ 128) :
    Calls Try.prog 38 #[.pointer (some ⟨b, 0, none⟩), .int .i64 (x : Nat), .slice oa outs.length oc] w fun e w' => ItsTold w w' (aboveF es x outs) e ∧ Below w.heap.size w w' := by
  obtain ⟨n, hn⟩ : ∃ n, outs.length = n := ⟨_, rfl⟩
  have hbl : b < w.heap.size := World.block_lt_of_cell? w _ hb1
  by_cases h0 : n = 0
  · rw [show aboveF es x outs = [(-1, (x : Int), -1)] by unfold aboveF; rw [if_pos (by omega)], hn, h0]
    clear hD hO ho
    go_enter Try.func38, Try.ntmps38
    go_wp2_with fail
    go_ret
    refine ⟨⟨_, rfl, ?_⟩, (Below.refl _ _).alloc (Nat.le_refl _) _⟩
    exact World.ownsRow_lit (size := 3) w #[.int .i64 (-1), .int .i64 (x : Nat), .int .i64 (-1)] 1 (Nat.le_refl _) (by unfold maxLen; omega) (by simp)
  have hq1 := hD.view.c1
  have hvl := hD.view.lt
  have HE := hide hD.view.edges
  have HO := hide hO
  have HOE := hide (show ∀ k, k < n → outs.getD k 0 < es.length from fun k hk => ho _ (by rw [List.getD_eq_getElem?_getD, List.getElem?_eq_getElem (show k < outs.length by omega)]; exact List.getElem_mem _))
  have HA := hide (show aboveF es x outs = outs.map (itemAt es x) by unfold aboveF; rw [if_neg (by omega)])
  obtain ⟨i0, hi0, hz0, hz1, hz2⟩ := info_parts info72
  have HI := hide hi0
  have HZ0 := hide hz0
  have HZ1 := hide hz1
  have HZ2 := hide hz2
  obtain ⟨al, hal⟩ : ∃ al, outs.map (itemAt es x) = al := ⟨_, rfl⟩
  have HAL := hide hal
  clear hal
  have hn0 : ((n : Int) == 0) = false := by rw [beq_eq_false_iff_ne]; omega
  have HN := hide hn
  rw [hn] at hol ⊢
  obtain ⟨m, hme⟩ : ∃ m, es.length = m := ⟨_, rfl⟩
  have HM := hide hme
  rw [hme] at hq1 hm
  clear hi0 hz0 hz1 hz2 hD hO ho hn hme
  go_enter Try.func38, Try.ntmps38
  go_wp2_with fail
  go_loopw [7, 18] (fun v i wr => ∃ k : Nat, i = .int .i64 k ∧ k ≤ n ∧ Hid (wr.ownsRow w.heap.size 72 3 v k (icells (al.take k))) ∧ Hid (Below w.heap.size w wr)) (fun v i wr => n - (intOf i).toNat)
  case atStart => exact ⟨0, rfl, by omega, World.ownsRow_nil _ _ _ _, Below.refl _ _⟩
  case round =>
    obtain ⟨k, rfl, hk, HOW, HB⟩ := hrel
    have hsz := (unhide HB).size
    by_cases hlt : k < n
    · obtain ⟨g, off, ha, hg, c0⟩ := (unhide HO).2.2 k (by rw [unhide HN]; exact hlt)
      rw [toIs_getD] at c0
      have hie := unhide HOE k hlt
      have HTK := hide (show al.take (k + 1) = al.take k ++ [itemAt es x (outs.getD k 0)] by rw [← unhide HAL, List.take_add_one, List.getElem?_map, List.getElem?_eq_getElem (show k < outs.length by rw [unhide HN]; exact hlt), List.getD_eq_getElem?_getD, List.getElem?_eq_getElem (show k < outs.length by rw [unhide HN]; exact hlt)]; rfl)
      obtain ⟨i, hi⟩ : ∃ i, outs.getD k 0 = i := ⟨_, rfl⟩
      rw [hi] at c0 hie HTK
      obtain ⟨ge, offe, hea, hge, k0, k1⟩ := es_at (unhide HE) hie
      subst ha
      have HIT := hide (show itemAt es x i = ((i : Int), (x : Int), ((Pl.at' es i).2 : Int)) from rfl)
      generalize (Pl.at' es i).2 = y at k1 HIT
      have d0 : wr.cell? ⟨g, off + k, none⟩ = some (.int .i64 (i : Nat)) := by rw [(unhide HB).cell (p := ⟨g, off + k, none⟩) hg]; exact c0
      have d1 : wr.cell? ⟨ge, offe + i * 2 + 1, none⟩ = some (.int .i64 (y : Nat)) := by rw [(unhide HB).cell (p := ⟨ge, offe + i * 2 + 1, none⟩) hge]; exact k1
      have d2 : wr.cell? ⟨b, 1, none⟩ = some (.pointer (some ⟨s.vb, 0, none⟩)) := by rw [(unhide HB).cell (p := ⟨b, 1, none⟩) hbl]; exact hb1
      have d3 : wr.cell? ⟨s.vb, 1, none⟩ = some (.slice (some ⟨ge, offe, none⟩) m s.ec) := by rw [(unhide HB).cell (p := ⟨s.vb, 1, none⟩) hvl, hq1, hea]
      rw [unhide HM] at hie
      have hkn : (k : Int) < (n : Int) := by omega
      have him : (i : Int) < (m : Int) := by omega
      have hwk : IntKind.i64.wrap ((k : Int) + 1) = (k : Int) + 1 := by rw [IntKind.wrap_i64]; omega
      have hk128 : k ≤ 128 := by omega
      clear c0 k0 k1 hi hea hie
      go_wp2_with (at_builtin; refine wpList_append_own _ rfl (.tmp 22) (.tmp 38) 33 rfl w.heap.size 72 i0 (.agg #[.int .i64 0, .int .i64 0, .int .i64 0]) 3 24 Try.underlying33 (unhide HI) (unhide HZ0) (unhide HZ1) (unhide HZ2) rfl (by decide) _ k _ rfl ((unhide HOW).alloc _) ⟨wr.heap.size, 0, none⟩ 1 1 [.int .i64 i, .int .i64 x, .int .i64 y] rfl rfl (three_new wr _ _ _ _) (three_i _ _ _) ?a3 ?a4 ?a5 ?_)
      case a3 => unfold maxLen; omega
      case a4 => omega
      case a5 => simp; omega
      intro v2 w4 hown4 hg4 _
      have HO4 := hide hown4
      have HB4 := hide (((unhide HB).alloc hsz _).grown hg4 (by simp; omega) fun j hj => ((unhide HOW).lt j hj).1)
      clear hown4 hg4
      go_wp2_with fail
      go_roundw
      case rel =>
        refine ⟨k + 1, by go_num, by omega, ?_, HB4⟩
        rw [unhide HTK, unhide HIT, ← icells_snoc]
        exact unhide HO4
      case measure => simp [intOf]; omega
    · obtain rfl : k = n := by omega
      go_wp2_with fail
      go_ret
      refine ⟨⟨_, rfl, ?_⟩, unhide HB⟩
      have := unhide HOW
      rw [unhide HA, unhide HAL]
      have hl : al.length = k := by rw [← unhide HAL, List.length_map]; exact unhide HN
      rw [hl]
      rw [show al.take k = al by rw [← hl]; exact List.take_length] at this
      exact this
end Go.Proofs.Ytdkchihomllokaa


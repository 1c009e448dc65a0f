/-
  The contracts of slices.Compact at a row of its own, and of block.ends: the ends of edges, rising. Conditions: the graph and the edges' numbers lie in memory as told.
-/
import Derived.Test.YtbecmaandhadhaaSr
import Derived.Test.YtbecmaandhadhaaCm
namespace Go.Proofs.Ytbecmaandhadhaa
open Go.RowKit Go.Sort
set_option linter.unusedVariables false
set_option maxRecDepth 20000

theorem compact_le (zs : List Int) : (Lib.compact zs).length ≤ zs.length := by
  unfold Lib.compact Lib.compactUpTo
  rw [List.length_map]
  have := List.length_filter_le (Lib.keeps zs.toArray) (List.range zs.length)
  simpa using this
/-- the first cells of a row that was written -/
theorem owns_put {w : World} {base g cap q : Nat} {cur : Array Value} {zs ys : List Int} (hbase : base ≤ g) (hg : w.heap[g]? = some (.cells cur 3 (0, 0))) (h1 : zs.length ≤ cap) (h2 : cap ≤ maxLen) (h3 : cur.size = cap * 1) (hy : ys.length ≤ zs.length) :
    (putRow (Value.int .i64) (Sort.ahead w q) g 0 (ys ++ List.replicate (zs.length - ys.length) 0).toArray).ownsRow base 3 1 (.slice (some ⟨g, 0, none⟩) ys.length cap) ys.length (zcells ys) ∧ w.grownBy (putRow (Value.int .i64) (Sort.ahead w q) g 0 (ys ++ List.replicate (zs.length - ys.length) 0).toArray) (some g) := by
  have hheap : (putRow (Value.int .i64) (Sort.ahead w q) g 0 (ys ++ List.replicate (zs.length - ys.length) 0).toArray).heap[g]? = some (.cells (putCells (Value.int .i64) 0 (ys ++ List.replicate (zs.length - ys.length) 0).toArray cur) 3 (0, 0)) := by
    simp [putRow, mapBlock, Sort.ahead, Array.getElem?_modify, hg, onCells]
  refine ⟨⟨by simp [zcells], .inr ⟨g, cap, _, rfl, hbase, hheap, by omega, h2, by simp [putCells, h3], ?_⟩⟩, ⟨rfl, rfl, rfl, by simp [putRow, mapBlock, Sort.ahead], fun k hk hne => ?_⟩⟩
  · rw [Nat.mul_one]
    apply List.ext_getElem?
    intro j
    by_cases hj : j < ys.length
    · rw [List.getElem?_take_of_lt hj, Array.getElem?_toList]
      have h5 : j < cur.size := by omega
      have h6 : j < ys.length + (zs.length - ys.length) := by omega
      simp [putCells, h5, h6, zcells, hj]
    · rw [List.getElem?_take_eq_none (by omega), List.getElem?_eq_none (by simp [zcells]; omega)]
  · have : g ≠ k := fun e => hne (by rw [e])
    simp [putRow, mapBlock, Sort.ahead, Array.getElem?_modify, this]
theorem compact_row (w : World) (base g n cap : Nat) (zs : List Int) (ho : w.ownsRow base 3 1 (.slice (some ⟨g, 0, none⟩) n cap) n (zcells zs)) (hn : n ≤ 1000) :
    Calls Try.prog 51 #[.slice (some ⟨g, 0, none⟩) n cap] w fun e w' => e = .returned (.slice (some ⟨g, 0, none⟩) (Lib.compact zs).length cap) ∧ w'.ownsRow base 3 1 (.slice (some ⟨g, 0, none⟩) (Lib.compact zs).length cap) (Lib.compact zs).length (zcells (Lib.compact zs)) ∧ w.grownBy w' (some g) := by
  have hl : zs.length = n := by have := ho.1; simpa [zcells] using this
  rcases ho.2 with ⟨h0, _⟩ | ⟨g', cap', cur, hv, hbase, hg, h1, h2, h3, h4⟩
  · cases h0
  · simp only [Value.slice.injEq, Option.some.injEq, Addr.mk.injEq, and_true, true_and] at hv
    obtain ⟨rfl, rfl⟩ := hv
    have hH : Holds (Value.int .i64) w g 0 zs.toArray := holds_of_blockI hg (by rw [hl]; simpa [zcells] using h4)
    have hcon := Any.slices_Compact_int Try.lays51 g 0 cap zs w hH (by omega) (by omega)
    rw [hl] at hcon
    refine Calls.mono (show Calls Try.prog 51 _ _ _ from hcon) ?_
    rintro e w' ⟨rfl, q, rfl⟩
    have := owns_put (q := q) (zs := zs) (ys := Lib.compact zs) hbase hg (by omega) h2 h3 (compact_le zs)
    rw [hl] at this
    exact ⟨rfl, this.1, this.2⟩

theorem two_ints (x y : Nat) : ∀ u ∈ [Value.int .i64 (x : Int), Value.int .i64 (y : Int)], u.oneCell' = true := by
  intro u hu
  simp at hu
  rcases hu with rfl | rfl <;> rfl

set_option maxHeartbeats 8000000 in
theorem ends_any (w : World) (V : Nat) (a : Option Addr) (cap : Nat) (es : List (Nat × Nat)) {B0 : Nat} (h : Es B0 w a es.length (toI es)) (hp : Plain V es) (ba : Option Addr) (bc : Nat) (B : List Nat) (hB : Ns w ba B.length (toIs B)) (hBm : ∀ i ∈ B, i < es.length) (hBn : B ≠ []) (hBl : B.length ≤ 128) :
    Calls Try.prog 34 #[.agg #[.int .i64 V, .slice a es.length cap], .slice ba B.length bc] w fun e w' => (∃ g c, e = .returned (.slice (some ⟨g, 0, none⟩) (endsOf V es B).length c) ∧ w'.ownsRow w.heap.size 3 1 (.slice (some ⟨g, 0, none⟩) (endsOf V es B).length c) (endsOf V es B).length (zcells (toIs (endsOf V es B)))) ∧ Below w.heap.size w w' := by
  have hn128 := hp.n128
  have hv64 := hp.v64
  have HE := hide h
  have HP := hide hp
  have HB := hide hB
  have HM := hide hBm
  have HNE := hide hBn
  have HB0 := hide (show Below w.heap.size w (w.alloc (.cells #[.int .i64 V, .slice a es.length cap] 24)) from (Below.refl _ _).alloc (Nat.le_refl _) _)
  obtain ⟨i0, hi0, hz0, hz1, hz2⟩ := info_parts info3
  have HI := hide hi0
  have HZ0 := hide hz0
  have HZ1 := hide hz1
  have HZ2 := hide hz2
  obtain ⟨m, hm⟩ : ∃ m, B.length = m := ⟨_, rfl⟩
  rw [hm] at hBl
  rw [hm]
  have HMM := hide hm
  clear h hp hB hBm hBn hi0 hz0 hz1 hz2 hm
  go_enter Try.func34, Try.ntmps34
  go_wp2_with fail
  go_loopw [5, 10] (fun v i wr => ∃ k : Nat, i = .int .i64 k ∧ k ≤ m ∧ Hid (wr.ownsRow (w.heap.size + 1) 3 1 v (k * 2) (zcells (toIs (evs es (B.take k))))) ∧ Hid (Below (w.heap.size + 1) (w.alloc (.cells #[.int .i64 V, .slice a es.length cap] 24)) wr)) (fun v i wr => m - (intOf i).toNat)
  case atStart => exact ⟨0, rfl, by omega, World.ownsRow_nil _ _ _ _, Below.refl _ _⟩
  case round =>
    obtain ⟨k, rfl, hk, HO, HL⟩ := hrel
    have hszr : w.heap.size + 1 ≤ wr.heap.size := by have := (unhide HL).size; simpa using this
    by_cases hlt : k < m
    · have hkB : k < B.length := by rw [unhide HMM]; exact hlt
      obtain ⟨gB, oB, hba, hgB, r0⟩ := ns_at (unhide HB) hkB
      subst hba
      obtain ⟨i, hi⟩ : ∃ i, B.getD k 0 = i := ⟨_, rfl⟩
      rw [hi] at r0
      have hil : i < es.length := unhide HM i (by rw [← hi]; simp [List.getD, hkB])
      obtain ⟨gE, oE, ha, hgE, r1, r2⟩ := es_at (unhide HE) hil
      subst ha
      have hends := (unhide HP).at hil
      obtain ⟨x, y, hxy⟩ : ∃ x y, Pl.at' es i = (x, y) := ⟨_, _, rfl⟩
      rw [hxy] at r1 r2 hends
      simp only at r1 r2 hends
      have hold : ∀ p : Addr, p.block < w.heap.size → wr.cell? p = w.cell? p := fun p hpb => cell_box (unhide HL) hpb
      have s0 : wr.cell? ⟨gB, oB + k, none⟩ = some (.int .i64 (i : Nat)) := by rw [hold _ hgB]; exact r0
      have s1 : wr.cell? ⟨gE, oE + i * 2, none⟩ = some (.int .i64 (x : Nat)) := by rw [hold _ hgE]; exact r1
      have s2 : wr.cell? ⟨gE, oE + i * 2 + 1, none⟩ = some (.int .i64 (y : Nat)) := by rw [hold _ hgE]; exact r2
      have s3 : wr.cell? ⟨w.heap.size, 1, none⟩ = some (.slice (some ⟨gE, oE, none⟩) es.length cap) := by rw [(unhide HL).cell (p := ⟨w.heap.size, 1, none⟩) (Nat.lt_succ_self _)]; simp
      have HEV := hide (show evs es (B.take (k + 1)) = evs es (B.take k) ++ [x, y] by
        rw [List.take_add_one, show B[k]?.toList = [i] by rw [← hi]; simp [List.getD, hkB], evs_snoc, hxy])
      have HCS := hide (show ∀ u : World, Below (w.heap.size + 1) (w.alloc (.cells #[.int .i64 V, .slice (some ⟨gE, oE, none⟩) es.length cap] 24)) u → u.cell? ⟨w.heap.size, 1, none⟩ = some (.slice (some ⟨gE, oE, none⟩) es.length cap) ∧ u.cell? ⟨gE, oE + i * 2, none⟩ = some (.int .i64 (x : Nat)) ∧ u.cell? ⟨gE, oE + i * 2 + 1, none⟩ = some (.int .i64 (y : Nat)) from fun u hu =>
        ⟨by rw [hu.cell (p := ⟨w.heap.size, 1, none⟩) (Nat.lt_succ_self _)]; simp, by rw [cell_box hu (p := ⟨gE, oE + i * 2, none⟩) hgE]; exact r1, by rw [cell_box hu (p := ⟨gE, oE + i * 2 + 1, none⟩) hgE]; exact r2⟩)
      have hlt2 : (k : Int) < (m : Int) := by omega
      have hil2 : (i : Int) < (es.length : Int) := by omega
      have hb63 : k * 2 + 2 ≤ maxLen := by unfold maxLen; omega
      have hbby : (k * 2 + 2) * 8 ≤ 140737488355328 := by omega
      clear hold hi hxy r0 r1 r2 hkB
      go_upto_region 5 with fail
      have HLD := hide (show Below (w.heap.size + 1) (w.alloc (.cells #[.int .i64 V, .slice (some ⟨gE, oE, none⟩) es.length cap] 24)) wr.drew from (unhide HL).drew)
      have HOD := hide (show wr.drew.ownsRow (w.heap.size + 1) 3 1 u5 (k * 2) (zcells (toIs (evs es (B.take k)))) from (unhide HO).drew)
      have hsd : wr.drew.heap.size = wr.heap.size := rfl
      refine wp_region_held_drew (S := fun u => u.cell? ⟨w.heap.size, 1, none⟩ = some (.slice (some ⟨gE, oE, none⟩) es.length cap) ∧ u.cell? ⟨gE, oE + i * 2, none⟩ = some (.int .i64 (x : Nat)) ∧ u.cell? ⟨gE, oE + i * 2 + 1, none⟩ = some (.int .i64 (y : Nat))) (by kernel_rfl) ⟨s3, s1, s2⟩ (fun hS => ?_)
      clear s0 s1 s2 s3 HO HL
      have hszd : w.heap.size + 1 ≤ wr.drew.heap.size := hszr
      generalize wr.drew = wd at HLD HOD hS hszd hsd ⊢
      clear hsd
      refine wpAnyH_take (i := 0) (v := ?_) rfl (by kernel_rfl) (by kernel_rfl) (by kernel_rfl) (fun _ _ _ h => h) (Or.inl ⟨by rfl, ?_⟩) hS ?_
      rotate_left
      · intro u hu; (try dsimp only at hu); go_simp; try with_reducible rfl
      simp only [Act.put, List.getElem_toArray, List.getElem_cons_zero, List.setIfInBounds_toArray, List.set_cons_zero, List.set_cons_succ]
      refine wpAnyH_take (i := 1) (v := ?_) rfl (by kernel_rfl) (by kernel_rfl) (by kernel_rfl) (fun _ _ _ h => h) (Or.inl ⟨by rfl, ?_⟩) hS ?_
      rotate_left
      · intro u hu; (try dsimp only at hu); go_simp; try with_reducible rfl
      simp only [Act.put, List.getElem_toArray, List.getElem_cons_zero, List.getElem_cons_succ, List.setIfInBounds_toArray, List.set_cons_zero, List.set_cons_succ]
      refine wpAnyH_take (i := 2) (v := ?_) rfl (by kernel_rfl) (by kernel_rfl) (by kernel_rfl) (fun _ _ _ h => h) (Or.inl ⟨by rfl, ?_⟩) hS ?_
      rotate_left
      · intro u hu; (try dsimp only at hu); go_simp; try with_reducible rfl
      simp only [Act.put, List.getElem_toArray, List.getElem_cons_zero, List.getElem_cons_succ, List.setIfInBounds_toArray, List.set_cons_zero, List.set_cons_succ]
      refine wpAnyH_take (i := 3) (v := ?_) rfl (by kernel_rfl) (by kernel_rfl) (by kernel_rfl) (fun _ _ _ h => h) (Or.inl ⟨by rfl, ?_⟩) hS ?_
      rotate_left
      · intro u hu; (try dsimp only at hu); go_simp; try with_reducible rfl
      simp only [Act.put, List.getElem_toArray, List.getElem_cons_zero, List.getElem_cons_succ, List.setIfInBounds_toArray, List.set_cons_zero, List.set_cons_succ]
      refine wpAnyH_take (i := 4) (v := ?_) rfl (by kernel_rfl) (by kernel_rfl) (by kernel_rfl) (fun _ _ _ h => h) (Or.inl ⟨by rfl, ?_⟩) hS ?_
      rotate_left
      · intro u hu; (try dsimp only at hu); go_simp; try with_reducible rfl
      simp only [Act.put, List.getElem_toArray, List.getElem_cons_zero, List.getElem_cons_succ, List.setIfInBounds_toArray, List.set_cons_zero, List.set_cons_succ]
      refine wpAnyH_take (i := 5) (v := ?_) rfl (by kernel_rfl) (by kernel_rfl) (by kernel_rfl) (fun _ _ _ h => h) (Or.inl ⟨by rfl, ?_⟩) hS ?_
      rotate_left
      · intro u hu; (try dsimp only at hu); go_simp; try with_reducible rfl
      simp only [Act.put, List.getElem_toArray, List.getElem_cons_zero, List.getElem_cons_succ, List.setIfInBounds_toArray, List.set_cons_zero, List.set_cons_succ]
      refine wpAnyH_take (i := 6) (v := ?_) rfl (by kernel_rfl) (by kernel_rfl) (by kernel_rfl) (fun _ _ _ h => h) (Or.inl ⟨by rfl, ?_⟩) hS ?_
      rotate_left
      · intro u hu; (try dsimp only at hu); go_simp; try with_reducible rfl
      simp only [Act.put, List.getElem_toArray, List.getElem_cons_zero, List.getElem_cons_succ, List.setIfInBounds_toArray, List.set_cons_zero, List.set_cons_succ]
      refine wpAnyH_take (i := 7) (v := ?_) rfl (by kernel_rfl) (by kernel_rfl) (by kernel_rfl) (fun _ _ _ h => h) (Or.inl ⟨by rfl, ?_⟩) hS ?_
      rotate_left
      · intro u hu; (try dsimp only at hu); go_simp; try with_reducible rfl
      simp only [Act.put, List.getElem_toArray, List.getElem_cons_zero, List.getElem_cons_succ, List.setIfInBounds_toArray, List.set_cons_zero, List.set_cons_succ]
      refine wpAnyH_take (i := 8) (v := ?_) rfl (by kernel_rfl) (by kernel_rfl) (by kernel_rfl) (fun _ _ _ h => h) (Or.inl ⟨by rfl, ?_⟩) hS ?_
      rotate_left
      · intro u hu; (try dsimp only at hu); go_simp; try with_reducible rfl
      simp only [Act.put, List.getElem_toArray, List.getElem_cons_zero, List.getElem_cons_succ, List.setIfInBounds_toArray, List.set_cons_zero, List.set_cons_succ]
      refine wpAnyH_take (i := 9) (v := ?_) rfl (by kernel_rfl) (by kernel_rfl) (by kernel_rfl) (fun _ _ _ h => h) (Or.inl ⟨by rfl, ?_⟩) hS ?_
      rotate_left
      · intro u hu; (try dsimp only at hu); go_simp; try with_reducible rfl
      simp only [Act.put, List.getElem_toArray, List.getElem_cons_zero, List.getElem_cons_succ, List.setIfInBounds_toArray, List.set_cons_zero, List.set_cons_succ]
      refine wpAnyH_take (i := 10) (v := ?_) rfl (by kernel_rfl) (by kernel_rfl) (by kernel_rfl) (fun _ _ _ h => h) (Or.inl ⟨by rfl, ?_⟩) hS ?_
      rotate_left
      · intro u hu; (try dsimp only at hu); go_simp; try with_reducible rfl
      simp only [Act.put, List.getElem_toArray, List.getElem_cons_zero, List.getElem_cons_succ, List.setIfInBounds_toArray, List.set_cons_zero, List.set_cons_succ]
      refine wpAnyH_take (i := 11) (v := ?_) rfl (by kernel_rfl) (by kernel_rfl) (by kernel_rfl) (fun _ _ _ h => h) (Or.inl ⟨by rfl, ?_⟩) hS ?_
      rotate_left
      · intro u hu; (try dsimp only at hu); go_simp; try with_reducible rfl
      simp only [Act.put, List.getElem_toArray, List.getElem_cons_zero, List.getElem_cons_succ, List.setIfInBounds_toArray, List.set_cons_zero, List.set_cons_succ]
      refine wpAnyH_take (i := 12) (v := ?_) rfl (by kernel_rfl) (by kernel_rfl) (by kernel_rfl) (fun _ _ _ h => h) (Or.inl ⟨by rfl, ?_⟩) hS ?_
      rotate_left
      · intro u hu; (try dsimp only at hu); go_simp; try with_reducible rfl
      simp only [Act.put, List.getElem_toArray, List.getElem_cons_zero, List.getElem_cons_succ, List.setIfInBounds_toArray, List.set_cons_zero, List.set_cons_succ]
      refine wpAnyH_ready (rs := [13]) (by kernel_rfl) (by simp) ?_
      refine AllReadyH.cons rfl (fun K hK => ?_) AllReadyH.nil
      go_simp
      have HLW := hide (show Below (w.heap.size + 1) (w.alloc (.cells #[.int .i64 V, .slice (some ⟨gE, oE, none⟩) es.length cap] 24)) (wd.alloc (.cells #[.int .i64 (x : Int), .int .i64 (y : Int)] 3)) from (unhide HLD).alloc hszd _)
      have HOW := hide ((unhide HOD).alloc (.cells #[.int .i64 (x : Int), .int .i64 (y : Int)] 3))
      have HWN := hide (show (wd.alloc (.cells #[.int .i64 (x : Int), .int .i64 (y : Int)] 3)).heap[wd.heap.size]? = some (.cells #[.int .i64 (x : Int), .int .i64 (y : Int)] 3 (0, 0)) from (MapKept.heap_alloc wd _).1)
      have hszw : w.heap.size + 1 ≤ (wd.alloc (.cells #[.int .i64 (x : Int), .int .i64 (y : Int)] 3)).heap.size := by simp; omega
      refine hK.out _ _ (unhide HCS _ (unhide HLW)) (fun hS2 => ?_)
      clear hK K hS HLD HOD
      generalize wd.alloc (.cells #[.int .i64 (x : Int), .int .i64 (y : Int)] 3) = W at HLW HOW HWN hS2 hszw ⊢
      refine wpAnyH_ready (rs := [14]) (by kernel_rfl) (by simp) ?_
      refine AllReadyH.cons rfl (fun K hK => ?_) AllReadyH.nil
      refine step_append_lies _ rfl (.tmp 14) (.tmp 27) 29 rfl (w.heap.size + 1) 3 i0 (.int .i64 0) 1 8 Try.underlying29 (unhide HI) (unhide HZ0) (unhide HZ1) (unhide HZ2) rfl (by decide) u5 (k * 2) (zcells (toIs (evs es (B.take k)))) rfl (unhide HOW) ⟨wd.heap.size, 0, none⟩ 2 2 [.int .i64 (x : Int), .int .i64 (y : Int)] rfl rfl (World.news_of_block (unhide HWN)) (two_ints x y) (by decide) hb63 hbby hszw _ rfl ?_
      intro g2 cap2 w4 hown4 hg4 hat4 hlt4
      have HO4 := hide (show w4.ownsRow (w.heap.size + 1) 3 1 (.slice (some ⟨g2, 0, none⟩) (k * 2 + 2) cap2) (k * 2 + 2) (zcells (toIs (evs es (B.take (k + 1))))) by
        rw [unhide HEV]
        have : zcells (toIs (evs es (B.take k) ++ [x, y])) = zcells (toIs (evs es (B.take k))) ++ [.int .i64 (x : Int), .int .i64 (y : Int)] := by simp [zcells, toIs]
        rw [this]
        exact hown4)
      have HL4 := hide ((unhide HLW).grown hg4 hszw fun j hj => ((unhide HOW).lt j hj).1)
      refine hK.out _ _ (unhide HCS _ (unhide HL4)) (fun hS3 => ?_)
      clear hK K hS2 hown4 hg4 hat4 HOW HLW
      refine wpAnyH_take (i := 15) (v := ?_) rfl (by kernel_rfl) (by kernel_rfl) (by kernel_rfl) (fun _ _ _ h => h) (Or.inl ⟨by rfl, ?_⟩) hS3 ?_
      rotate_left
      · intro u hu; (try dsimp only at hu); go_simp; try with_reducible rfl
      simp only [Act.put, List.getElem_toArray, List.getElem_cons_zero, List.getElem_cons_succ, List.setIfInBounds_toArray, List.set_cons_zero, List.set_cons_succ]
      refine wpAnyH_done (by kernel_rfl) ?_ _
      clear hS3
      go_wp2_with fail
      go_roundw
      case rel => exact ⟨k + 1, by go_num, by omega, by rw [show (k + 1) * 2 = k * 2 + 2 by omega]; exact HO4, HL4⟩
      case measure => simp [intOf]; omega
    · obtain rfl : k = m := by omega
      have hkB : B.length = k := unhide HMM
      have ho := unhide HO
      rw [show B.take k = B by rw [← hkB]; exact List.take_length] at ho
      have hel : (evs es B).length = k * 2 := by rw [evs_len, hkB]
      have hkpos : 0 < k := by rw [← hkB]; exact List.length_pos_iff.2 (unhide HNE)
      obtain ⟨gv, cv, hv, _, _⟩ := ho.form (by omega)
      subst hv
      have hne2 : evs es B ≠ [] := by
        intro e
        rw [e] at hel
        simp at hel
        omega
      have HSR := hide (sort_any wr (w.heap.size + 1) (.slice (some ⟨gv, 0, none⟩) (k * 2) cv) (evs es B) (by rw [hel]; exact ho) (by omega) hne2)
      rw [hel] at HSR
      have hbd : ∀ x ∈ evs es B, x < V := by
        intro x hx
        obtain ⟨i, hi, hx2⟩ := hasAt_iff.1 (mem_evs.1 hx)
        have := (unhide HP).at (unhide HM i hi)
        rcases hx2 with h2 | h2 <;> omega
      have HCP := hide (ends_compact hbd)
      clear ho hne2 hbd HO
      go_wp2_with fail
      refine (unhide HSR).mono ?_
      rintro en w5 ⟨rfl, ho5, hg5⟩
      have HO5 := hide ho5
      have HL5 := hide ((unhide HL).grown hg5 hszr fun j hj => by simp [Value.ownBlock] at hj; subst hj; have := ho5.lt gv rfl; exact this.1)
      have hsz5 : w.heap.size + 1 ≤ w5.heap.size := Nat.le_trans hszr hg5.size
      clear ho5 hg5 HSR
      go_wp2_with fail
      refine (compact_row w5 (w.heap.size + 1) gv (k * 2) cv (toIs (srt (evs es B))) (unhide HO5) (by omega)).mono ?_
      rintro en w6 ⟨rfl, ho6, hg6⟩
      have hl6 := endsOf_len V es B
      rw [unhide HCP, toIs_length] at ho6
      have HO6 := hide ho6
      have HL6 := hide ((unhide HL5).grown hg6 hsz5 fun j hj => by have := Option.some.inj hj; subst this; exact ((unhide HO5).lt gv rfl).1)
      have HLE := hide (show (Lib.compact (toIs (srt (evs es B)))).length = (endsOf V es B).length by rw [unhide HCP, toIs_length])
      rw [unhide HLE]
      clear ho6 hg6
      go_wp2_with fail
      go_ret
      exact ⟨⟨gv, cv, rfl, owns_mono (unhide HO6) (by omega)⟩, (unhide HB0).trans ((unhide HL6).mono (by omega))⟩
end Go.Proofs.Ytbecmaandhadhaa


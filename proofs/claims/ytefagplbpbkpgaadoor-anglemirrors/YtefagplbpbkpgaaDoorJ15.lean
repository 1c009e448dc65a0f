/-
  The document's example, one edge: plain mathematics. No conditions.
-/
import Derived.Test.YtefagplbpbkpgaaDoorJ13
import Derived.Test.YtefagplbpbkpgaaDoorJ14
import Derived.Test.YtefagplbpbkpgaaDoorJ12
namespace Go.Proofs.YtefagplbpbkpgaaDoor
set_option linter.unusedVariables false
set_option maxRecDepth 20000
def es1 : List (Nat × Nat) := [(0, 1)]
def q1 : List (List Nat) := [[0], [1]]
theorem plain1 : pt.Plain 2 es1 := ⟨by decide, by decide, by decide, by decide⟩
theorem yes1 : IsRot 2 1 (toI es1) (rowsI q1) := by
  refine ⟨⟨by decide, by decide, by decide, fun k hk => ?_⟩, by decide, ?_, ?_, ?_⟩
  · obtain rfl : k = 0 := by omega
    exact ⟨by decide, by decide, by decide, by decide⟩
  · intro x hx
    have hx' : x < 2 := hx
    obtain rfl | rfl : x = 0 ∨ x = 1 := by omega
    · decide
    · decide
  · decide
  · decide
theorem ro1 : pt.Ro 2 es1 q1 := by
  refine ⟨rfl, ?_, ?_, ?_, ?_, ?_⟩
  · intro i hi; obtain rfl : i = 0 := by simp [es1] at hi; exact hi
    decide
  · intro x hx; obtain rfl | rfl : x = 0 ∨ x = 1 := by omega
    · decide
    · decide
  · intro x hx; obtain rfl | rfl : x = 0 ∨ x = 1 := by omega
    · decide
    · decide
  · intro x hx; obtain rfl | rfl : x = 0 ∨ x = 1 := by omega
    · decide
    · decide
  · intro h hh
    have : h < 2 := hh
    obtain rfl | rfl : h = 0 ∨ h = 1 := by omega
    · exact ⟨0, by decide, by decide⟩
    · exact ⟨1, by decide, by decide⟩
def N1 : Nat → Nat := pt.nxF es1 q1
theorem nx1 : Behind q1 N1 := pt.nx_behind ro1
theorem n10 : N1 0 = 1 := by decide
theorem n11 : N1 1 = 0 := by decide
theorem cyc1 : cyc N1 2 = 1 := by decide
theorem ord1 : (Pl.order 2 es1).length = 2 := by decide
theorem cnt1 {c : Nat} (h : pt.IsCnt 2 es1 c) : c = 1 := by
  obtain ⟨g, hg⟩ := pt.euler ro1 nx1 (pt.nx_pm ro1 nx1) h
  have h1 : cyc N1 (2 * es1.length) = 1 := cyc1
  have h2 : ((List.range 2).filter fun x => decide (q1.getD x [] = [])).length = 0 := by decide
  have h3 : es1.length = 1 := rfl
  rw [h1, h2, h3] at hg
  have hle : c ≤ 1 := by
    obtain ⟨r, hr, rfl⟩ := h
    refine nodup_le 1 _ (List.nodup_range.sublist List.filter_sublist) fun v hv => ?_
    rw [List.mem_filter, List.mem_range] at hv
    obtain rfl | rfl : v = 0 ∨ v = 1 := by omega
    · decide
    · have := ((hr 1 (by decide)).1 hv.2).2 0 (by decide)
      exact absurd (pt.Star.refl.step (pt.bd0.2 (.inr (by decide)))) this
  omega
section
variable {F : Nat → Nat}
theorem fl1 : (facesF N1 2 2).length = 1 := by rw [cyc_faces]; exact cyc1
theorem f1 (hF : IsFc (facesF N1 (2 * 1) (2 * 1)) (2 * 1) F) {j : Nat} (hj : j < 2) : F j = 0 := by
  have h1 : F j < (facesF N1 2 2).length := (hF.cov j hj).1
  rw [fl1] at h1
  omega
theorem a03 : angI (pt.stV es1) F N1 0 3 = 1 := rfl
theorem a13 : angI (pt.stV es1) F N1 1 3 = 2 := rfl
theorem ch0 : chF es1 (angI (pt.stV es1) F N1) 2 0 = [0] := rfl
theorem ch1 : chF es1 (angI (pt.stV es1) F N1) 2 1 = [1] := rfl
theorem bim1 : Bim (angI (pt.stV es1) F N1) 2 2 := fun x hx => by
  rw [pc_succ, pc_succ, a03, a13]
  simp [pc]
theorem rm1 (hF : IsFc (facesF N1 (2 * 1) (2 * 1)) (2 * 1) F) : rmF (angI (pt.stV es1) F N1) 2 0 = 0 := by
  unfold rmF
  rw [hc_succ, hc_succ, a03, a13]
  have : angI (pt.stV es1) F N1 1 2 = 0 := f1 hF (show 0 < 2 by decide)
  rw [this]
  simp [hc]
theorem fits1 (hF : IsFc (facesF N1 (2 * 1) (2 * 1)) (2 * 1) F) : Fits (fun h => angI (pt.stV es1) F N1 h 2) (chF es1 (angI (pt.stV es1) F N1) 2) 2 1 (capF (rmF (angI (pt.stV es1) F N1) 2) 0) := by
  refine ⟨fun y => (y : Int), fun y hy => ?_, fun f hf => ?_⟩
  · obtain rfl | rfl : y = 0 ∨ y = 1 := by omega
    · rw [ch0]; exact ⟨by simp, .inr ⟨0, by simp, rfl⟩⟩
    · rw [ch1]; exact ⟨by simp, .inr ⟨1, by simp, rfl⟩⟩
  · obtain rfl : f = 0 := by omega
    unfold capF
    rw [rm1 hF]
    simp only [occ]
    have i0 := ind_some (fun h => angI (pt.stV es1) F N1 h 2) 0 0
    have i1 := ind_some (fun h => angI (pt.stV es1) F N1 h 2) 1 0
    simp only [i0, i1]
    split <;> split <;> simp
theorem seated1 {gr : Nat → Int} (h : Seated (chF es1 (angI (pt.stV es1) F N1) 2) 2 gr) : gr 0 = 0 ∧ gr 1 = 1 := by
  have h0 := h 0 (by decide)
  have h1 := h 1 (by decide)
  rw [ch0] at h0
  rw [ch1] at h1
  refine ⟨?_, ?_⟩
  · rcases h0.2 with e | ⟨a, ha, e⟩
    · exact absurd (h0.1.1 e) (by simp)
    · simp at ha; rw [e, ha]; rfl
  · rcases h1.2 with e | ⟨a, ha, e⟩
    · exact absurd (h1.1.1 e) (by simp)
    · simp at ha; rw [e, ha]; rfl
end
end Go.Proofs.YtefagplbpbkpgaaDoor
/-
  The contract of the statements' speaks. Conditions: the table of math/bits lies where it should.
-/
namespace Go.Proofs.YtefagplbpbkpgaaDoor
open Go.RowKit
set_option linter.unusedVariables false
set_option maxRecDepth 20000
theorem gd1 (w : World) (hT : pt.Tab w) (ge g1 g2 g3 cap : Nat) (he : w.heap[ge]? = some (.cells #[.int .i64 0, .int .i64 1] 47 (0, 0))) (h1 : w.heap[g1]? = some (.cells #[.int .i64 0] 3 (0, 0))) (h2 : w.heap[g2]? = some (.cells #[.int .i64 1] 3 (0, 0))) (h3 : w.heap[g3]? = some (.cells #[.slice (some ⟨g1, 0, none⟩) 1 1, .slice (some ⟨g2, 0, none⟩) 1 1] 37 (0, 0))) :
    Gd w 2 (some ⟨ge, 0, none⟩) 1 1 es1 (some ⟨g3, 0, none⟩) 2 2 q1 N1 1 0 := by
  have lt : ∀ {g : Nat} {o : Obj}, w.heap[g]? = some o → g < w.heap.size := fun h => (Array.getElem?_eq_some_iff.1 h).1
  obtain ⟨c, hc⟩ := pt.cnt_ex 2 es1
  have hc1 := cnt1 hc
  subst hc1
  refine ⟨hT, ⟨rfl, by decide, fun k hk => ?_⟩, (fun h => by cases h), rfl, plain1, ⟨rfl, by decide, fun k hk => ?_⟩, yes1, ro1, nx1, hc, (by show 2 * 1 + 1 = 2 + cyc N1 2 + emp q1 2 + 2 * 0; rw [cyc1]; decide)⟩
  · obtain rfl : k = 0 := by omega
    exact ⟨ge, 0, rfl, Nat.zero_le _, lt he, by simp only [World.cell?, he]; rfl, by simp only [World.cell?, he]; rfl⟩
  · obtain rfl | rfl : k = 0 ∨ k = 1 := by omega
    · exact ⟨g3, 0, some ⟨g1, 0, none⟩, 1, rfl, lt h3, by simp only [World.cell?, h3]; rfl, by decide, rfl, by decide, fun k hk => by
        obtain rfl : k = 0 := by have : k < 1 := hk; omega
        exact ⟨g1, 0, rfl, lt h1, by simp only [World.cell?, h1]; rfl⟩⟩
    · exact ⟨g3, 0, some ⟨g2, 0, none⟩, 1, rfl, lt h3, by simp only [World.cell?, h3]; rfl, by decide, rfl, by decide, fun k hk => by
        obtain rfl : k = 0 := by have : k < 1 := hk; omega
        exact ⟨g2, 0, rfl, lt h2, by simp only [World.cell?, h2]; rfl⟩⟩
theorem nice1 : Nice 2 es1 1 0 := ⟨rfl, by decide, by rw [ord1]; decide⟩
theorem assign1 (w : World) (ge g3 : Nat) (h : Gd w 2 (some ⟨ge, 0, none⟩) 1 1 es1 (some ⟨g3, 0, none⟩) 2 2 q1 N1 1 0) :
    Calls Tryd.prog 14 #[.agg #[.int .i64 2, .slice (some ⟨ge, 0, none⟩) 1 1], .slice (some ⟨g3, 0, none⟩) 2 2] w fun e w' => (∃ gG gc, e = .returned (.tuple #[.int .i64 0, .slice (some ⟨gG, 0, none⟩) 2 gc, .bool true]) ∧ w.heap.size ≤ gG ∧ Ns w' (some ⟨gG, 0, none⟩) 2 [0, 1]) ∧ Below w.heap.size w w' := by
  obtain ⟨F, hF⟩ := fc_ex h.pm
  refine (assign_yes w 2 _ 1 1 es1 _ 2 2 q1 N1 1 0 h nice1 F hF bim1 (by decide) (fun f hf => ?_)).mono ?_
  · have hf' : f < (facesF N1 2 2).length := hf
    rw [fl1] at hf'
    obtain rfl : f = 0 := by omega
    rw [show 2 * 1 = 2 from rfl, rm1 hF]
    exact Int.le_refl _
  · have hl : (facesF N1 (2 * 1) (2 * 1)).length = 1 := fl1
    rintro e w' ⟨hans | ⟨_, hno⟩, hb⟩
    · obtain ⟨outer, gG, gc, gr, rfl, ho, hr, hg, hse, _, _⟩ := hans
      rw [hl] at ho
      obtain rfl : outer = 0 := by omega
      obtain ⟨e0, e1⟩ := seated1 hse
      refine ⟨⟨gG, gc, rfl, hg, rfl, by decide, fun k hk => ⟨gG, 0, rfl, hr.lt, ?_⟩⟩, hb⟩
      rw [Nat.zero_add, hr.cell hk]
      obtain rfl | rfl : k = 0 ∨ k = 1 := by omega
      · rw [e0]; rfl
      · rw [e1]; rfl
    · rw [hl] at hno
      exact absurd (fits1 hF) (hno 0 (by decide))
theorem angles1 (w : World) (ge g3 : Nat) (h : Gd w 2 (some ⟨ge, 0, none⟩) 1 1 es1 (some ⟨g3, 0, none⟩) 2 2 q1 N1 1 0) :
    Calls Tryd.prog 11 #[.agg #[.int .i64 2, .slice (some ⟨ge, 0, none⟩) 1 1], .slice (some ⟨g3, 0, none⟩) 2 2] w fun e w' => (∃ ga, e = .returned (.slice (some ⟨ga, 0, none⟩) 2 2)) ∧ Below w.heap.size w w' := by
  obtain ⟨F, hF⟩ := fc_ex h.pm
  refine (angles_yes w 2 _ 1 1 es1 _ 2 2 q1 N1 1 0 h nice1 F hF).mono ?_
  rintro e w' ⟨⟨ga, rfl, _, _⟩, hb⟩
  exact ⟨⟨ga, rfl⟩, hb⟩
theorem at_new' (w : World) (o : Obj) : (w.alloc o).heap[w.heap.size]? = some o := (MapKept.heap_alloc w o).1
theorem chain3 (w : World) (o0 o1 o2 : Obj) : (((w.alloc o0).alloc o1).alloc o2).heap[w.heap.size]? = some o0 ∧ (((w.alloc o0).alloc o1).alloc o2).heap[w.heap.size + 1]? = some o1 ∧ (((w.alloc o0).alloc o1).alloc o2).heap[w.heap.size + 1 + 1]? = some o2 := by
  have h0 := at_new' w o0
  have h1 := at_new' (w.alloc o0) o1
  have h2 := at_new' ((w.alloc o0).alloc o1) o2
  have s1 : (w.alloc o0).heap.size = w.heap.size + 1 := by simp
  have s2 : ((w.alloc o0).alloc o1).heap.size = w.heap.size + 1 + 1 := by simp
  rw [s1] at h1
  rw [s2] at h2
  refine ⟨?_, ?_, h2⟩
  · rw [Below.heap_alloc _ _ _ (by omega), Below.heap_alloc _ _ _ (by omega)]; exact h0
  · rw [Below.heap_alloc _ _ _ (by omega)]; exact h1
set_option maxHeartbeats 8000000 in
theorem speaks_any (w : World) (hT : pt.Tab w) : Calls Tryd.prog 7 #[] w fun e w' => e = .returned (.bool true) ∧ Below w.heap.size w w' := by
  have HT := hide hT
  clear hT
  go_enter Tryd.func7, Tryd.ntmps7
  go_wp2_with fail
  obtain ⟨wa, hwa⟩ : ∃ wa, (w.alloc (.cells #[.int .i64 0, .int .i64 1] 47)).alloc (.cells #[.int .i64 2, .slice (some ⟨w.heap.size, 0, none⟩) 1 1] 24) = wa := ⟨_, rfl⟩
  have hsa : wa.heap.size = w.heap.size + 1 + 1 := by rw [← hwa]; simp
  have e0 : wa.heap[w.heap.size]? = some (.cells #[.int .i64 0, .int .i64 1] 47 (0, 0)) := by rw [← hwa, Below.heap_alloc _ _ _ (by simp)]; exact at_new' _ _
  have e1 : wa.heap[w.heap.size + 1]? = some (.cells #[.int .i64 2, .slice (some ⟨w.heap.size, 0, none⟩) 1 1] 24 (0, 0)) := by
    rw [← hwa]
    have := at_new' (w.alloc (.cells #[.int .i64 0, .int .i64 1] 47)) (.cells #[.int .i64 2, .slice (some ⟨w.heap.size, 0, none⟩) 1 1] 24)
    rwa [show (w.alloc (.cells #[.int .i64 0, .int .i64 1] 47)).heap.size = w.heap.size + 1 by simp] at this
  have hba : Below w.heap.size w wa := by rw [← hwa]; exact bto (b_al _) (b_al _)
  rw [hwa]
  clear hwa
  have hch := chain3 wa (.cells #[.int .i64 0] 3) (.cells #[.int .i64 1] 3) (.cells #[.slice (some ⟨wa.heap.size, 0, none⟩) 1 1, .slice (some ⟨wa.heap.size + 1, 0, none⟩) 1 1] 37)
  have hbb : Below wa.heap.size wa (((wa.alloc (.cells #[.int .i64 0] 3)).alloc (.cells #[.int .i64 1] 3)).alloc (.cells #[.slice (some ⟨wa.heap.size, 0, none⟩) 1 1, .slice (some ⟨wa.heap.size + 1, 0, none⟩) 1 1] 37)) := bto (bto (b_al _) (b_al _)) (b_al _)
  rw [hsa] at hch hbb
  obtain ⟨wb, hwb⟩ : ∃ wb, ((wa.alloc (.cells #[.int .i64 0] 3)).alloc (.cells #[.int .i64 1] 3)).alloc (.cells #[.slice (some ⟨w.heap.size + 1 + 1, 0, none⟩) 1 1, .slice (some ⟨w.heap.size + 1 + 1 + 1, 0, none⟩) 1 1] 37) = wb := ⟨_, rfl⟩
  rw [hwb] at hch hbb ⊢
  have hbw : Below w.heap.size w wb := hba.trans (hbb.mono (by omega))
  have h0b : wb.heap[w.heap.size]? = some (.cells #[.int .i64 0, .int .i64 1] 47 (0, 0)) := by rw [hbb.block _ (by omega)]; exact e0
  have h1b : wb.heap[w.heap.size + 1]? = some (.cells #[.int .i64 2, .slice (some ⟨w.heap.size, 0, none⟩) 1 1] 24 (0, 0)) := by rw [hbb.block _ (by omega)]; exact e1
  have HG := hide (gd1 wb ((unhide HT).below hbw) w.heap.size _ _ _ 1 h0b hch.1 hch.2.1 hch.2.2)
  have HE0 := hide h0b
  have HE1 := hide h1b
  have HBW := hide hbw
  have hl1 := (Array.getElem?_eq_some_iff.1 h1b).1
  clear h0b h1b hbw hch hbb hwb e0 e1 hba hsa
  refine (assign1 wb _ _ (unhide HG)).mono ?_
  rintro e w6 ⟨⟨gG, gc, rfl, hgG, hns⟩, hb6⟩
  have HE06 := hide (show w6.heap[w.heap.size]? = some (.cells #[.int .i64 0, .int .i64 1] 47 (0, 0)) by rw [hb6.block _ (by omega)]; exact unhide HE0)
  have HE16 := hide (show w6.heap[w.heap.size + 1]? = some (.cells #[.int .i64 2, .slice (some ⟨w.heap.size, 0, none⟩) 1 1] 24 (0, 0)) by rw [hb6.block _ (by omega)]; exact unhide HE1)
  have HB6 := hide ((unhide HBW).trans (hb6.mono (unhide HBW).size))
  have hs6 := hb6.size
  have HNS := hide hns
  have HGG := hide hgG
  clear hb6 hns hgG HE0 HE1 HBW HG
  go_wp2_with fail
  have HNN := hide (show Ns (w6.alloc (.cells #[.int .i64 0, .int .i64 1] 3)) (some ⟨w6.heap.size, 0, none⟩) 2 [0, 1] from ⟨rfl, by decide, fun k hk => ⟨w6.heap.size, 0, rfl, by simp, by
    obtain rfl | rfl : k = 0 ∨ k = 1 := by omega
    · simp only [World.cell?, at_new]; rfl
    · simp only [World.cell?, at_new]; rfl⟩⟩)
  refine (same_yes _ _ _ 2 gc 2 [0, 1] ((unhide HNS).below (b_al _)) (unhide HNN)).mono ?_
  rintro e w7 ⟨rfl, mm, hw7⟩
  have hb7 : Below w6.heap.size w6 w7 := by rw [hw7]; exact bto (b_al _) (below_refl_draws _ _)
  have HE07 := hide (show w7.heap[w.heap.size]? = some (.cells #[.int .i64 0, .int .i64 1] 47 (0, 0)) by rw [hb7.block _ (by omega)]; exact unhide HE06)
  have h17 : w7.heap[w.heap.size + 1]? = some (.cells #[.int .i64 2, .slice (some ⟨w.heap.size, 0, none⟩) 1 1] 24 (0, 0)) := by rw [hb7.block _ (by omega)]; exact unhide HE16
  have HE17 := hide h17
  have HB7 := hide ((unhide HB6).trans (hb7.mono (unhide HB6).size))
  have k0 : w7.cell? ⟨w.heap.size + 1, 0, none⟩ = some (.int .i64 2) := by simp only [World.cell?, h17]; rfl
  have k1 : w7.cell? ⟨w.heap.size + 1, 1, none⟩ = some (.slice (some ⟨w.heap.size, 0, none⟩) 1 1) := by simp only [World.cell?, h17]; rfl
  have hs7 := hb7.size
  clear hw7 hb7 h17 HE06 HE16 HB6 HNS HNN
  go_wp2_with fail
  have hch := chain3 w7 (.cells #[.int .i64 0] 3) (.cells #[.int .i64 1] 3) (.cells #[.slice (some ⟨w7.heap.size, 0, none⟩) 1 1, .slice (some ⟨w7.heap.size + 1, 0, none⟩) 1 1] 37)
  have hbb : Below w7.heap.size w7 (((w7.alloc (.cells #[.int .i64 0] 3)).alloc (.cells #[.int .i64 1] 3)).alloc (.cells #[.slice (some ⟨w7.heap.size, 0, none⟩) 1 1, .slice (some ⟨w7.heap.size + 1, 0, none⟩) 1 1] 37)) := bto (bto (b_al _) (b_al _)) (b_al _)
  obtain ⟨wb2, hwb2⟩ : ∃ wb, ((w7.alloc (.cells #[.int .i64 0] 3)).alloc (.cells #[.int .i64 1] 3)).alloc (.cells #[.slice (some ⟨w7.heap.size, 0, none⟩) 1 1, .slice (some ⟨w7.heap.size + 1, 0, none⟩) 1 1] 37) = wb := ⟨_, rfl⟩
  rw [hwb2] at hch hbb ⊢
  have hbw : Below w.heap.size w wb2 := (unhide HB7).trans (hbb.mono (unhide HB7).size)
  have h0b : wb2.heap[w.heap.size]? = some (.cells #[.int .i64 0, .int .i64 1] 47 (0, 0)) := by rw [hbb.block _ (by omega)]; exact unhide HE07
  have HG2 := hide (gd1 wb2 ((unhide HT).below hbw) w.heap.size _ _ _ 1 h0b hch.1 hch.2.1 hch.2.2)
  have HBW2 := hide hbw
  clear hch hbb hwb2 hbw h0b k0 k1
  refine (angles1 wb2 _ _ (unhide HG2)).mono ?_
  rintro e w9 ⟨⟨ga, rfl⟩, hb9⟩
  have HB9 := hide ((unhide HBW2).trans (hb9.mono (unhide HBW2).size))
  clear hb9 HG2 HBW2
  go_wp2_with fail
  go_ret
  exact ⟨rfl, unhide HB9⟩
end Go.Proofs.YtefagplbpbkpgaaDoor
/-
  The contract of the document's Bimodal. Conditions: the graph and the lists lie in memory as told, and the lists are a rotation.
-/
namespace Go.Proofs.YtefagplbpbkpgaaDoor
open Go.RowKit
set_option linter.unusedVariables false
set_option maxRecDepth 20000
set_option maxHeartbeats 4000000 in
theorem refbim_any (w : World) (V : Nat) (a : Option Addr) (n cap : Nat) (es : List (Nat × Nat)) (ra : Option Addr) (m rc : Nat) (q : List (List Nat)) (N : Nat → Nat) (c g : Nat) (h : Gd w V a n cap es ra m rc q N c g) (F : Nat → Nat) (hF : IsFc (facesF N (2 * n) (2 * n)) (2 * n) F) :
    Calls Tryd.prog 13 #[.agg #[.int .i64 V, .slice a n cap], .slice ra m rc] w fun e w' => Told (Bim (angI (pt.stV es) F N) (2 * n) V) e ∧ Below w.heap.size w w' := by
  have hn128 := h.n128
  have hV := h.plain.v64
  have HB0 := hide (Bg.start w (.int .i64 V) (.slice a n cap))
  have HANG := hide (fun (u : World) (hu : Below w.heap.size w u) => refangles_any u V a n cap es ra m rc q N c g (h.below hu) F hF)
  have HLT := hide (fun (t : Nat) (ht : t < 2 * n) => show angI (pt.stV es) F N t 1 < V from h.st_lt ht)
  have H3 := hide (fun (t : Nat) (ht : t < 2 * n) => show angI (pt.stV es) F N t 3 < 3 from knd_lt _ _)
  clear h hF
  obtain ⟨A, hA⟩ : ∃ A, angI (pt.stV es) F N = A := ⟨_, rfl⟩
  rw [hA] at HANG HLT H3 ⊢
  obtain ⟨H, hH⟩ : ∃ H, 2 * n = H := ⟨_, rfl⟩
  rw [hH] at HANG HLT H3 ⊢
  have hH256 : H ≤ 256 := by omega
  clear hA hH
  obtain ⟨i0, hi0, hz0, hz1, hz2⟩ := info_parts info3
  have HI := hide hi0
  have HZ0 := hide hz0
  have HZ1 := hide hz1
  have hzb : i0.bytes * V ≤ 281474976710656 := by rw [hz2]; omega
  clear hi0 hz0 hz1 hz2
  obtain ⟨g0, g1⟩ := (unhide HB0).cells
  go_enter Tryd.func13, Tryd.ntmps13
  go_wp2_with (refine wpList_make_full _ rfl (.tmp 9) (.tmp 9) 37 rfl (w.heap.size + 1) 3 i0 (.int .i64 0) 1 Tryd.underlying37 (unhide HI) (unhide HZ0) (unhide HZ1) .i64 .i64 _ _ V rfl rfl rfl rfl hzb ?m1 ?m2 ?_)
  case m1 => unfold maxLen; omega
  case m2 => simp
  intro wm hown1 hg1
  rw [toList_madeCells_one] at hown1
  have hbm : Below (w.alloc (.cells #[.int .i64 (V : Int), .slice a n cap] 24)).heap.size (w.alloc (.cells #[.int .i64 (V : Int), .slice a n cap] 24)) wm := ⟨hg1.os, hg1.tape, hg1.output, hg1.size, fun k hk => hg1.block k hk (by simp)⟩
  have HBm := hide ((unhide HB0).step hbm)
  obtain ⟨g, hg⟩ : ∃ g, w.heap.size + 1 = g := ⟨_, rfl⟩
  have hgw : w.heap.size < g := by omega
  have HRm := hide (show RowN wm g V (pc A 0) by rw [← hg]; exact (Row.of_owns hown1).congr fun t ht => by simp [pc])
  rw [hg]
  clear hown1 hg1 hbm hg HB0 g0 g1
  obtain ⟨g0, g1⟩ := (unhide HBm).cells
  go_wp2_with fail
  refine (unhide HANG _ (unhide HBm).bel).mono ?_
  rintro e w1 ⟨⟨v, rfl, ho⟩, hb1⟩
  obtain ⟨va, vc, rfl, hvc, has⟩ := as_of_owns ho hH256
  have HB1 := hide ((unhide HBm).step hb1)
  have HR1 := hide ((unhide HRm).below hb1)
  have HOW := hide ho
  have hgm := (unhide HRm).lt
  have HAS := hide has
  have HS0 := hide (show ∀ x, x < V → pc A 0 x ≤ 2 from fun x _ => by simp [pc])
  have HBu := hide (But.refl g w1)
  have hgs : g < w1.heap.size := by have := hb1.size; omega
  have HFAR := hide (fun (u : World) (hu : But g w1 u) (t : Nat) (ht : t < H) => show ∃ g' off, va = some ⟨g', off, none⟩ ∧ ¬ g' = g ∧ u.cell? ⟨g', off + t * 4 + 1, none⟩ = some (.int .i64 (A t 1 : Nat)) ∧ u.cell? ⟨g', off + t * 4 + 3, none⟩ = some (.int .i64 (A t 3 : Nat)) from by
    obtain ⟨g', off, ha, hg', c0, c1, c2, c3⟩ := (unhide HAS).2 t ht
    have hbl := ((unhide HOW).lt g' (by rw [ha]; rfl)).1
    have hne : g' ≠ g := by omega
    have e := hu.far g' hg' hne
    exact ⟨g', off, ha, hne, by rw [World.cell?_of_block (w := w1) e]; exact c1, by rw [World.cell?_of_block (w := w1) e]; exact c3⟩)
  have HBF := hide (fun (u : World) (hu : But g w1 u) => show Below w.heap.size w u from (unhide HB1).bel.trans (hu.bel.mono (by omega)))
  clear ho has hb1 HBm HRm hvc HANG HAS HOW g0 g1 hgm
  go_wp2_with fail
  go_loopw [7] (fun i wr => ∃ (k : Nat), i = .int .i64 k ∧ k ≤ H ∧ Hid (RowN wr g V (pc A k)) ∧ Hid (∀ x, x < V → pc A k x ≤ 2) ∧ Hid (But g w1 wr)) (fun i wr => H - (intOf i).toNat)
  case atStart => exact ⟨0, rfl, by omega, HR1, HS0, HBu⟩
  case round =>
    clear HR1 HS0 HBu
    obtain ⟨k, rfl, hk, HRow, HS, HB⟩ := hrel
    by_cases hkH : k < H
    · have hkH2 : (k : Int) < (H : Int) := by omega
      obtain ⟨ga, oa, ha, hga, c1, c3⟩ := unhide HFAR wr (unhide HB) k hkH
      subst ha
      have hx := unhide HLT k hkH
      have hx3 := unhide H3 k hkH
      have hpc := unhide HS _ hx
      have HPS := hide (pc_succ A k)
      obtain ⟨a1, ha1⟩ : ∃ z, A k 1 = z := ⟨_, rfl⟩
      obtain ⟨a3, ha3⟩ : ∃ z, A k 3 = z := ⟨_, rfl⟩
      rw [ha1] at c1 hx hpc
      rw [ha3] at c3 hx3
      have HA1' := hide ha1
      have HA3' := hide ha3
      clear ha1 ha3
      have r0 := (unhide HRow).cell hx
      have r1 := (unhide HRow).fz a1
      obtain ⟨c, hc⟩ : ∃ c, pc A k a1 = c := ⟨_, rfl⟩
      rw [hc] at hpc r0
      have HC := hide hc
      have hW : IntKind.i64.wrap ((c : Int) + 1) = (c : Int) + 1 := by rw [IntKind.wrap_i64]; omega
      have HBA2 := hide ((unhide HB).trans (But.set a1 (.int .i64 ((c : Int) + 1))))
      clear hc
      by_cases h0 : a3 = 0
      · subst h0
        have HE := hide (show ∀ t, t < V → upd (fun t => Value.int .i64 (pc A k t : Nat)) a1 (.int .i64 ((c : Int) + 1)) t = .int .i64 (pc A (k + 1) t : Nat) from fun t ht => by
          rw [unhide HPS t, unhide HA1', unhide HA3']
          by_cases he : t = a1
          · subst he
            rw [upd_same, if_pos ⟨rfl, rfl⟩, unhide HC]
            congr 1
          · rw [upd_other _ _ he, if_neg (by rintro ⟨_, h⟩; exact he h.symm)]
            rfl)
        have HRN := hide (show RowN (wr.setCell ⟨g, a1, none⟩ (.int .i64 ((c : Int) + 1))) g V (pc A (k + 1)) from Row.congr (Row.set (unhide HRow) a1 (.int .i64 ((c : Int) + 1))) (unhide HE))
        have c3' : wr.cell? ⟨ga, oa + k * 4 + 3, none⟩ = some (.int .i64 0) := c3
        clear c3
        by_cases hc2 : c < 2
        · have hn2 : ¬ (2 : Int) < (c : Int) + 1 := by omega
          have HS2 := hide (show ∀ x, x < V → pc A (k + 1) x ≤ 2 from fun x hx => by
            have := unhide HPS x
            rw [unhide HA1', unhide HA3'] at this
            by_cases he : a1 = x
            · subst he
              rw [if_pos ⟨rfl, rfl⟩, unhide HC] at this
              omega
            · rw [if_neg (by rintro ⟨_, h⟩; exact he h)] at this
              rw [this]
              exact unhide HS x hx)
          go_wp2_with fail
          go_roundw
          case rel => exact ⟨k + 1, by go_num, by omega, HRN, HS2, HBA2⟩
          case measure => simp [intOf]; omega
        · have hn2 : (2 : Int) < (c : Int) + 1 := by omega
          have HNO := hide (show ¬ Bim A H V from fun hb => by
            have h1 := hb a1 hx
            have h2 := pc_mono A a1 (show k + 1 ≤ H by omega)
            have h3 := unhide HPS a1
            rw [unhide HA1', unhide HA3', if_pos ⟨rfl, rfl⟩, unhide HC] at h3
            omega)
          have HF := hide (unhide HBF _ (unhide HBA2))
          clear HE
          go_wp2_with fail
          go_ret
          exact ⟨Told.no (unhide HNO), unhide HF⟩
      · have h0' : ((a3 : Nat) : Int) ≠ 0 := by omega
        have HS2 := hide (show ∀ x, x < V → pc A (k + 1) x ≤ 2 from fun x hx => by
          have := unhide HPS x
          rw [unhide HA3', if_neg (by rintro ⟨h, _⟩; exact h0 h)] at this
          rw [this]
          exact unhide HS x hx)
        have HRN := hide (show RowN wr g V (pc A (k + 1)) from (Row.congr (unhide HRow) (fun t ht => by
          have := unhide HPS t
          rw [unhide HA3', if_neg (by rintro ⟨h, _⟩; exact h0 h)] at this
          rw [this]; rfl)))
        clear HBA2
        go_wp2_with fail
        go_roundw
        case rel => exact ⟨k + 1, by go_num, by omega, HRN, HS2, HB⟩
        case measure => simp [intOf]; omega
    · obtain rfl : k = H := by omega
      have HF := hide (unhide HBF _ (unhide HB))
      go_wp2_with fail
      go_ret
      exact ⟨Told.yes (unhide HS), unhide HF⟩
end Go.Proofs.YtefagplbpbkpgaaDoor

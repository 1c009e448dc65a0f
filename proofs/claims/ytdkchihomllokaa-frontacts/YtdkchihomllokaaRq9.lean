/-
  The contract of the document's Place. Conditions: the document's front lies in memory, and stands, as told; the orders of edges are lists of ints.
-/
import Derived.Test.YtdkchihomllokaaJr9
namespace Go.Proofs.Ytdkchihomllokaa
open Go.RowKit
set_option linter.unusedVariables false
set_option maxRecDepth 20000

set_option maxHeartbeats 16000000 in
theorem refPlace_any (w : World) (rb V : Nat) (a : Option Addr) (cap : Nat) (es : List (Nat × Nat)) (ra : Option Addr) (rc : Nat) (row : List It) (pa : Option Addr) (pc : Nat) (pl : List Nat) (src : Nat) (hR : Rb w rb V a cap es ra rc row pa pc pl) (hI : Inv V es src row pl) (hp : Plain V es) (hsrc : bare (Pl.ins es) V = [src])
    (x : Int) (oa : Option Addr) (on oc : Nat) (zs : List Int) (hO : Ns w oa on zs) (hno : oa = none → on = 0 ∧ oc = 0) :
    Calls Try.prog 14 #[.pointer (some ⟨rb, 0, none⟩), .int .i64 x, .slice oa on oc] w fun e w' => RefStep rb V a cap es src ra row pa pl x zs w w' e := by
  have hrb := hR.cells.2.2.2.2
  have stay : ∀ (code : Int) (w' : World), Below w.heap.size w w' → Placed V es src row pl x zs code [] row pl → RefStep rb V a cap es src ra row pa pl x zs w w' (.returned (.tuple #[.slice none 0 0, .int .i64 code])) := fun code w' hb hP =>
    ⟨code, [], row, pl, _, ra, rc, pa, pc, hP, rfl, World.ownsRow_nil _ _ _ _, hR.below hb, fun g off h => .inl h, fun g off h => .inl h, Bz.of hb (by omega), fun _ => ⟨rfl, rfl⟩⟩
  have STAY := hide stay
  have CR := hide (refReady_any w rb V a cap es ra rc row pa pc pl src hR hI hp hsrc x)
  have HR := hide hR
  have HI := hide hI
  have HP := hide hp
  have HSRC := hide hsrc
  have HO := hide hO
  have HNO := hide hno
  clear stay hR hI hp hsrc hO hno
  by_cases hrd : ∃ y : Nat, x = (y : Int) ∧ ReadyAt V es src row pl y
  case neg =>
    have HRD := hide hrd
    clear hrd
    go_enter Try.func14, Try.ntmps14
    go_wp2_with fail
    refine (unhide CR).mono ?_
    rintro e w1 ⟨⟨r, rfl, hr⟩, hb1⟩
    have hrf : r = false := by
      cases r with
      | false => rfl
      | true => exact absurd (hr.1 rfl) (unhide HRD)
    subst hrf
    have HB1 := hide hb1
    clear CR hr hb1
    go_wp2_with fail
    go_ret2
    exact unhide STAY 3 _ (unhide HB1) (.inl ⟨rfl, rfl, rfl, rfl, fun y hy hr => unhide HRD ⟨y, hy, hr⟩⟩)
  obtain ⟨y, rfl, hyR⟩ := hrd
  have hyV : y < V := by
    rcases hyR with ⟨_, rfl⟩ | ⟨_, A, Y, C, hr⟩
    · exact (bare_src (unhide HSRC)).1
    · exact hr.lt
  have HYR := hide hyR
  obtain ⟨q, hq⟩ : ∃ q, (Pl.outs es y).length = q := ⟨_, rfl⟩
  have hq128 : q ≤ 128 := by rw [← hq]; exact Nat.le_trans (Pl.sel_len _ _ _) (unhide HP).n128
  have HQ := hide hq
  have HENDS := hide (fun (u : World) (hu : Below w.heap.size w u) => (show Calls Try.prog 24 #[.agg #[.int .i64 (V : Nat), .slice a es.length cap], .int .i64 (y : Nat), .bool true] u fun e u' => (∃ v, e = .returned v ∧ u'.ownsRow u.heap.size 3 1 v q (zcells (toIs (Pl.outs es y)))) ∧ Below u.heap.size u u' from by
    have := refEnds_any u V a cap es ((unhide HR).edges.below hu) (unhide HP).n128 (y : Nat) true
    rw [ends_out, hq] at this
    exact this))
  obtain ⟨m, hm⟩ : ∃ m, es.length = m := ⟨_, rfl⟩
  have HM := hide hm
  rw [hm] at HENDS
  clear hyR hq hm
  go_enter Try.func14, Try.ntmps14
  go_wp2_with fail
  refine (unhide CR).mono ?_
  rintro e w1 ⟨⟨r, rfl, hr⟩, hb1⟩
  have hrt : r = true := hr.2 ⟨y, rfl, unhide HYR⟩
  subst hrt
  have HB1 := hide hb1
  have HR1 := hide ((unhide HR).below hb1)
  obtain ⟨c0, c1, _, _, _⟩ := ((unhide HR).below hb1).cells
  rw [unhide HM] at c1
  clear CR hr hb1
  go_wp2_with fail
  refine (unhide HENDS w1 (unhide HB1)).mono ?_
  rintro e w2 ⟨⟨v, rfl, ho⟩, hb2⟩
  obtain ⟨va, vc, rfl⟩ := own_shape ho
  have hN2 : Ns w2 va q (toIs (Pl.outs es y)) := by
    obtain ⟨a', c', hv, _, hN⟩ := ns_of_owns ho (by omega)
    cases hv
    exact hN
  have HN2 := hide hN2
  have HB2 := hide ((unhide HB1).trans (hb2.mono (unhide HB1).size))
  have HR2 := hide ((unhide HR1).below hb2)
  have HO2 := hide ((unhide HO).below ((unhide HB1).trans (hb2.mono (unhide HB1).size)))
  clear c0 c1 ho hN2 hb2 HB1 HR1 HENDS
  by_cases hlen : on = q
  case neg =>
    have hne : ((on : Int) != (q : Int)) = true := by simp; omega
    have hne2 : ((on : Int) == (q : Int)) = false := by rw [beq_eq_false_iff_ne]; omega
    have HL := hide hlen
    clear hlen
    go_wp2_with fail
    go_ret2
    refine unhide STAY 1 _ (unhide HB2) (.inr (.inl ⟨rfl, rfl, rfl, rfl, y, rfl, hyV, unhide HYR, fun h => unhide HL ?_⟩))
    have h1 := congrArg List.length h
    rw [(srtZ_perm zs).length_eq, toIs_length, unhide HQ] at h1
    rw [← h1]
    exact (unhide HO).1.symm
  subst hlen
  have hne : ((on : Int) != (on : Int)) = false := by simp
  go_wp2_with fail
  go_loopw [9] (fun i wr => ∃ k : Nat, i = .int .i64 k ∧ k ≤ on ∧ wr = w2 ∧ Hid (∀ j, j < k → (((Pl.outs es y).getD j 0 : Nat) : Int) ∈ zs)) (fun i wr => on - (intOf i).toNat)
  case atStart => exact ⟨0, rfl, by omega, rfl, fun j hj => by omega⟩
  case round =>
    obtain ⟨k, rfl, hk, rfl, HA⟩ := hrel
    by_cases hlt : k < on
    · obtain ⟨g, off, ha, hg, d0⟩ := (unhide HN2).2.2 k hlt
      rw [toIs_getD] at d0
      obtain ⟨i, hi⟩ : ∃ i, (Pl.outs es y).getD k 0 = i := ⟨_, rfl⟩
      rw [hi] at d0
      have HI2 := hide hi
      have hkn : (k : Int) < (on : Int) := by omega
      have hwk : IntKind.i64.wrap ((k : Int) + 1) = (k : Int) + 1 := by rw [IntKind.wrap_i64]; omega
      have CH := hide (rhas_any wr oa on oc zs (i : Nat) (unhide HO2))
      subst ha
      clear hi
      by_cases hmem : (i : Int) ∈ zs
      · rw [decide_eq_true hmem] at CH
        have HME := hide hmem
        clear hmem
        go_wp2_with fail
        refine (unhide CH).mono ?_
        rintro e w3 ⟨rfl, rfl⟩
        go_wp2_with fail
        go_roundw
        case rel =>
          refine ⟨k + 1, by go_num, by omega, by trivial, fun j hj => ?_⟩
          by_cases hjk : j < k
          · exact unhide HA j hjk
          · obtain rfl : j = k := by omega
            rw [unhide HI2]; exact unhide HME
        case measure => simp [intOf]; omega
      · rw [decide_eq_false hmem] at CH
        have HME := hide hmem
        have HLT := hide hlt
        clear hmem
        go_wp2_with fail
        refine (unhide CH).mono ?_
        rintro e w3 ⟨rfl, rfl⟩
        go_wp2_with fail
        go_ret2
        refine unhide STAY 1 _ (unhide HB2) (.inr (.inl ⟨rfl, rfl, rfl, rfl, y, rfl, hyV, unhide HYR, fun h => unhide HME ?_⟩))
        rw [← (srtZ_perm zs).mem_iff, h, ← unhide HI2]
        refine List.mem_map.2 ⟨_, ?_, rfl⟩
        rw [List.getD_eq_getElem?_getD, List.getElem?_eq_getElem (by rw [unhide HQ]; exact unhide HLT)]
        exact List.getElem_mem _
    · obtain rfl : k = on := by omega
      have hpm : zs.Perm (toIs (Pl.outs es y)) := by
        refine (perm_of_sub (toIs (Pl.outs es y)) zs (toIs_nodup (sel_nodup _ _ _)) (fun z hz => ?_) (by rw [toIs_length, unhide HQ]; exact Nat.le_of_eq (unhide HO).1)).symm
        obtain ⟨i, hi, rfl⟩ := List.mem_map.1 hz
        obtain ⟨j, hj, rfl⟩ := List.mem_iff_getElem.1 hi
        have := unhide HA j (by rw [unhide HQ] at hj; exact hj)
        rw [List.getD_eq_getElem?_getD, List.getElem?_eq_getElem hj] at this
        exact this
      obtain ⟨o, hzo, hop⟩ := perm_toIs hpm
      have HZO := hide hzo
      have HOP := hide hop
      have HPM := hide hpm
      clear hzo hop hpm HA
      obtain ⟨w4, hw4⟩ : ∃ w4, w4 = wr := ⟨wr, rfl⟩
      subst hw4
      obtain ⟨al, hal⟩ : ∃ al, o.map (itemAt es y) = al := ⟨_, rfl⟩
      have HAL := hide hal
      have hol : o.length = k := by have := (unhide HOP).length_eq; rw [unhide HQ] at this; exact this
      have HOL := hide hol
      obtain ⟨i0, hi0, hz0, hz1, hz2⟩ := info_parts info72
      have HI0 := hide hi0
      have HZ0 := hide hz0
      have HZ1 := hide hz1
      have HZ2 := hide hz2
      have HOA := hide (owns_lit_empty w4 72 3 w4.heap.size (Nat.le_refl _))
      have HBA := hide (b_al (w := w4) (.cells #[] 72))
      clear hal hol hi0 hz0 hz1 hz2
      go_wp2_with fail
      go_loopw [10, 11] (fun v i wr => ∃ j : Nat, i = .int .i64 j ∧ j ≤ k ∧ Hid (wr.ownsRow w4.heap.size 72 3 v j (icells (al.take j))) ∧ Hid (Below w4.heap.size w4 wr)) (fun v i wr => k - (intOf i).toNat)
      case atStart => exact ⟨0, rfl, by omega, HOA, HBA⟩
      case round =>
        obtain ⟨j, rfl, hj, HOW, HBW⟩ := hrel
        have hsz := (unhide HBW).size
        obtain ⟨va10, vc10, hv10⟩ := own_shape (unhide HOW)
        subst hv10
        by_cases hlt : j < k
        · obtain ⟨g, off, hao, hg, d0⟩ := (unhide HO2).2.2 j hlt
          rw [unhide HZO, toIs_getD] at d0
          obtain ⟨i, hi⟩ : ∃ i, o.getD j 0 = i := ⟨_, rfl⟩
          rw [hi] at d0
          have hio : i ∈ o := by rw [← hi, List.getD_eq_getElem?_getD, List.getElem?_eq_getElem (show j < o.length by rw [unhide HOL]; exact hlt)]; exact List.getElem_mem _
          have hie : i < es.length := (mem_outs.1 ((unhide HOP).mem_iff.1 hio)).1
          obtain ⟨ge, offe, hea, hge, k0, k1⟩ := es_at (unhide HR2).edges hie
          have HTK := hide (show al.take (j + 1) = al.take j ++ [itemAt es y i] by rw [← unhide HAL, List.take_add_one, List.getElem?_map, List.getElem?_eq_getElem (show j < o.length by rw [unhide HOL]; exact hlt), ← hi, List.getD_eq_getElem?_getD, List.getElem?_eq_getElem (show j < o.length by rw [unhide HOL]; exact hlt)]; rfl)
          have HIT := hide (show itemAt es y i = ((i : Int), (y : Int), ((Pl.at' es i).2 : Int)) from rfl)
          generalize (Pl.at' es i).2 = hh at k1 HIT
          have e0 : wr.cell? ⟨g, off + j, none⟩ = some (.int .i64 (i : Nat)) := by rw [(unhide HBW).cell (p := ⟨g, off + j, none⟩) hg]; exact d0
          have e1 : wr.cell? ⟨ge, offe + i * 2 + 1, none⟩ = some (.int .i64 (hh : Nat)) := by rw [(unhide HBW).cell (p := ⟨ge, offe + i * 2 + 1, none⟩) hge]; exact k1
          have hcr := (unhide HR2).cells
          have e2 : wr.cell? ⟨rb, 1, none⟩ = some (.slice (some ⟨ge, offe, none⟩) m cap) := by rw [(unhide HBW).cell (p := ⟨rb, 1, none⟩) hcr.2.2.2.2, hcr.2.1, hea, unhide HM]
          rw [unhide HM] at hie
          have hjk : (j : Int) < (k : Int) := by omega
          have him : (i : Int) < (m : Int) := by omega
          have hwj : IntKind.i64.wrap ((j : Int) + 1) = (j : Int) + 1 := by rw [IntKind.wrap_i64]; omega
          have HLOW := hide (show g < w4.heap.size ∧ ge < w4.heap.size ∧ rb < w4.heap.size from ⟨hg, hge, hcr.2.2.2.2⟩)
          subst hao
          clear d0 k0 k1 hi hio hie hea hcr hge hg
          go_wp2_with fail
          refine wp_region_held_drew (S := fun u => (u.cell? ⟨g, off + j, none⟩ = some (.int .i64 (i : Nat)) ∧ u.cell? ⟨ge, offe + i * 2 + 1, none⟩ = some (.int .i64 (hh : Nat))) ∧ u.cell? ⟨rb, 1, none⟩ = some (.slice (some ⟨ge, offe, none⟩) m cap)) (by kernel_rfl) ⟨⟨e0, e1⟩, e2⟩ (fun hS0 => ?_)
          have HOW6 := hide (show wr.drew.ownsRow _ _ _ _ _ _ from unhide HOW)
          have HBW6 := hide ((unhide HBW).drew)
          replace hsz : w4.heap.size ≤ wr.drew.heap.size := hsz
          clear e0 e1 e2 HOW HBW
          generalize wr.drew = w6 at hS0 HOW6 HBW6 hsz ⊢
          have hlow := unhide HLOW
          have hb67 := b_al (w := w6) (.cells #[.int .i64 (i : Nat), .int .i64 (y : Nat), .int .i64 (hh : Nat)] 72)
          have hS7 : ((w6.alloc (.cells #[.int .i64 (i : Nat), .int .i64 (y : Nat), .int .i64 (hh : Nat)] 72)).cell? ⟨g, off + j, none⟩ = some (.int .i64 (i : Nat)) ∧ (w6.alloc (.cells #[.int .i64 (i : Nat), .int .i64 (y : Nat), .int .i64 (hh : Nat)] 72)).cell? ⟨ge, offe + i * 2 + 1, none⟩ = some (.int .i64 (hh : Nat))) ∧ (w6.alloc (.cells #[.int .i64 (i : Nat), .int .i64 (y : Nat), .int .i64 (hh : Nat)] 72)).cell? ⟨rb, 1, none⟩ = some (.slice (some ⟨ge, offe, none⟩) m cap) :=
            ⟨⟨by rw [hb67.cell (p := ⟨g, _, none⟩) (Nat.lt_of_lt_of_le hlow.1 hsz)]; exact hS0.1.1, by rw [hb67.cell (p := ⟨ge, _, none⟩) (Nat.lt_of_lt_of_le hlow.2.1 hsz)]; exact hS0.1.2⟩, by rw [hb67.cell (p := ⟨rb, _, none⟩) (Nat.lt_of_lt_of_le hlow.2.2 hsz)]; exact hS0.2⟩
          obtain ⟨v8, w8, r8, own8, hg8, _, _⟩ := run_append_own_at (P := Try.prog) (w6.alloc (.cells #[.int .i64 (i : Nat), .int .i64 (y : Nat), .int .i64 (hh : Nat)] 72)) w4.heap.size 33 33 72 i0 (.agg #[.int .i64 0, .int .i64 0, .int .i64 0]) 3 24 Try.underlying33 (unhide HI0) (unhide HZ0) (unhide HZ1) (unhide HZ2) rfl (by decide) (.slice va10 j vc10) j (icells (al.take j)) (unhide HOW6 |> fun h => h.alloc _) ⟨w6.heap.size, 0, none⟩ 1 1 [.int .i64 (i : Nat), .int .i64 (y : Nat), .int .i64 (hh : Nat)] rfl (three_new w6 _ _ _ _) (three_i _ _ _) (by unfold maxLen; omega) (by omega) (by simp; omega)
          have hb8 : Below w4.heap.size w4 w8 := ((unhide HBW6).alloc hsz _).grown hg8 (by simp; omega) (fun b hb => ((unhide HOW6).lt b hb).1)
          have hS8 : (w8.cell? ⟨g, off + j, none⟩ = some (.int .i64 (i : Nat)) ∧ w8.cell? ⟨ge, offe + i * 2 + 1, none⟩ = some (.int .i64 (hh : Nat))) ∧ w8.cell? ⟨rb, 1, none⟩ = some (.slice (some ⟨ge, offe, none⟩) m cap) :=
            ⟨⟨by rw [hb8.cell (p := ⟨g, _, none⟩) hlow.1, ← (unhide HBW6).cell (p := ⟨g, _, none⟩) hlow.1]; exact hS0.1.1, by rw [hb8.cell (p := ⟨ge, _, none⟩) hlow.2.1, ← (unhide HBW6).cell (p := ⟨ge, _, none⟩) hlow.2.1]; exact hS0.1.2⟩, by rw [hb8.cell (p := ⟨rb, _, none⟩) hlow.2.2, ← (unhide HBW6).cell (p := ⟨rb, _, none⟩) hlow.2.2]; exact hS0.2⟩
          have HB8 := hide hb8
          have HO8 := hide own8
          clear hb8 own8 hg8 hb67 HOW6 HBW6
          refine wpAnyH_take (i := 0) (v := ?_) rfl (by kernel_rfl) (by kernel_rfl) (by kernel_rfl) (fun _ _ _ h => h) (Or.inl ⟨by rfl, ?_⟩) hS0 ?_
          rotate_left
          · intro u hu; (try dsimp only at hu); go_simp; try with_reducible rfl
          simp only [Act.put, List.getElem_toArray, List.getElem_cons_zero, List.setIfInBounds_toArray, List.set_cons_zero, List.set_cons_succ]
          refine wpAnyH_take (i := 1) (v := ?_) rfl (by kernel_rfl) (by kernel_rfl) (by kernel_rfl) (fun _ _ _ h => h) (Or.inl ⟨by rfl, ?_⟩) hS0 ?_
          rotate_left
          · intro u hu; (try dsimp only at hu); go_simp; try with_reducible rfl
          simp only [Act.put, List.getElem_toArray, List.getElem_cons_zero, List.getElem_cons_succ, List.setIfInBounds_toArray, List.set_cons_zero, List.set_cons_succ]
          refine wpAnyH_take (i := 2) (v := ?_) rfl (by kernel_rfl) (by kernel_rfl) (by kernel_rfl) (fun _ _ _ h => h) (Or.inl ⟨by rfl, ?_⟩) hS0 ?_
          rotate_left
          · intro u hu; (try dsimp only at hu); go_simp; try with_reducible rfl
          simp only [Act.put, List.getElem_toArray, List.getElem_cons_zero, List.getElem_cons_succ, List.setIfInBounds_toArray, List.set_cons_zero, List.set_cons_succ]
          refine wpAnyH_take (i := 3) (v := ?_) rfl (by kernel_rfl) (by kernel_rfl) (by kernel_rfl) (fun _ _ _ h => h) (Or.inl ⟨by rfl, ?_⟩) hS0 ?_
          rotate_left
          · intro u hu; (try dsimp only at hu); go_simp; try with_reducible rfl
          simp only [Act.put, List.getElem_toArray, List.getElem_cons_zero, List.getElem_cons_succ, List.setIfInBounds_toArray, List.set_cons_zero, List.set_cons_succ]
          refine wpAnyH_take (i := 4) (v := ?_) rfl (by kernel_rfl) (by kernel_rfl) (by kernel_rfl) (fun _ _ _ h => h) (Or.inl ⟨by rfl, ?_⟩) hS0 ?_
          rotate_left
          · intro u hu; (try dsimp only at hu); go_simp; try with_reducible rfl
          simp only [Act.put, List.getElem_toArray, List.getElem_cons_zero, List.getElem_cons_succ, List.setIfInBounds_toArray, List.set_cons_zero, List.set_cons_succ]
          refine wpAnyH_take (i := 5) (v := ?_) rfl (by kernel_rfl) (by kernel_rfl) (by kernel_rfl) (fun _ _ _ h => h) (Or.inl ⟨by rfl, ?_⟩) hS0 ?_
          rotate_left
          · intro u hu; (try dsimp only at hu); go_simp; try with_reducible rfl
          simp only [Act.put, List.getElem_toArray, List.getElem_cons_zero, List.getElem_cons_succ, List.setIfInBounds_toArray, List.set_cons_zero, List.set_cons_succ]
          refine wpAnyH_take (i := 6) (v := ?_) rfl (by kernel_rfl) (by kernel_rfl) (by kernel_rfl) (fun _ _ _ h => h) (Or.inl ⟨by rfl, ?_⟩) hS0 ?_
          rotate_left
          · intro u hu; (try dsimp only at hu); go_simp; try with_reducible rfl
          simp only [Act.put, List.getElem_toArray, List.getElem_cons_zero, List.getElem_cons_succ, List.setIfInBounds_toArray, List.set_cons_zero, List.set_cons_succ]
          refine wpAnyH_take (i := 7) (v := ?_) rfl (by kernel_rfl) (by kernel_rfl) (by kernel_rfl) (fun _ _ _ h => h) (Or.inl ⟨by rfl, ?_⟩) hS0 ?_
          rotate_left
          · intro u hu; (try dsimp only at hu); go_simp; try with_reducible rfl
          simp only [Act.put, List.getElem_toArray, List.getElem_cons_zero, List.getElem_cons_succ, List.setIfInBounds_toArray, List.set_cons_zero, List.set_cons_succ]
          refine wpAnyH_take (i := 8) (v := ?_) rfl (by kernel_rfl) (by kernel_rfl) (by kernel_rfl) (fun _ _ _ h => h) (Or.inl ⟨by rfl, ?_⟩) hS0 ?_
          rotate_left
          · intro u hu; (try dsimp only at hu); go_simp; try with_reducible rfl
          simp only [Act.put, List.getElem_toArray, List.getElem_cons_zero, List.getElem_cons_succ, List.setIfInBounds_toArray, List.set_cons_zero, List.set_cons_succ]
          refine wpAnyH_take (i := 9) (v := ?_) rfl (by kernel_rfl) (by kernel_rfl) (by kernel_rfl) (fun _ _ _ h => h) (Or.inl ⟨by rfl, ?_⟩) hS0 ?_
          rotate_left
          · intro u hu; (try dsimp only at hu); go_simp; try with_reducible rfl
          simp only [Act.put, List.getElem_toArray, List.getElem_cons_zero, List.getElem_cons_succ, List.setIfInBounds_toArray, List.set_cons_zero, List.set_cons_succ]
          refine wpAnyH_take (i := 10) (v := ?_) rfl (by kernel_rfl) (by kernel_rfl) (by kernel_rfl) (fun _ _ _ h => h) (Or.inl ⟨by rfl, ?_⟩) hS0 ?_
          rotate_left
          · intro u hu; (try dsimp only at hu); go_simp; try with_reducible rfl
          simp only [Act.put, List.getElem_toArray, List.getElem_cons_zero, List.getElem_cons_succ, List.setIfInBounds_toArray, List.set_cons_zero, List.set_cons_succ]
          refine wpAnyH_take (i := 11) (v := ?_) rfl (by kernel_rfl) (by kernel_rfl) (by kernel_rfl) (fun _ _ _ h => h) (Or.inl ⟨by rfl, ?_⟩) hS0 ?_
          rotate_left
          · intro u hu; (try dsimp only at hu); go_simp; try with_reducible rfl
          simp only [Act.put, List.getElem_toArray, List.getElem_cons_zero, List.getElem_cons_succ, List.setIfInBounds_toArray, List.set_cons_zero, List.set_cons_succ]
          refine wpAnyH_take (i := 12) (v := ?_) rfl (by kernel_rfl) (by kernel_rfl) (by kernel_rfl) (fun _ _ _ h => h) (Or.inl ⟨by rfl, ?_⟩) hS0 ?_
          rotate_left
          · intro u hu; (try dsimp only at hu); go_simp; try with_reducible rfl
          simp only [Act.put, List.getElem_toArray, List.getElem_cons_zero, List.getElem_cons_succ, List.setIfInBounds_toArray, List.set_cons_zero, List.set_cons_succ]
          refine wpAnyH_take (i := 13) (v := ?_) rfl (by kernel_rfl) (by kernel_rfl) (by kernel_rfl) (fun _ _ _ h => h) (Or.inl ⟨by rfl, ?_⟩) hS0 ?_
          rotate_left
          · intro u hu; (try dsimp only at hu); go_simp; try with_reducible rfl
          simp only [Act.put, List.getElem_toArray, List.getElem_cons_zero, List.getElem_cons_succ, List.setIfInBounds_toArray, List.set_cons_zero, List.set_cons_succ]
          refine wpAnyH_take (i := 14) (v := ?_) rfl (by kernel_rfl) (by kernel_rfl) (by kernel_rfl) (fun _ _ _ h => h) (Or.inl ⟨by rfl, ?_⟩) hS0 ?_
          rotate_left
          · intro u hu; (try dsimp only at hu); go_simp; try with_reducible rfl
          simp only [Act.put, List.getElem_toArray, List.getElem_cons_zero, List.getElem_cons_succ, List.setIfInBounds_toArray, List.set_cons_zero, List.set_cons_succ]
          refine wpAnyH_take (i := 15) (v := ?_) rfl (by kernel_rfl) (by kernel_rfl) (by kernel_rfl) (fun _ _ _ h => h) (Or.inl ⟨by rfl, ?_⟩) hS0 ?_
          rotate_left
          · intro u hu; (try dsimp only at hu); go_simp; try with_reducible rfl
          simp only [Act.put, List.getElem_toArray, List.getElem_cons_zero, List.getElem_cons_succ, List.setIfInBounds_toArray, List.set_cons_zero, List.set_cons_succ]
          refine wpAnyH_take (i := 16) (v := ?_) rfl (by kernel_rfl) (by kernel_rfl) (by kernel_rfl) (fun _ _ _ h => h) (Or.inl ⟨by rfl, ?_⟩) hS0 ?_
          rotate_left
          · intro u hu; (try dsimp only at hu); go_simp; try with_reducible rfl
          simp only [Act.put, List.getElem_toArray, List.getElem_cons_zero, List.getElem_cons_succ, List.setIfInBounds_toArray, List.set_cons_zero, List.set_cons_succ]
          refine wpAnyH_take (i := 17) (v := ?_) rfl (by kernel_rfl) (by kernel_rfl) (by kernel_rfl) (fun _ _ _ h => h) (Or.inl ⟨by rfl, ?_⟩) hS0 ?_
          rotate_left
          · intro u hu; (try dsimp only at hu); go_simp; try with_reducible rfl
          simp only [Act.put, List.getElem_toArray, List.getElem_cons_zero, List.getElem_cons_succ, List.setIfInBounds_toArray, List.set_cons_zero, List.set_cons_succ]
          refine wpAnyH_take (i := 18) (v := ?_) rfl (by kernel_rfl) (by kernel_rfl) (by kernel_rfl) (fun _ _ _ h => h) (Or.inl ⟨by rfl, ?_⟩) hS0 ?_
          rotate_left
          · intro u hu; (try dsimp only at hu); go_simp; try with_reducible rfl
          simp only [Act.put, List.getElem_toArray, List.getElem_cons_zero, List.getElem_cons_succ, List.setIfInBounds_toArray, List.set_cons_zero, List.set_cons_succ]
          refine wpAnyH_ready (rs := [19]) (by kernel_rfl) (by simp) ?_
          refine AllReadyH.cons rfl (fun K hK => ?_) AllReadyH.nil
          go_simp
          refine hK.out _ _ hS7 (fun hU1 => ?_)
          clear hK K
          refine wpAnyH_ready (rs := [20]) (by kernel_rfl) (by simp) ?_
          refine AllReadyH.cons rfl (fun K hK => ?_) AllReadyH.nil
          refine Eq.mpr (if_pos rfl) ?_
          change Oper.wp Try.prog { dst := some 72, op := Op.call { callee := .builtin .append, args := #[.tmp 52, .tmp 71], argTypes := #[33, 33] }, type := 33, pos := _, after := _, guard := _ } _ _ _ _
          unfold Oper.wp execOp
          simp only [resolve, invoke, builtin, Sem.run_bind, Sem.run_pure, Result.andThen_ok, List.map_toArray, List.map_cons, List.map_nil]
          change Oper.upon _ _ _ _ _ ((Sem.run Try.prog (Builtin.append_ #[33, 33] 33 #[.slice va10 j vc10, .slice (some ⟨w6.heap.size, 0, none⟩) 1 1]) _).andThen _)
          rw [r8]
          simp only [Result.andThen_ok, Oper.upon]
          refine hK.out _ _ hS8 (fun hU2 => ?_)
          clear hK K r8 hS0 hU1 hS7
          refine wpAnyH_take (i := 21) (v := ?_) rfl (by kernel_rfl) (by kernel_rfl) (by kernel_rfl) (fun _ _ _ h => h) (Or.inl ⟨by rfl, ?_⟩) hU2 ?_
          rotate_left
          · intro u hu; (try dsimp only at hu); go_simp; try with_reducible rfl
          simp only [Act.put, List.getElem_toArray, List.getElem_cons_zero, List.getElem_cons_succ, List.setIfInBounds_toArray, List.set_cons_zero, List.set_cons_succ]
          refine wpAnyH_done (by kernel_rfl) ?_ _
          clear hU2 hS8
          go_wp2_with fail
          go_roundw
          case rel =>
            refine ⟨j + 1, by go_num, by omega, ?_, HB8⟩
            rw [unhide HTK, unhide HIT, ← icells_snoc]
            exact unhide HO8
          case measure => simp [intOf]; omega
        · obtain rfl : j = k := by omega
          have HTA := hide (show al.take j = al by rw [← (show al.length = j by rw [← unhide HAL, List.length_map]; exact unhide HOL)]; exact List.take_length)
          rw [unhide HTA] at HOW
          have hn128 := hq128
          by_cases h0 : j = 0
          focus
            have hj0 : ((j : Int) == 0) = true := by simp [h0]
            have HAF := hide (show aboveF es y o = [(-1, (y : Int), -1)] by unfold aboveF; rw [if_pos (by rw [unhide HOL]; exact h0)])
            have HAN := hide (show al = [] by rw [← unhide HAL, List.length_eq_zero_iff.1 ((unhide HOL).trans h0)]; rfl)
            rw [unhide HAN] at HOW
            have H0 := hide h0
            clear h0
            go_wp2_with (at_builtin; refine wpList_app_its rfl (.tmp 76) (.tmp 79) rfl w4.heap.size _ j [] rfl ((unhide HOW).alloc _) (some ⟨wr.heap.size, 0, none⟩) 1 1 [(-1, (y : Int), -1)] rfl rfl (fun h => by cases h) (is_lit wr _ _ _) ?a1 ?a2 ?_)
            case a1 => omega
            case a2 => simp; omega
            intro v5 w5 own5 hg5
            have HB5 := hide (((unhide HBW).alloc hsz _).grown hg5 (by simp; omega) (fun b hb => ((unhide HOW).lt b hb).1))
            have HAB := hide (show w5.ownsRow w4.heap.size 72 3 v5 (aboveF es y o).length (icells (aboveF es y o)) by rw [unhide HAF]; have := own5; rw [unhide H0] at this; exact this)
            clear own5 hg5 HOW HBW hsz HTA HAF HAN hj0
          rotate_left
          focus
            have hj0 : ((j : Int) == 0) = false := by rw [beq_eq_false_iff_ne]; omega
            have HAF := hide (show aboveF es y o = al by unfold aboveF; rw [if_neg (by rw [unhide HOL]; exact h0)]; exact unhide HAL)
            have H0 := hide h0
            clear h0
            go_wp2_with fail
            obtain ⟨w5, hw5⟩ : ∃ w5, w5 = wr := ⟨wr, rfl⟩
            rw [← hw5] at HOW HBW hsz ⊢
            have HB5 := HBW
            obtain ⟨v5, hv5⟩ : ∃ v5, v5 = Value.slice va10 j vc10 := ⟨_, rfl⟩
            rw [← hv5] at HOW ⊢
            have HAB := hide (show w5.ownsRow w4.heap.size 72 3 v5 (aboveF es y o).length (icells (aboveF es y o)) by rw [unhide HAF]; have := unhide HOW; rw [show al.length = j by rw [← unhide HAL, List.length_map]; exact unhide HOL]; exact this)
            clear hv5 hw5 HOW HBW hsz HTA HAF hj0
          all_goals
            have hR5 := (unhide HR2).below (unhide HB5)
            obtain ⟨d0, d1, d2, d3, hrb5⟩ := hR5.cells
            obtain ⟨n, hn⟩ : ∃ n, row.length = n := ⟨_, rfl⟩
            have hn400 : n ≤ 400 := by rw [← hn]; have := (unhide HI).rlen; have := (unhide HI).plen; have := (unhide HP).n128; have := (unhide HP).v64; omega
            rw [hn] at d2
            have HN := hide hn
            have HR5 := hide hR5
            clear hn hR5 d0 d1 d3
            go_wp2_with fail
            go_loopw [12, 13, 14] (fun f l i wr => ∃ (k : Nat) (f' l' : Int), f = .int .i64 f' ∧ l = .int .i64 l' ∧ i = .int .i64 k ∧ k ≤ n ∧ wr = w5 ∧ Hid (FL y row k f' l')) (fun f l i wr => n - (intOf i).toNat)
            case atStart => exact ⟨0, _, _, rfl, rfl, rfl, by omega, rfl, FL.zero _ _ _⟩
            case round =>
              obtain ⟨k, f', l', rfl, rfl, rfl, hk, rfl, HFL⟩ := hrel
              by_cases hlt : k < n
              · obtain ⟨g, off, ha, hg, e0, e1, e2⟩ := (unhide HR5).items.at (show k < row.length by rw [unhide HN]; exact hlt)
                have HS := hide (show hdE row k = (row.getD k (0, 0, 0)).2.2 from rfl)
                generalize row.getD k (0, 0, 0) = it at e0 e1 e2 HS
                obtain ⟨ie, it', ih⟩ := it
                simp only at e2
                have HS' := hide (show hdE row k = ih from unhide HS)
                subst ha
                have hkn : (k : Int) < (n : Int) := by omega
                have hwk : IntKind.i64.wrap ((k : Int) + 1) = (k : Int) + 1 := by rw [IntKind.wrap_i64]; omega
                clear e0 e1 HS
                by_cases hh : ih = (y : Int)
                · have hhb : (ih == (y : Int)) = true := by simp [hh]
                  by_cases hf : f' < 0
                  · have HF' := hide ((unhide HFL).first ((unhide HS').trans hh) hf)
                    clear hh
                    go_wp2_with fail
                    go_roundw
                    case rel => exact ⟨k + 1, _, _, rfl, rfl, by go_num, by omega, by trivial, HF'⟩
                    case measure => simp [intOf]; omega
                  · have HF' := hide ((unhide HFL).more ((unhide HS').trans hh) hf)
                    clear hh
                    go_wp2_with fail
                    go_roundw
                    case rel => exact ⟨k + 1, _, _, rfl, rfl, by go_num, by omega, by trivial, HF'⟩
                    case measure => simp [intOf]; omega
                · have hhb : (ih == (y : Int)) = false := by simp [hh]
                  have HF' := hide ((unhide HFL).no (fun e => hh ((unhide HS').symm.trans e)))
                  clear hh
                  go_wp2_with fail
                  go_roundw
                  case rel => exact ⟨k + 1, _, _, rfl, rfl, by go_num, by omega, by trivial, HF'⟩
                  case measure => simp [intOf]; omega
              · obtain rfl : k = n := by omega
                have hR5 := unhide HR5
                have d3 := hR5.cells.2.2.2.1
                obtain ⟨pn, hpn⟩ : ∃ pn, pl.length = pn := ⟨_, rfl⟩
                rw [hpn] at d3
                have hpn64 : pn ≤ 64 := by have := (unhide HI).plen; have := (unhide HP).v64; omega
                have HPN := hide hpn
                have d3' : (wr.alloc (.cells #[] 3)).cell? ⟨rb, 3, none⟩ = some (.slice pa pn pc) := by rw [cell_old _ _ _ hrb5]; exact d3
                have HPNS := hide (show Ns wr pa pn (toIs pl) by have := hR5.pls; rw [hpn] at this; exact this)
                have HPNO := hide (show pa = none → pn = 0 ∧ pc = 0 by rw [← hpn]; exact hR5.pno)
                have HD2 := hide d2
                clear hR5 hpn d3
                go_wp2_with (at_builtin; refine wpList_app_ints rfl (.tmp 105) (.tmp 109) rfl wr.heap.size _ 0 [] rfl (owns_lit_empty wr 3 1 wr.heap.size (Nat.le_refl _)) pa pn pc (toIs pl) rfl (unhide HPNO) ((unhide HPNS).below (b_al _)) ?b1 ?b2 ?_)
                case b1 => omega
                case b2 => simp
                intro v6 w6 own6 hg6
                have HB6 := hide ((b_al (w := wr) (.cells #[] 3)).grown hg6 (by simp) (fun b hb => ((owns_lit_empty wr 3 1 wr.heap.size (Nat.le_refl _)).lt b hb).1))
                have HO6 := hide (show w6.ownsRow wr.heap.size 3 1 v6 pn (zcells (toIs pl)) from own6)
                obtain ⟨va6, vc6, rfl⟩ := own_shape (unhide HO6)
                clear own6 hg6 d3'
                go_wp2_with (at_builtin; refine wpList_app_ints rfl (.tmp 110) (.tmp 112) rfl wr.heap.size _ pn (toIs pl) rfl ((unhide HO6).alloc _) (some ⟨w6.heap.size, 0, none⟩) 1 1 [(y : Int)] rfl (fun h => by cases h) (ns_lit w6 _) ?b1 ?b2 ?_)
                case b1 => omega
                case b2 => have := (unhide HB6).size; simp; omega
                intro v8 w8 own8 hg8
                have HB8 := hide (((unhide HB6).alloc (unhide HB6).size _).grown hg8 (by have := (unhide HB6).size; simp; omega) (fun b hb => ((unhide HO6).lt b hb).1))
                have HO8 := hide (show w8.ownsRow wr.heap.size 3 1 v8 (pn + 1) (zcells (toIs (pl ++ [y]))) by rw [← toIs_snoc]; exact own8)
                obtain ⟨ya, yc, rfl⟩ := own_shape (unhide HO8)
                clear own8 hg8 HB6 HO6 HPNS HPNO
                have hR8 := (unhide HR5).below (unhide HB8)
                have box8 := hR8.box
                have q83 : w8.cell? ⟨rb, 3, none⟩ = some (.slice pa pn pc) := by rw [← unhide HPN]; simp [World.cell?, box8]
                have HBZ8 := hide (Bz.of (B := rb) (S := fun i => i = rb) ((unhide HB2).trans (((unhide HB5).trans ((unhide HB8).mono (unhide HB5).size)).mono (unhide HB2).size)) (Nat.le_of_lt hrb))
                have HO58 := hide (owns_below' (unhide HAB) (unhide HB8))
                have hs48 : w4.heap.size ≤ w8.heap.size := Nat.le_trans (unhide HB5).size (unhide HB8).size
                have hrb4 : rb < w4.heap.size := (unhide HR2).cells.2.2.2.2
                have hp8 := fun g (h : (Value.slice ya (pn + 1) yc).ownBlock = some g) => (unhide HO8).lt g h
                have h5lt := fun g (h : v5.ownBlock = some g) => (unhide HAB).lt g h
                have HO8w := hide (owns_mono (unhide HO8) (unhide HB5).size)
                have hh9 : ∀ i, i ≠ rb → (w8.setCell ⟨rb, 3, none⟩ (.slice ya (pn + 1) yc)).heap[i]? = w8.heap[i]? := fun i hi => Below.heap_setCell _ _ _ _ hi
                have hs9 : (w8.setCell ⟨rb, 3, none⟩ (.slice ya (pn + 1) yc)).heap.size = w8.heap.size := by simp [World.setCell]
                have hfz8 : w8.frozen? ⟨rb, 3, none⟩ = false := box_fz box8 3
                have box9 : (w8.setCell ⟨rb, 3, none⟩ (.slice ya (pn + 1) yc)).heap[rb]? = some (.cells #[.int .i64 (V : Nat), .slice a es.length cap, .slice ra row.length rc, .slice ya (pn + 1) yc] 36 (0, 0)) := box_set3 box8
                have HBZ9 := hide (show Bz rb (fun i => i = rb) w (w8.setCell ⟨rb, 3, none⟩ (.slice ya (pn + 1) yc)) from (unhide HBZ8).trans (Bz.set (S := fun i => i = rb) (p := ⟨rb, 3, none⟩) rfl (Nat.le_refl _) (Nat.le_trans (Nat.le_of_lt hrb) (unhide HBZ8).size) _))
                have HO59 := hide (owns_keep (unhide HO58) (fun g hg => hh9 g (fun e => by have := (h5lt g hg).1; omega)))
                have HP9 := hide (owns_keep (unhide HO8w) (fun g hg => hh9 g (fun e => by have := (hp8 g hg).1; have := (unhide HB5).size; omega)))
                have HI9 := hide (show Is (w8.setCell ⟨rb, 3, none⟩ (.slice ya (pn + 1) yc)) ra row from Cr.keep hR8.items (by rw [hs9]; exact Nat.le_refl _) (fun g off e _ => hh9 g (fun e' => hR8.ne2 g off e e')))
                have q92 : (w8.setCell ⟨rb, 3, none⟩ (.slice ya (pn + 1) yc)).cell? ⟨rb, 2, none⟩ = some (.slice ra k rc) := by rw [← unhide HN]; simp only [World.cell?, box9]; rfl
                have q90 : (w8.setCell ⟨rb, 3, none⟩ (.slice ya (pn + 1) yc)).cell? ⟨rb, 0, none⟩ = some (.int .i64 (V : Nat)) := by simp only [World.cell?, box9]; rfl
                have HBX9 := hide box9
                have HRW := hide ((unhide HR).rno)
                have HX5 := hide (show ∀ g, v5.ownBlock = some g → g < wr.heap.size ∧ w4.heap.size ≤ g from fun g hg => ⟨(h5lt g hg).2, (h5lt g hg).1⟩)
                have HX8 := hide (show ∀ g, (Value.slice ya (pn + 1) yc).ownBlock = some g → wr.heap.size ≤ g ∧ g < w8.heap.size from fun g hg => hp8 g hg)
                have hsz5 := (unhide HB5).size
                have hsw4 : w.heap.size ≤ w4.heap.size := (unhide HB2).size
                have hs49 : w4.heap.size ≤ (w8.setCell ⟨rb, 3, none⟩ (.slice ya (pn + 1) yc)).heap.size := by rw [hs9]; exact hs48
                clear hR8 box8 box9 HO58 hp8 h5lt HO8w HBZ8 hh9
                rcases unhide HYR with ⟨hpl0, hys⟩ | ⟨hplne, A, Y, C, hr⟩
                · have hrow : row = [] := (unhide HI).e0 hpl0
                  have hk0 : k = 0 := by rw [← unhide HN, hrow]; rfl
                  have hf : f' < 0 := by
                    rcases unhide HFL with ⟨h1, _⟩ | ⟨_, l'', _, _, _, h4, _⟩
                    · omega
                    · omega
                  have HRO := hide hrow
                  have HPL0 := hide hpl0
                  have HYS := hide hys
                  have HK0 := hide hk0
                  have HRA := hide (show ra = none → k = 0 ∧ rc = 0 by rw [← unhide HN]; exact (unhide HRW))
                  have hna : (aboveF es y o).length ≤ 200 := by have := above_len es y o; have := unhide HOL; omega
                  have HNA := hide hna
                  clear hrow hpl0 hys hk0
                  go_wp2_with (at_builtin; refine wpList_app_its rfl (.tmp 119) (.tmp 123) rfl w4.heap.size _ (aboveF es y o).length (aboveF es y o) rfl (unhide HO59) ra k rc [] (unhide HK0).symm rfl (unhide HRA) (Is.nil0 _ _) (by have := unhide HK0; have := unhide HNA; omega) hs49 ?_)
                  intro v11 w11 own11 hg11
                  have HOB11 := hide (show w11.ownsRow w4.heap.size 72 3 v11 (aboveF es y o).length (icells (aboveF es y o)) by have := own11; rw [unhide HK0, Nat.add_zero] at this; exact this)
                  obtain ⟨xa, xc, rfl⟩ := own_shape (unhide HOB11)
                  have hx5 := unhide HX5
                  have hrbne : v5.ownBlock ≠ some rb := fun e => by have := (hx5 rb e).2; omega
                  have box11 : w11.heap[rb]? = some (.cells #[.int .i64 (V : Nat), .slice a es.length cap, .slice ra row.length rc, .slice ya (pn + 1) yc] 36 (0, 0)) := by rw [hg11.block rb (Nat.lt_of_lt_of_le hrb4 hs49) (fun e => hrbne e.symm)]; exact unhide HBX9
                  have q11 : w11.cell? ⟨rb, 2, none⟩ = some (.slice ra row.length rc) := by simp only [World.cell?, box11]; rfl
                  have fz11 := box_fz box11 2
                  have HP11 := hide (owns_keep (unhide HP9) (fun g hg => hg11.block g (by have := ((unhide HP9).lt g hg).2; exact this) (fun e => by have := (hx5 g e.symm).1; have := ((unhide HX8) g hg).1; omega)))
                  have HBZ11 := hide ((unhide HBZ9).more hg11 (fun b hb => Nat.le_trans hsw4 (hx5 b hb).2) (Nat.le_of_lt hrb))
                  have HBX11 := hide box11
                  clear own11 hg11 hx5 box11
                  go_wp2_with fail
                  go_ret2
                  have hl : (pl ++ [y]).length = pn + 1 := by rw [← unhide HPN]; simp
                  have hf12 : ∀ i, i ≠ rb → (w11.setCell ⟨rb, 2, none⟩ (.slice xa (aboveF es y o).length xc)).heap[i]? = w11.heap[i]? := fun i hi => Below.heap_setCell _ _ _ _ hi
                  have hox := owns_keep (unhide HOB11) (fun g hg => hf12 g (fun e => by have := ((unhide HOB11).lt g hg).1; omega))
                  have hop := owns_keep (unhide HP11) (fun g hg => hf12 g (fun e => by have := ((unhide HP11).lt g hg).1; omega))
                  have bz12 : Bz rb (fun i => i = rb) w (w11.setCell ⟨rb, 2, none⟩ (.slice xa (aboveF es y o).length xc)) := (unhide HBZ11).trans (Bz.set (S := fun i => i = rb) (p := ⟨rb, 2, none⟩) rfl (Nat.le_refl _) (Nat.le_trans (Nat.le_of_lt hrb) (unhide HBZ11).size) _)
                  refine ⟨0, [], aboveF es y o, pl ++ [y], _, xa, xc, ya, yc, .inr (.inr ⟨rfl, y, o, rfl, hyV, unhide HZO, unhide HOP, rfl, .inl ⟨unhide HPL0, unhide HYS, rfl, rfl⟩⟩), rfl, World.ownsRow_nil _ _ _ _, Rb.new (unhide HR) bz12 (base := w4.heap.size) hrb4 (by rw [hl]; exact box_set2 (unhide HBX11)) hox (by rw [hl]; exact hop) (by have := unhide HNA; omega) (by omega), fun g off he => .inr ?_, fun g off he => .inr ?_, bz12, fun h => absurd rfl h⟩
                  · obtain ⟨_, _, e1, _, _, _, h1⟩ := cr_of_owns hox (by have := unhide HNA; omega)
                    cases e1
                    have := (h1 g off he).1
                    omega
                  · obtain ⟨_, _, e1, _, _, _, h1⟩ := cr_of_owns hop (by omega)
                    cases e1
                    have := (h1 g off he).1
                    omega
                · obtain ⟨hf1, hl1⟩ := FL.rdy (unhide HI) hr (by rw [unhide HN]; exact unhide HFL)
                  subst hf1
                  obtain ⟨lo, hlo⟩ : ∃ lo, A.length = lo := ⟨_, rfl⟩
                  obtain ⟨hi, hhi⟩ : ∃ hi, A.length + Y.length = hi := ⟨_, rfl⟩
                  have hYp : 0 < Y.length := by obtain ⟨t, Y', e, _⟩ := hr.fst; rw [e]; simp
                  have hkl : k = A.length + (Y.length + C.length) := by rw [← unhide HN, hr.eq]; simp
                  have hrc : k ≤ rc := by rw [← unhide HN]; exact (unhide HR).rcap
                  have eA : row.take lo = A := by rw [hr.eq, ← hlo]; simp
                  have eY : (row.take hi).drop lo = Y := by rw [hr.eq, ← hlo, ← hhi, List.drop_take, List.drop_left, Nat.add_sub_cancel_left, List.take_left]
                  have eC : row.drop hi = C := by rw [hr.eq, ← hhi, ← List.drop_drop, List.drop_left, List.drop_left]
                  rw [hhi] at hl1
                  rw [hlo]
                  have lh1 : lo < hi := by omega
                  have lh2 : hi ≤ k := by omega
                  have lh3 : Y.length = hi - lo := by omega
                  have lh4 : C.length = k - hi := by omega
                  have LH := hide (show lo < hi ∧ hi ≤ k ∧ k ≤ rc from ⟨lh1, lh2, hrc⟩)
                  obtain ⟨g, off, hra, _⟩ := (unhide HI9).at (show 0 < row.length by rw [unhide HN]; omega)
                  subst hra
                  have hit : Cr 3 (w8.setCell ⟨rb, 3, none⟩ (.slice ya (pn + 1) yc)) (some ⟨g, off, none⟩) k (icells row) := by have := unhide HI9; unfold Is at this; rw [unhide HN] at this; exact this
                  have HIY := hide (show Is (w8.setCell ⟨rb, 3, none⟩ (.slice ya (pn + 1) yc)) (some ⟨g, off + lo * 3, none⟩) Y by have := (hit.take (m := hi) lh2).drop (m := lo) (by omega) ⟨g, off + lo * 3, none⟩ (fun _ => rfl); rw [icells_take, icells_drop, eY, ← lh3] at this; exact this)
                  have HIA := hide (show Is (w8.setCell ⟨rb, 3, none⟩ (.slice ya (pn + 1) yc)) (some ⟨g, off, none⟩) A by have := hit.take (m := lo) (by omega); rw [icells_take, eA, ← hlo] at this; exact this)
                  obtain ⟨ta, hta⟩ : ∃ ta, (if rc = hi then some (⟨g, off, none⟩ : Addr) else some ⟨g, off + hi * 3, none⟩) = ta := ⟨_, rfl⟩
                  obtain ⟨ta', hta', htb⟩ : ∃ ta' : Addr, ta = some ta' ∧ (hi < k → ta' = ⟨g, off + hi * 3, none⟩) := by
                    by_cases h : rc = hi
                    · rw [if_pos h] at hta
                      exact ⟨_, hta.symm, fun h2 => by omega⟩
                    · rw [if_neg h] at hta
                      exact ⟨_, hta.symm, fun _ => rfl⟩
                  have HIC := hide (show Is (w8.setCell ⟨rb, 3, none⟩ (.slice ya (pn + 1) yc)) (some ta') C by have := hit.drop (m := hi) lh2 ta' htb; rw [icells_drop, eC, ← lh4] at this; exact this)
                  have HTA := hide hta
                  have HTA' := hide hta'
                  have HR0 := hide hr
                  have HPLN := hide hplne
                  have hlo1 : (lo : Int) < (hi : Int) := by omega
                  have hlo2 : (lo : Int) ≤ (hi : Int) := by omega
                  have hhn : (hi : Int) ≤ (k : Int) := by omega
                  have hhr : (hi : Int) ≤ (rc : Int) := by omega
                  have hlr : (lo : Int) ≤ (rc : Int) := by omega
                  have hrl : ¬ rc = lo := by omega
                  have hnf : ¬ (lo : Int) < 0 := by omega
                  have hwl : IntKind.i64.wrap (l' + 1) = ((hi : Nat) : Int) := by rw [hl1, IntKind.wrap_i64]; omega
                  have HLO := hide (show A.length = lo ∧ Y.length = hi - lo ∧ C.length = k - hi from ⟨hlo, lh3, lh4⟩)
                  clear hl1 hYp hkl hrc eA eY eC hhi hlo lh1 lh2 lh3 lh4 hit hta hta' htb hr hplne
                  have hoe := owns_lit_empty (w8.setCell ⟨rb, 3, none⟩ (.slice ya (pn + 1) yc)) 72 3 (w8.setCell ⟨rb, 3, none⟩ (.slice ya (pn + 1) yc)).heap.size (Nat.le_refl _)
                  rw [hs9] at hoe
                  have q92a : ((w8.setCell ⟨rb, 3, none⟩ (.slice ya (pn + 1) yc)).alloc (.cells #[] 72)).cell? ⟨rb, 2, none⟩ = some (.slice (some ⟨g, off, none⟩) k rc) := by rw [cell_old _ _ _ (Nat.lt_of_lt_of_le hrb4 hs49)]; exact q92
                  have hcy : hi - lo ≤ 1000 ∧ lo ≤ 1000 ∧ k - hi ≤ 1000 := by have := unhide LH; omega
                  have HCY := hide hcy
                  clear hcy
                  go_wp2_with (at_builtin; refine wpList_app_its rfl (.tmp 127) (.tmp 135) rfl w8.heap.size _ 0 [] rfl hoe (some ⟨g, off + lo * 3, none⟩) (hi - lo) (rc - lo) Y (unhide HLO).2.1 rfl (fun h => by cases h) ((unhide HIY).below (b_al _)) (by have := unhide HCY; omega) (by simp [World.setCell]) ?_)
                  intro v12 w12 own12 hg12
                  have hb12 : Below (w8.setCell ⟨rb, 3, none⟩ (.slice ya (pn + 1) yc)).heap.size (w8.setCell ⟨rb, 3, none⟩ (.slice ya (pn + 1) yc)) w12 := (b_al (w := (w8.setCell ⟨rb, 3, none⟩ (.slice ya (pn + 1) yc))) (.cells #[] 72)).grown hg12 (by simp) (fun b hb => by have := (hoe.lt b hb).1; rw [hs9]; exact this)
                  have HO12 := hide (show w12.ownsRow w8.heap.size 72 3 v12 Y.length (icells Y) by have := own12; rw [← (unhide HLO).2.1] at this; exact this)
                  have q12a : (w12.alloc (.cells #[] 72)).cell? ⟨rb, 2, none⟩ = some (.slice (some ⟨g, off, none⟩) k rc) := by
                    have h1 : rb < (w8.setCell ⟨rb, 3, none⟩ (.slice ya (pn + 1) yc)).heap.size := Nat.lt_of_lt_of_le hrb4 hs49
                    rw [cell_old _ _ _ (Nat.lt_of_lt_of_le h1 hb12.size), hb12.cell (p := ⟨rb, 2, none⟩) h1]
                    exact q92
                  have HB12 := hide hb12
                  clear hoe q92a own12 hg12 hb12
                  go_wp2_with (at_builtin; refine wpList_app_its rfl (.tmp 137) (.tmp 143) rfl w12.heap.size _ 0 [] rfl (owns_lit_empty w12 72 3 w12.heap.size (Nat.le_refl _)) (some ⟨g, off, none⟩) lo rc A (unhide HLO).1 rfl (fun h => by cases h) ((unhide HIA).below ((unhide HB12).trans ((b_al _).mono (unhide HB12).size))) (by have := unhide HCY; omega) (by simp) ?_)
                  intro v13 w13 own13 hg13
                  have HB13 := hide ((b_al (w := w12) (.cells #[] 72)).grown hg13 (by simp) (fun b hb => ((owns_lit_empty w12 72 3 w12.heap.size (Nat.le_refl _)).lt b hb).1))
                  have HO13 := hide (show w13.ownsRow w12.heap.size 72 3 v13 A.length (icells A) by have := own13; rw [← (unhide HLO).1] at this; exact this)
                  clear q12a own13 hg13
                  obtain ⟨g5, c5, hv5⟩ := own_form (unhide HAB) (by unfold aboveF; split; simp; rw [List.length_map]; omega)
                  subst hv5
                  have hrb9 : rb < (w8.setCell ⟨rb, 3, none⟩ (.slice ya (pn + 1) yc)).heap.size := Nat.lt_of_lt_of_le hrb4 hs49
                  have hs912 : (w8.setCell ⟨rb, 3, none⟩ (.slice ya (pn + 1) yc)).heap.size ≤ w12.heap.size := (unhide HB12).size
                  have hb93 := ((unhide HB12).trans ((unhide HB13).mono hs912)).drew
                  have HB93 := hide hb93
                  have HO13 := hide (show w13.drew.ownsRow _ _ _ _ _ _ from unhide HO13)
                  have HL12 := hide (fun g' hg' => ((unhide HO12).lt g' hg').2)
                  have HO12 := hide (show w13.drew.ownsRow _ _ _ _ _ _ from owns_below' (unhide HO12) (unhide HB13).drew)
                  have hs1213 : w12.heap.size ≤ w13.drew.heap.size := (unhide HB13).size
                  have q130 : w13.cell? ⟨rb, 0, none⟩ = some (.int .i64 (V : Nat)) := by rw [((unhide HB12).trans ((unhide HB13).mono hs912)).cell (p := ⟨rb, 0, none⟩) hrb9]; exact q90
                  clear hb93
                  go_wp2_with fail
                  refine wp_region_held_drew (S := fun u => u.cell? ⟨rb, 0, none⟩ = some (.int .i64 (V : Nat))) (by kernel_rfl) q130 (fun hS0 => ?_)
                  clear q130 HB13
                  generalize w13.drew = u at hS0 HB93 HO13 HO12 hs1213 ⊢
                  have hna : (aboveF es y o).length ≤ 200 := by have := above_len es y o; have := unhide HOL; omega
                  have hna0 : 0 < (aboveF es y o).length := by unfold aboveF; split; simp; rw [List.length_map]; omega
                  have hI5 : Is u (some ⟨g5, 0, none⟩) (aboveF es y o) := by
                    obtain ⟨a5, c5', e5, _, _, h5, _⟩ := cr_of_owns (owns_below' (unhide HO59) (unhide HB93)) (by omega)
                    cases e5
                    exact h5
                  obtain ⟨v14, w14, r14, own14, hg14⟩ := run_app_its (w := u) w12.heap.size v13 A.length A (unhide HO13) ⟨g5, 0, none⟩ (aboveF es y o).length c5 (aboveF es y o) rfl hI5 (by have := unhide HLO; have := unhide HCY; omega) hs1213
                  have hb914 : Below (w8.setCell ⟨rb, 3, none⟩ (.slice ya (pn + 1) yc)).heap.size (w8.setCell ⟨rb, 3, none⟩ (.slice ya (pn + 1) yc)) w14 := (unhide HB93).grown hg14 (unhide HB93).size (fun b hb => Nat.le_trans hs912 ((unhide HO13).lt b hb).1)
                  have hs14 : w12.heap.size ≤ w14.heap.size := Nat.le_trans hs1213 hg14.size
                  obtain ⟨v15, w15, r15, own15, hg15⟩ := run_app_its (w := w14) w12.heap.size v14 _ _ own14 ta' (k - hi) (rc - hi) C (unhide HLO).2.2 ((unhide HIC).below hb914) (by have := unhide HLO; have := unhide HCY; omega) hs14
                  have hb915 : Below (w8.setCell ⟨rb, 3, none⟩ (.slice ya (pn + 1) yc)).heap.size (w8.setCell ⟨rb, 3, none⟩ (.slice ya (pn + 1) yc)) w15 := hb914.grown hg15 hb914.size (fun b hb => Nat.le_trans hs912 (own14.lt b hb).1)
                  have hb1215 : ∀ i, i < w12.heap.size → w15.heap[i]? = u.heap[i]? := fun i hi => by
                    rw [hg15.block i (by omega) (fun e => by have := (own14.lt i e.symm).1; omega), hg14.block i (by omega) (fun e => by have := ((unhide HO13).lt i e.symm).1; omega)]
                  have bx : ∀ z, Below (w8.setCell ⟨rb, 3, none⟩ (.slice ya (pn + 1) yc)).heap.size (w8.setCell ⟨rb, 3, none⟩ (.slice ya (pn + 1) yc)) z → z.heap[rb]? = some (.cells #[.int .i64 (V : Nat), .slice a es.length cap, .slice (some ⟨g, off, none⟩) row.length rc, .slice ya (pn + 1) yc] 36 (0, 0)) := fun z hz => by rw [hz.block rb hrb9]; exact unhide HBX9
                  have c0 : ∀ z, Below (w8.setCell ⟨rb, 3, none⟩ (.slice ya (pn + 1) yc)).heap.size (w8.setCell ⟨rb, 3, none⟩ (.slice ya (pn + 1) yc)) z → z.cell? ⟨rb, 0, none⟩ = some (.int .i64 (V : Nat)) := fun z hz => by have := bx z hz; simp only [World.cell?, this]; rfl
                  have c2 : ∀ z, Below (w8.setCell ⟨rb, 3, none⟩ (.slice ya (pn + 1) yc)).heap.size (w8.setCell ⟨rb, 3, none⟩ (.slice ya (pn + 1) yc)) z → z.cell? ⟨rb, 2, none⟩ = some (.slice (some ⟨g, off, none⟩) k rc) := fun z hz => by have := bx z hz; rw [unhide HN] at this; simp only [World.cell?, this]; rfl
                  have qu2 := c2 u (unhide HB93)
                  have q140 := c0 w14 hb914
                  have q142 := c2 w14 hb914
                  have q150 := c0 w15 hb915
                  have q152 := c2 w15 hb915
                  have f152 := box_fz (bx w15 hb915) 2
                  have hl2 : (A ++ (aboveF es y o ++ C)).length = A.length + (aboveF es y o).length + (k - hi) := by rw [← (unhide HLO).2.2]; simp; omega
                  have hl3 : (A ++ (aboveF es y o ++ C)).length ≤ 1000 := by have := unhide HLO; have := (unhide HI).rlen; have := (unhide HI).plen; have := (unhide HP).n128; have := (unhide HP).v64; have := unhide LH; omega
                  have hox15 : w15.ownsRow w12.heap.size 72 3 v15 (A.length + (aboveF es y o).length + (k - hi)) (icells (A ++ (aboveF es y o ++ C))) := by rw [← List.append_assoc]; exact own15
                  clear own15
                  obtain ⟨m2, hm2⟩ : ∃ m2, A.length + (aboveF es y o).length + (k - hi) = m2 := ⟨_, rfl⟩
                  rw [hm2] at hox15 hl2
                  obtain ⟨xa, xc, rfl⟩ := own_shape hox15
                  obtain ⟨w16, hw16⟩ : ∃ w16, w15.setCell ⟨rb, 2, none⟩ (.slice xa m2 xc) = w16 := ⟨_, rfl⟩
                  have hf16 : ∀ i, i ≠ rb → w16.heap[i]? = w15.heap[i]? := fun i hi => by rw [← hw16]; exact Below.heap_setCell _ _ _ _ hi
                  have box16 : w16.heap[rb]? = some (.cells #[.int .i64 (V : Nat), .slice a es.length cap, .slice xa m2 xc, .slice ya (pn + 1) yc] 36 (0, 0)) := by rw [← hw16]; exact box_set2 (bx w15 hb915)
                  have q160 : w16.cell? ⟨rb, 0, none⟩ = some (.int .i64 (V : Nat)) := by simp only [World.cell?, box16]; rfl
                  have HFIN := hide (show RefStep rb V a cap es src (some ⟨g, off, none⟩) row pa pl (y : Nat) zs w w16 (.returned (.tuple #[v12, .int .i64 0])) by
                    have hl : (pl ++ [y]).length = pn + 1 := by rw [← unhide HPN]; simp
                    have hox := owns_keep hox15 (fun g' hg' => hf16 g' (fun e => by have := (hox15.lt g' hg').1; omega))
                    have hp15 := owns_below' (unhide HP9) hb915
                    have hop := owns_keep hp15 (fun g' hg' => hf16 g' (fun e => by have := (hp15.lt g' hg').1; omega))
                    have ho15 := owns_keep (unhide HO12) (fun g' hg' => hb1215 g' (unhide HL12 g' hg'))
                    have ho16 := owns_keep ho15 (fun g' hg' => hf16 g' (fun e => by have := (ho15.lt g' hg').1; omega))
                    have bz15 : Bz rb (fun i => i = rb) w w15 := (unhide HBZ9).below hb915 (Nat.le_of_lt hrb)
                    have bz16 : Bz rb (fun i => i = rb) w w16 := by rw [← hw16]; exact bz15.trans (Bz.set (S := fun i => i = rb) (p := ⟨rb, 2, none⟩) rfl (Nat.le_refl _) (Nat.le_trans (Nat.le_of_lt hrb) bz15.size) _)
                    refine ⟨0, Y, A ++ (aboveF es y o ++ C), pl ++ [y], _, xa, xc, ya, yc, .inr (.inr ⟨rfl, y, o, rfl, hyV, unhide HZO, unhide HOP, rfl, .inr ⟨unhide HPLN, A, C, unhide HR0, rfl⟩⟩), rfl, owns_mono ho16 (by omega), Rb.new (unhide HR) bz16 (base := w4.heap.size) hrb4 (by rw [hl, hl2]; exact box16) (by rw [hl2]; exact owns_mono hox (by omega)) (by rw [hl]; exact hop) hl3 (by omega), fun g' off' he => .inr ?_, fun g' off' he => .inr ?_, bz16, fun h => absurd rfl h⟩
                    · obtain ⟨_, _, e1, _, _, _, h1⟩ := cr_of_owns hox (by omega)
                      cases e1
                      have := (h1 g' off' he).1
                      omega
                    · obtain ⟨_, _, e1, _, _, _, h1⟩ := cr_of_owns hop (by omega)
                      cases e1
                      have := (h1 g' off' he).1
                      omega)
                  have hta1 := (unhide HTA')
                  rw [← hw16] at q160 HFIN
                  clear own14 hg14 hg15 hb914 hb915 hb1215 bx c0 c2 hox15 hf16 box16 hI5 hl3 hl2 hm2 hw16
                  refine wpAnyH_take (i := 0) (v := ?_) rfl (by kernel_rfl) (by kernel_rfl) (by kernel_rfl) (fun _ _ _ h => h) (Or.inl ⟨by rfl, ?_⟩) hS0 ?_
                  rotate_left
                  · intro u hu; (try dsimp only at hu); go_simp; try with_reducible rfl
                  simp only [Act.put, List.getElem_toArray, List.getElem_cons_zero, List.setIfInBounds_toArray, List.set_cons_zero, List.set_cons_succ]
                  refine wpAnyH_take (i := 1) (v := ?_) rfl (by kernel_rfl) (by kernel_rfl) (by kernel_rfl) (fun _ _ _ h => h) (Or.inl ⟨by rfl, ?_⟩) hS0 ?_
                  rotate_left
                  · intro u hu; (try dsimp only at hu); go_simp; try with_reducible rfl
                  simp only [Act.put, List.getElem_toArray, List.getElem_cons_zero, List.getElem_cons_succ, List.setIfInBounds_toArray, List.set_cons_zero, List.set_cons_succ]
                  refine wpAnyH_take (i := 2) (v := ?_) rfl (by kernel_rfl) (by kernel_rfl) (by kernel_rfl) (fun _ _ _ h => h) (Or.inl ⟨by rfl, ?_⟩) hS0 ?_
                  rotate_left
                  · intro u hu; (try dsimp only at hu); go_simp; try with_reducible rfl
                  simp only [Act.put, List.getElem_toArray, List.getElem_cons_zero, List.getElem_cons_succ, List.setIfInBounds_toArray, List.set_cons_zero, List.set_cons_succ]
                  refine wpAnyH_take (i := 4) (v := ?_) rfl (by kernel_rfl) (by kernel_rfl) (by kernel_rfl) (fun _ _ _ h => h) (Or.inl ⟨by rfl, ?_⟩) hS0 ?_
                  rotate_left
                  · intro u hu; (try dsimp only at hu); go_simp; try with_reducible rfl
                  simp only [Act.put, List.getElem_toArray, List.getElem_cons_zero, List.getElem_cons_succ, List.setIfInBounds_toArray, List.set_cons_zero, List.set_cons_succ]
                  refine wpAnyH_take (i := 5) (v := ?_) rfl (by kernel_rfl) (by kernel_rfl) (by kernel_rfl) (fun _ _ _ h => h) (Or.inl ⟨by rfl, ?_⟩) hS0 ?_
                  rotate_left
                  · intro u hu; (try dsimp only at hu); go_simp; try with_reducible rfl
                  simp only [Act.put, List.getElem_toArray, List.getElem_cons_zero, List.getElem_cons_succ, List.setIfInBounds_toArray, List.set_cons_zero, List.set_cons_succ]
                  refine wpAnyH_take (i := 6) (v := ?_) rfl (by kernel_rfl) (by kernel_rfl) (by kernel_rfl) (fun _ _ _ h => h) (Or.inl ⟨by rfl, ?_⟩) hS0 ?_
                  rotate_left
                  · intro u hu; (try dsimp only at hu); go_simp; try with_reducible rfl
                  simp only [Act.put, List.getElem_toArray, List.getElem_cons_zero, List.getElem_cons_succ, List.setIfInBounds_toArray, List.set_cons_zero, List.set_cons_succ]
                  refine wpAnyH_take (i := 8) (v := ?_) rfl (by kernel_rfl) (by kernel_rfl) (by kernel_rfl) (fun _ _ _ h => h) (Or.inl ⟨by rfl, ?_⟩) hS0 ?_
                  rotate_left
                  · intro u hu; (try dsimp only at hu); go_simp; try with_reducible rfl
                  simp only [Act.put, List.getElem_toArray, List.getElem_cons_zero, List.getElem_cons_succ, List.setIfInBounds_toArray, List.set_cons_zero, List.set_cons_succ]
                  refine wpAnyH_take (i := 9) (v := ?_) rfl (by kernel_rfl) (by kernel_rfl) (by kernel_rfl) (fun _ _ _ h => h) (Or.inl ⟨by rfl, ?_⟩) hS0 ?_
                  rotate_left
                  · intro u hu; (try dsimp only at hu); go_simp; try with_reducible rfl
                  simp only [Act.put, List.getElem_toArray, List.getElem_cons_zero, List.getElem_cons_succ, List.setIfInBounds_toArray, List.set_cons_zero, List.set_cons_succ]
                  refine wpAnyH_ready (rs := [3, 7]) (by kernel_rfl) (by simp) ?_
                  refine AllReadyH.cons rfl (fun K hK => ?_) (AllReadyH.cons rfl (fun K hK => ?_) AllReadyH.nil)
                  · refine Eq.mpr (if_pos rfl) ?_
                    change Oper.wp Try.prog { dst := some 148, op := Op.call { callee := .builtin .append, args := #[.tmp 146, .tmp 147], argTypes := #[33, 33] }, type := 33, pos := _, after := _, guard := _ } _ _ _ _
                    unfold Oper.wp execOp
                    simp only [resolve, invoke, builtin, Sem.run_bind, Sem.run_pure, Result.andThen_ok, List.map_toArray, List.map_cons, List.map_nil]
                    change Oper.upon _ _ _ _ _ ((Sem.run Try.prog (Builtin.append_ #[33, 33] 33 #[v13, .slice (some ⟨g5, 0, none⟩) (aboveF es y o).length c5]) _).andThen _)
                    rw [r14]
                    simp only [Result.andThen_ok, Oper.upon]
                    refine hK.out _ _ q140 (fun hU1 => ?_)
                    clear hK K
                    refine wpAnyH_ready (rs := [7]) (by kernel_rfl) (by simp) ?_
                    refine AllReadyH.cons rfl (fun K hK => ?_) AllReadyH.nil
                    go_simp
                    refine hK.out _ _ q140 (fun hU2 => ?_)
                    clear hK K
                    refine wpAnyH_take (i := 10) (v := ?_) rfl (by kernel_rfl) (by kernel_rfl) (by kernel_rfl) (fun _ _ _ h => h) (Or.inl ⟨by rfl, ?_⟩) hU2 ?_
                    rotate_left
                    · intro u hu; (try dsimp only at hu); go_simp; try with_reducible rfl
                    simp only [Act.put, List.getElem_toArray, List.getElem_cons_zero, List.getElem_cons_succ, List.setIfInBounds_toArray, List.set_cons_zero, List.set_cons_succ]
                    try rw [unhide HTA, hta1]
                    refine wpAnyH_ready (rs := [11]) (by kernel_rfl) (by simp) ?_
                    refine AllReadyH.cons rfl (fun K hK => ?_) AllReadyH.nil
                    refine Eq.mpr (if_pos rfl) ?_
                    change Oper.wp Try.prog { dst := some 156, op := Op.call { callee := .builtin .append, args := #[.tmp 148, .tmp 155], argTypes := #[33, 33] }, type := 33, pos := _, after := _, guard := _ } _ _ _ _
                    unfold Oper.wp execOp
                    simp only [resolve, invoke, builtin, Sem.run_bind, Sem.run_pure, Result.andThen_ok, List.map_toArray, List.map_cons, List.map_nil]
                    change Oper.upon _ _ _ _ _ ((Sem.run Try.prog (Builtin.append_ #[33, 33] 33 #[v14, .slice (some ta') (k - hi) (rc - hi)]) _).andThen _)
                    rw [r15]
                    simp only [Result.andThen_ok, Oper.upon]
                    refine hK.out _ _ q150 (fun hU3 => ?_)
                    clear hK K
                    refine wpAnyH_take (i := 12) (v := ?_) rfl (by kernel_rfl) (by kernel_rfl) (by kernel_rfl) (fun _ _ _ h => h) (Or.inl ⟨by rfl, ?_⟩) hU3 ?_
                    rotate_left
                    · intro u hu; (try dsimp only at hu); go_simp; try with_reducible rfl
                    simp only [Act.put, List.getElem_toArray, List.getElem_cons_zero, List.getElem_cons_succ, List.setIfInBounds_toArray, List.set_cons_zero, List.set_cons_succ]
                    refine wpAnyH_take (i := 13) (v := ?_) rfl (by kernel_rfl) (by kernel_rfl) (by kernel_rfl) (fun _ _ _ h => h) (Or.inl ⟨by rfl, ?_⟩) hU3 ?_
                    rotate_left
                    · intro u hu; (try dsimp only at hu); go_simp; try with_reducible rfl
                    simp only [Act.put, List.getElem_toArray, List.getElem_cons_zero, List.getElem_cons_succ, List.setIfInBounds_toArray, List.set_cons_zero, List.set_cons_succ]
                    refine wpAnyH_ready (rs := [14]) (by kernel_rfl) (by simp) ?_
                    refine AllReadyH.cons rfl (fun K hK => ?_) AllReadyH.nil
                    go_simp
                    refine hK.out _ _ q160 (fun hU4 => ?_)
                    clear hK K
                    refine wpAnyH_done (by kernel_rfl) ?_ _
                    go_wp2_with fail
                    go_ret2
                    exact unhide HFIN
                  · go_simp
                    refine hK.out _ _ hS0 (fun hU2 => ?_)
                    clear hK K
                    refine wpAnyH_take (i := 10) (v := ?_) rfl (by kernel_rfl) (by kernel_rfl) (by kernel_rfl) (fun _ _ _ h => h) (Or.inl ⟨by rfl, ?_⟩) hU2 ?_
                    rotate_left
                    · intro u hu; (try dsimp only at hu); go_simp; try with_reducible rfl
                    simp only [Act.put, List.getElem_toArray, List.getElem_cons_zero, List.getElem_cons_succ, List.setIfInBounds_toArray, List.set_cons_zero, List.set_cons_succ]
                    try rw [unhide HTA, hta1]
                    refine wpAnyH_ready (rs := [3]) (by kernel_rfl) (by simp) ?_
                    refine AllReadyH.cons rfl (fun K hK => ?_) AllReadyH.nil
                    refine Eq.mpr (if_pos rfl) ?_
                    change Oper.wp Try.prog { dst := some 148, op := Op.call { callee := .builtin .append, args := #[.tmp 146, .tmp 147], argTypes := #[33, 33] }, type := 33, pos := _, after := _, guard := _ } _ _ _ _
                    unfold Oper.wp execOp
                    simp only [resolve, invoke, builtin, Sem.run_bind, Sem.run_pure, Result.andThen_ok, List.map_toArray, List.map_cons, List.map_nil]
                    change Oper.upon _ _ _ _ _ ((Sem.run Try.prog (Builtin.append_ #[33, 33] 33 #[v13, .slice (some ⟨g5, 0, none⟩) (aboveF es y o).length c5]) _).andThen _)
                    rw [r14]
                    simp only [Result.andThen_ok, Oper.upon]
                    refine hK.out _ _ q140 (fun hU1 => ?_)
                    clear hK K
                    refine wpAnyH_ready (rs := [11]) (by kernel_rfl) (by simp) ?_
                    refine AllReadyH.cons rfl (fun K hK => ?_) AllReadyH.nil
                    refine Eq.mpr (if_pos rfl) ?_
                    change Oper.wp Try.prog { dst := some 156, op := Op.call { callee := .builtin .append, args := #[.tmp 148, .tmp 155], argTypes := #[33, 33] }, type := 33, pos := _, after := _, guard := _ } _ _ _ _
                    unfold Oper.wp execOp
                    simp only [resolve, invoke, builtin, Sem.run_bind, Sem.run_pure, Result.andThen_ok, List.map_toArray, List.map_cons, List.map_nil]
                    change Oper.upon _ _ _ _ _ ((Sem.run Try.prog (Builtin.append_ #[33, 33] 33 #[v14, .slice (some ta') (k - hi) (rc - hi)]) _).andThen _)
                    rw [r15]
                    simp only [Result.andThen_ok, Oper.upon]
                    refine hK.out _ _ q150 (fun hU3 => ?_)
                    clear hK K
                    refine wpAnyH_take (i := 12) (v := ?_) rfl (by kernel_rfl) (by kernel_rfl) (by kernel_rfl) (fun _ _ _ h => h) (Or.inl ⟨by rfl, ?_⟩) hU3 ?_
                    rotate_left
                    · intro u hu; (try dsimp only at hu); go_simp; try with_reducible rfl
                    simp only [Act.put, List.getElem_toArray, List.getElem_cons_zero, List.getElem_cons_succ, List.setIfInBounds_toArray, List.set_cons_zero, List.set_cons_succ]
                    refine wpAnyH_take (i := 13) (v := ?_) rfl (by kernel_rfl) (by kernel_rfl) (by kernel_rfl) (fun _ _ _ h => h) (Or.inl ⟨by rfl, ?_⟩) hU3 ?_
                    rotate_left
                    · intro u hu; (try dsimp only at hu); go_simp; try with_reducible rfl
                    simp only [Act.put, List.getElem_toArray, List.getElem_cons_zero, List.getElem_cons_succ, List.setIfInBounds_toArray, List.set_cons_zero, List.set_cons_succ]
                    refine wpAnyH_ready (rs := [14]) (by kernel_rfl) (by simp) ?_
                    refine AllReadyH.cons rfl (fun K hK => ?_) AllReadyH.nil
                    go_simp
                    refine hK.out _ _ q160 (fun hU4 => ?_)
                    clear hK K
                    refine wpAnyH_done (by kernel_rfl) ?_ _
                    go_wp2_with fail
                    go_ret2
                    exact unhide HFIN
end Go.Proofs.Ytdkchihomllokaa


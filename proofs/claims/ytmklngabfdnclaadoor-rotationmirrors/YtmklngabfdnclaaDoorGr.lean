/-
  The contract of the document's Genus. Conditions: the graph and the lists lie in memory as told, and the lists are a rotation.
-/
import Derived.Test.YtmklngabfdnclaaDoorRf
import Derived.Test.YtmklngabfdnclaaDoorQRefPt
namespace Go.Proofs.YtmklngabfdnclaaDoor
open Go.RowKit
set_option linter.unusedVariables false
set_option maxRecDepth 20000

theorem step_make_full {P : Program} {w : World} {ops : Array Oper} {o : Oper} {a : Act} {K : Act → World → Prop} {Q : Exit → Act → World → Prop} {E : Prop} (hgd : o.guard = none) (l c : Operand) (t : TypeId) (hop : o.op = Op.makeSlice t l c)
    (base : Nat) (e : TypeId) (i : TypeInfo) (z : Value) (size : Nat) (h1 : P.underlying t = some (.slice e)) (h2 : P.info? e = some i) (h3 : i.zero = some z) (h4 : i.size = size)
    (kl kc : IntKind) (L C : Int) (n : Nat) (hl : a.eval l = .int kl L) (hc : a.eval c = .int kc C) (hL : L = (n : Int)) (hC : C = (n : Int)) (b2 : i.bytes * n ≤ 281474976710656) (b3 : n ≤ maxLen) (b4 : base ≤ w.heap.size)
    (hK : ∀ w', w'.ownsRow base e size (.slice (some ⟨w.heap.size, 0, none⟩) n n) n (madeCells z.cells (n * size)).toList → w.grownBy w' none → K (a.put o.dst (.slice (some ⟨w.heap.size, 0, none⟩) n n)) w') :
    if Region.wanted o (yielded ops a.tmps) = true then Oper.wp P o a w K Q else E := by
  have hw : Region.wanted o (yielded ops a.tmps) = true := by simp [Region.wanted, hgd]
  rw [if_pos hw]
  obtain ⟨w', hrun, r1, r2⟩ := run_make_full (P := P) w base t e i z size h1 h2 h3 h4 kl kc n b2 b3 b4
  subst hL
  subst hC
  unfold Oper.wp
  simp [execOp, hop, hl, hc, hrun, Result.andThen]
  exact hK w' r1 r2

/-- the least ones, of the first k -/
def lsC (L : Nat → Int) (k : Nat) : Nat := ((List.range k).filter fun x => decide (L x = (x : Int))).length
theorem lsC_succ (L : Nat → Int) (k : Nat) : lsC L (k + 1) = lsC L k + if L k = (k : Int) then 1 else 0 := by
  unfold lsC
  rw [List.range_succ, List.filter_append, List.length_append]
  congr 1
  by_cases h : L k = (k : Int)
  · rw [if_pos h, List.filter_cons, if_pos (decide_eq_true h)]
    rfl
  · rw [if_neg h, List.filter_cons, if_neg (by rw [decide_eq_true_iff]; exact h)]
    rfl
theorem lsC_le (L : Nat → Int) (k : Nat) : lsC L k ≤ k := by
  unfold lsC
  exact Nat.le_trans (List.length_filter_le _ _) (by simp)
theorem lsC_cnt {V : Nat} {es : List (Nat × Nat)} {L : Nat → Int} (h : pt.IsL V es (fun _ => false) L) : pt.IsCnt V es (lsC L V) := by
  refine ⟨fun x => decide (L x = (x : Int)), fun x hx => ?_, rfl⟩
  obtain ⟨y, h1, h2, h3, h4⟩ := (h x hx).2 rfl
  rw [decide_eq_true_iff, h1]
  constructor
  · intro e
    have : y = x := by omega
    subst this
    exact h4
  · intro hr
    have := pt.Rep.only hr h4 h3
    omega

set_option maxHeartbeats 8000000 in
theorem refgenus_any (w : World) (V : Nat) (a : Option Addr) (n cap : Nat) (es : List (Nat × Nat)) {B : Nat} (h : Es B w a n (toI es)) (hne : es.length = n) (hp : pt.Plain V es) (ra : Option Addr) (m rc : Nat) (q : List (List Nat)) (hr : Rr w ra m (rowsI q)) (ro : pt.Ro V es q) (N : Nat → Nat) (hN : Behind q N) (c g : Nat) (hc : pt.IsCnt V es c) (hg : 2 * c + n = V + cyc N (2 * n) + emp q V + 2 * g) :
    Calls Tryd.prog 13 #[.agg #[.int .i64 V, .slice a n cap], .slice ra m rc] w fun e w' => e = .returned (.int .i64 (g : Nat)) ∧ Below w.heap.size w w' := by
  have hn : n ≤ 128 := by rw [← hne]; exact hp.n128
  have hv64 := hp.v64
  have hmV : m = V := by have := hr.1; rw [rowsI_length] at this; rw [← this, ro.len]
  have HB0 := hide (Bg.start w (.int .i64 V) (.slice a n cap))
  have HF := hide (fun (u : World) (hu : Below w.heap.size w u) => show Calls Tryd.prog 12 #[.agg #[.int .i64 V, .slice a n cap], .slice ra m rc] u fun e w' => (∃ va vc, e = .returned (.slice va (cyc N (2 * n)) vc)) ∧ Below u.heap.size u w' from by
    refine (reffaces_any u V a n cap es (h.below hu) hne hn ra m rc q (hr.below hu) ro N hN).mono ?_
    rintro e w' ⟨⟨va, vc, rfl, _, _⟩, hb⟩
    rw [cyc_faces]
    exact ⟨⟨va, vc, rfl⟩, hb⟩)
  obtain ⟨L, hL⟩ := pt.isL_ex V es (fun _ => false)
  have hcL : c = lsC L V := hc.only (lsC_cnt hL)
  have HP := hide (fun (u : World) (hu : Below w.heap.size w u) (wa : Option Addr) (wc : Nat) (hW : pt.Bs u wa V (fun _ => false)) => show Calls Tryd.prog 26 #[.agg #[.int .i64 V, .slice a n cap], .slice wa V wc] u fun e w' => (∃ pa pc, e = .returned (.slice pa V pc) ∧ Ns w' pa V ((List.range V).map L)) ∧ Below u.heap.size u w' from by
    refine (pt.refpart_any u V a n cap es (h.below hu) hne hp wa wc _ hW L hL).mono ?_
    rintro e w' ⟨⟨v, rfl, ho⟩, hb⟩
    obtain ⟨pa, pc, rfl, _, hns⟩ := ns_of_owns ho (by omega)
    exact ⟨⟨pa, pc, rfl, hns⟩, hb⟩)
  subst hcL
  have HRr := hide hr
  have hcyc : cyc N (2 * n) ≤ 2 * n := by
    unfold cyc
    exact Nat.le_trans (List.length_filter_le _ _) (by simp)
  generalize cyc N (2 * n) = F at *
  have HGG := hide hg
  obtain ⟨i0, hi0, hz0, hz1, hz2⟩ := info_parts info4
  have HI := hide hi0
  have HZ0 := hide hz0
  have HZ1 := hide hz1
  have hzb : i0.bytes * V ≤ 281474976710656 := by rw [hz2]; omega
  have hml : V ≤ maxLen := by unfold maxLen; omega
  clear hi0 hz0 hz1 hz2 h hr ro hN hc hg hp hne hL
  subst hmV
  obtain ⟨g0, g1⟩ := (unhide HB0).cells
  go_enter Tryd.func13, Tryd.ntmps13
  go_wp2_with fail
  refine (unhide HF _ (unhide HB0).bel).mono ?_
  rintro e w2 ⟨⟨va, vc, rfl⟩, hb2⟩
  have HB2 := hide ((unhide HB0).step hb2)
  clear hb2 HB0 g0 g1 HF
  go_upto_region 3 with fail
  go_cut [7] from 13 to 18 (fun v wx => ∃ pa pc, v = .slice pa m pc ∧ Hid (Ns wx pa m ((List.range m).map L)) ∧ Hid (Bg w wx (.int .i64 (m : Int)) (.slice a n cap)))
  case first =>
    have XD := hide ((unhide HB2).step b_dr)
    refine wp_region_held_drew (S := fun u => u.cell? ⟨w.heap.size, 0, none⟩ = some (.int .i64 (m : Int)) ∧ u.cell? ⟨w.heap.size, 1, none⟩ = some (.slice a n cap)) (by kernel_rfl) (unhide XD).cells (fun hS => ?_)
    generalize w2.drew = wd at XD hS ⊢
    refine wpAnyH_take (i := 0) (v := ?_) rfl (by kernel_rfl) (by kernel_rfl) (by kernel_rfl) (fun _ _ _ h => h) (Or.inl ⟨by rfl, ?_⟩) hS ?_
    rotate_left
    · intro u hu; (try dsimp only at hu); go_simp; try with_reducible rfl
    simp only [Act.put, List.getElem_toArray, List.getElem_cons_zero, List.setIfInBounds_toArray, List.set_cons_zero, List.set_cons_succ]
    refine wpAnyH_take (i := 1) (v := ?_) rfl (by kernel_rfl) (by kernel_rfl) (by kernel_rfl) (fun _ _ _ h => h) (Or.inl ⟨by rfl, ?_⟩) hS ?_
    rotate_left
    · intro u hu; (try dsimp only at hu); go_simp; try with_reducible rfl
    simp only [Act.put, List.getElem_toArray, List.getElem_cons_zero, List.getElem_cons_succ, List.setIfInBounds_toArray, List.set_cons_zero, List.set_cons_succ]
    refine wpAnyH_take (i := 2) (v := ?_) rfl (by kernel_rfl) (by kernel_rfl) (by kernel_rfl) (fun _ _ _ h => h) (Or.inl ⟨by rfl, ?_⟩) hS ?_
    rotate_left
    · intro u hu; (try dsimp only at hu); go_simp; try with_reducible rfl
    simp only [Act.put, List.getElem_toArray, List.getElem_cons_zero, List.getElem_cons_succ, List.setIfInBounds_toArray, List.set_cons_zero, List.set_cons_succ]
    refine wpAnyH_ready (rs := [3]) (by kernel_rfl) (by simp) ?_
    refine AllReadyH.cons rfl (fun K hK => ?_) AllReadyH.nil
    refine step_make_full (P := Tryd.prog) rfl (.tmp 15) (.tmp 15) 57 rfl wd.heap.size 4 i0 (.bool false) 1 Tryd.underlying57 (unhide HI) (unhide HZ0) (unhide HZ1) .i64 .i64 _ _ m rfl rfl rfl rfl hzb hml (Nat.le_refl _) ?_
    intro wm hown hgr
    change World.ownsRow _ _ _ _ _ _ (madeCells #[Value.bool false] (m * 1)).toList at hown
    rw [toList_madeCells_one, Nat.mul_one] at hown
    have hbm : Below wd.heap.size wd wm := ⟨hgr.os, hgr.tape, hgr.output, hgr.size, fun k hk => hgr.block k hk (by simp)⟩
    have XM := hide ((unhide XD).step hbm)
    have HRW := hide (pt.RowB.read (f := fun _ => false) (pt.Row.of_owns hown) (by omega))
    clear hown hgr hbm
    refine hK.out _ _ (unhide XM).cells (fun hS2 => ?_)
    clear hK K hS
    refine wpAnyH_ready (rs := [4]) (by kernel_rfl) (by simp) ?_
    refine AllReadyH.cons rfl (fun K hK => ?_) AllReadyH.nil
    go_simp
    go_wp2_with (go_at_call 26; refine (unhide HP _ (unhide XM).bel _ _ (unhide HRW)).mono ?_; rintro e w7 ⟨⟨pa, pc, rfl, hns⟩, hb7⟩; have HNS := hide hns; have X7 := hide ((unhide XM).step hb7); clear hns hb7)
    refine hK.out _ _ (unhide X7).cells (fun hS3 => ?_)
    clear hK K hS2
    refine wpAnyH_take (i := 5) (v := ?_) rfl (by kernel_rfl) (by kernel_rfl) (by kernel_rfl) (fun _ _ _ h => h) (Or.inl ⟨by rfl, ?_⟩) hS3 ?_
    rotate_left
    · intro u hu; (try dsimp only at hu); go_simp; try with_reducible rfl
    simp only [Act.put, List.getElem_toArray, List.getElem_cons_zero, List.getElem_cons_succ, List.setIfInBounds_toArray, List.set_cons_zero, List.set_cons_succ]
    refine wpAnyH_done (by kernel_rfl) ?_ _
    go_wp2_with fail
    go_meet
    exact ⟨pa, pc, rfl, HNS, X7⟩
  case rest =>
    obtain ⟨pa, pc, rfl, HNS, HB3⟩ := hcut
    obtain ⟨w3, rfl⟩ : ∃ w3, w3 = wc := ⟨_, rfl⟩
    clear HB2 HP
    go_wp2_with fail
    go_loopw [5, 6, 8] (fun v5 v6 i wr => ∃ k : Nat, i = .int .i64 k ∧ k ≤ m ∧ v5 = .int .i64 ((F + emp q k : Nat) : Int) ∧ v6 = .int .i64 ((lsC L k : Nat) : Int) ∧ wr = w3) (fun v5 v6 i wr => m - (intOf i).toNat)
    case atStart => exact ⟨0, rfl, by omega, rfl, rfl, rfl⟩
    case round =>
      obtain ⟨k, rfl, hk, rfl, rfl, hwe⟩ := hrel
      subst hwe
      have hek := emp_le q k
      have hlk := lsC_le L k
      obtain ⟨g0, g1⟩ := (unhide HB3).cells
      by_cases hkm : k < m
      · have hkm2 : (k : Int) < (m : Int) := by omega
        obtain ⟨gr, or, la, lc, ha, hgr, d0, hlc, hls⟩ := ((unhide HRr).below (unhide HB3).bel).2.2 k hkm
        subst ha
        rw [rowsI_getD, toIs_length] at d0
        obtain ⟨gp, op, hpa, hgp, d1⟩ := (unhide HNS).2.2 k hkm
        subst hpa
        have hLk : ((List.range m).map L).getD k 0 = L k := by simp [List.getD, hkm]
        rw [hLk] at d1
        have hse := emp_succ q k
        have hsl := lsC_succ L k
        obtain ⟨ln, hln⟩ : ∃ ln, (q.getD k []).length = ln := ⟨_, rfl⟩
        rw [hln] at d0
        have hiff : q.getD k [] = [] ↔ ln = 0 := by rw [← hln]; exact List.length_eq_zero_iff.symm
        clear hln hls hlc hLk
        by_cases h1 : L k = (k : Int)
        · rw [if_pos h1] at hsl
          rw [h1] at d1
          have t1 : ((k : Int) == (k : Int)) = true := by simp
          by_cases h2 : ln = 0
          · rw [if_pos (hiff.2 h2)] at hse
            have t2 : ((ln : Int) == 0) = true := by simp [h2]
            have HSE := hide hse
            have HSL := hide hsl
            clear hse hsl hiff h1 h2
            generalize emp q k = ek at *
            generalize lsC L k = lk at *
            go_wp2_with fail
            go_roundw
            case rel => exact ⟨k + 1, by go_num, by omega, (by rw [unhide HSE]; first | rfl | go_num | simp), (by rw [unhide HSL]; first | rfl | go_num | simp), (by first | rfl | trivial)⟩
            case measure => simp [intOf]; omega
          · rw [if_neg (fun e => h2 (hiff.1 e)), Nat.add_zero] at hse
            have t2 : ((ln : Int) == 0) = false := by rw [beq_eq_false_iff_ne]; omega
            have HSE := hide hse
            have HSL := hide hsl
            clear hse hsl hiff h1 h2
            generalize emp q k = ek at *
            generalize lsC L k = lk at *
            go_wp2_with fail
            go_roundw
            case rel => exact ⟨k + 1, by go_num, by omega, (by rw [unhide HSE]; first | rfl | go_num | simp), (by rw [unhide HSL]; first | rfl | go_num | simp), (by first | rfl | trivial)⟩
            case measure => simp [intOf]; omega
        · rw [if_neg h1, Nat.add_zero] at hsl
          obtain ⟨z, hz⟩ : ∃ z, L k = z := ⟨_, rfl⟩
          rw [hz] at d1 h1
          have t1 : (z == (k : Int)) = false := by rw [beq_eq_false_iff_ne]; exact h1
          by_cases h2 : ln = 0
          · rw [if_pos (hiff.2 h2)] at hse
            have t2 : ((ln : Int) == 0) = true := by simp [h2]
            have HSE := hide hse
            have HSL := hide hsl
            clear hse hsl hiff h1 h2 hz
            generalize emp q k = ek at *
            generalize lsC L k = lk at *
            go_wp2_with fail
            go_roundw
            case rel => exact ⟨k + 1, by go_num, by omega, (by rw [unhide HSE]; first | rfl | go_num | simp), (by rw [unhide HSL]; first | rfl | go_num | simp), (by first | rfl | trivial)⟩
            case measure => simp [intOf]; omega
          · rw [if_neg (fun e => h2 (hiff.1 e)), Nat.add_zero] at hse
            have t2 : ((ln : Int) == 0) = false := by rw [beq_eq_false_iff_ne]; omega
            have HSE := hide hse
            have HSL := hide hsl
            clear hse hsl hiff h1 h2 hz
            generalize emp q k = ek at *
            generalize lsC L k = lk at *
            go_wp2_with fail
            go_roundw
            case rel => exact ⟨k + 1, by go_num, by omega, (by rw [unhide HSE]; first | rfl | go_num | simp), (by rw [unhide HSL]; first | rfl | go_num | simp), (by first | rfl | trivial)⟩
            case measure => simp [intOf]; omega
      · obtain rfl : k = m := by omega
        have hgg := unhide HGG
        generalize emp q k = ek at *
        generalize lsC L k = c at *
        have hw1 : IntKind.i64.wrap (2 * (c : Int)) = 2 * (c : Int) := by rw [IntKind.wrap_i64]; omega
        have hw2 : IntKind.i64.wrap (2 * (c : Int) - (k : Int)) = 2 * (c : Int) - (k : Int) := by rw [IntKind.wrap_i64]; omega
        have hw3 : IntKind.i64.wrap (2 * (c : Int) - (k : Int) + (n : Int)) = 2 * (c : Int) - (k : Int) + (n : Int) := by rw [IntKind.wrap_i64]; omega
        have hw4 : IntKind.i64.wrap (2 * (c : Int) - (k : Int) + (n : Int) - ((F : Int) + (ek : Int))) = 2 * (g : Int) := by rw [IntKind.wrap_i64]; omega
        have hq : (2 * (g : Int)).tdiv 2 = (g : Int) := by rw [Int.mul_tdiv_cancel_left _ (by decide)]
        have hw5 : IntKind.i64.wrap (g : Int) = (g : Int) := by rw [IntKind.wrap_i64]; omega
        go_wp2_with fail
        go_ret
        exact ⟨by first | rfl | simp, (unhide HB3).bel⟩
end Go.Proofs.YtmklngabfdnclaaDoor


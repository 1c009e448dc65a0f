/-
  The contract of the program's Genus. Conditions: the graph and the lists lie in memory as told; the table of math/bits lies where it should.
-/
import Derived.Test.YtmklngabfdnclaaDoorRx
import Derived.Test.YtmklngabfdnclaaDoorQPrt
import Derived.Test.YtmklngabfdnclaaDoorFc
namespace Go.Proofs.YtmklngabfdnclaaDoor
open Go.RowKit
set_option linter.unusedVariables false
set_option maxRecDepth 20000

/-- what stands in every world of a region: the box of the graph, and all that lay in u0 -/
def Sg (w u0 : World) (V : Int) (a : Option Addr) (n cap : Nat) (u : World) : Prop :=
  u.cell? ⟨w.heap.size, 0, none⟩ = some (.int .i64 V) ∧ u.cell? ⟨w.heap.size, 1, none⟩ = some (.slice a n cap) ∧ Hid (Bg w u (.int .i64 V) (.slice a n cap)) ∧ Hid (Below u0.heap.size u0 u)
theorem Sg.start {w u0 : World} {V : Int} {a : Option Addr} {n cap : Nat} (h : Bg w u0 (.int .i64 V) (.slice a n cap)) : Sg w u0 V a n cap u0 := ⟨h.cells.1, h.cells.2, h, Below.refl _ _⟩
theorem Sg.keep {w u0 : World} {V : Int} {a : Option Addr} {n cap : Nat} {u u' : World} (hb : Below u.heap.size u u') (h : Sg w u0 V a n cap u) : Sg w u0 V a n cap u' := by
  have := Bg.step (unhide h.2.2.1) hb
  exact ⟨this.cells.1, this.cells.2, this, bto (unhide h.2.2.2) hb⟩
theorem Sg.bel {w u0 : World} {V : Int} {a : Option Addr} {n cap : Nat} {u : World} (h : Sg w u0 V a n cap u) : Below w.heap.size w u := (unhide h.2.2.1).bel
theorem owns_slice {w : World} {base : Nat} {v : Value} {n : Nat} {xs : List Value} {e : TypeId} {k : Nat} (h : w.ownsRow base e k v n xs) : ∃ a c, v = .slice a n c := by
  rcases h.2 with ⟨hv, h0⟩ | ⟨g, cap, cur, hv, _⟩
  · exact ⟨none, 0, by rw [hv, h0]⟩
  · exact ⟨_, cap, hv⟩

set_option maxHeartbeats 4000000 in
theorem genus_bad (w : World) (V : Int) (a : Option Addr) (n cap : Nat) (es : List (Int × Int)) {B : Nat} (h : Es B w a n es) (ra : Option Addr) (m rc : Nat) (rs : List (List Int)) (hr : Rr w ra m rs) (hno : ¬ IsRot V n es rs) :
    Calls Tryd.prog 9 #[.agg #[.int .i64 V, .slice a n cap], .slice ra m rc] w fun e w' => e = .returned (.tuple #[.int .i64 0, .int .i64 1]) ∧ Below w.heap.size w w' := by
  have HB0 := hide (Bg.start w (.int .i64 V) (.slice a n cap))
  have HC := hide (fun (u : World) (hu : Below w.heap.size w u) => right_any u V a n cap es (h.below hu) ra m rc rs (hr.below hu))
  have HNO := hide hno
  clear h hr hno
  obtain ⟨g0, g1⟩ := (unhide HB0).cells
  go_enter Tryd.func9, Tryd.ntmps9
  go_wp2_with fail
  refine (unhide HC _ (unhide HB0).bel).mono ?_
  rintro e w1 ⟨⟨r, rfl, hr⟩, hb1⟩
  have hrt : r = false := by
    cases r with
    | false => rfl
    | true => exact absurd (hr.1 rfl) (unhide HNO)
  subst hrt
  have HB1 := hide ((unhide HB0).step hb1)
  clear hb1 HB0 g0 g1 hr
  go_wp2_with fail
  go_ret2
  exact ⟨rfl, (unhide HB1).bel⟩

/-- the lists that are empty, of the first k -/
def emp (q : List (List Nat)) (k : Nat) : Nat := ((List.range k).filter fun x => decide (q.getD x [] = [])).length
theorem emp_succ (q : List (List Nat)) (k : Nat) : emp q (k + 1) = emp q k + if q.getD k [] = [] then 1 else 0 := by
  unfold emp
  rw [List.range_succ, List.filter_append, List.length_append]
  congr 1
  by_cases h : q.getD k [] = []
  · rw [if_pos h, List.filter_cons, if_pos (decide_eq_true h)]
    rfl
  · rw [if_neg h, List.filter_cons, if_neg (by rw [decide_eq_true_iff]; exact h)]
    rfl
theorem emp_le (q : List (List Nat)) (k : Nat) : emp q k ≤ k := by
  unfold emp
  exact Nat.le_trans (List.length_filter_le _ _) (by simp)

set_option maxHeartbeats 8000000 in
theorem genus_good (w : World) (hT : pt.Tab w) (V : Nat) (a : Option Addr) (n cap : Nat) (es : List (Nat × Nat)) {B : Nat} (h : Es B w a n (toI es)) (hne : es.length = n) (hp : pt.Plain V es) (ra : Option Addr) (m rc : Nat) (q : List (List Nat)) (hr : Rr w ra m (rowsI q)) (hyes : IsRot V n (toI es) (rowsI q)) (ro : pt.Ro V es q) (N : Nat → Nat) (hN : Behind q N) (c g : Nat) (hc : pt.IsCnt V es c) (hg : 2 * c + n = V + cyc N (2 * n) + emp q V + 2 * g) :
    Calls Tryd.prog 9 #[.agg #[.int .i64 V, .slice a n cap], .slice ra m rc] w fun e w' => e = .returned (.tuple #[.int .i64 (g : Nat), .int .i64 0]) ∧ Below w.heap.size w w' := by
  have hn := hyes.good.2.2.1
  have hv64 := hp.v64
  have hmV : m = V := by have := hr.1; rw [rowsI_length] at this; rw [← this, ro.len]
  have hcV : c ≤ V := by
    obtain ⟨r, _, rfl⟩ := hc
    exact Nat.le_trans (List.length_filter_le _ _) (by simp)
  have HB0 := hide (Bg.start w (.int .i64 V) (.slice a n cap))
  have HC := hide (fun (u : World) (hu : Below w.heap.size w u) => right_any u V a n cap (toI es) (h.below hu) ra m rc _ (hr.below hu))
  have HF := hide (fun (u : World) (hu : Below w.heap.size w u) => show Calls Tryd.prog 8 #[.agg #[.int .i64 V, .slice a n cap], .slice ra m rc] u fun e w' => (∃ va vc, e = .returned (.slice va (cyc N (2 * n)) vc)) ∧ Below u.heap.size u w' from by
    refine (faces_good u V a n cap (toI es) (h.below hu) ra m rc q (hr.below hu) hyes N hN (by rw [← hne]; exact pt.nx_pm ro hN) (by rw [← hne]; exact ro.lt') (by rw [← hne]; exact ro.cov)).mono ?_
    rintro e w' ⟨⟨va, vc, rfl, _, _⟩, hb⟩
    rw [cyc_faces]
    exact ⟨⟨va, vc, rfl⟩, hb⟩)
  obtain ⟨C0, r0, hP0⟩ := pt.pt_ex hp (0 : Nat).testBit
  have hbit : (0 : Nat).testBit = fun _ => false := by funext t; simp
  have hc0 : (pt.repsL r0 C0 V).length = c := by
    refine pt.IsCnt.only (V := V) (es := es) ⟨r0, fun v hv => ?_, ?_⟩ hc
    · have := hP0.rep v hv
      rw [hbit] at this
      exact this
    · simp [pt.repsL]
  have HP := hide (fun (u0 u : World) (hu : Sg w u0 V a n cap u) => show Calls Tryd.prog 19 #[.agg #[.int .i64 V, .slice a n cap], .int .u64 0] u fun e w' => (∃ pa pc, e = .returned (.slice pa c pc)) ∧ Below u.heap.size u w' from by
    refine (pt.parts_any u (hT.below hu.bel) V a n cap es (h.below hu.bel) hne hp 0 (by decide) C0 r0 hP0).mono ?_
    rintro e w' ⟨⟨v, rfl, ho⟩, hb⟩
    rw [hc0] at ho
    obtain ⟨pa, pc, rfl⟩ := owns_slice ho
    exact ⟨⟨pa, pc, rfl⟩, hb⟩)
  have HO := hide (fun (u : World) => show Calls Tryd.prog 20 #[.slice none 0 0] u fun e w' => e = .returned (.int .u64 0) ∧ w' = u from pt.of_any u none 0 0 [] (Ns.nil _ _))
  have HYES := hide hyes
  have HRr := hide hr
  have HG := hide hg
  have hcyc : cyc N (2 * n) ≤ 2 * n := by
    unfold cyc
    exact Nat.le_trans (List.length_filter_le _ _) (by simp)
  have HEV := hide (emp_le q V)
  generalize cyc N (2 * n) = F at *
  have HGG := hide hg
  clear h hr hyes ro hN hc hg hP0 hc0 hbit hT hp hne
  subst hmV
  obtain ⟨g0, g1⟩ := (unhide HB0).cells
  go_enter Tryd.func9, Tryd.ntmps9
  go_wp2_with fail
  refine (unhide HC _ (unhide HB0).bel).mono ?_
  rintro e w1 ⟨⟨r, rfl, hr⟩, hb1⟩
  have hrt : r = true := hr.2 (unhide HYES)
  subst hrt
  have HB1 := hide ((unhide HB0).step hb1)
  clear hb1 HB0 g0 g1 hr HC
  obtain ⟨g0, g1⟩ := (unhide HB1).cells
  go_wp2_with fail
  refine (unhide HF _ (unhide HB1).bel).mono ?_
  rintro e w2 ⟨⟨va, vc, rfl⟩, hb2⟩
  have HB2 := hide ((unhide HB1).step hb2)
  clear hb2 HB1 g0 g1 HF
  have HE0 := hide (show emp q 0 = 0 from rfl)
  go_wp2_with fail
  go_loopw [6, 20] (fun v i wr => ∃ k : Nat, i = .int .i64 k ∧ k ≤ m ∧ v = .int .i64 ((F + emp q k : Nat) : Int) ∧ wr = w2) (fun v i wr => m - (intOf i).toNat)
  case atStart => exact ⟨0, rfl, by omega, by rw [unhide HE0]; rfl, rfl⟩
  case round =>
    clear HE0
    obtain ⟨k, rfl, hk, rfl, rfl⟩ := hrel
    have hek := emp_le q k
    by_cases hkm : k < m
    · have hkm2 : (k : Int) < (m : Int) := by omega
      obtain ⟨gr, or, la, lc, ha, hgr, d0, hlc, hls⟩ := ((unhide HRr).below (unhide HB2).bel).2.2 k hkm
      subst ha
      rw [rowsI_getD, toIs_length] at d0
      have hsu := emp_succ q k
      by_cases he : q.getD k [] = []
      · rw [if_pos he] at hsu
        rw [he] at d0
        have d0' : wr.cell? ⟨gr, or + k, none⟩ = some (.slice la 0 lc) := d0
        have HSU := hide hsu
        clear hsu he d0 hls hlc
        generalize emp q k = ek at *
        go_wp2_with fail
        go_roundw
        case rel => exact ⟨k + 1, by go_num, by omega, by rw [unhide HSU]; go_num, (by first | rfl | trivial)⟩
        case measure => simp [intOf]; omega
      · rw [if_neg he, Nat.add_zero] at hsu
        have hl0 : (q.getD k []).length ≠ 0 := fun e => he (List.length_eq_zero_iff.1 e)
        obtain ⟨ln, hln⟩ : ∃ ln, (q.getD k []).length = ln := ⟨_, rfl⟩
        rw [hln] at d0 hl0
        have t1 : ((ln : Int) == 0) = false := by rw [beq_eq_false_iff_ne]; omega
        have HSU := hide hsu
        clear hsu he hln hls hlc hl0
        generalize emp q k = ek at *
        go_wp2_with fail
        go_roundw
        case rel => exact ⟨k + 1, by go_num, by omega, (by rw [unhide HSU]; first | rfl | simp), (by first | rfl | trivial)⟩
        case measure => simp [intOf]; omega
    · obtain rfl : k = m := by omega
      obtain ⟨g0, g1⟩ := (unhide HB2).cells
      have hS0 := Sg.keep b_dr (Sg.start (unhide HB2))
      have hS1 := Sg.start (unhide HB2)
      have hgg := unhide HGG
      generalize emp q k = ek at *
      go_wp2_with fail
      go_region_held3 (fun u => u.cell? ⟨w.heap.size, 0, none⟩ = some (.int .i64 (k : Int)) ∧ u.cell? ⟨w.heap.size, 1, none⟩ = some (.slice a n cap) ∧ Hid (Bg w u (.int .i64 (k : Int)) (.slice a n cap)) ∧ Hid (Below wr.heap.size wr u)) (first | exact hS0 | exact hS1 | assumption | exact Sg.keep hb7 (by assumption)) ((first | (go_at_call 20; refine (unhide HO _).mono ?_; rintro e w8 ⟨rfl, rfl⟩) | (go_at_call 19; refine (unhide HP wr _ (by first | assumption | exact hS0)).mono ?_; rintro e w7 ⟨⟨qa, qc, rfl⟩, hb7⟩)))
      have hSE : Sg w wr k a n cap w7 := by assumption
      obtain ⟨g0, g1⟩ : w7.cell? ⟨w.heap.size, 0, none⟩ = some (.int .i64 (k : Int)) ∧ w7.cell? ⟨w.heap.size, 1, none⟩ = some (.slice a n cap) := ⟨hSE.1, hSE.2.1⟩
      have HBE := hide hSE.bel
      have hw1 : IntKind.i64.wrap (2 * (c : Int)) = 2 * (c : Int) := by rw [IntKind.wrap_i64]; omega
      have hw2 : IntKind.i64.wrap (2 * (c : Int) - (k : Int)) = 2 * (c : Int) - (k : Int) := by rw [IntKind.wrap_i64]; omega
      have hw3 : IntKind.i64.wrap (2 * (c : Int) - (k : Int) + (n : Int)) = 2 * (c : Int) - (k : Int) + (n : Int) := by rw [IntKind.wrap_i64]; omega
      have hw4 : IntKind.i64.wrap (2 * (c : Int) - (k : Int) + (n : Int) - ((F : Int) + (ek : Int))) = 2 * (g : Int) := by rw [IntKind.wrap_i64]; omega
      have hq : (2 * (g : Int)).tdiv 2 = (g : Int) := by rw [Int.mul_tdiv_cancel_left _ (by decide)]
      have hw5 : IntKind.i64.wrap (g : Int) = (g : Int) := by rw [IntKind.wrap_i64]; omega
      clear hSE hS0 hS1
      go_wp2_with fail
      go_ret2
      exact ⟨by first | rfl | simp, unhide HBE⟩
end Go.Proofs.YtmklngabfdnclaaDoor


/-
  The walk of the statement BlockCuts. Conditions: the graph lies in memory as told; the table of math/bits lies where it should.
-/
import Derived.Test.YthgmpnfecdnmiaaDoorQPrt
import Derived.Test.YthgmpnfecdnmiaaDoorBc
import Derived.Test.YthgmpnfecdnmiaaDoorOd
import Derived.Test.YthgmpnfecdnmiaaDoorGm
import Derived.Deep.RegionHeld3
namespace Go.Proofs.YthgmpnfecdnmiaaDoor.pt
open Go.RowKit
set_option linter.unusedVariables false
set_option maxRecDepth 20000

/-- what stands in every world of a region: the box of the graph, one mark, and all that lay in u0 -/
def Sm (w u0 : World) (V : Int) (a : Option Addr) (n cap : Nat) (g x : Nat) (b : Bool) (u : World) : Prop :=
  u.cell? ⟨w.heap.size, 0, none⟩ = some (.int .i64 V) ∧ u.cell? ⟨w.heap.size, 1, none⟩ = some (.slice a n cap) ∧ u.cell? ⟨g, x, none⟩ = some (.bool b) ∧ Hid (Bg w u (.int .i64 V) (.slice a n cap)) ∧ Hid (Below u0.heap.size u0 u) ∧ Hid (g < u.heap.size)
theorem Sm.keep {w u0 : World} {V : Int} {a : Option Addr} {n cap g x : Nat} {b : Bool} {u u' : World} (hb : Below u.heap.size u u') (h : Sm w u0 V a n cap g x b u) : Sm w u0 V a n cap g x b u' := by
  have := Bg.step (unhide h.2.2.2.1) hb
  have hg := unhide h.2.2.2.2.2
  exact ⟨this.cells.1, this.cells.2, by rw [hb.cell (p := ⟨g, x, none⟩) hg]; exact h.2.2.1, this, bto (unhide h.2.2.2.2.1) hb, Nat.lt_of_lt_of_le hg hb.size⟩
theorem Sm.bel {w u0 : World} {V : Int} {a : Option Addr} {n cap g x : Nat} {b : Bool} {u : World} (h : Sm w u0 V a n cap g x b u) : Below w.heap.size w u := (unhide h.2.2.2.1).bel

/-- only block g was written -/
structure Fg (g : Nat) (u wr : World) : Prop where
  bel : Below g u wr
  size : wr.heap.size = u.heap.size
  far : ∀ i, i ≠ g → wr.heap[i]? = u.heap[i]?
theorem Fg.refl (g : Nat) (u : World) : Fg g u u := ⟨Below.refl _ _, rfl, fun _ _ => rfl⟩
theorem Fg.set {g : Nat} {u wr : World} (h : Fg g u wr) (o : Nat) (v : Value) : Fg g u (wr.setCell ⟨g, o, none⟩ v) :=
  ⟨h.bel.setCell (p := ⟨g, o, none⟩) (Nat.le_refl _) _, by rw [← h.size]; simp [World.setCell], fun i hi => (Below.heap_setCell _ _ _ _ hi).trans (h.far i hi)⟩
theorem Fg.bg {g : Nat} {w u wr : World} {x y : Value} (h : Fg g u wr) (hb : Bg w u x y) (hg : w.heap.size < g) : Bg w wr x y := hb.stepB hg h.bel

theorem owns_slice {w : World} {base : Nat} {v : Value} {n : Nat} {xs : List Value} {e : TypeId} {k : Nat} (h : w.ownsRow base e k v n xs) : ∃ a c, v = .slice a n c := by
  rcases h.2 with ⟨hv, h0⟩ | ⟨g, cap, cur, hv, _⟩
  · exact ⟨none, 0, by rw [hv, h0]⟩
  · exact ⟨_, cap, hv⟩
theorem bit_none : (0 : Nat).testBit = fun _ => false := by funext t; simp
theorem bit_one {x : Nat} (hx : x < 64) : (ofS [(x : Int)]).testBit = fun t => decide (t = x) := by
  have : ofS [(x : Int)] = 2 ^ x := by
    rw [ofS_one]
    unfold bitI
    rw [if_pos (by omega)]
    simp
  rw [this]
  funext t
  rw [Nat.testBit_two_pow]
  by_cases h : x = t
  · simp [h]
  · simp [h]
    omega

set_option maxHeartbeats 4000000 in
theorem cuts_loose (w : World) (V : Int) (a : Option Addr) (n cap : Nat) (zs : List (Int × Int)) (h : 200 < n ∨ Es 0 w a n zs) (hl : LooseP V n zs) :
    Calls Tryd.prog 3 #[.agg #[.int .i64 V, .slice a n cap]] w fun e w' => e = .returned (.bool true) ∧ Below w.heap.size w w' := by
  have HE := hide h
  have HL := hide hl
  have HB0 := hide (Bg.start w (.int .i64 V) (.slice a n cap))
  clear h hl
  go_enter Tryd.func3, Tryd.ntmps3
  go_wp2_with fail
  refine (speaks_any _).mono ?_
  rintro e w1 ⟨rfl, hb1⟩
  have HB1 := hide ((unhide HB0).step hb1)
  obtain ⟨g0, g1⟩ := (unhide HB1).cells
  clear hb1 HB0
  go_wp2_with fail
  refine (loose_any w1 V a n cap zs (B := 0) ((unhide HE).imp id fun h => h.below (unhide HB1).bel)).mono ?_
  rintro e w2 ⟨⟨r, rfl, hr⟩, hb2⟩
  have hrt : r = true := hr.2 (unhide HL)
  subst hrt
  have HB2 := hide ((unhide HB1).step hb2)
  clear hb2 HB1 g0 g1 hr
  go_wp2_with fail
  go_ret
  exact ⟨rfl, (unhide HB2).bel⟩

set_option maxHeartbeats 8000000 in
theorem cuts_walk (w : World) (hT : Tab w) (V : Nat) (a : Option Addr) (n cap : Nat) (es : List (Nat × Nat)) (h : Es 0 w a n (toI es)) (hne : es.length = n) (hno : a = none → n = 0 ∧ cap = 0) (hp : Plain V es) (hnl : Df.NoLoop es) (L : List (List Nat)) (hL : IsBl es L) (hl : ¬ LooseP V n (toI es)) :
    Calls Tryd.prog 3 #[.agg #[.int .i64 V, .slice a n cap]] w fun e w' => e = .returned (.bool true) ∧ Below w.heap.size w w' := by
  have hv64 := hp.v64
  have hv1 := hp.v1
  have hno' : a = none → es.length = 0 ∧ cap = 0 := by rw [hne]; exact hno
  obtain ⟨X, hX⟩ : ∃ X, cutsOf V es L V = X := ⟨_, rfl⟩
  have hXn : X.Nodup := by rw [← hX]; exact List.nodup_range.sublist List.filter_sublist
  have hXV : ∀ x ∈ X, x < V := by rw [← hX]; intro x hx; exact List.mem_range.1 (List.mem_filter.1 hx).1
  have hXm : ∀ x, x < V → (x ∈ X ↔ Parted es x) := fun x hx => by
    rw [← hX, ← cut_iff hL hnl x]
    unfold cutsOf
    rw [List.mem_filter, List.mem_range]
    simp [hx]
  have hXl : X.length ≤ 64 := by rw [← hX]; have := cutsOf_len V es L V; omega
  obtain ⟨C0, r0, hP0⟩ := pt_ex hp (0 : Nat).testBit
  obtain ⟨c0, hc0⟩ : ∃ c, (repsL r0 C0 V).length = c := ⟨_, rfl⟩
  have hc0' : ((List.range V).filter r0).length = c0 := by rw [← hc0]; simp [repsL]
  have K10 := hide (fun (u : World) (hu : Below w.heap.size w u) => show Calls Tryd.prog 6 #[.agg #[.int .i64 V, .slice a n cap]] u fun e w' => (∃ v, e = .returned v ∧ w'.ownsRow u.heap.size 3 1 v X.length (zcells (toIs X))) ∧ Below u.heap.size u w' from by
    have h' := h.below hu
    rw [← hne] at h' ⊢
    refine (cuts_good u V a cap es h' hno' hp hnl L hL).mono ?_
    rintro e w' ⟨⟨v, rfl, ho⟩, hb⟩
    rw [hX] at ho
    exact ⟨⟨v, rfl, ho⟩, hb⟩)
  have K0 := hide (fun (u : World) (hu : Below w.heap.size w u) => show Calls Tryd.prog 7 #[.agg #[.int .i64 V, .slice a n cap], .int .u64 0] u fun e w' => (∃ pa pc, e = .returned (.slice pa c0 pc)) ∧ Below u.heap.size u w' from by
    refine (parts_any u (hT.below hu) V a n cap es (h.below hu) hne hp 0 (by decide) C0 r0 hP0).mono ?_
    rintro e w' ⟨⟨v, rfl, ho⟩, hb⟩
    rw [hc0] at ho
    obtain ⟨pa, pc, rfl⟩ := owns_slice ho
    exact ⟨⟨pa, pc, rfl⟩, hb⟩)
  have K1 := hide (fun (x : Nat) (hx : x < V) => show ∃ c1, (c0 < c1 ↔ Parted es x) ∧ c1 ≤ 64 ∧ ∀ u : World, Below w.heap.size w u → Calls Tryd.prog 7 #[.agg #[.int .i64 V, .slice a n cap], .int .u64 (ofS [(x : Int)] : Nat)] u fun e w' => (∃ pa pc, e = .returned (.slice pa c1 pc)) ∧ Below u.heap.size u w' from by
    obtain ⟨C1, r1, hP1⟩ := pt_ex hp (ofS [(x : Int)]).testBit
    refine ⟨(repsL r1 C1 V).length, ?_, by have := repsL_len r1 C1 V; omega, fun u hu => ?_⟩
    · have := count_iff hp hnl hx (r0 := r0) (r1 := r1) (fun v hv => by have := hP0.rep v hv; rw [bit_none] at this; exact this) (fun v hv => by have := hP1.rep v hv; rw [bit_one (by omega)] at this; exact this)
      rw [hc0'] at this
      rw [← this]
      simp [repsL]
    · refine (parts_any u (hT.below hu) V a n cap es (h.below hu) hne hp _ (ofS_lt _) C1 r1 hP1).mono ?_
      rintro e w' ⟨⟨v, rfl, ho⟩, hb⟩
      obtain ⟨pa, pc, rfl⟩ := owns_slice ho
      exact ⟨⟨pa, pc, rfl⟩, hb⟩)
  have hc064 : c0 ≤ 64 := by have := repsL_len r0 C0 V; omega
  have HE := hide h
  have HL := hide hl
  have HXN := hide hXn
  have HXV := hide hXV
  have HXM := hide hXm
  have HB0 := hide (Bg.start w (.int .i64 V) (.slice a n cap))
  obtain ⟨i0, hi0, hz0, hz1, hz2⟩ := info_parts info4
  have HI := hide hi0
  have HZ0 := hide hz0
  have HZ1 := hide hz1
  have hzb : i0.bytes * V ≤ 281474976710656 := by rw [hz2]; omega
  clear hi0 hz0 hz1 hz2 h hl hno hno' hp hnl hL hX hXn hXV hXm hne hP0 hc0 hc0' hT
  go_enter Tryd.func3, Tryd.ntmps3
  go_wp2_with fail
  refine (speaks_any _).mono ?_
  rintro e w1 ⟨rfl, hb1⟩
  have HB1 := hide ((unhide HB0).step hb1)
  obtain ⟨g0, g1⟩ := (unhide HB1).cells
  clear hb1 HB0
  go_wp2_with fail
  refine (loose_any w1 V a n cap _ (B := 0) (.inr ((unhide HE).below (unhide HB1).bel))).mono ?_
  rintro e w3 ⟨⟨r, rfl, hr⟩, hb3⟩
  have hrt : r = false := by
    cases r with
    | false => rfl
    | true => exact absurd (hr.1 rfl) (unhide HL)
  subst hrt
  have HB3 := hide ((unhide HB1).step hb3)
  clear hb3 HB1 g0 g1 hr HL HE
  obtain ⟨g0, g1⟩ := (unhide HB3).cells
  go_wp2_with (refine wpList_make_full _ rfl (.tmp 13) (.tmp 13) 27 rfl w3.heap.size 4 i0 (.bool false) 1 Tryd.underlying27 (unhide HI) (unhide HZ0) (unhide HZ1) .i64 .i64 _ _ V rfl rfl rfl rfl hzb ?m1 ?m2 ?_)
  case m1 => unfold maxLen; omega
  case m2 => simp
  intro w4 hown4 hg4
  rw [toList_madeCells_one] at hown4
  have hb4 : Below w3.heap.size w3 w4 := ⟨hg4.os, hg4.tape, hg4.output, hg4.size, fun k hk => hg4.block k hk (by simp)⟩
  have HB4 := hide ((unhide HB3).step hb4)
  have hw3 := (unhide HB3).lt
  obtain ⟨gm, hgm⟩ : ∃ gm, w3.heap.size = gm := ⟨_, rfl⟩
  have HR4 := hide (show RowB w4 gm V (fun t => decide (t ∈ X.take 0)) from by rw [← hgm]; exact (Row.of_owns hown4).congr fun t ht => by simp)
  have hgw : w.heap.size < gm := by omega
  clear hown4 hg4 hb4 HB3 g0 g1
  rw [hgm]
  clear hgm hw3
  obtain ⟨g0, g1⟩ := (unhide HB4).cells
  go_wp2_with fail
  refine (unhide K10 _ (unhide HB4).bel).mono ?_
  rintro e w5 ⟨⟨v, rfl, hown5⟩, hb5⟩
  obtain ⟨xa, xc, rfl⟩ := owns_slice hown5
  have HB5 := hide ((unhide HB4).step hb5)
  have HO5 := hide hown5
  have HR5 := hide (Row.below (unhide HR4) hb5)
  have hg45 := (unhide HR4).lt
  have hg5 := (unhide HR5).lt
  have HF5 := hide (Fg.refl gm w5)
  clear hown5 hb5 HB4 HR4 g0 g1 K10
  go_wp2_with fail
  go_loopw [18] (fun i wr => ∃ k : Nat, i = .int .i64 k ∧ k ≤ X.length ∧ Hid (RowB wr gm V (fun t => decide (t ∈ X.take k))) ∧ Hid (Fg gm w5 wr)) (fun i wr => X.length - (intOf i).toNat)
  case atStart => exact ⟨0, rfl, by omega, HR5, HF5⟩
  case round =>
    clear HR5 HF5
    obtain ⟨k, rfl, hk, HR, HF⟩ := hrel
    have HBr := hide ((unhide HF).bg (unhide HB5) hgw)
    obtain ⟨g0, g1⟩ := (unhide HBr).cells
    by_cases hkX : k < X.length
    · have hkX2 : (k : Int) < (X.length : Int) := by omega
      have hor := owns_keep (unhide HO5) (fun b hb => (unhide HF).far b (by have := ((unhide HO5).lt b hb).1; omega))
      obtain ⟨xa', xc', hxe, _, hns⟩ := ns_of_owns hor (by omega)
      simp only [Value.slice.injEq, true_and] at hxe
      obtain ⟨rfl, rfl⟩ := hxe
      obtain ⟨gl, ol, hla, hgl, d1⟩ := hns.2.2 k hkX
      subst hla
      rw [toIs_getD] at d1
      have hxm : X.getD k 0 ∈ X := by simp [List.getD, hkX]
      have hxV := unhide HXV _ hxm
      have hnot : X.getD k 0 ∉ X.take k := by
        intro hm
        obtain ⟨j, hj, he⟩ := List.mem_iff_getElem.1 hm
        simp at hj
        have e1 : X[j]'(by omega) = X[k] := by
          rw [List.getElem_take] at he
          rw [he]
          simp [List.getD, hkX]
        have := (List.getElem_inj (unhide HXN)).1 e1
        omega
      have hset : ∀ t, t ∈ X.take (k + 1) ↔ (t ∈ X.take k ∨ t = X.getD k 0) := fun t => by
        rw [List.take_succ_eq_append_getElem hkX, List.mem_append, List.mem_singleton]
        simp [List.getD, hkX]
      obtain ⟨x, hxe⟩ : ∃ x, X.getD k 0 = x := ⟨_, rfl⟩
      rw [hxe] at d1 hxV hnot hset
      have r1 : wr.cell? ⟨gm, x, none⟩ = some (.bool (decide (x ∈ X.take k))) := (unhide HR).cell hxV
      have r2 := (unhide HR).fz x
      have hd : decide (x ∈ X.take k) = false := decide_eq_false hnot
      rw [hd] at r1
      have e0 : decide ((x : Int) < 0) = false := decide_eq_false (by omega)
      have e0' : ¬ (x : Int) < 0 := by omega
      have e1 : decide ((V : Int) ≤ (x : Int)) = false := decide_eq_false (by omega)
      have e1' : ¬ (V : Int) ≤ (x : Int) := by omega
      have e2 : (x : Int) < (V : Int) := by omega
      have hgr := (unhide HR).lt
      have HR2 := hide (show RowB (wr.setCell ⟨gm, x, none⟩ (.bool true)) gm V (fun t => decide (t ∈ X.take (k + 1))) from
        Row.congr (RowB.set (unhide HR) x true) fun t ht => congrArg Value.bool (by
          unfold upd
          by_cases htx : t = x
          · rw [if_pos htx]
            exact (decide_eq_true ((hset t).2 (.inr htx))).symm
          · rw [if_neg htx]
            exact decide_eq_decide.2 (by rw [hset t]; simp [htx])))
      have HF2 := hide ((unhide HF).set x (.bool true))
      clear hor hns hxm hnot hset hxe hd
      go_wp2_with fail
      go_roundw
      case rel => exact ⟨k + 1, by go_num, by omega, HR2, HF2⟩
      case measure => simp [intOf]; omega
    · obtain rfl : k = X.length := by omega
      have HRX := hide (show RowB wr gm V (fun t => decide (t ∈ X)) by have := unhide HR; rwa [List.take_length] at this)
      clear HR HO5
      go_wp2_with fail
      refine (unhide K0 _ (unhide HBr).bel).mono ?_
      rintro e w6 ⟨⟨pa, pc, rfl⟩, hb6⟩
      have HB6 := hide ((unhide HBr).step hb6)
      have HR6 := hide (Row.below (unhide HRX) hb6)
      clear hb6 HBr g0 g1 HRX HF HB5 K0
      go_wp2_with fail
      go_loopw [45] (fun i wr => ∃ x : Nat, i = .int .i64 x ∧ x ≤ V ∧ Hid (RowB wr gm V (fun t => decide (t ∈ X))) ∧ Hid (Bg w wr (.int .i64 V) (.slice a n cap))) (fun i wr => V - (intOf i).toNat)
      case atStart => exact ⟨0, rfl, by omega, HR6, HB6⟩
      case round =>
        clear HR6 HB6
        obtain ⟨x, rfl, hx, HR, HB⟩ := hrel
        by_cases hxV : x < V
        · have hxV2 : (x : Int) < (V : Int) := by omega
          obtain ⟨g0, g1⟩ := (unhide HB).cells
          obtain ⟨c1, hc1, hc164, K7⟩ := unhide K1 x hxV
          have r1 : wr.cell? ⟨gm, x, none⟩ = some (.bool (decide (x ∈ X))) := (unhide HR).cell hxV
          have hgr := (unhide HR).lt
          have hXx := unhide HXM x hxV
          have HK7 := hide K7
          obtain ⟨b, hb⟩ : ∃ b, decide (x ∈ X) = b := ⟨_, rfl⟩
          have hcb : decide ((c0 : Int) < (c1 : Int)) = b := by
            rw [← hb]
            exact decide_eq_decide.2 (by rw [hXx, ← hc1]; omega)
          rw [hb] at r1
          have hS1 : Sm w wr V a n cap gm x b wr := ⟨g0, g1, r1, unhide HB, Below.refl _ _, hgr⟩
          have hS0 := Sm.keep b_dr hS1
          have hbb : (b != b) = false := by simp
          have hcb2 : decide (c0 < c1) = b := by
            rw [← hcb]
            exact decide_eq_decide.2 (by omega)
          clear K7 hXx hc1 hb
          go_wp2_with fail
          go_region_held3 (fun u => u.cell? ⟨w.heap.size, 0, none⟩ = some (.int .i64 (V : Int)) ∧ u.cell? ⟨w.heap.size, 1, none⟩ = some (.slice a n cap) ∧ u.cell? ⟨gm, x, none⟩ = some (.bool b) ∧ Hid (Bg w u (.int .i64 (V : Int)) (.slice a n cap)) ∧ Hid (Below wr.heap.size wr u) ∧ Hid (gm < u.heap.size)) (first | exact hS0 | exact hS1 | assumption | exact Sm.keep (b_al _) (by assumption) | exact Sm.keep (b_al _) hS0 | exact Sm.keep hb7 (by assumption)) ((first | (go_at_call 8; refine (of_any _ _ 1 1 [(x : Int)] (by first | exact ns_one _ _ | exact ns_one wr (x : Int) | exact (ns_one wr (x : Int)).below b_dr)).mono ?_; rintro e w8 ⟨rfl, rfl⟩) | (go_at_call 7; refine (unhide HK7 _ (Sm.bel (u0 := wr) (g := gm) (x := x) (b := b) (by assumption))).mono ?_; rintro e w7 ⟨⟨qa, qc, rfl⟩, hb7⟩)))
          have hSE : Sm w wr V a n cap gm x b w7 := by assumption
          have HBE := hSE.2.2.2.1
          have HRE := hide (Row.below (unhide HR) (unhide hSE.2.2.2.2.1))
          clear hSE hS0 hS1 g0 g1 r1 HK7
          go_wp2_with fail
          go_roundw
          case rel => exact ⟨x + 1, by go_num, by omega, HRE, HBE⟩
          case measure => simp [intOf]; omega
        · obtain rfl : x = V := by omega
          go_wp2_with fail
          go_ret
          exact ⟨rfl, (unhide HB).bel⟩

theorem cuts_any (w : World) (hT : Tab w) (V : Int) (a : Option Addr) (n cap : Nat) (zs : List (Int × Int)) (hno : a = none → n = 0 ∧ cap = 0) (h : 200 < n ∨ Es 0 w a n zs) :
    Calls Tryd.prog 3 #[.agg #[.int .i64 V, .slice a n cap]] w fun e w' => e = .returned (.bool true) ∧ Below w.heap.size w w' := by
  by_cases hl : LooseP V n zs
  · exact cuts_loose w V a n cap zs h hl
  · have hn : n ≤ 40 := Nat.le_of_not_lt fun h => hl (.inl h)
    have hE' : Es 0 w a n zs := h.resolve_left (by omega)
    obtain ⟨v, es, rfl, rfl, hne, hp, hnl, _, _⟩ := tight hE'.1 hl
    obtain ⟨L, hL⟩ := isBl_ex (V := v) (es := es) ⟨hnl, fun i hi => hp.at hi⟩
    exact cuts_walk w hT v a n cap es hE' hne.symm hno hp hnl L hL hl
end Go.Proofs.YthgmpnfecdnmiaaDoor.pt


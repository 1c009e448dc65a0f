/-
  The walk of the statement BlockTells. Conditions: the graph lies in memory as told.
-/
import Derived.Test.YtbecmaandhadhaaRc
import Derived.Test.YtbecmaandhadhaaOd
import Derived.Deep.RegionHeld3
namespace Go.Proofs.Ytbecmaandhadhaa.pt
open Go.RowKit
set_option linter.unusedVariables false
set_option maxRecDepth 20000

set_option maxHeartbeats 2000000 in
theorem tree_bad (w : World) (V : Int) (a : Option Addr) (n cap : Nat) (zs : List (Int × Int)) {B : Nat} (h : Es B w a n zs) (hbad : ¬ Good V n zs ∨ ∃ j, j < n ∧ (zs.getD j (0, 0)).1 = (zs.getD j (0, 0)).2) :
    Calls Try.prog 11 #[.agg #[.int .i64 V, .slice a n cap]] w fun e w' => e = .returned (.slice none 0 0) ∧ Below w.heap.size w w' := by
  have HB0 := hide (Bg.start w (.int .i64 V) (.slice a n cap))
  have HC := hide (fun (u : World) (hu : Below w.heap.size w u) => blocks_bad u V a n cap zs (h.below hu) hbad)
  clear h hbad
  obtain ⟨g0, g1⟩ := (unhide HB0).cells
  go_enter Try.func11, Try.ntmps11
  go_wp2_with fail
  refine (unhide HC _ (unhide HB0).bel).mono ?_
  rintro e w1 ⟨rfl, hb1⟩
  have HB1 := hide ((unhide HB0).step hb1)
  clear hb1 HB0 g0 g1
  go_wp2_with fail
  go_ret
  exact ⟨rfl, (unhide HB1).bel⟩

/-- what stands in every world of a region: the box of the graph, and all that lay in u0 -/
def Sg (w u0 : World) (V : Int) (a : Option Addr) (n cap : Nat) (u : World) : Prop :=
  u.cell? ⟨w.heap.size, 0, none⟩ = some (.int .i64 V) ∧ u.cell? ⟨w.heap.size, 1, none⟩ = some (.slice a n cap) ∧ Hid (Bg w u (.int .i64 V) (.slice a n cap)) ∧ Hid (Below u0.heap.size u0 u)
theorem Sg.start {w u0 : World} {V : Int} {a : Option Addr} {n cap : Nat} (h : Bg w u0 (.int .i64 V) (.slice a n cap)) : Sg w u0 V a n cap u0 := ⟨h.cells.1, h.cells.2, h, Below.refl _ _⟩
theorem Sg.keep {w u0 : World} {V : Int} {a : Option Addr} {n cap : Nat} {u u' : World} (hb : Below u.heap.size u u') (h : Sg w u0 V a n cap u) : Sg w u0 V a n cap u' := by
  have := Bg.step (unhide h.2.2.1) hb
  exact ⟨this.cells.1, this.cells.2, this, bto (unhide h.2.2.2) hb⟩
theorem Sg.bel {w u0 : World} {V : Int} {a : Option Addr} {n cap : Nat} {u : World} (h : Sg w u0 V a n cap u) : Below w.heap.size w u := (unhide h.2.2.1).bel

set_option maxHeartbeats 8000000 in
theorem tells_odd (w : World) (V : Int) (a : Option Addr) (n cap : Nat) (zs : List (Int × Int)) (h : Es 0 w a n zs) (hn : n ≤ 200) (ho : OddP V n zs) :
    Calls Try.prog 3 #[.agg #[.int .i64 V, .slice a n cap]] w fun e w' => e = .returned (.bool true) ∧ Below w.heap.size w w' := by
  have HE := hide h
  have HO := hide ho
  have HB0 := hide (Bg.start w (.int .i64 V) (.slice a n cap))
  have C9 := hide (fun (u0 u : World) (hu : Sg w u0 V a n cap u) => blocks_bad u V a n cap zs (h.below hu.bel) ho.bad)
  have C10 := hide (fun (u0 u : World) (hu : Sg w u0 V a n cap u) => cuts_bad u V a n cap zs (h.below hu.bel) ho.bad)
  have C11 := hide (fun (u0 u : World) (hu : Sg w u0 V a n cap u) => tree_bad u V a n cap zs (h.below hu.bel) ho.bad)
  have hn2 : (n : Int) ≤ 200 := by omega
  clear h ho
  go_enter Try.func3, Try.ntmps3
  go_wp2_with fail
  refine (speaks_any _).mono ?_
  rintro e w1 ⟨rfl, hb1⟩
  have HB1 := hide ((unhide HB0).step hb1)
  obtain ⟨g0, g1⟩ := (unhide HB1).cells
  clear hb1 HB0
  go_wp2_with fail
  refine (odd_any w1 V a n cap zs (B := 0) ((unhide HE).below (unhide HB1).bel)).mono ?_
  rintro e w2 ⟨⟨r, rfl, hr⟩, hb2⟩
  have hrt : r = true := hr.2 (unhide HO)
  subst hrt
  have HB2 := hide ((unhide HB1).step hb2)
  clear hb2 HB1 g0 g1 hr
  have hS0 := Sg.keep b_dr (Sg.start (unhide HB2))
  have hS1 := Sg.start (unhide HB2)
  obtain ⟨g0, g1⟩ := (unhide HB2).cells
  go_wp2_with fail
  go_region_held3 (fun u => u.cell? ⟨w.heap.size, 0, none⟩ = some (.int .i64 V) ∧ u.cell? ⟨w.heap.size, 1, none⟩ = some (.slice a n cap) ∧ Hid (Bg w u (.int .i64 V) (.slice a n cap)) ∧ Hid (Below w2.heap.size w2 u)) (first | exact hS0 | exact hS1 | assumption | exact Sg.keep hb9 (by assumption) | exact Sg.keep hb10 (by assumption) | exact Sg.keep hb11 (by assumption)) ((first | (go_at_call 9; refine (unhide C9 w2 _ (by first | assumption | exact hS0)).mono ?_; rintro e w9 ⟨rfl, hb9⟩) | (go_at_call 10; refine (unhide C10 w2 _ (by first | assumption | exact hS0)).mono ?_; rintro e w10 ⟨rfl, hb10⟩) | (go_at_call 11; refine (unhide C11 w2 _ (by first | assumption | exact hS0)).mono ?_; rintro e w11 ⟨rfl, hb11⟩)))
  all_goals go_wp2_with fail
  all_goals go_ret
  all_goals exact ⟨ret_b (by decide), Sg.bel (u0 := w2) (by assumption)⟩

set_option maxHeartbeats 4000000 in
theorem tells_loose (w : World) (V : Int) (a : Option Addr) (n cap : Nat) (zs : List (Int × Int)) (h : 200 < n ∨ Es 0 w a n zs) (ho : 200 < n ∨ ¬ OddP V n zs) (hl : LooseP V n zs) :
    Calls Try.prog 3 #[.agg #[.int .i64 V, .slice a n cap]] w fun e w' => e = .returned (.bool true) ∧ Below w.heap.size w w' := by
  have HE := hide h
  have HO := hide ho
  have HL := hide hl
  have HB0 := hide (Bg.start w (.int .i64 V) (.slice a n cap))
  clear h ho hl
  by_cases hn : n ≤ 200
  · have hn2 : (n : Int) ≤ 200 := by omega
    go_enter Try.func3, Try.ntmps3
    go_wp2_with fail
    refine (speaks_any _).mono ?_
    rintro e w1 ⟨rfl, hb1⟩
    have HB1 := hide ((unhide HB0).step hb1)
    obtain ⟨g0, g1⟩ := (unhide HB1).cells
    clear hb1 HB0
    go_wp2_with fail
    refine (odd_any w1 V a n cap zs (B := 0) (((unhide HE).resolve_left (by omega)).below (unhide HB1).bel)).mono ?_
    rintro e w2 ⟨⟨r, rfl, hr⟩, hb2⟩
    have hrt : r = false := by
      cases r with
      | false => rfl
      | true => exact absurd (hr.1 rfl) ((unhide HO).resolve_left (by omega))
    subst hrt
    have HB2 := hide ((unhide HB1).step hb2)
    clear hb2 HB1 g0 g1 hr
    obtain ⟨g0, g1⟩ := (unhide HB2).cells
    go_wp2_with fail
    refine (loose_any w2 V a n cap zs (B := 0) (.inr (((unhide HE).resolve_left (by omega)).below (unhide HB2).bel))).mono ?_
    rintro e w3 ⟨⟨r, rfl, hr⟩, hb3⟩
    have hrt : r = true := hr.2 (unhide HL)
    subst hrt
    have HB3 := hide ((unhide HB2).step hb3)
    clear hb3 HB2 g0 g1 hr
    go_wp2_with fail
    go_ret
    exact ⟨rfl, (unhide HB3).bel⟩
  · have hn2 : decide ((n : Int) ≤ 200) = false := decide_eq_false (by omega)
    have hn3 : ¬ (n : Int) ≤ 200 := by omega
    go_enter Try.func3, Try.ntmps3
    go_wp2_with fail
    refine (speaks_any _).mono ?_
    rintro e w1 ⟨rfl, hb1⟩
    have HB1 := hide ((unhide HB0).step hb1)
    obtain ⟨g0, g1⟩ := (unhide HB1).cells
    clear hb1 HB0
    go_wp2_with fail
    refine (loose_any w1 V a n cap zs (B := 0) (.inl (by omega))).mono ?_
    rintro e w3 ⟨⟨r, rfl, hr⟩, hb3⟩
    have hrt : r = true := hr.2 (unhide HL)
    subst hrt
    have HB3 := hide ((unhide HB1).step hb3)
    clear hb3 HB1 g0 g1 hr
    go_wp2_with fail
    go_ret
    exact ⟨rfl, (unhide HB3).bel⟩

/-- rows of rows that are read -/
def Rd (w : World) (a : Option Addr) (n : Nat) (L : Nat → List Nat) : Prop :=
  ∀ k, k < n → ∃ g off ak ck, a = some ⟨g, off, none⟩ ∧ g < w.heap.size ∧ w.cell? ⟨g, off + k, none⟩ = some (.slice ak (L k).length ck) ∧ Ns w ak (L k).length (toIs (L k))
theorem Rd.below {w w' : World} {a : Option Addr} {n : Nat} {L : Nat → List Nat} (h : Rd w a n L) (hb : Below w.heap.size w w') : Rd w' a n L := by
  intro k hk
  obtain ⟨g, off, ak, ck, ha, hg, c0, hN⟩ := h k hk
  exact ⟨g, off, ak, ck, ha, Nat.lt_of_lt_of_le hg hb.size, by rw [hb.cell (p := ⟨g, off + k, none⟩) hg]; exact c0, hN.below hb⟩
theorem rd_of_ol {u0 wr : World} {bv : Value} {R : Nat → Value} {Ls : List (List Nat)} (h : Ol u0 wr bv R Ls) (hm : ∀ B ∈ Ls, B.length ≤ 128) : ∃ ba bc, bv = .slice ba Ls.length bc ∧ Rd wr ba Ls.length (fun k => Ls.getD k []) := by
  obtain ⟨ba, bc, hv, hc⟩ := h.open
  refine ⟨ba, bc, hv, fun k hk => ?_⟩
  obtain ⟨g, ha, hg, c0⟩ := hc k hk
  have hb := hm (Ls.getD k []) (by simp [List.getD, hk])
  obtain ⟨la, lc, hl, hlc, hn⟩ := ns_of_owns (h.rows k hk) (by omega)
  rw [hl] at c0
  exact ⟨g, 0, la, lc, ha, hg, by rw [Nat.zero_add]; exact c0, hn⟩
theorem rd_of_told {A : Nat} {w' : World} {L : List (List Nat)} {e : Ending} (h : ListsTold A w' L e) : ∃ a c, e = .returned (.slice a L.length c) ∧ Rd w' a L.length (fun k => L.getD k []) := by
  obtain ⟨a, c, rfl, _, _, AK, CK, hR⟩ := h
  refine ⟨a, c, rfl, fun k hk => ?_⟩
  obtain ⟨g, off, h1, h2, h3, h4, h5, h6⟩ := hR w' (Nat.le_refl _) (fun i _ _ => rfl) k hk
  exact ⟨g, off, _, _, h1, h2, h3, h6⟩

set_option maxHeartbeats 8000000 in
theorem tells_good (w : World) (V : Nat) (a : Option Addr) (n cap : Nat) (es : List (Nat × Nat)) (h : Es 0 w a n (toI es)) (hne : es.length = n) (hno : a = none → n = 0 ∧ cap = 0) (hp : Plain V es) (hnl : Df.NoLoop es) (L : List (List Nat)) (hL : IsBl es L) (hl : ¬ LooseP V n (toI es)) (hn : n ≤ 40) :
    Calls Try.prog 3 #[.agg #[.int .i64 V, .slice a n cap]] w fun e w' => e = .returned (.bool true) ∧ Below w.heap.size w w' := by
  have hno' : a = none → es.length = 0 ∧ cap = 0 := by rw [hne]; exact hno
  have hmL := hL.each (by have := hp.n128; exact this)
  have hLl := hL.len
  have C9 := hide (fun (u0 u : World) (hu : Sg w u0 V a n cap u) => show Calls Try.prog 9 #[.agg #[.int .i64 V, .slice a n cap]] u fun e w' => (∃ pa pc, e = .returned (.slice pa L.length pc) ∧ Rd w' pa L.length (fun k => L.getD k [])) ∧ Below u.heap.size u w' from by
    have h' := h.below hu.bel
    rw [← hne] at h' ⊢
    refine (blocks_good u V a cap es h' hno' hp hnl L hL).mono ?_
    rintro e w' ⟨ht, hb⟩
    exact ⟨rd_of_told ht, hb⟩)
  have C13 := hide (fun (u0 u : World) (hu : Sg w u0 V a n cap u) => show Calls Try.prog 13 #[.agg #[.int .i64 V, .slice a n cap]] u fun e w' => (∃ pa pc, e = .returned (.slice pa L.length pc) ∧ Rd w' pa L.length (fun k => L.getD k [])) ∧ Below u.heap.size u w' from by
    refine (refblocks_any u V a n cap es (h.below hu.bel) hne hp hnl).mono ?_
    rintro e w' ⟨⟨s, v, R, hls, rfl, u0, hu0, hol⟩, hb⟩
    have hLe : blF n s = L := by
      have := IsLs.bl hls
      rw [hne] at this
      exact this.one hL
    rw [hLe] at hol
    obtain ⟨ba, bc, rfl, hr⟩ := rd_of_ol hol fun B hB => (hmL B hB).2.1
    exact ⟨⟨ba, bc, rfl, hr⟩, hb⟩)
  obtain ⟨C, hC⟩ : ∃ C, cutsOf V es L V = C := ⟨_, rfl⟩
  have hCl : C.length ≤ 64 := by rw [← hC]; have := cutsOf_len V es L V; have := hp.v64; omega
  have C10 := hide (fun (u0 u : World) (hu : Sg w u0 V a n cap u) => show Calls Try.prog 10 #[.agg #[.int .i64 V, .slice a n cap]] u fun e w' => (∃ pa pc, e = .returned (.slice pa C.length pc) ∧ Ns w' pa C.length (toIs C)) ∧ Below u.heap.size u w' from by
    have h' := h.below hu.bel
    rw [← hne] at h' ⊢
    refine (cuts_good u V a cap es h' hno' hp hnl L hL).mono ?_
    rintro e w' ⟨⟨v, rfl, ho⟩, hb⟩
    rw [hC] at ho
    obtain ⟨a1, c1, rfl, _, hn⟩ := ns_of_owns ho (by omega)
    exact ⟨⟨a1, c1, rfl, hn⟩, hb⟩)
  have C15 := hide (fun (u0 u : World) (hu : Sg w u0 V a n cap u) => show Calls Try.prog 15 #[.agg #[.int .i64 V, .slice a n cap]] u fun e w' => (∃ pa pc, e = .returned (.slice pa C.length pc) ∧ Ns w' pa C.length (toIs C)) ∧ Below u.heap.size u w' from by
    refine (refcuts_any u V a n cap es (h.below hu.bel) hne hp hnl L hL).mono ?_
    rintro e w' ⟨⟨v, rfl, ho⟩, hb⟩
    rw [hC] at ho
    obtain ⟨a1, c1, rfl, _, hn⟩ := ns_of_owns ho (by omega)
    exact ⟨⟨a1, c1, rfl, hn⟩, hb⟩)
  have HE := hide h
  have HL := hide hl
  have HO := hide (fun ho : OddP V n (toI es) => hl (.inr (.inr ho)))
  have HB0 := hide (Bg.start w (.int .i64 V) (.slice a n cap))
  have hn2 : (n : Int) ≤ 200 := by omega
  have hLn : L.length ≤ 40 := by omega
  clear h hl hno hno' hp hnl hL hmL hLl hne hC
  obtain ⟨m, hm⟩ : ∃ m, L.length = m := ⟨_, rfl⟩
  rw [hm] at C9 C13 hLn
  obtain ⟨mc, hmc⟩ : ∃ mc, C.length = mc := ⟨_, rfl⟩
  rw [hmc] at C10 C15 hCl
  clear hm hmc
  have C14 := hide (fun (u : World) (a1 a2 : Option Addr) (c1 c2 : Nat) (h1 : Ns u a1 mc (toIs C)) (h2 : Ns u a2 mc (toIs C)) => show Calls Try.prog 14 #[.slice a1 mc c1, .slice a2 mc c2] u fun e w' => e = .returned (.bool true) ∧ Below u.heap.size u w' from by
    refine (same_yes u a1 a2 mc c1 c2 (toIs C) h1 h2).mono ?_
    rintro e w' ⟨rfl, k, rfl⟩
    exact ⟨rfl, below_refl_draws _ k⟩)
  go_enter Try.func3, Try.ntmps3
  go_wp2_with fail
  refine (speaks_any _).mono ?_
  rintro e w1 ⟨rfl, hb1⟩
  have HB1 := hide ((unhide HB0).step hb1)
  obtain ⟨g0, g1⟩ := (unhide HB1).cells
  clear hb1 HB0
  go_wp2_with fail
  refine (odd_any w1 V a n cap _ (B := 0) ((unhide HE).below (unhide HB1).bel)).mono ?_
  rintro e w2 ⟨⟨r, rfl, hr⟩, hb2⟩
  have hrt : r = false := by
    cases r with
    | false => rfl
    | true => exact (unhide HO (hr.1 rfl)).elim
  subst hrt
  have HB2 := hide ((unhide HB1).step hb2)
  clear hb2 HB1 g0 g1 hr
  obtain ⟨g0, g1⟩ := (unhide HB2).cells
  go_wp2_with fail
  refine (loose_any w2 V a n cap _ (B := 0) (.inr ((unhide HE).below (unhide HB2).bel))).mono ?_
  rintro e w3 ⟨⟨r, rfl, hr⟩, hb3⟩
  have hrt : r = false := by
    cases r with
    | false => rfl
    | true => exact absurd (hr.1 rfl) (unhide HL)
  subst hrt
  have HB3 := hide ((unhide HB2).step hb3)
  clear hb3 HB2 g0 g1 hr HL HO HE
  go_upto_region 7 with fail
  go_cut [3, 4] from 30 to 34 (fun v3 v4 wx => ∃ pa pc qa qc, v3 = .slice pa m pc ∧ v4 = .slice qa m qc ∧ Hid (Rd wx pa m (fun k => L.getD k [])) ∧ Hid (Rd wx qa m (fun k => L.getD k [])) ∧ Hid (Bg w wx (.int .i64 V) (.slice a n cap)))
  case first =>
    have hS0 := Sg.keep b_dr (Sg.start (unhide HB3))
    have hS1 := Sg.start (unhide HB3)
    obtain ⟨g0, g1⟩ := (unhide HB3).cells
    go_region_held3 (fun u => u.cell? ⟨w.heap.size, 0, none⟩ = some (.int .i64 (V : Int)) ∧ u.cell? ⟨w.heap.size, 1, none⟩ = some (.slice a n cap) ∧ Hid (Bg w u (.int .i64 (V : Int)) (.slice a n cap)) ∧ Hid (Below w3.heap.size w3 u)) (first | exact hS0 | exact hS1 | assumption | exact Sg.keep hb9 (by assumption) | exact Sg.keep hb13 (by assumption)) ((first | (go_at_call 9; refine (unhide C9 w3 _ (by first | assumption | exact hS0)).mono ?_; rintro e w9 ⟨⟨pa, pc, rfl, hr9⟩, hb9⟩) | (go_at_call 13; refine (unhide C13 w3 _ (by first | assumption | exact hS0)).mono ?_; rintro e w13 ⟨⟨qa, qc, rfl, hr13⟩, hb13⟩)))
    all_goals go_wp2_with fail
    all_goals go_meet
    all_goals first
      | exact ⟨pa, pc, qa, qc, rfl, rfl, hr9.below hb13, hr13, (show Sg w w3 V a n cap _ by assumption).2.2.1⟩
      | exact ⟨pa, pc, qa, qc, rfl, rfl, hr9, hr13.below hb9, (show Sg w w3 V a n cap _ by assumption).2.2.1⟩
  case rest =>
    obtain ⟨pa, pc, qa, qc, rfl, rfl, HP, HQ, HB4⟩ := hcut
    obtain ⟨wy, rfl⟩ : ∃ wy, wy = wc := ⟨_, rfl⟩
    clear HB3 C9 C13
    have hmm : ((m : Int) != (m : Int)) = false := by simp
    go_upto_region 8 with fail
    go_cut [46] from 34 to 46 (fun v wx => v = .bool false ∧ Hid (Sg w wy V a n cap wx))
    case first =>
      have hS0 := Sg.keep b_dr (Sg.start (unhide HB4))
      have hS1 := Sg.start (unhide HB4)
      obtain ⟨g0, g1⟩ := (unhide HB4).cells
      go_region_held3 (fun u => u.cell? ⟨w.heap.size, 0, none⟩ = some (.int .i64 (V : Int)) ∧ u.cell? ⟨w.heap.size, 1, none⟩ = some (.slice a n cap) ∧ Hid (Bg w u (.int .i64 (V : Int)) (.slice a n cap)) ∧ Hid (Below wy.heap.size wy u)) (first | exact hS0 | exact hS1 | assumption | exact Sg.keep hb10 (by assumption) | exact Sg.keep hb15 (by assumption) | exact Sg.keep hb14 (by assumption)) ((first | (go_at_call 10; refine (unhide C10 wy _ (by first | assumption | exact hS0)).mono ?_; rintro e w10 ⟨⟨a10, c10, rfl, hn10⟩, hb10⟩) | (go_at_call 15; refine (unhide C15 wy _ (by first | assumption | exact hS0)).mono ?_; rintro e w15 ⟨⟨a15, c15, rfl, hn15⟩, hb15⟩) | (go_at_call 14; refine (unhide C14 _ a10 a15 c10 c15 (by first | exact hn10 | exact hn10.below hb15) (by first | exact hn15 | exact hn15.below hb10)).mono ?_; rintro e w14 ⟨rfl, hb14⟩)))
      all_goals go_wp2_with fail
      all_goals go_meet
      all_goals exact ⟨rfl, (show Sg w wy V a n cap _ by assumption)⟩
    case rest =>
      obtain ⟨rfl, HS5⟩ := hcut
      obtain ⟨wz, rfl⟩ : ∃ wz, wz = wc := ⟨_, rfl⟩
      have HP2 := hide ((unhide HP).below (unhide (unhide HS5).2.2.2))
      have HQ2 := hide ((unhide HQ).below (unhide (unhide HS5).2.2.2))
      have HBZ := hide (unhide HS5).bel
      clear HP HQ HS5 HB4 C10 C15 C14
      go_wp2_with fail
      have HW0 := hide (show ∃ j, wz = wz.drewN j from ⟨0, rfl⟩)
      go_loopw [49] (fun i wr => ∃ k : Nat, i = .int .i64 k ∧ k ≤ m ∧ Hid (∃ j, wr = wz.drewN j)) (fun i wr => m - (intOf i).toNat)
      case atStart => exact ⟨0, rfl, by omega, HW0⟩
      case round =>
        clear HW0
        obtain ⟨k, rfl, hk, HW⟩ := hrel
        by_cases hkm : k < m
        · have hkm2 : (k : Int) < (m : Int) := by omega
          have HPr := hide (show Rd wr pa m (fun k => L.getD k []) by obtain ⟨j, rfl⟩ := unhide HW; exact (unhide HP2).below (below_refl_draws _ _))
          have HQr := hide (show Rd wr qa m (fun k => L.getD k []) by obtain ⟨j, rfl⟩ := unhide HW; exact (unhide HQ2).below (below_refl_draws _ _))
          obtain ⟨g, off, ak, ck, ha, hg, d0, hna⟩ := unhide HPr k hkm
          obtain ⟨g2, off2, ak2, ck2, ha2, hg2, d2, hnb⟩ := unhide HQr k hkm
          subst ha
          subst ha2
          obtain ⟨l, hl⟩ : ∃ l, L.getD k [] = l := ⟨_, rfl⟩
          simp only [hl] at d0 d2 hna hnb
          obtain ⟨len, hlen⟩ : ∃ len, l.length = len := ⟨_, rfl⟩
          rw [hlen] at d0 d2 hna hnb
          have HC := hide (fun x => same_yes (wr.drewN x) ak ak2 len ck ck2 (toIs l) hna hnb)
          clear hna hnb hl hlen HPr HQr
          go_wp2_with fail
          go_quiet ((go_at_call 14; exact Calls.quiet_of (unhide HC _)))
          go_wp2_with fail
          go_roundw
          case rel =>
            refine ⟨k + 1, by go_num, by omega, ?_⟩
            obtain ⟨j, rfl⟩ := unhide HW
            exact ⟨_, (by first | rfl | exact World.drewN_drewN _ _ _)⟩
          case measure => simp [intOf]; omega
        · obtain rfl : k = m := by omega
          go_wp2_with fail
          go_ret
          refine ⟨rfl, ?_⟩
          obtain ⟨j, rfl⟩ := unhide HW
          exact (unhide HBZ).trans (below_refl_draws _ j)
end Go.Proofs.Ytbecmaandhadhaa.pt


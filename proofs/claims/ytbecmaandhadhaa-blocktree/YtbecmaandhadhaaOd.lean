/-
  The contracts of the statements' own Odd, Loose and speaks. Conditions: the graph's edges lie in memory as told.
-/
import Derived.Test.YtbecmaandhadhaaCt
import Derived.Test.YtbecmaandhadhaaRefMay
namespace Go.Proofs.Ytbecmaandhadhaa
open Go.RowKit
set_option linter.unusedVariables false
set_option maxRecDepth 20000

/-- has loops, or may not be -/
def OddP (V : Int) (n : Nat) (zs : List (Int × Int)) : Prop := (∃ j, j < n ∧ (zs.getD j (0, 0)).1 = (zs.getD j (0, 0)).2) ∨ ¬ Good V n zs
theorem OddP.bad {V : Int} {n : Nat} {zs : List (Int × Int)} (h : OddP V n zs) : ¬ Good V n zs ∨ ∃ j, j < n ∧ (zs.getD j (0, 0)).1 = (zs.getD j (0, 0)).2 := h.symm

set_option maxHeartbeats 4000000 in
theorem odd_any (w : World) (V : Int) (a : Option Addr) (n cap : Nat) (zs : List (Int × Int)) {B : Nat} (h : Es B w a n zs) :
    Calls Try.prog 8 #[.agg #[.int .i64 V, .slice a n cap]] w fun e w' => Told (OddP V n zs) e ∧ Below w.heap.size w w' := by
  have HE := hide h
  obtain ⟨hl, hn, hc⟩ := h
  have HC := hide hc
  clear hc hl
  go_enter Try.func8, Try.ntmps8
  go_wp2
  go_loopw [8] (fun i wr => ∃ k : Nat, i = .int .i64 k ∧ k ≤ n ∧ Hid (∀ j, j < k → (zs.getD j (0, 0)).1 ≠ (zs.getD j (0, 0)).2) ∧ Hid (Below (w.heap.size + 1) (w.alloc (.cells #[.int .i64 V, .slice a n cap] 24)) wr)) (fun i wr => n - (intOf i).toNat)
  case atStart => exact ⟨0, rfl, by omega, fun j h => by omega, Below.refl _ _⟩
  case round =>
    obtain ⟨k, rfl, hk, HA, HB⟩ := hrel
    have hszr : w.heap.size + 1 ≤ wr.heap.size := by have := (unhide HB).size; simpa using this
    by_cases hlt : k < n
    · obtain ⟨g, off, ha, _, hg, c0, c1⟩ := unhide HC k hlt
      subst ha
      obtain ⟨ed, hed⟩ : ∃ x, zs.getD k (0, 0) = x := ⟨_, rfl⟩
      rw [hed] at c0 c1
      have HED := hide hed
      clear hed
      obtain ⟨x, y⟩ := ed
      simp only at c0 c1
      have d0 : wr.cell? ⟨g, off + k * 2, none⟩ = some (.int .i64 x) := by rw [cell_box (unhide HB) (p := ⟨g, off + k * 2, none⟩) hg]; exact c0
      have d1 : wr.cell? ⟨g, off + k * 2 + 1, none⟩ = some (.int .i64 y) := by rw [cell_box (unhide HB) (p := ⟨g, off + k * 2 + 1, none⟩) hg]; exact c1
      have hlt2 : (k : Int) < (n : Int) := by omega
      clear c0 c1
      by_cases hxy : x = y
      · have hb : (x == y) = true := by simp [hxy]
        have HX := hide hxy
        clear hxy
        go_wp2
        go_ret
        refine ⟨.yes (.inl ⟨k, hlt, by rw [unhide HED]; exact unhide HX⟩), ?_⟩
        exact (((Below.refl _ _).alloc (Nat.le_refl _) _).trans ((unhide HB).mono (by omega))).alloc (by omega) _
      · have hb : (x == y) = false := by simp [hxy]
        have HX := hide hxy
        clear hxy
        go_wp2
        go_roundw
        case rel =>
          refine ⟨k + 1, by go_num, by omega, fun j hj => ?_, (unhide HB).alloc hszr _⟩
          by_cases hjk : j < k
          · exact unhide HA j hjk
          · obtain rfl : j = k := by omega
            rw [unhide HED]
            exact unhide HX
        case measure => simp [intOf]; omega
    · obtain rfl : k = n := by omega
      have d0 : wr.cell? ⟨w.heap.size, 0, none⟩ = some (.int .i64 V) := by rw [(unhide HB).cell (p := ⟨w.heap.size, 0, none⟩) (Nat.lt_succ_self _)]; simp
      have d1 : wr.cell? ⟨w.heap.size, 1, none⟩ = some (.slice a k cap) := by rw [(unhide HB).cell (p := ⟨w.heap.size, 1, none⟩) (Nat.lt_succ_self _)]; simp
      have HBW := hide (show Below w.heap.size w wr from ((Below.refl _ _).alloc (Nat.le_refl _) _).trans ((unhide HB).mono (by omega)))
      go_wp2_with fail
      refine (refMay_any wr V a k cap zs ((unhide HE).below (unhide HBW))).mono ?_
      rintro e w2 ⟨⟨r, rfl, hr⟩, hb2⟩
      have HB2 := hide ((unhide HBW).trans (hb2.mono (unhide HBW).size))
      have HR := hide hr
      clear hb2 hr
      go_wp2_with fail
      go_ret
      refine ⟨.dec ?_, unhide HB2⟩
      have hr := unhide HR
      constructor
      · intro h
        right
        intro hG
        rw [hr.2 hG] at h
        simp at h
      · rintro (⟨j, hj, he⟩ | h)
        · exact absurd he (unhide HA j hj)
        · cases r with
          | false => rfl
          | true => exact absurd (hr.1 rfl) h

/-- more than is looked at, or odd -/
def LooseP (V : Int) (n : Nat) (zs : List (Int × Int)) : Prop := 40 < n ∨ 20 < V ∨ OddP V n zs
set_option maxHeartbeats 4000000 in
theorem loose_any (w : World) (V : Int) (a : Option Addr) (n cap : Nat) (zs : List (Int × Int)) {B : Nat} (h : 200 < n ∨ Es B w a n zs) :
    Calls Try.prog 12 #[.agg #[.int .i64 V, .slice a n cap]] w fun e w' => Told (LooseP V n zs) e ∧ Below w.heap.size w w' := by
  have HB0 := hide (show Below w.heap.size w (w.alloc (.cells #[.int .i64 V, .slice a n cap] 24)) from (Below.refl _ _).alloc (Nat.le_refl _) _)
  by_cases hn : 40 < n
  · have hn2 : (40 : Int) < (n : Int) := by omega
    clear h
    go_enter Try.func12, Try.ntmps12
    go_wp2_with fail
    go_ret
    exact ⟨.yes (.inl hn), unhide HB0⟩
  · have hE : Es B w a n zs := h.resolve_left (by omega)
    have HE := hide hE
    have hn2 : ¬ (40 : Int) < (n : Int) := by omega
    clear h hE
    by_cases hV : 20 < V
    · go_enter Try.func12, Try.ntmps12
      go_wp2_with fail
      go_ret
      exact ⟨.yes (.inr (.inl hV)), unhide HB0⟩
    · go_enter Try.func12, Try.ntmps12
      go_wp2_with fail
      refine (odd_any _ V a n cap zs ((unhide HE).below (unhide HB0))).mono ?_
      rintro e w2 ⟨⟨r, rfl, hr⟩, hb2⟩
      have HB2 := hide ((unhide HB0).trans (hb2.mono (unhide HB0).size))
      have HR := hide hr
      clear hb2 hr
      go_wp2_with fail
      go_ret
      refine ⟨.dec ?_, unhide HB2⟩
      have hr := unhide HR
      constructor
      · intro h
        exact .inr (.inr (hr.1 (by simpa using h)))
      · rintro (h | h | h)
        · exact absurd h hn
        · omega
        · simp [hr.2 h]
theorem tight {V : Int} {n : Nat} {zs : List (Int × Int)} (hl : zs.length = n) (h : ¬ LooseP V n zs) : ∃ (v : Nat) (es : List (Nat × Nat)), V = v ∧ zs = toI es ∧ n = es.length ∧ Plain v es ∧ Df.NoLoop es ∧ v ≤ 20 ∧ es.length ≤ 40 := by
  have hG : Good V n zs := Classical.byContradiction fun h' => h (.inr (.inr (.inr h')))
  obtain ⟨v, es, rfl, rfl, rfl, hp⟩ := plain_of_good hl hG
  refine ⟨v, es, rfl, rfl, rfl, hp, ?_, ?_, ?_⟩
  · intro i hi he
    refine h (.inr (.inr (.inl ⟨i, hi, ?_⟩)))
    rw [toI_getD]
    unfold Pl.at' at he
    simp only
    omega
  · have : ¬ (20 : Int) < v := fun h' => h (.inr (.inl h'))
    omega
  · exact Nat.le_of_not_lt fun h' => h (.inl h')

/-- a box of any cells, laid behind u: it stands while others make memory -/
structure Bt (ty : TypeId) (cs : Array Value) (u wk : World) : Prop where
  bel : Below u.heap.size u wk
  gb : wk.heap[u.heap.size]? = some (.cells cs ty (0, 0))
theorem Bt.start (ty : TypeId) (cs : Array Value) (u : World) : Bt ty cs u (u.alloc (.cells cs ty)) := ⟨(Below.refl _ _).alloc (Nat.le_refl _) _, (MapKept.heap_alloc u _).1⟩
theorem Bt.lt {ty : TypeId} {cs : Array Value} {u wk : World} (h : Bt ty cs u wk) : u.heap.size < wk.heap.size := heap_lt h.gb
theorem Bt.step {ty : TypeId} {cs : Array Value} {u wk wk' : World} (h : Bt ty cs u wk) (hb : Below wk.heap.size wk wk') : Bt ty cs u wk' :=
  ⟨h.bel.trans (hb.mono h.bel.size), by rw [hb.block _ h.lt]; exact h.gb⟩
theorem Bt.cell {ty : TypeId} {cs : Array Value} {u wk : World} (h : Bt ty cs u wk) (k : Nat) {v : Value} (hk : cs[k]? = some v) : wk.cell? ⟨u.heap.size, k, none⟩ = some v := by
  simp [World.cell?, h.gb, hk]
theorem ns_of_bt {x : Int} {u wk : World} (h : Bt 3 #[.int .i64 x] u wk) : Ns wk (some ⟨u.heap.size, 0, none⟩) 1 [x] := by
  refine ⟨rfl, by decide, fun k hk => ⟨u.heap.size, 0, rfl, h.lt, ?_⟩⟩
  obtain rfl : k = 0 := by omega
  exact h.cell 0 rfl
theorem b_al {w : World} (o : Obj) : Below w.heap.size w (w.alloc o) := (Below.refl _ _).alloc (Nat.le_refl _) _
theorem b_dr {w : World} : Below w.heap.size w w.drew := (Below.refl _ _).drew

/-! ### the document's example -/
def exEs : List (Nat × Nat) := [(0, 1), (1, 2)]
theorem ex_plain : Plain 3 exEs := ⟨by decide, by decide, by decide, by decide⟩
theorem ex_nl : Df.NoLoop exEs := by
  intro i hi
  have hi2 : i < 2 := hi
  match i, hi2 with
  | 0, _ => decide
  | 1, _ => decide
theorem ex_en {e u v : Nat} (h : Df.En exEs e u v) : (e = 0 ∧ ((u = 0 ∧ v = 1) ∨ (u = 1 ∧ v = 0))) ∨ (e = 1 ∧ ((u = 1 ∧ v = 2) ∨ (u = 2 ∧ v = 1))) := by
  obtain ⟨h1, h2⟩ := h
  have h1' : e < 2 := h1
  match e, h1' with
  | 0, _ =>
    have : Pl.at' exEs 0 = (0, 1) := rfl
    rw [this] at h2
    simp only [Prod.mk.injEq] at h2
    omega
  | 1, _ =>
    have : Pl.at' exEs 1 = (1, 2) := rfl
    rw [this] at h2
    simp only [Prod.mk.injEq] at h2
    omega
theorem ex_se {i j : Nat} (h : Df.SE exEs i j) : i = j := by
  obtain ⟨x, a, b, h1, h2, h3⟩ := h
  apply Classical.byContradiction
  intro hne
  have key : x = 1 ∧ a ≠ b ∧ a ≠ 1 := by
    have e1 := ex_en h1
    have e2 := ex_en h2
    omega
  obtain ⟨rfl, hab, ha1⟩ := key
  have := h3 (fun y => y = a) rfl (by
    intro e u v he hu hv hua
    have := ex_en he
    omega)
  exact hab this.symm
theorem ex_bk {i j : Nat} (h : Df.Bk exEs i j) : i = j := h (fun i j => i = j) (fun _ => rfl) (fun _ _ h => h.symm) (fun _ _ _ h k => h.trans k) fun _ _ h => ex_se h
theorem ex_bl : IsBl exEs [[0], [1]] := by
  refine ⟨⟨by decide, ?_, by decide, ?_⟩, by decide, by decide⟩
  · intro e
    show e ∈ [0, 1] ↔ e < 2
    simp
    omega
  · intro B hB i hi j hj
    simp at hB
    constructor
    · intro hj2
      rcases hB with rfl | rfl <;> simp at hi hj2 <;> subst hi <;> subst hj2 <;> exact Df.Eqc.refl _ _
    · intro h
      rw [← ex_bk h]
      exact hi
theorem ex_cuts : cutsOf 3 exEs [[0], [1]] 3 = [1] := by decide
def exCells : Array Value := #[.int .i64 0, .int .i64 1, .int .i64 1, .int .i64 2]
theorem ex_es {u wk : World} (h : Bt 40 exCells u wk) : Es 0 wk (some ⟨u.heap.size, 0, none⟩) exEs.length (toI exEs) := by
  refine ⟨rfl, by decide, fun k hk => ⟨u.heap.size, 0, rfl, Nat.zero_le _, h.lt, ?_⟩⟩
  have hk3 : k < 2 := hk
  match k, hk3 with
  | 0, _ => exact ⟨h.cell 0 rfl, h.cell 1 rfl⟩
  | 1, _ => exact ⟨h.cell 2 rfl, h.cell 3 rfl⟩

set_option maxHeartbeats 4000000 in
theorem speaks_any (w : World) : Calls Try.prog 7 #[] w fun e w' => e = .returned (.bool true) ∧ Below w.heap.size w w' := by
  have HBL := hide (fun (u : World) (a : Option Addr) (h : Es 0 u a exEs.length (toI exEs)) (ha : a = none → False) => show Calls Try.prog 9 #[.agg #[.int .i64 3, .slice a 2 2]] u fun e w' => (∃ a1 c1, e = .returned (.slice a1 2 c1)) ∧ Below u.heap.size u w' from by
    refine (blocks_good u 3 a 2 exEs h (fun e => (ha e).elim) ex_plain ex_nl _ ex_bl).mono ?_
    rintro e w' ⟨⟨a1, c1, rfl, _⟩, hb⟩
    exact ⟨⟨a1, c1, rfl⟩, hb⟩)
  have HCU := hide (fun (u : World) (a : Option Addr) (h : Es 0 u a exEs.length (toI exEs)) (ha : a = none → False) => show Calls Try.prog 10 #[.agg #[.int .i64 3, .slice a 2 2]] u fun e w' => (∃ a1 c1, e = .returned (.slice a1 1 c1) ∧ Ns w' a1 1 [1]) ∧ Below u.heap.size u w' from by
    refine (cuts_good u 3 a 2 exEs h (fun e => (ha e).elim) ex_plain ex_nl _ ex_bl).mono ?_
    rintro e w' ⟨⟨v, rfl, ho⟩, hb⟩
    rw [ex_cuts] at ho
    obtain ⟨a1, c1, rfl, _, hn⟩ := ns_of_owns ho (by decide)
    exact ⟨⟨a1, c1, rfl, hn⟩, hb⟩)
  go_enter Try.func7, Try.ntmps7
  go_wp2_with fail
  have X0 := hide ((Bt.start 40 exCells w).step (b_al (.cells #[.int .i64 3, .slice (some ⟨w.heap.size, 0, none⟩) 2 2] 24)))
  have G0 := hide (show Bt 24 #[.int .i64 3, .slice (some ⟨w.heap.size, 0, none⟩) 2 2] (w.alloc (.cells exCells 40)) ((w.alloc (.cells exCells 40)).alloc (.cells #[.int .i64 3, .slice (some ⟨w.heap.size, 0, none⟩) 2 2] 24)) from Bt.start _ _ _)
  refine (unhide HBL _ _ (ex_es (unhide X0)) (by simp)).mono ?_
  rintro e w1 ⟨⟨a1, c1, rfl⟩, hb⟩
  have X1 := hide ((unhide X0).step hb)
  have G1 := hide ((unhide G0).step hb)
  clear hb X0 G0 HBL
  have g0 := (unhide G1).cell 0 rfl
  have g1 := (unhide G1).cell 1 rfl
  have hs1 : (w.alloc (.cells exCells 40)).heap.size = w.heap.size + 1 := by simp
  rw [hs1] at g0 g1
  clear hs1
  go_wp2_with fail
  refine (unhide HCU _ _ (ex_es (unhide X1)) (by simp)).mono ?_
  rintro e w2 ⟨⟨a2, c2, rfl, hn2⟩, hb⟩
  have X2 := hide ((unhide X1).step hb)
  have N2 := hide hn2
  clear hb hn2 X1 G1 g0 g1 HCU
  go_wp2_with fail
  refine (same_yes _ a2 _ 1 c2 1 [1] ((unhide N2).below (b_al _)) (ns_of_bt (Bt.start 3 #[.int .i64 1] w2))).mono ?_
  rintro e w3 ⟨rfl, m, hw3⟩
  have X3 := hide (((unhide X2).step (b_al (.cells #[.int .i64 1] 3))).step (below_refl_draws _ m))
  rw [← hw3] at X3
  clear hw3 X2 N2
  go_wp2_with fail
  go_ret
  exact ⟨rfl, (unhide X3).bel⟩
end Go.Proofs.Ytbecmaandhadhaa


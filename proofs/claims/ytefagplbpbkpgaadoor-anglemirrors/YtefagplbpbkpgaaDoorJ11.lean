/-
  The contracts of without, Sources, Sinks, edgesAt, Outs, Ins, Order. Conditions: the view lies in memory as told.
-/
import Derived.Test.YtefagplbpbkpgaaDoorJ10
import Derived.Test.YtefagplbpbkpgaaDoorJ4
import Derived.Test.YtefagplbpbkpgaaDoorJ8
import Derived.Test.YtefagplbpbkpgaaDoorJ6
namespace Go.Proofs.YtefagplbpbkpgaaDoor
open Go.RowKit
set_option linter.unusedVariables false
set_option maxRecDepth 20000

def bare (L : Nat → List Nat) (k : Nat) : List Nat := (List.range k).filter fun x => (L x).isEmpty
theorem bare_succ (L : Nat → List Nat) (k : Nat) : bare L (k + 1) = bare L k ++ if (L k).isEmpty then [k] else [] := by
  unfold bare
  rw [List.range_succ, List.filter_append]
  cases h : (L k).isEmpty <;> simp [h]
theorem bare_len (L : Nat → List Nat) (k : Nat) : (bare L k).length ≤ k := by
  have := List.length_filter_le (fun x => (L x).isEmpty) (List.range k)
  simpa [bare] using this

set_option maxHeartbeats 2000000 in
theorem without_any (w : World) (a : Option Addr) (V c : Nat) (L : Nat → List Nat) (h : Rs w a V L) (hV : V ≤ 64) :
    Calls Tryd.prog 69 #[.slice a V c] w fun e w' => (∃ v, e = .returned v ∧ w'.ownsRow w.heap.size 3 1 v (bare L V).length (zcells (toIs (bare L V)))) ∧ Below w.heap.size w w' := by
  have HR := hide h
  obtain ⟨i0, hi0, hz0, hz1, hz2⟩ := info_parts info3
  have HI := hide hi0
  have HZ0 := hide hz0
  have HZ1 := hide hz1
  have HZ2 := hide hz2
  clear h hi0 hz0 hz1 hz2
  go_enter Tryd.func69, Tryd.ntmps69
  go_wp2
  go_loopw [3, 8] (fun v i wr => ∃ k : Nat, i = .int .i64 k ∧ k ≤ V ∧ Hid (wr.ownsRow w.heap.size 3 1 v (bare L k).length (zcells (toIs (bare L k)))) ∧ Hid (Below w.heap.size w wr)) (fun v i wr => V - (intOf i).toNat)
  case atStart => exact ⟨0, rfl, by omega, World.ownsRow_nil _ _ _ _, Below.refl _ _⟩
  case round =>
    obtain ⟨k, rfl, hk, HO, HB⟩ := hrel
    have hbl := bare_len L k
    have hsz := (unhide HB).size
    by_cases hlt : k < V
    · obtain ⟨g, off, ak, ck, ha, hg, c0, _, _, _⟩ := unhide HR k hlt
      subst ha
      have d0 : wr.cell? ⟨g, off + k, none⟩ = some (.slice ak (L k).length ck) := by rw [(unhide HB).cell (p := ⟨g, off + k, none⟩) hg]; exact c0
      have hlt2 : (k : Int) < (V : Int) := by omega
      have hbs := bare_succ L k
      obtain ⟨m, hm⟩ : ∃ m, (L k).length = m := ⟨_, rfl⟩
      rw [hm] at d0
      clear c0
      by_cases hm0 : m = 0
      · subst hm0
        rw [if_pos (by simp [List.length_eq_zero_iff.1 hm])] at hbs
        have HBS := hide hbs
        clear hbs hm
        go_wp2_with (at_builtin; refine wpList_append_own _ rfl (.tmp 16) (.tmp 18) 37 rfl w.heap.size 3 i0 (.int .i64 0) 1 8 Tryd.underlying37 (unhide HI) (unhide HZ0) (unhide HZ1) (unhide HZ2) rfl (by decide) u3 (bare L k).length (zcells (toIs (bare L k))) rfl ((unhide HO).alloc _) ⟨wr.heap.size, 0, none⟩ 1 1 [.int .i64 k] rfl rfl (cell_one_new _ _ _) (one_int k) ?a3 ?a4 ?a5 ?_)
        case a3 => unfold maxLen; omega
        case a4 => omega
        case a5 => simp; omega
        intro v2 w4 hown4 hg4 _
        rw [zcells_snoc, toIs_snoc] at hown4
        have HO4 := hide hown4
        have HB4 := hide (((unhide HB).alloc hsz _).grown hg4 (by simp; omega) fun j hj => ((unhide HO).lt j hj).1)
        clear hown4 hg4
        go_wp2_with fail
        go_roundw
        case rel =>
          refine ⟨k + 1, by go_num, by omega, ?_, HB4⟩
          rw [unhide HBS, List.length_append]
          exact unhide HO4
        case measure => simp [intOf]; omega
      · rw [if_neg (by simp; intro he; rw [he] at hm; simp at hm; omega), List.append_nil] at hbs
        have HBS := hide hbs
        have hm1 : ((m : Int) == 0) = false := by rw [beq_eq_false_iff_ne]; omega
        clear hbs hm
        go_wp2_with fail
        go_roundw
        case rel => exact ⟨k + 1, by go_num, by omega, by rw [unhide HBS]; exact HO, HB⟩
        case measure => simp [intOf]; omega
    · obtain rfl : k = V := by omega
      go_wp2_with fail
      go_ret
      exact ⟨⟨_, rfl, unhide HO⟩, unhide HB⟩

set_option maxHeartbeats 1000000 in
theorem sources_any (w : World) (b V : Nat) (es : List (Nat × Nat)) (ea : Option Addr) (ec : Nat) (oa : Option Addr) (oc : Nat) (ia : Option Addr) (ic : Nat) (ra : Option Addr) (rc : Nat) (ord : List Nat)
    (h : Vw w b V es ea ec oa oc ia ic ra rc ord) (hV : V ≤ 64) :
    Calls Tryd.prog 54 #[.pointer (some ⟨b, 0, none⟩)] w fun e w' => (∃ v, e = .returned v ∧ w'.ownsRow w.heap.size 3 1 v (bare (Pl.ins es) V).length (zcells (toIs (bare (Pl.ins es) V)))) ∧ Below w.heap.size w w' := by
  have c3 := h.c3
  have HR := hide h.ins
  clear h
  go_enter Tryd.func54, Tryd.ntmps54
  go_wp2_with fail
  refine (without_any w _ V _ _ (unhide HR) hV).mono ?_
  rintro e w' ⟨⟨v, rfl, ho⟩, hb⟩
  have HO := hide ho
  have HB := hide hb
  clear ho hb
  go_wp2_with fail
  go_ret
  exact ⟨⟨v, rfl, unhide HO⟩, unhide HB⟩
set_option maxHeartbeats 1000000 in
theorem sinks_any (w : World) (b V : Nat) (es : List (Nat × Nat)) (ea : Option Addr) (ec : Nat) (oa : Option Addr) (oc : Nat) (ia : Option Addr) (ic : Nat) (ra : Option Addr) (rc : Nat) (ord : List Nat)
    (h : Vw w b V es ea ec oa oc ia ic ra rc ord) (hV : V ≤ 64) :
    Calls Tryd.prog 55 #[.pointer (some ⟨b, 0, none⟩)] w fun e w' => (∃ v, e = .returned v ∧ w'.ownsRow w.heap.size 3 1 v (bare (Pl.outs es) V).length (zcells (toIs (bare (Pl.outs es) V)))) ∧ Below w.heap.size w w' := by
  have c2 := h.c2
  have HR := hide h.outs
  clear h
  go_enter Tryd.func55, Tryd.ntmps55
  go_wp2_with fail
  refine (without_any w _ V _ _ (unhide HR) hV).mono ?_
  rintro e w' ⟨⟨v, rfl, ho⟩, hb⟩
  have HO := hide ho
  have HB := hide hb
  clear ho hb
  go_wp2_with fail
  go_ret
  exact ⟨⟨v, rfl, unhide HO⟩, unhide HB⟩

/-- the order, or that there is none -/
def OrderTold (w w' : World) (V : Nat) (ord : List Nat) (e : Ending) : Prop :=
  (ord.length < V ∧ e = .returned (.tuple #[.slice none 0 0, .bool false])) ∨ (V ≤ ord.length ∧ ∃ a c, e = .returned (.tuple #[.slice a ord.length c, .bool true]) ∧ w'.ownsRow w.heap.size 3 1 (.slice a ord.length c) ord.length (zcells (toIs ord)))
set_option maxHeartbeats 1000000 in
theorem order_any (w : World) (b V : Nat) (es : List (Nat × Nat)) (ea : Option Addr) (ec : Nat) (oa : Option Addr) (oc : Nat) (ia : Option Addr) (ic : Nat) (ra : Option Addr) (rc : Nat) (ord : List Nat)
    (h : Vw w b V es ea ec oa oc ia ic ra rc ord) (hV : V ≤ 64) (ho : ord.length ≤ 64) :
    Calls Tryd.prog 48 #[.pointer (some ⟨b, 0, none⟩)] w fun e w' => OrderTold w w' V ord e ∧ Below w.heap.size w w' := by
  have c3 := h.c3
  have c4 := h.c4
  have HO := hide h.order
  have HRC := hide (show ra = none → ord.length = 0 ∧ rc = 0 from fun e => by have := h.rcap.2 e; have := h.rcap.1; omega)
  clear h
  obtain ⟨n, hn⟩ : ∃ n, ord.length = n := ⟨_, rfl⟩
  rw [hn] at c4 ho
  have HN := hide hn
  clear hn
  by_cases hlt : n < V
  · have hlt2 : (n : Int) < (V : Int) := by omega
    go_enter Tryd.func48, Tryd.ntmps48
    go_wp2_with fail
    go_quiet (fail)
    go_wp2_with fail
    go_ret2
    exact ⟨.inl ⟨by rw [unhide HN]; exact hlt, rfl⟩, below_refl_draws _ _⟩
  · have hlt2 : ¬ (n : Int) < (V : Int) := by omega
    go_enter Tryd.func48, Tryd.ntmps48
    go_wp2_with fail
    go_quiet (fail)
    go_wp2_with fail
    refine (clone_any _ ra n rc (toIs ord) ((show Ns w ra n (toIs ord) by rw [← unhide HN]; exact unhide HO).below (below_refl_draws _ _)) (by rw [← unhide HN]; exact unhide HRC) (by omega)).mono ?_
    rintro e w' ⟨⟨v, rfl, hov⟩, hb⟩
    obtain ⟨a, c, hv, _, _⟩ := ns_of_owns hov (by omega)
    subst hv
    have HOV := hide hov
    have HB := hide hb
    clear hov hb
    go_wp2_with fail
    go_ret2
    refine ⟨.inr ⟨by rw [unhide HN]; omega, a, c, ?_, ?_⟩, (below_refl_draws _ _).trans (unhide HB)⟩
    · rw [unhide HN]
      rfl
    · rw [unhide HN]
      exact unhide HOV
end Go.Proofs.YtefagplbpbkpgaaDoor
/-
  What the statements share of graphs with rotations, and the contract of the program's canBeTold. Conditions: the graph and the lists lie in memory as told; the table of math/bits lies where it should.
-/
namespace Go.Proofs.YtefagplbpbkpgaaDoor
open Go.RowKit
set_option linter.unusedVariables false
set_option maxRecDepth 20000
/-- a graph, a rotation of it, in memory and in plain numbers: its parts, its handles -/
structure Gd (w : World) (V : Nat) (a : Option Addr) (n cap : Nat) (es : List (Nat × Nat)) (ra : Option Addr) (m rc : Nat) (q : List (List Nat)) (N : Nat → Nat) (c g : Nat) : Prop where
  tab : pt.Tab w
  edges : Es 0 w a n (toI es)
  hno : a = none → n = 0 ∧ cap = 0
  ne : es.length = n
  plain : pt.Plain V es
  rr : Rr w ra m (rowsI q)
  yes : IsRot V n (toI es) (rowsI q)
  ro : pt.Ro V es q
  nx : Behind q N
  cnt : pt.IsCnt V es c
  eul : 2 * c + n = V + cyc N (2 * n) + emp q V + 2 * g
theorem Gd.below {w w' : World} {V : Nat} {a : Option Addr} {n cap : Nat} {es : List (Nat × Nat)} {ra : Option Addr} {m rc : Nat} {q : List (List Nat)} {N : Nat → Nat} {c g : Nat} (h : Gd w V a n cap es ra m rc q N c g) (hb : Below w.heap.size w w') : Gd w' V a n cap es ra m rc q N c g :=
  ⟨h.tab.below hb, h.edges.below hb, h.hno, h.ne, h.plain, h.rr.below hb, h.yes, h.ro, h.nx, h.cnt, h.eul⟩
theorem Gd.pl {w : World} {V : Nat} {a : Option Addr} {n cap : Nat} {es : List (Nat × Nat)} {ra : Option Addr} {m rc : Nat} {q : List (List Nat)} {N : Nat → Nat} {c g : Nat} (h : Gd w V a n cap es ra m rc q N c g) : Plain V es := ⟨h.plain.v1, h.plain.v64, h.plain.n128, h.plain.ends⟩
theorem Gd.pm {w : World} {V : Nat} {a : Option Addr} {n cap : Nat} {es : List (Nat × Nat)} {ra : Option Addr} {m rc : Nat} {q : List (List Nat)} {N : Nat → Nat} {c g : Nat} (h : Gd w V a n cap es ra m rc q N c g) : Pm N (2 * n) := by rw [← h.ne]; exact pt.nx_pm h.ro h.nx
theorem Gd.lt {w : World} {V : Nat} {a : Option Addr} {n cap : Nat} {es : List (Nat × Nat)} {ra : Option Addr} {m rc : Nat} {q : List (List Nat)} {N : Nat → Nat} {c g : Nat} (h : Gd w V a n cap es ra m rc q N c g) : ∀ x, x < q.length → ∀ i, i < (q.getD x []).length → (q.getD x []).getD i 0 < 2 * n := by rw [← h.ne]; exact h.ro.lt'
theorem Gd.cov {w : World} {V : Nat} {a : Option Addr} {n cap : Nat} {es : List (Nat × Nat)} {ra : Option Addr} {m rc : Nat} {q : List (List Nat)} {N : Nat → Nat} {c g : Nat} (h : Gd w V a n cap es ra m rc q N c g) : ∀ j, j < 2 * n → ∃ x i, x < q.length ∧ i < (q.getD x []).length ∧ oth ((q.getD x []).getD i 0) = j := by rw [← h.ne]; exact h.ro.cov
theorem Gd.n128 {w : World} {V : Nat} {a : Option Addr} {n cap : Nat} {es : List (Nat × Nat)} {ra : Option Addr} {m rc : Nat} {q : List (List Nat)} {N : Nat → Nat} {c g : Nat} (h : Gd w V a n cap es ra m rc q N c g) : n ≤ 128 := by rw [← h.ne]; exact h.plain.n128
theorem Gd.mV {w : World} {V : Nat} {a : Option Addr} {n cap : Nat} {es : List (Nat × Nat)} {ra : Option Addr} {m rc : Nat} {q : List (List Nat)} {N : Nat → Nat} {c g : Nat} (h : Gd w V a n cap es ra m rc q N c g) : m = V := by have := h.rr.1; rw [rowsI_length] at this; rw [← this, h.ro.len]
theorem Gd.qV {w : World} {V : Nat} {a : Option Addr} {n cap : Nat} {es : List (Nat × Nat)} {ra : Option Addr} {m rc : Nat} {q : List (List Nat)} {N : Nat → Nat} {c g : Nat} (h : Gd w V a n cap es ra m rc q N c g) : q.length = V := h.ro.len
theorem cnt_le {V : Nat} {es : List (Nat × Nat)} {c : Nat} (h : pt.IsCnt V es c) : c ≤ V := by
  obtain ⟨r, _, rfl⟩ := h
  exact Nat.le_trans (List.length_filter_le _ _) (by simp)
theorem order_le (V : Nat) (es : List (Nat × Nat)) : (Pl.order V es).length ≤ V := by
  have := (Pl.order_run V es).1
  exact nodup_le V _ this.nodup this.lt
/-- the program's parts, and how many -/
theorem parts_cnt (u : World) (hT : pt.Tab u) (V : Nat) (a : Option Addr) (n cap : Nat) (es : List (Nat × Nat)) {B : Nat} (h : Es B u a n (toI es)) (hne : es.length = n) (hp : pt.Plain V es) (c : Nat) (hc : pt.IsCnt V es c) :
    Calls Tryd.prog 45 #[.agg #[.int .i64 V, .slice a n cap], .int .u64 0] u fun e w' => (∃ pa pc, e = .returned (.slice pa c pc)) ∧ Below u.heap.size u w' := by
  obtain ⟨C0, r0, hP0⟩ := pt.pt_ex hp (0 : Nat).testBit
  have hbit : (0 : Nat).testBit = fun _ => false := by funext t; simp
  have hc0 : (pt.repsL r0 C0 V).length = c := by
    refine pt.IsCnt.only (V := V) (es := es) ⟨r0, fun v hv => ?_, ?_⟩ hc
    · have := hP0.rep v hv
      rw [hbit] at this
      exact this
    · simp [pt.repsL]
  refine (pt.parts_any u hT V a n cap es h hne hp 0 (by decide) C0 r0 hP0).mono ?_
  rintro e w' ⟨⟨v, rfl, ho⟩, hb⟩
  rw [hc0] at ho
  obtain ⟨pa, pc, rfl⟩ := owns_slice ho
  exact ⟨⟨pa, pc, rfl⟩, hb⟩
/-- such as the chapter tells angles of -/
def Nice (V : Nat) (es : List (Nat × Nat)) (c g : Nat) : Prop := g = 0 ∧ c ≤ 1 ∧ V ≤ (Pl.order V es).length
set_option maxHeartbeats 4000000 in
theorem can_bad (w : World) (V : Int) (a : Option Addr) (n cap : Nat) (es : List (Int × Int)) {B : Nat} (h : Es B w a n es) (ra : Option Addr) (m rc : Nat) (rs : List (List Int)) (hr : Rr w ra m rs) (hno : ¬ IsRot V n es rs) :
    Calls Tryd.prog 25 #[.agg #[.int .i64 V, .slice a n cap], .slice ra m rc] w fun e w' => e = .returned (.bool false) ∧ Below w.heap.size w w' := by
  have HB0 := hide (Bg.start w (.int .i64 V) (.slice a n cap))
  have HC := hide (fun (u : World) (hu : Below w.heap.size w u) => genus_bad u V a n cap es (h.below hu) ra m rc rs (hr.below hu) hno)
  clear h hr hno
  obtain ⟨g0, g1⟩ := (unhide HB0).cells
  go_enter Tryd.func25, Tryd.ntmps25
  go_wp2_with fail
  refine (unhide HC _ (unhide HB0).bel).mono ?_
  rintro e w1 ⟨rfl, hb1⟩
  have HB1 := hide ((unhide HB0).step hb1)
  clear hb1 HB0 g0 g1 HC
  obtain ⟨g0, g1⟩ := (unhide HB1).cells
  have XD := hide ((unhide HB1).step b_dr)
  go_wp2_with fail
  refine wp_region_held_drew (S := fun u => u.cell? ⟨w.heap.size, 0, none⟩ = some (.int .i64 V) ∧ u.cell? ⟨w.heap.size, 1, none⟩ = some (.slice a n cap)) (by kernel_rfl) (unhide XD).cells (fun hS => ?_)
  generalize w1.drew = wd at XD hS ⊢
  clear g0 g1
  refine wpAnyH_take (i := 0) (v := ?_) rfl (by kernel_rfl) (by kernel_rfl) (by kernel_rfl) (fun _ _ _ h => h) (Or.inl ⟨by rfl, ?_⟩) hS ?_
  rotate_left
  · intro u hu; (try dsimp only at hu); go_simp; try with_reducible rfl
  simp only [Act.put, List.getElem_toArray, List.getElem_cons_zero, List.setIfInBounds_toArray, List.set_cons_zero, List.set_cons_succ]
  refine wpAnyH_take (i := 1) (v := ?_) rfl (by kernel_rfl) (by kernel_rfl) (by kernel_rfl) (fun _ _ _ h => h) (Or.inl ⟨by rfl, ?_⟩) hS ?_
  rotate_left
  · intro u hu; (try dsimp only at hu); go_simp; try with_reducible rfl
  simp only [Act.put, List.getElem_toArray, List.getElem_cons_zero, List.getElem_cons_succ, List.setIfInBounds_toArray, List.set_cons_zero, List.set_cons_succ]
  refine wpAnyH_take (i := 2) (v := ?_) rfl (by kernel_rfl) (by kernel_rfl) (by kernel_rfl) (fun _ _ _ h => h) (Or.inl ⟨by rfl, ?_⟩) hS ?_
  rotate_left
  · intro u hu; (try dsimp only at hu); go_simp; try with_reducible rfl
  simp only [Act.put, List.getElem_toArray, List.getElem_cons_zero, List.getElem_cons_succ, List.setIfInBounds_toArray, List.set_cons_zero, List.set_cons_succ]
  refine wpAnyH_take (i := 3) (v := undef) rfl (by kernel_rfl) (by kernel_rfl) (by kernel_rfl) (fun _ _ _ h => h) (Or.inr ⟨by rfl, rfl⟩) hS ?_
  simp only [Act.put, List.getElem_toArray, List.getElem_cons_zero, List.getElem_cons_succ, List.setIfInBounds_toArray, List.set_cons_zero, List.set_cons_succ]
  refine wpAnyH_take (i := 4) (v := undef) rfl (by kernel_rfl) (by kernel_rfl) (by kernel_rfl) (fun _ _ _ h => h) (Or.inr ⟨by rfl, rfl⟩) hS ?_
  simp only [Act.put, List.getElem_toArray, List.getElem_cons_zero, List.getElem_cons_succ, List.setIfInBounds_toArray, List.set_cons_zero, List.set_cons_succ]
  refine wpAnyH_take (i := 5) (v := ?_) rfl (by kernel_rfl) (by kernel_rfl) (by kernel_rfl) (fun _ _ _ h => h) (Or.inl ⟨by rfl, ?_⟩) hS ?_
  rotate_left
  · intro u hu; (try dsimp only at hu); go_simp; try with_reducible rfl
  simp only [Act.put, List.getElem_toArray, List.getElem_cons_zero, List.getElem_cons_succ, List.setIfInBounds_toArray, List.set_cons_zero, List.set_cons_succ]
  refine wpAnyH_take (i := 6) (v := ?_) rfl (by kernel_rfl) (by kernel_rfl) (by kernel_rfl) (fun _ _ _ h => h) (Or.inl ⟨by rfl, ?_⟩) hS ?_
  rotate_left
  · intro u hu; (try dsimp only at hu); go_simp; try with_reducible rfl
  simp only [Act.put, List.getElem_toArray, List.getElem_cons_zero, List.getElem_cons_succ, List.setIfInBounds_toArray, List.set_cons_zero, List.set_cons_succ]
  refine wpAnyH_take (i := 7) (v := undef) rfl (by kernel_rfl) (by kernel_rfl) (by kernel_rfl) (fun _ _ _ h => h) (Or.inr ⟨by rfl, rfl⟩) hS ?_
  simp only [Act.put, List.getElem_toArray, List.getElem_cons_zero, List.getElem_cons_succ, List.setIfInBounds_toArray, List.set_cons_zero, List.set_cons_succ]
  refine wpAnyH_take (i := 8) (v := undef) rfl (by kernel_rfl) (by kernel_rfl) (by kernel_rfl) (fun _ _ _ h => h) (Or.inr ⟨by rfl, rfl⟩) hS ?_
  simp only [Act.put, List.getElem_toArray, List.getElem_cons_zero, List.getElem_cons_succ, List.setIfInBounds_toArray, List.set_cons_zero, List.set_cons_succ]
  refine wpAnyH_take (i := 9) (v := undef) rfl (by kernel_rfl) (by kernel_rfl) (by kernel_rfl) (fun _ _ _ h => h) (Or.inr ⟨by rfl, rfl⟩) hS ?_
  simp only [Act.put, List.getElem_toArray, List.getElem_cons_zero, List.getElem_cons_succ, List.setIfInBounds_toArray, List.set_cons_zero, List.set_cons_succ]
  refine wpAnyH_take (i := 10) (v := undef) rfl (by kernel_rfl) (by kernel_rfl) (by kernel_rfl) (fun _ _ _ h => h) (Or.inr ⟨by rfl, rfl⟩) hS ?_
  simp only [Act.put, List.getElem_toArray, List.getElem_cons_zero, List.getElem_cons_succ, List.setIfInBounds_toArray, List.set_cons_zero, List.set_cons_succ]
  refine wpAnyH_take (i := 11) (v := undef) rfl (by kernel_rfl) (by kernel_rfl) (by kernel_rfl) (fun _ _ _ h => h) (Or.inr ⟨by rfl, rfl⟩) hS ?_
  simp only [Act.put, List.getElem_toArray, List.getElem_cons_zero, List.getElem_cons_succ, List.setIfInBounds_toArray, List.set_cons_zero, List.set_cons_succ]
  refine wpAnyH_take (i := 12) (v := ?_) rfl (by kernel_rfl) (by kernel_rfl) (by kernel_rfl) (fun _ _ _ h => h) (Or.inl ⟨by rfl, ?_⟩) hS ?_
  rotate_left
  · intro u hu; (try dsimp only at hu); go_simp; try with_reducible rfl
  simp only [Act.put, List.getElem_toArray, List.getElem_cons_zero, List.getElem_cons_succ, List.setIfInBounds_toArray, List.set_cons_zero, List.set_cons_succ]
  refine wpAnyH_done (by kernel_rfl) ?_ _
  go_wp2_with fail
  go_ret
  exact ⟨rfl, (unhide XD).bel⟩
set_option maxHeartbeats 8000000 in
theorem can_good (w : World) (V : Nat) (a : Option Addr) (n cap : Nat) (es : List (Nat × Nat)) (ra : Option Addr) (m rc : Nat) (q : List (List Nat)) (N : Nat → Nat) (c g : Nat) (h : Gd w V a n cap es ra m rc q N c g) :
    Calls Tryd.prog 25 #[.agg #[.int .i64 V, .slice a n cap], .slice ra m rc] w fun e w' => Told (Nice V es c g) e ∧ Below w.heap.size w w' := by
  have hcV := cnt_le h.cnt
  have hv64 := h.plain.v64
  have HB0 := hide (Bg.start w (.int .i64 V) (.slice a n cap))
  have HC := hide (fun (u : World) (hu : Below w.heap.size w u) => genus_good u (h.tab.below hu) V a n cap es (h.edges.below hu) h.ne h.plain ra m rc q (h.rr.below hu) h.yes h.ro N h.nx c g h.cnt h.eul)
  have HP := hide (fun (u0 u : World) (hu : Sg w u0 V a n cap u) => parts_cnt u (h.tab.below hu.bel) V a n cap es (h.edges.below hu.bel) h.ne h.plain c h.cnt)
  have HO := hide (fun (u : World) => show Calls Tryd.prog 46 #[.slice none 0 0] u fun e w' => e = .returned (.int .u64 0) ∧ w' = u from pt.of_any u none 0 0 [] (Ns.nil _ _))
  have HV := hide (fun (u : World) (hu : Below w.heap.size w u) => show Calls Tryd.prog 47 #[.agg #[.int .i64 V, .slice a n cap]] u fun e w' => Viewed u w' V es e ∧ Below u.heap.size u w' from by
    have := of_good u V a cap es (by rw [h.ne]; exact h.edges.below hu) (by rw [h.ne]; exact h.hno) h.pl
    rwa [h.ne] at this)
  have HOL := hide (order_le V es)
  clear h
  obtain ⟨g0, g1⟩ := (unhide HB0).cells
  go_enter Tryd.func25, Tryd.ntmps25
  go_wp2_with fail
  refine (unhide HC _ (unhide HB0).bel).mono ?_
  rintro e w1 ⟨rfl, hb1⟩
  have HB1 := hide ((unhide HB0).step hb1)
  clear hb1 HB0 g0 g1 HC
  obtain ⟨g0, g1⟩ := (unhide HB1).cells
  have hS0 := Sg.keep b_dr (Sg.start (unhide HB1))
  have hS1 := Sg.start (unhide HB1)
  by_cases hg : g = 0
  · subst hg
    by_cases hc : c ≤ 1
    · have hc1 : ¬ (1 : Int) < (c : Int) := by omega
      go_wp2_with fail
      go_region_held3 (fun u => u.cell? ⟨w.heap.size, 0, none⟩ = some (.int .i64 (V : Int)) ∧ u.cell? ⟨w.heap.size, 1, none⟩ = some (.slice a n cap) ∧ Hid (Bg w u (.int .i64 (V : Int)) (.slice a n cap)) ∧ Hid (Below w1.heap.size w1 u)) (first | exact hS0 | exact hS1 | assumption | exact Sg.keep hb7 (by assumption)) ((first | (go_at_call 46; refine (unhide HO _).mono ?_; rintro e w8 ⟨rfl, rfl⟩) | (go_at_call 45; refine (unhide HP w1 _ (by first | assumption | exact hS0)).mono ?_; rintro e w7 ⟨⟨qa, qc, rfl⟩, hb7⟩)))
      have hSE : Sg w w1 V a n cap w7 := by assumption
      obtain ⟨g0, g1⟩ : w7.cell? ⟨w.heap.size, 0, none⟩ = some (.int .i64 (V : Int)) ∧ w7.cell? ⟨w.heap.size, 1, none⟩ = some (.slice a n cap) := ⟨hSE.1, hSE.2.1⟩
      have HBE := hide hSE.bel
      clear hSE hS0 hS1
      go_wp2_with fail
      refine (unhide HV _ (unhide HBE)).mono ?_
      rintro e w9 ⟨⟨b, ea, ec, oa, oc, ia, ic, va, vc, rfl, hb, hvs⟩, hb9⟩
      have HBF := hide ((unhide HBE).trans (hb9.mono (unhide HBE).size))
      have HVW := hide (hvs w9 (Nat.le_refl _) (fun i _ _ => rfl))
      clear hb hvs hb9
      go_wp2_with fail
      refine (order_any w9 b V es ea ec oa oc ia ic va vc _ (unhide HVW) hv64 (by have := unhide HOL; omega)).mono ?_
      rintro e w10 ⟨ho, hb10⟩
      have HBG := hide ((unhide HBF).trans (hb10.mono (unhide HBF).size))
      clear hb10
      rcases ho with ⟨hlt, rfl⟩ | ⟨hge, oa2, oc2, rfl, _⟩
      · have HN := hide (show ¬ Nice V es c 0 from fun hn => by have := hn.2.2; omega)
        clear hlt
        go_wp2_with fail
        go_ret
        exact ⟨Told.no (unhide HN), unhide HBG⟩
      · have HN := hide (show Nice V es c 0 from ⟨rfl, hc, hge⟩)
        clear hge
        go_wp2_with fail
        go_ret
        exact ⟨Told.yes (unhide HN), unhide HBG⟩
    · have hc1 : (1 : Int) < (c : Int) := by omega
      have HN := hide (show ¬ Nice V es c 0 from fun hn => hc hn.2.1)
      go_wp2_with fail
      go_region_held3 (fun u => u.cell? ⟨w.heap.size, 0, none⟩ = some (.int .i64 (V : Int)) ∧ u.cell? ⟨w.heap.size, 1, none⟩ = some (.slice a n cap) ∧ Hid (Bg w u (.int .i64 (V : Int)) (.slice a n cap)) ∧ Hid (Below w1.heap.size w1 u)) (first | exact hS0 | exact hS1 | assumption | exact Sg.keep hb7 (by assumption)) ((first | (go_at_call 46; refine (unhide HO _).mono ?_; rintro e w8 ⟨rfl, rfl⟩) | (go_at_call 45; refine (unhide HP w1 _ (by first | assumption | exact hS0)).mono ?_; rintro e w7 ⟨⟨qa, qc, rfl⟩, hb7⟩)))
      have hSE : Sg w w1 V a n cap w7 := by assumption
      have HBE := hide hSE.bel
      clear hSE hS0 hS1
      go_wp2_with fail
      go_ret
      exact ⟨Told.no (unhide HN), unhide HBE⟩
  · have hg1 : (0 : Int) < (g : Int) := by omega
    have hg2 : 0 < g := by omega
    have hg3 : ¬ (g : Int) ≤ 0 := by omega
    have HN := hide (show ¬ Nice V es c g from fun hn => hg hn.1)
    have XD := hide ((unhide HB1).step b_dr)
    go_wp2_with fail
    refine wp_region_held_drew (S := fun u => u.cell? ⟨w.heap.size, 0, none⟩ = some (.int .i64 (V : Int)) ∧ u.cell? ⟨w.heap.size, 1, none⟩ = some (.slice a n cap)) (by kernel_rfl) (unhide XD).cells (fun hS => ?_)
    generalize w1.drew = wd at XD hS ⊢
    clear g0 g1 hS0 hS1
    refine wpAnyH_take (i := 0) (v := ?_) rfl (by kernel_rfl) (by kernel_rfl) (by kernel_rfl) (fun _ _ _ h => h) (Or.inl ⟨by rfl, ?_⟩) hS ?_
    rotate_left
    · intro u hu; (try dsimp only at hu); go_simp; try with_reducible rfl
    simp only [Act.put, List.getElem_toArray, List.getElem_cons_zero, List.setIfInBounds_toArray, List.set_cons_zero, List.set_cons_succ]
    refine wpAnyH_take (i := 1) (v := ?_) rfl (by kernel_rfl) (by kernel_rfl) (by kernel_rfl) (fun _ _ _ h => h) (Or.inl ⟨by rfl, ?_⟩) hS ?_
    rotate_left
    · intro u hu; (try dsimp only at hu); go_simp; try with_reducible rfl
    simp only [Act.put, List.getElem_toArray, List.getElem_cons_zero, List.getElem_cons_succ, List.setIfInBounds_toArray, List.set_cons_zero, List.set_cons_succ]
    refine wpAnyH_take (i := 2) (v := ?_) rfl (by kernel_rfl) (by kernel_rfl) (by kernel_rfl) (fun _ _ _ h => h) (Or.inl ⟨by rfl, ?_⟩) hS ?_
    rotate_left
    · intro u hu; (try dsimp only at hu); go_simp; try with_reducible rfl
    simp only [Act.put, List.getElem_toArray, List.getElem_cons_zero, List.getElem_cons_succ, List.setIfInBounds_toArray, List.set_cons_zero, List.set_cons_succ]
    refine wpAnyH_take (i := 3) (v := ?_) rfl (by kernel_rfl) (by kernel_rfl) (by kernel_rfl) (fun _ _ _ h => h) (Or.inl ⟨by rfl, ?_⟩) hS ?_
    rotate_left
    · intro u hu; (try dsimp only at hu); go_simp; try with_reducible rfl
    simp only [Act.put, List.getElem_toArray, List.getElem_cons_zero, List.getElem_cons_succ, List.setIfInBounds_toArray, List.set_cons_zero, List.set_cons_succ]
    refine wpAnyH_take (i := 4) (v := ?_) rfl (by kernel_rfl) (by kernel_rfl) (by kernel_rfl) (fun _ _ _ h => h) (Or.inl ⟨by rfl, ?_⟩) hS ?_
    rotate_left
    · intro u hu; (try dsimp only at hu); go_simp; try with_reducible rfl
    simp only [Act.put, List.getElem_toArray, List.getElem_cons_zero, List.getElem_cons_succ, List.setIfInBounds_toArray, List.set_cons_zero, List.set_cons_succ]
    refine wpAnyH_take (i := 5) (v := ?_) rfl (by kernel_rfl) (by kernel_rfl) (by kernel_rfl) (fun _ _ _ h => h) (Or.inl ⟨by rfl, ?_⟩) hS ?_
    rotate_left
    · intro u hu; (try dsimp only at hu); go_simp; try with_reducible rfl
    simp only [Act.put, List.getElem_toArray, List.getElem_cons_zero, List.getElem_cons_succ, List.setIfInBounds_toArray, List.set_cons_zero, List.set_cons_succ]
    refine wpAnyH_take (i := 6) (v := ?_) rfl (by kernel_rfl) (by kernel_rfl) (by kernel_rfl) (fun _ _ _ h => h) (Or.inl ⟨by rfl, ?_⟩) hS ?_
    rotate_left
    · intro u hu; (try dsimp only at hu); go_simp; try with_reducible rfl
    simp only [Act.put, List.getElem_toArray, List.getElem_cons_zero, List.getElem_cons_succ, List.setIfInBounds_toArray, List.set_cons_zero, List.set_cons_succ]
    refine wpAnyH_take (i := 7) (v := undef) rfl (by kernel_rfl) (by kernel_rfl) (by kernel_rfl) (fun _ _ _ h => h) (Or.inr ⟨by rfl, rfl⟩) hS ?_
    simp only [Act.put, List.getElem_toArray, List.getElem_cons_zero, List.getElem_cons_succ, List.setIfInBounds_toArray, List.set_cons_zero, List.set_cons_succ]
    refine wpAnyH_take (i := 8) (v := undef) rfl (by kernel_rfl) (by kernel_rfl) (by kernel_rfl) (fun _ _ _ h => h) (Or.inr ⟨by rfl, rfl⟩) hS ?_
    simp only [Act.put, List.getElem_toArray, List.getElem_cons_zero, List.getElem_cons_succ, List.setIfInBounds_toArray, List.set_cons_zero, List.set_cons_succ]
    refine wpAnyH_take (i := 9) (v := undef) rfl (by kernel_rfl) (by kernel_rfl) (by kernel_rfl) (fun _ _ _ h => h) (Or.inr ⟨by rfl, rfl⟩) hS ?_
    simp only [Act.put, List.getElem_toArray, List.getElem_cons_zero, List.getElem_cons_succ, List.setIfInBounds_toArray, List.set_cons_zero, List.set_cons_succ]
    refine wpAnyH_take (i := 10) (v := undef) rfl (by kernel_rfl) (by kernel_rfl) (by kernel_rfl) (fun _ _ _ h => h) (Or.inr ⟨by rfl, rfl⟩) hS ?_
    simp only [Act.put, List.getElem_toArray, List.getElem_cons_zero, List.getElem_cons_succ, List.setIfInBounds_toArray, List.set_cons_zero, List.set_cons_succ]
    refine wpAnyH_take (i := 11) (v := undef) rfl (by kernel_rfl) (by kernel_rfl) (by kernel_rfl) (fun _ _ _ h => h) (Or.inr ⟨by rfl, rfl⟩) hS ?_
    simp only [Act.put, List.getElem_toArray, List.getElem_cons_zero, List.getElem_cons_succ, List.setIfInBounds_toArray, List.set_cons_zero, List.set_cons_succ]
    refine wpAnyH_take (i := 12) (v := ?_) rfl (by kernel_rfl) (by kernel_rfl) (by kernel_rfl) (fun _ _ _ h => h) (Or.inl ⟨by rfl, ?_⟩) hS ?_
    rotate_left
    · intro u hu; (try dsimp only at hu); go_simp; try with_reducible rfl
    simp only [Act.put, List.getElem_toArray, List.getElem_cons_zero, List.getElem_cons_succ, List.setIfInBounds_toArray, List.set_cons_zero, List.set_cons_succ]
    refine wpAnyH_done (by kernel_rfl) ?_ _
    go_wp2_with fail
    go_ret
    exact ⟨Told.no (unhide HN), (unhide XD).bel⟩
end Go.Proofs.YtefagplbpbkpgaaDoor
/-
  The contracts of the program's Bimodal and Angles. Conditions: the graph and the lists lie in memory as told; the table of math/bits lies where it should.
-/
namespace Go.Proofs.YtefagplbpbkpgaaDoor
open Go.RowKit
set_option linter.unusedVariables false
set_option maxRecDepth 20000
theorem Gd.ang {w : World} {V : Nat} {a : Option Addr} {n cap : Nat} {es : List (Nat × Nat)} {ra : Option Addr} {m rc : Nat} {q : List (List Nat)} {N : Nat → Nat} {c g : Nat} (h : Gd w V a n cap es ra m rc q N c g) (F : Nat → Nat) (hF : IsFc (facesF N (2 * n) (2 * n)) (2 * n) F) :
    Calls Tryd.prog 27 #[.agg #[.int .i64 V, .slice a n cap], .slice ra m rc] w fun e w' => (∃ ga, e = .returned (.slice (some ⟨ga, 0, none⟩) (2 * n) (2 * n)) ∧ w.heap.size ≤ ga ∧ Row w' ga 35 (4 * (2 * n)) (fun i => .int .i64 (angI (pt.stV es) F N (i / 4) (i % 4) : Nat))) ∧ Below w.heap.size w w' :=
  anglesOf_any w V a n cap (toI es) h.edges ra m rc q h.rr h.yes N h.nx h.pm h.lt h.cov F hF (pt.stV es) (fun x hx i hi => h.ro.st x (by rw [← h.qV]; exact hx) _ (pt.getD_in hi))
theorem knd_lt (h b : Nat) : knd h b < 3 := by
  unfold knd
  split
  · omega
  · split <;> omega
theorem Gd.st_lt {w : World} {V : Nat} {a : Option Addr} {n cap : Nat} {es : List (Nat × Nat)} {ra : Option Addr} {m rc : Nat} {q : List (List Nat)} {N : Nat → Nat} {c g : Nat} (h : Gd w V a n cap es ra m rc q N c g) {t : Nat} (ht : t < 2 * n) : pt.stV es t < V := (h.ro.at (by rw [h.ne]; exact ht)).1
/-- none are told -/
def NoCan (w : World) (V : Int) (a : Option Addr) (n cap : Nat) (ra : Option Addr) (m rc : Nat) : Prop := ∀ u, Below w.heap.size w u → Calls Tryd.prog 25 #[.agg #[.int .i64 V, .slice a n cap], .slice ra m rc] u fun e w' => e = .returned (.bool false) ∧ Below u.heap.size u w'
theorem NoCan.below {w w' : World} {V : Int} {a : Option Addr} {n cap : Nat} {ra : Option Addr} {m rc : Nat} (h : NoCan w V a n cap ra m rc) (hb : Below w.heap.size w w') : NoCan w' V a n cap ra m rc := fun u hu => h u (hb.trans (hu.mono hb.size))
theorem Gd.noCan {w : World} {V : Nat} {a : Option Addr} {n cap : Nat} {es : List (Nat × Nat)} {ra : Option Addr} {m rc : Nat} {q : List (List Nat)} {N : Nat → Nat} {c g : Nat} (h : Gd w V a n cap es ra m rc q N c g) (hn : ¬ Nice V es c g) : NoCan w V a n cap ra m rc := fun u hu => by
  refine (can_good u V a n cap es ra m rc q N c g (h.below hu)).mono ?_
  rintro e w' ⟨⟨r, rfl, hr⟩, hb⟩
  cases r with
  | false => exact ⟨rfl, hb⟩
  | true => exact absurd (hr.1 rfl) hn
theorem noCan_bad {w : World} {V : Int} {a : Option Addr} {n cap : Nat} {es : List (Int × Int)} {B : Nat} (h : Es B w a n es) {ra : Option Addr} {m rc : Nat} {rs : List (List Int)} (hr : Rr w ra m rs) (hno : ¬ IsRot V n es rs) : NoCan w V a n cap ra m rc := fun u hu => can_bad u V a n cap es (h.below hu) ra m rc rs (hr.below hu) hno
theorem Gd.yesCan {w : World} {V : Nat} {a : Option Addr} {n cap : Nat} {es : List (Nat × Nat)} {ra : Option Addr} {m rc : Nat} {q : List (List Nat)} {N : Nat → Nat} {c g : Nat} (h : Gd w V a n cap es ra m rc q N c g) (hn : Nice V es c g) : Calls Tryd.prog 25 #[.agg #[.int .i64 (V : Int), .slice a n cap], .slice ra m rc] w fun e w' => e = .returned (.bool true) ∧ Below w.heap.size w w' := by
  refine (can_good w V a n cap es ra m rc q N c g h).mono ?_
  rintro e w' ⟨⟨r, rfl, hr⟩, hb⟩
  cases r with
  | true => exact ⟨rfl, hb⟩
  | false => exact absurd (hr.2 hn) (by simp)
set_option maxHeartbeats 4000000 in
theorem bim_no (w : World) (V : Int) (a : Option Addr) (n cap : Nat) (ra : Option Addr) (m rc : Nat) (h : NoCan w V a n cap ra m rc) :
    Calls Tryd.prog 10 #[.agg #[.int .i64 V, .slice a n cap], .slice ra m rc] w fun e w' => e = .returned (.bool false) ∧ Below w.heap.size w w' := by
  have HB0 := hide (Bg.start w (.int .i64 V) (.slice a n cap))
  have HC := hide h
  clear h
  go_enter Tryd.func10, Tryd.ntmps10
  go_upto_region 1 with fail
  have XD := hide ((unhide HB0).step b_dr)
  refine wp_region_held_drew (S := fun u => u.cell? ⟨w.heap.size, 0, none⟩ = some (.int .i64 V) ∧ u.cell? ⟨w.heap.size, 1, none⟩ = some (.slice a n cap)) (by kernel_rfl) (unhide XD).cells (fun hS => ?_)
  generalize (w.alloc (.cells #[.int .i64 V, .slice a n cap] 24)).drew = wd at XD hS ⊢
  refine wpAnyH_take (i := 0) (v := ?_) rfl (by kernel_rfl) (by kernel_rfl) (by kernel_rfl) (fun _ _ _ h => h) (Or.inl ⟨by rfl, ?_⟩) hS ?_
  rotate_left
  · intro u hu; (try dsimp only at hu); go_simp; try with_reducible rfl
  simp only [Act.put, List.getElem_toArray, List.getElem_cons_zero, List.setIfInBounds_toArray, List.set_cons_zero, List.set_cons_succ]
  refine wpAnyH_take (i := 1) (v := ?_) rfl (by kernel_rfl) (by kernel_rfl) (by kernel_rfl) (fun _ _ _ h => h) (Or.inl ⟨by rfl, ?_⟩) hS ?_
  rotate_left
  · intro u hu; (try dsimp only at hu); go_simp; try with_reducible rfl
  simp only [Act.put, List.getElem_toArray, List.getElem_cons_zero, List.getElem_cons_succ, List.setIfInBounds_toArray, List.set_cons_zero, List.set_cons_succ]
  refine wpAnyH_ready (rs := [2]) (by kernel_rfl) (by simp) ?_
  refine AllReadyH.cons rfl (fun K hK => ?_) AllReadyH.nil
  go_simp
  go_wp2_with (go_at_call 25; refine (unhide HC _ (unhide XD).bel).mono ?_; rintro e w1 ⟨rfl, hb1⟩; have X1 := hide ((unhide XD).step hb1); clear hb1)
  refine hK.out _ _ (unhide X1).cells (fun hS2 => ?_)
  clear hK K hS
  refine wpAnyH_take (i := 3) (v := ?_) rfl (by kernel_rfl) (by kernel_rfl) (by kernel_rfl) (fun _ _ _ h => h) (Or.inl ⟨by rfl, ?_⟩) hS2 ?_
  rotate_left
  · intro u hu; (try dsimp only at hu); go_simp; try with_reducible rfl
  simp only [Act.put, List.getElem_toArray, List.getElem_cons_zero, List.getElem_cons_succ, List.setIfInBounds_toArray, List.set_cons_zero, List.set_cons_succ]
  refine wpAnyH_take (i := 4) (v := undef) rfl (by kernel_rfl) (by kernel_rfl) (by kernel_rfl) (fun _ _ _ h => h) (Or.inr ⟨by rfl, rfl⟩) hS2 ?_
  simp only [Act.put, List.getElem_toArray, List.getElem_cons_zero, List.getElem_cons_succ, List.setIfInBounds_toArray, List.set_cons_zero, List.set_cons_succ]
  refine wpAnyH_take (i := 5) (v := undef) rfl (by kernel_rfl) (by kernel_rfl) (by kernel_rfl) (fun _ _ _ h => h) (Or.inr ⟨by rfl, rfl⟩) hS2 ?_
  simp only [Act.put, List.getElem_toArray, List.getElem_cons_zero, List.getElem_cons_succ, List.setIfInBounds_toArray, List.set_cons_zero, List.set_cons_succ]
  refine wpAnyH_take (i := 6) (v := undef) rfl (by kernel_rfl) (by kernel_rfl) (by kernel_rfl) (fun _ _ _ h => h) (Or.inr ⟨by rfl, rfl⟩) hS2 ?_
  simp only [Act.put, List.getElem_toArray, List.getElem_cons_zero, List.getElem_cons_succ, List.setIfInBounds_toArray, List.set_cons_zero, List.set_cons_succ]
  refine wpAnyH_take (i := 7) (v := undef) rfl (by kernel_rfl) (by kernel_rfl) (by kernel_rfl) (fun _ _ _ h => h) (Or.inr ⟨by rfl, rfl⟩) hS2 ?_
  simp only [Act.put, List.getElem_toArray, List.getElem_cons_zero, List.getElem_cons_succ, List.setIfInBounds_toArray, List.set_cons_zero, List.set_cons_succ]
  refine wpAnyH_take (i := 8) (v := undef) rfl (by kernel_rfl) (by kernel_rfl) (by kernel_rfl) (fun _ _ _ h => h) (Or.inr ⟨by rfl, rfl⟩) hS2 ?_
  simp only [Act.put, List.getElem_toArray, List.getElem_cons_zero, List.getElem_cons_succ, List.setIfInBounds_toArray, List.set_cons_zero, List.set_cons_succ]
  refine wpAnyH_take (i := 9) (v := undef) rfl (by kernel_rfl) (by kernel_rfl) (by kernel_rfl) (fun _ _ _ h => h) (Or.inr ⟨by rfl, rfl⟩) hS2 ?_
  simp only [Act.put, List.getElem_toArray, List.getElem_cons_zero, List.getElem_cons_succ, List.setIfInBounds_toArray, List.set_cons_zero, List.set_cons_succ]
  refine wpAnyH_take (i := 10) (v := ?_) rfl (by kernel_rfl) (by kernel_rfl) (by kernel_rfl) (fun _ _ _ h => h) (Or.inl ⟨by rfl, ?_⟩) hS2 ?_
  rotate_left
  · intro u hu; (try dsimp only at hu); go_simp; try with_reducible rfl
  simp only [Act.put, List.getElem_toArray, List.getElem_cons_zero, List.getElem_cons_succ, List.setIfInBounds_toArray, List.set_cons_zero, List.set_cons_succ]
  refine wpAnyH_take (i := 11) (v := ?_) rfl (by kernel_rfl) (by kernel_rfl) (by kernel_rfl) (fun _ _ _ h => h) (Or.inl ⟨by rfl, ?_⟩) hS2 ?_
  rotate_left
  · intro u hu; (try dsimp only at hu); go_simp; try with_reducible rfl
  simp only [Act.put, List.getElem_toArray, List.getElem_cons_zero, List.getElem_cons_succ, List.setIfInBounds_toArray, List.set_cons_zero, List.set_cons_succ]
  refine wpAnyH_done (by kernel_rfl) ?_ _
  go_wp2_with fail
  go_ret
  exact ⟨rfl, (unhide X1).bel⟩
set_option maxHeartbeats 4000000 in
theorem angles_no (w : World) (V : Int) (a : Option Addr) (n cap : Nat) (ra : Option Addr) (m rc : Nat) (h : NoCan w V a n cap ra m rc) :
    Calls Tryd.prog 11 #[.agg #[.int .i64 V, .slice a n cap], .slice ra m rc] w fun e w' => e = .returned (.slice none 0 0) ∧ Below w.heap.size w w' := by
  have HB0 := hide (Bg.start w (.int .i64 V) (.slice a n cap))
  have HC := hide h
  clear h
  obtain ⟨g0, g1⟩ := (unhide HB0).cells
  go_enter Tryd.func11, Tryd.ntmps11
  go_wp2_with fail
  refine (unhide HC _ (unhide HB0).bel).mono ?_
  rintro e w1 ⟨rfl, hb1⟩
  have HB1 := hide ((unhide HB0).step hb1)
  clear hb1 HB0 g0 g1 HC
  go_wp2_with fail
  go_ret
  exact ⟨rfl, (unhide HB1).bel⟩
set_option maxHeartbeats 4000000 in
theorem angles_yes (w : World) (V : Nat) (a : Option Addr) (n cap : Nat) (es : List (Nat × Nat)) (ra : Option Addr) (m rc : Nat) (q : List (List Nat)) (N : Nat → Nat) (c g : Nat) (h : Gd w V a n cap es ra m rc q N c g) (hn : Nice V es c g) (F : Nat → Nat) (hF : IsFc (facesF N (2 * n) (2 * n)) (2 * n) F) :
    Calls Tryd.prog 11 #[.agg #[.int .i64 V, .slice a n cap], .slice ra m rc] w fun e w' => (∃ ga, e = .returned (.slice (some ⟨ga, 0, none⟩) (2 * n) (2 * n)) ∧ w.heap.size ≤ ga ∧ Row w' ga 35 (4 * (2 * n)) (fun i => .int .i64 (angI (pt.stV es) F N (i / 4) (i % 4) : Nat))) ∧ Below w.heap.size w w' := by
  have HB0 := hide (Bg.start w (.int .i64 V) (.slice a n cap))
  have HC := hide (fun (u : World) (hu : Below w.heap.size w u) => (h.below hu).yesCan hn)
  have HA := hide (fun (u : World) (hu : Below w.heap.size w u) => (h.below hu).ang F hF)
  clear h hn hF
  obtain ⟨g0, g1⟩ := (unhide HB0).cells
  go_enter Tryd.func11, Tryd.ntmps11
  go_wp2_with fail
  refine (unhide HC _ (unhide HB0).bel).mono ?_
  rintro e w1 ⟨rfl, hb1⟩
  have HB1 := hide ((unhide HB0).step hb1)
  clear hb1 HB0 g0 g1 HC
  obtain ⟨g0, g1⟩ := (unhide HB1).cells
  go_wp2_with fail
  refine (unhide HA _ (unhide HB1).bel).mono ?_
  rintro e w2 ⟨⟨ga, rfl, hga, hrow⟩, hb2⟩
  have HB2 := hide ((unhide HB1).step hb2)
  have hw := (unhide HB1).bel.size
  have HR := hide hrow
  clear hb2 HB1 g0 g1 HA hrow
  go_wp2_with fail
  go_ret
  exact ⟨⟨ga, rfl, by omega, unhide HR⟩, (unhide HB2).bel⟩
set_option maxHeartbeats 8000000 in
theorem bim_yes (w : World) (V : Nat) (a : Option Addr) (n cap : Nat) (es : List (Nat × Nat)) (ra : Option Addr) (m rc : Nat) (q : List (List Nat)) (N : Nat → Nat) (c g : Nat) (h : Gd w V a n cap es ra m rc q N c g) (hn : Nice V es c g) (F : Nat → Nat) (hF : IsFc (facesF N (2 * n) (2 * n)) (2 * n) F) :
    Calls Tryd.prog 10 #[.agg #[.int .i64 V, .slice a n cap], .slice ra m rc] w fun e w' => Told (Bim (angI (pt.stV es) F N) (2 * n) V) e ∧ Below w.heap.size w w' := by
  have hn128 := h.n128
  have hv64 := h.plain.v64
  have HB0 := hide (Bg.start w (.int .i64 V) (.slice a n cap))
  have HC := hide (fun (u : World) (hu : Below w.heap.size w u) => (h.below hu).yesCan hn)
  have HA := hide (fun (u : World) (hu : Below w.heap.size w u) => (h.below hu).ang F hF)
  have HST := hide (fun (t : Nat) (ht : t < 2 * n) => h.st_lt ht)
  clear h hn hF
  have hS0 := Sg.keep b_dr (Sg.start (unhide HB0))
  have hS1 := Sg.start (unhide HB0)
  go_enter Tryd.func10, Tryd.ntmps10
  go_upto_region 1 with fail
  have XD := hide ((unhide HB0).step b_dr)
  refine wp_region_held_drew (S := fun u => u.cell? ⟨w.heap.size, 0, none⟩ = some (.int .i64 (V : Int)) ∧ u.cell? ⟨w.heap.size, 1, none⟩ = some (.slice a n cap)) (by kernel_rfl) (unhide XD).cells (fun hS => ?_)
  generalize (w.alloc (.cells #[.int .i64 (V : Int), .slice a n cap] 24)).drew = wd at XD hS ⊢
  clear hS0 hS1
  refine wpAnyH_take (i := 0) (v := ?_) rfl (by kernel_rfl) (by kernel_rfl) (by kernel_rfl) (fun _ _ _ h => h) (Or.inl ⟨by rfl, ?_⟩) hS ?_
  rotate_left
  · intro u hu; (try dsimp only at hu); go_simp; try with_reducible rfl
  simp only [Act.put, List.getElem_toArray, List.getElem_cons_zero, List.setIfInBounds_toArray, List.set_cons_zero, List.set_cons_succ]
  refine wpAnyH_take (i := 1) (v := ?_) rfl (by kernel_rfl) (by kernel_rfl) (by kernel_rfl) (fun _ _ _ h => h) (Or.inl ⟨by rfl, ?_⟩) hS ?_
  rotate_left
  · intro u hu; (try dsimp only at hu); go_simp; try with_reducible rfl
  simp only [Act.put, List.getElem_toArray, List.getElem_cons_zero, List.getElem_cons_succ, List.setIfInBounds_toArray, List.set_cons_zero, List.set_cons_succ]
  refine wpAnyH_ready (rs := [2]) (by kernel_rfl) (by simp) ?_
  refine AllReadyH.cons rfl (fun K hK => ?_) AllReadyH.nil
  go_simp
  go_wp2_with (go_at_call 25; refine (unhide HC _ (unhide XD).bel).mono ?_; rintro e w1 ⟨rfl, hb1⟩; have X1 := hide ((unhide XD).step hb1); clear hb1)
  refine hK.out _ _ (unhide X1).cells (fun hS2 => ?_)
  clear hK K hS
  refine wpAnyH_take (i := 3) (v := ?_) rfl (by kernel_rfl) (by kernel_rfl) (by kernel_rfl) (fun _ _ _ h => h) (Or.inl ⟨by rfl, ?_⟩) hS2 ?_
  rotate_left
  · intro u hu; (try dsimp only at hu); go_simp; try with_reducible rfl
  simp only [Act.put, List.getElem_toArray, List.getElem_cons_zero, List.getElem_cons_succ, List.setIfInBounds_toArray, List.set_cons_zero, List.set_cons_succ]
  refine wpAnyH_take (i := 4) (v := ?_) rfl (by kernel_rfl) (by kernel_rfl) (by kernel_rfl) (fun _ _ _ h => h) (Or.inl ⟨by rfl, ?_⟩) hS2 ?_
  rotate_left
  · intro u hu; (try dsimp only at hu); go_simp; try with_reducible rfl
  simp only [Act.put, List.getElem_toArray, List.getElem_cons_zero, List.getElem_cons_succ, List.setIfInBounds_toArray, List.set_cons_zero, List.set_cons_succ]
  refine wpAnyH_take (i := 5) (v := ?_) rfl (by kernel_rfl) (by kernel_rfl) (by kernel_rfl) (fun _ _ _ h => h) (Or.inl ⟨by rfl, ?_⟩) hS2 ?_
  rotate_left
  · intro u hu; (try dsimp only at hu); go_simp; try with_reducible rfl
  simp only [Act.put, List.getElem_toArray, List.getElem_cons_zero, List.getElem_cons_succ, List.setIfInBounds_toArray, List.set_cons_zero, List.set_cons_succ]
  refine wpAnyH_take (i := 6) (v := ?_) rfl (by kernel_rfl) (by kernel_rfl) (by kernel_rfl) (fun _ _ _ h => h) (Or.inl ⟨by rfl, ?_⟩) hS2 ?_
  rotate_left
  · intro u hu; (try dsimp only at hu); go_simp; try with_reducible rfl
  simp only [Act.put, List.getElem_toArray, List.getElem_cons_zero, List.getElem_cons_succ, List.setIfInBounds_toArray, List.set_cons_zero, List.set_cons_succ]
  refine wpAnyH_take (i := 7) (v := ?_) rfl (by kernel_rfl) (by kernel_rfl) (by kernel_rfl) (fun _ _ _ h => h) (Or.inl ⟨by rfl, ?_⟩) hS2 ?_
  rotate_left
  · intro u hu; (try dsimp only at hu); go_simp; try with_reducible rfl
  simp only [Act.put, List.getElem_toArray, List.getElem_cons_zero, List.getElem_cons_succ, List.setIfInBounds_toArray, List.set_cons_zero, List.set_cons_succ]
  refine wpAnyH_ready (rs := [8]) (by kernel_rfl) (by simp) ?_
  refine AllReadyH.cons rfl (fun K hK => ?_) AllReadyH.nil
  go_simp
  go_wp2_with (go_at_call 27; refine (unhide HA _ (unhide X1).bel).mono ?_; rintro e w2 ⟨⟨ga, rfl, hga, hrow⟩, hb2⟩; have X2 := hide ((unhide X1).step hb2); have HR := hide hrow; clear hb2 hrow)
  refine hK.out _ _ (unhide X2).cells (fun hS3 => ?_)
  clear hK K hS2
  refine wpAnyH_ready (rs := [9]) (by kernel_rfl) (by simp) ?_
  refine AllReadyH.cons rfl (fun K hK => ?_) AllReadyH.nil
  go_simp
  go_wp2_with (go_at_call 26; refine (few_any _ V _ (2 * n) (2 * n) (angI (pt.stV es) F N) ((unhide HR).as (by omega)) hv64 (fun t ht => unhide HST t ht) (fun t ht => knd_lt _ _)).mono ?_; rintro e w3 ⟨⟨r, rfl, hr⟩, hb3⟩; have X3 := hide ((unhide X2).step hb3); have HRT := hide hr; clear hb3 hr)
  refine hK.out _ _ (unhide X3).cells (fun hS4 => ?_)
  clear hK K hS3
  refine wpAnyH_take (i := 10) (v := ?_) rfl (by kernel_rfl) (by kernel_rfl) (by kernel_rfl) (fun _ _ _ h => h) (Or.inl ⟨by rfl, ?_⟩) hS4 ?_
  rotate_left
  · intro u hu; (try dsimp only at hu); go_simp; try with_reducible rfl
  simp only [Act.put, List.getElem_toArray, List.getElem_cons_zero, List.getElem_cons_succ, List.setIfInBounds_toArray, List.set_cons_zero, List.set_cons_succ]
  refine wpAnyH_take (i := 11) (v := ?_) rfl (by kernel_rfl) (by kernel_rfl) (by kernel_rfl) (fun _ _ _ h => h) (Or.inl ⟨by rfl, ?_⟩) hS4 ?_
  rotate_left
  · intro u hu; (try dsimp only at hu); go_simp; try with_reducible rfl
  simp only [Act.put, List.getElem_toArray, List.getElem_cons_zero, List.getElem_cons_succ, List.setIfInBounds_toArray, List.set_cons_zero, List.set_cons_succ]
  refine wpAnyH_done (by kernel_rfl) ?_ _
  go_wp2_with fail
  go_ret
  exact ⟨Told.dec (unhide HRT), (unhide X3).bel⟩
end Go.Proofs.YtefagplbpbkpgaaDoor
/-
  The contracts of the document's At, of great, and of the document's Right. Conditions: the graph and the lists lie in memory as told.
-/
namespace Go.Proofs.YtefagplbpbkpgaaDoor
open Go.RowKit
set_option linter.unusedVariables false
set_option maxRecDepth 20000

set_option maxHeartbeats 2000000 in
theorem at_any (w : World) (V : Int) (a : Option Addr) (n cap : Nat) (es : List (Int × Int)) {B : Nat} (h : Es B w a n es) (j : Nat) (hj : j < 2 * n) (hn : n ≤ 128) :
    Calls Tryd.prog 29 #[.agg #[.int .i64 V, .slice a n cap], .int .i64 (j : Nat)] w fun e w' => e = .returned (.int .i64 (atI es j)) ∧ Below w.heap.size w w' := by
  have HB0 := hide (Bg.start w (.int .i64 V) (.slice a n cap))
  have hi : j / 2 < n := by omega
  obtain ⟨g, off, ha, _, hg, c0, c1⟩ := h.2.2 (j / 2) hi
  subst ha
  have HAT := hide (show atI es j = if j % 2 = 0 then (es.getD (j / 2) (0, 0)).1 else (es.getD (j / 2) (0, 0)).2 from rfl)
  obtain ⟨⟨x, y⟩, hxy⟩ : ∃ e, es.getD (j / 2) (0, 0) = e := ⟨_, rfl⟩
  rw [hxy] at c0 c1 HAT
  simp only at c0 c1
  obtain ⟨g0, g1⟩ := (unhide HB0).cells
  have d0 : (w.alloc (.cells #[.int .i64 V, .slice (some ⟨g, off, none⟩) n cap] 24)).cell? ⟨g, off + j / 2 * 2, none⟩ = some (.int .i64 x) := by rw [(unhide HB0).bel.cell (p := ⟨g, off + j / 2 * 2, none⟩) hg]; exact c0
  have d1 : (w.alloc (.cells #[.int .i64 V, .slice (some ⟨g, off, none⟩) n cap] 24)).cell? ⟨g, off + j / 2 * 2 + 1, none⟩ = some (.int .i64 y) := by rw [(unhide HB0).bel.cell (p := ⟨g, off + j / 2 * 2 + 1, none⟩) hg]; exact c1
  have hq : ((j : Nat) : Int).tdiv 2 = ((j / 2 : Nat) : Int) := by rw [show (2 : Int) = ((2 : Nat) : Int) from rfl, ← Int.ofNat_tdiv]
  have hw : IntKind.i64.wrap ((j / 2 : Nat) : Int) = ((j / 2 : Nat) : Int) := by rw [IntKind.wrap_i64]; omega
  have hi2 : ((j / 2 : Nat) : Int) < (n : Int) := by omega
  have hr : ((j : Nat) : Int).tmod 2 = ((j % 2 : Nat) : Int) := by rw [show (2 : Int) = ((2 : Nat) : Int) from rfl, ← Int.ofNat_tmod]
  have hwr : IntKind.i64.wrap ((j % 2 : Nat) : Int) = ((j % 2 : Nat) : Int) := by rw [IntKind.wrap_i64]; omega
  clear c0 c1 hxy h
  by_cases h0 : j % 2 = 0
  · have t1 : (((j % 2 : Nat) : Int) == 0) = true := by simp [h0]
    have HA := hide (show atI es j = x by rw [unhide HAT, if_pos h0])
    clear HAT
    generalize j / 2 = i at *
    generalize j % 2 = r at *
    clear h0
    go_enter Tryd.func29, Tryd.ntmps29
    go_wp2_with fail
    go_ret
    exact ⟨ret_i (unhide HA).symm, (unhide HB0).bel⟩
  · have t1 : (((j % 2 : Nat) : Int) == 0) = false := by rw [beq_eq_false_iff_ne]; omega
    have HA := hide (show atI es j = y by rw [unhide HAT, if_neg h0])
    clear HAT
    generalize j / 2 = i at *
    generalize j % 2 = r at *
    clear h0
    go_enter Tryd.func29, Tryd.ntmps29
    go_wp2_with fail
    go_ret
    exact ⟨ret_i (unhide HA).symm, (unhide HB0).bel⟩

/-- rows of rows that came in: where they are few, their slices; where a slice is short, its numbers -/
def Rq (w : World) (a : Option Addr) (n : Nat) (rs : List (List Int)) : Prop :=
  rs.length = n ∧ (n ≤ 1000 → ∀ k, k < n → ∃ g off la lc, a = some ⟨g, off, none⟩ ∧ g < w.heap.size ∧ w.cell? ⟨g, off + k, none⟩ = some (.slice la (rs.getD k []).length lc) ∧ (rs.getD k []).length ≤ lc ∧ ((rs.getD k []).length ≤ 1000 → Ns w la (rs.getD k []).length (rs.getD k [])))
theorem Rq.below {w w' : World} {a : Option Addr} {n : Nat} {rs : List (List Int)} (h : Rq w a n rs) (hb : Below w.heap.size w w') : Rq w' a n rs := by
  refine ⟨h.1, fun hn k hk => ?_⟩
  obtain ⟨g, off, la, lc, ha, hg, c0, hc, hs⟩ := h.2 hn k hk
  exact ⟨g, off, la, lc, ha, Nat.lt_of_lt_of_le hg hb.size, by rw [hb.cell (p := ⟨g, off + k, none⟩) hg]; exact c0, hc, fun hl => (hs hl).below hb⟩
theorem Rq.rr {w : World} {a : Option Addr} {n : Nat} {rs : List (List Int)} (h : Rq w a n rs) (hn : n ≤ 1000) (hl : ∀ k, k < n → (rs.getD k []).length ≤ 1000) : Rr w a n rs := by
  refine ⟨h.1, by omega, fun k hk => ?_⟩
  obtain ⟨g, off, la, lc, ha, hg, c0, hc, hs⟩ := h.2 hn k hk
  exact ⟨g, off, la, lc, ha, hg, c0, hc, hs (hl k hk)⟩
/-- too great to be looked at -/
def GreatP (mo n m : Nat) (rs : List (List Int)) : Prop := mo < n ∨ 70 < m ∨ ∃ k, k < m ∧ 200 < (rs.getD k []).length

set_option maxHeartbeats 4000000 in
theorem great_any (w : World) (V : Int) (a : Option Addr) (n cap : Nat) (ra : Option Addr) (m rc : Nat) (rs : List (List Int)) (hr : Rq w ra m rs) (mo : Nat) (hmo : mo ≤ 60) :
    Calls Tryd.prog 8 #[.agg #[.int .i64 V, .slice a n cap], .slice ra m rc, .int .i64 mo] w fun e w' => Told (GreatP mo n m rs) e ∧ Below w.heap.size w w' := by
  have HB0 := hide (Bg.start w (.int .i64 V) (.slice a n cap))
  have HR := hide hr
  obtain ⟨g0, g1⟩ := (unhide HB0).cells
  clear hr
  by_cases h1 : n ≤ mo
  case neg =>
    have t1 : (mo : Int) < (n : Int) := by omega
    go_enter Tryd.func8, Tryd.ntmps8
    go_wp2_with fail
    go_ret
    exact ⟨Told.yes (.inl (by omega)), (unhide HB0).bel⟩
  have t1 : decide ((mo : Int) < (n : Int)) = false := decide_eq_false (by omega)
  have t1' : ¬ (mo : Int) < (n : Int) := by omega
  by_cases h2 : m ≤ 70
  case neg =>
    have t2 : (70 : Int) < (m : Int) := by omega
    go_enter Tryd.func8, Tryd.ntmps8
    go_wp2_with fail
    go_ret
    exact ⟨Told.yes (.inr (.inl (by omega))), (unhide HB0).bel⟩
  have t2 : decide ((70 : Int) < (m : Int)) = false := decide_eq_false (by omega)
  have t2' : ¬ (70 : Int) < (m : Int) := by omega
  go_enter Tryd.func8, Tryd.ntmps8
  go_wp2_with fail
  clear g0 g1
  go_loopw [21] (fun i wr => ∃ k : Nat, i = .int .i64 k ∧ k ≤ m ∧ wr = w.alloc (.cells #[.int .i64 V, .slice a n cap] 24) ∧ Hid (∀ j, j < k → (rs.getD j []).length ≤ 200)) (fun i wr => m - (intOf i).toNat)
  case atStart => exact ⟨0, rfl, by omega, rfl, fun j hj => by omega⟩
  case round =>
    obtain ⟨k, rfl, hk, rfl, HS⟩ := hrel
    by_cases hkm : k < m
    · have hkm2 : (k : Int) < (m : Int) := by omega
      obtain ⟨gr, or, la, lc, ha, hgr, d0, hlc, hls⟩ := ((unhide HR).below (unhide HB0).bel).2 (by omega) k hkm
      subst ha
      obtain ⟨l, hl⟩ : ∃ l, (rs.getD k []).length = l := ⟨_, rfl⟩
      rw [hl] at d0
      have HL := hide hl
      clear hlc hls hl
      by_cases h3 : l ≤ 200
      · have t3 : ¬ (200 : Int) < (l : Int) := by omega
        have HS2 := hide (show ∀ j, j < k + 1 → (rs.getD j []).length ≤ 200 from fun j hj => by
          by_cases hjk : j = k
          · rw [hjk, unhide HL]; exact h3
          · exact unhide HS j (by omega))
        go_wp2_with fail
        go_roundw
        case rel => exact ⟨k + 1, by go_num, by omega, (by first | rfl | trivial), HS2⟩
        case measure => simp [intOf]; omega
      · have t3 : (200 : Int) < (l : Int) := by omega
        go_wp2_with fail
        go_ret
        exact ⟨Told.yes (.inr (.inr ⟨k, hkm, by rw [unhide HL]; omega⟩)), (unhide HB0).bel⟩
    · obtain rfl : k = m := by omega
      go_wp2_with fail
      go_ret
      refine ⟨Told.no ?_, (unhide HB0).bel⟩
      rintro (h | h | ⟨j, hj, h⟩)
      · omega
      · omega
      · have := unhide HS j hj
        omega
end Go.Proofs.YtefagplbpbkpgaaDoor
/-
  The contract of the document's Right: whether lists are a rotation, by counts. Conditions: the graph and the lists lie in memory as told.
-/
namespace Go.Proofs.YtefagplbpbkpgaaDoor
open Go.RowKit
set_option linter.unusedVariables false
set_option maxRecDepth 20000

/-- each number stands where it should, up to there -/
structure EkTo (n : Nat) (es : List (Int × Int)) (rs : List (List Int)) (x i : Nat) : Prop where
  each : ∀ y, y < x → ∀ h ∈ rs.getD y [], 0 ≤ h ∧ h < 2 * (n : Int) ∧ atI es h.toNat = (y : Int)
  here : ∀ h ∈ (rs.getD x []).take i, 0 ≤ h ∧ h < 2 * (n : Int) ∧ atI es h.toNat = (x : Int)
theorem EkTo.start (n : Nat) (es : List (Int × Int)) (rs : List (List Int)) : EkTo n es rs 0 0 := ⟨fun y hy => by omega, by simp⟩
theorem EkTo.next {n : Nat} {es : List (Int × Int)} {rs : List (List Int)} {x : Nat} (h : EkTo n es rs x (rs.getD x []).length) : EkTo n es rs (x + 1) 0 := by
  refine ⟨fun y hy => ?_, by simp⟩
  by_cases hyx : y = x
  · subst hyx
    have := h.here
    rwa [List.take_length] at this
  · exact h.each y (by omega)
theorem EkTo.step {n : Nat} {es : List (Int × Int)} {rs : List (List Int)} {x i : Nat} (h : EkTo n es rs x i) (hi : i < (rs.getD x []).length) {j : Nat} (hj : (rs.getD x []).getD i 0 = (j : Int)) (hj2 : j < 2 * n) (ha : atI es j = (x : Int)) : EkTo n es rs x (i + 1) := by
  refine ⟨h.each, fun z hz => ?_⟩
  rw [List.take_succ_eq_append_getElem hi, List.mem_append] at hz
  rcases hz with hz | hz
  · exact h.here z hz
  · rw [List.mem_singleton] at hz
    have : z = (j : Int) := by rw [hz, ← getD_eq hi, hj]
    subst this
    exact ⟨by omega, by omega, by simpa using ha⟩
theorem ek_len {rs : List (List Int)} {x i : Nat} : (upto rs x i).length ≤ (rs.map List.length).sum + i := by
  unfold upto
  rw [List.length_append, List.length_flatten, List.length_take]
  have : ∀ (l : List Nat) k, (l.take k).sum ≤ l.sum := by
    intro l
    induction l with
    | nil => intro k; simp
    | cons a t ih =>
      intro k
      cases k with
      | zero => simp
      | succ k => simp only [List.take_succ_cons, List.sum_cons]; have := ih k; omega
  have h1 := this (rs.map List.length) x
  rw [List.map_take]
  omega
theorem nodup_of_count {l : List Int} (h : ∀ z ∈ l, l.count z = 1) : l.Nodup := by
  rw [List.nodup_iff_count]
  intro z
  by_cases hz : z ∈ l
  · exact Nat.le_of_eq (h z hz)
  · rw [List.count_eq_zero_of_not_mem hz]
    omega
theorem EkTo.rot {V : Int} {n : Nat} {es : List (Int × Int)} {rs : List (List Int)} (h : EkTo n es rs rs.length 0) (hg : Good V n es) (hl : (rs.length : Int) = V) : IsRot V n es rs ↔ ∀ j, j < 2 * n → (upto rs rs.length 0).count (j : Int) = 1 := by
  rw [upto_all]
  have hb : ∀ z ∈ rs.flatten, 0 ≤ z ∧ z < 2 * (n : Int) := fun z hz => by
    rw [List.mem_flatten] at hz
    obtain ⟨l, hl, hm⟩ := hz
    obtain ⟨x, hx, rfl⟩ := List.mem_iff_getElem.1 hl
    have := h.each x hx z (by simpa [List.getD, hx] using hm)
    exact ⟨this.1, this.2.1⟩
  constructor
  · intro hr j hj
    have hle := List.nodup_iff_count.1 hr.nodup (j : Int)
    have hmem : (j : Int) ∈ rs.flatten := by
      refine Classical.byContradiction fun hno => ?_
      have := nodup_leI (H := 2 * n) (l := (j : Int) :: rs.flatten) (by rw [List.nodup_cons]; exact ⟨hno, hr.nodup⟩) (by
        intro z hz
        rcases List.mem_cons.1 hz with rfl | hz
        · omega
        · have := hb z hz
          omega)
      rw [List.length_cons, hr.all] at this
      omega
    have := List.count_pos_iff.2 hmem
    omega
  · intro hc
    have hn : rs.flatten.Nodup := nodup_of_count fun z hz => by
      have := hb z hz
      have h2 := hc z.toNat (by omega)
      rwa [show ((z.toNat : Nat) : Int) = z by omega] at h2
    refine ⟨hg, hl, fun x hx => h.each x hx, hn, Nat.le_antisymm (nodup_leI hn fun z hz => by have := hb z hz; omega) ?_⟩
    have h1 := pt.inj_len (R := fun v y => v = y) (List.range (2 * n)) (rs.flatten.map Int.toNat) List.nodup_range (fun v hv => by
      have hv := List.mem_range.1 hv
      have h2 := hc v hv
      have h3 : (v : Int) ∈ rs.flatten := List.count_pos_iff.1 (by omega)
      exact ⟨v, List.mem_map.2 ⟨_, h3, by simp⟩, rfl⟩) (fun v v' y _ _ e e' => e.trans e'.symm)
    rw [List.length_range, List.length_map] at h1
    exact h1

set_option maxHeartbeats 8000000 in
theorem refright_any (w : World) (V : Int) (a : Option Addr) (n cap : Nat) (es : List (Int × Int)) {B : Nat} (h : Es B w a n es) (ra : Option Addr) (m rc : Nat) (rs : List (List Int)) (hr : Rr w ra m rs) (hsm : ∀ k, k < m → (rs.getD k []).length ≤ 1000) (hm1 : m ≤ 1000) :
    Calls Tryd.prog 21 #[.agg #[.int .i64 V, .slice a n cap], .slice ra m rc] w fun e w' => Told (IsRot V n es rs) e ∧ Below w.heap.size w w' := by
  have hrl := hr.1
  have HE := hide h
  have HR := hide hr
  have HRL := hide hrl
  have HB0 := hide (Bg.start w (.int .i64 V) (.slice a n cap))
  have hsum : (rs.map List.length).sum ≤ 1000000 := by
    have : ∀ (l : List (List Int)), (∀ k, k < l.length → (l.getD k []).length ≤ 1000) → (l.map List.length).sum ≤ 1000 * l.length := by
      intro l
      induction l with
      | nil => intro _; simp
      | cons c t ih =>
        intro h
        have h1 := h 0 (by simp)
        have h2 := ih fun k hk => by simpa using h (k + 1) (by simpa using hk)
        simp only [List.map_cons, List.sum_cons, List.length_cons]
        simp at h1
        omega
    have := this rs (by rw [hrl]; exact hsm)
    rw [hrl] at this
    omega
  clear h hr hrl
  by_cases hg : Good V n es
  case neg =>
    have HG := hide hg
    clear hg
    obtain ⟨g0, g1⟩ := (unhide HB0).cells
    go_enter Tryd.func21, Tryd.ntmps21
    go_wp2_with fail
    refine (refMay_any _ V a n cap es ((unhide HE).below (unhide HB0).bel)).mono ?_
    rintro e w1 ⟨⟨r, rfl, hr⟩, hb1⟩
    have hrt : r = false := by
      cases r with
      | false => rfl
      | true => exact absurd (hr.1 rfl) (unhide HG)
    subst hrt
    have HB1 := hide ((unhide HB0).step hb1)
    clear hb1 HB0 g0 g1 hr
    go_wp2_with fail
    go_ret
    exact ⟨Told.no fun h => unhide HG h.good, (unhide HB1).bel⟩
  have hn := hg.2.2.1
  have HG := hide hg
  obtain ⟨g0, g1⟩ := (unhide HB0).cells
  by_cases hmV : (m : Int) = V
  case neg =>
    have t1 : ((m : Int) != V) = true := by simp [hmV]
    have HNV := hide (show ¬ IsRot V n es rs from fun h => hmV (by rw [← unhide HRL]; exact h.len))
    clear hg hmV
    go_enter Tryd.func21, Tryd.ntmps21
    go_wp2_with fail
    refine (refMay_any _ V a n cap es ((unhide HE).below (unhide HB0).bel)).mono ?_
    rintro e w1 ⟨⟨r, rfl, hr⟩, hb1⟩
    have hrt : r = true := hr.2 (unhide HG)
    subst hrt
    have HB1 := hide ((unhide HB0).step hb1)
    clear hb1 HB0 g0 g1 hr
    obtain ⟨g0, g1⟩ := (unhide HB1).cells
    go_wp2_with fail
    go_ret
    exact ⟨Told.no (unhide HNV), (unhide HB1).bel⟩
  have t1 : ((m : Int) != V) = false := by simp [hmV]
  have HMV := hide hmV
  have HAT := hide (fun (u : World) (hu : Below w.heap.size w u) (j : Nat) (hj : j < 2 * n) => at_any u V a n cap es ((unhide HE).below hu) j hj hn)
  obtain ⟨i0, hi0, hz0, hz1, hz2⟩ := info_parts info3
  have HI := hide hi0
  have HZ0 := hide hz0
  have HZ1 := hide hz1
  obtain ⟨H, hH⟩ : ∃ H, 2 * n = H := ⟨_, rfl⟩
  have hzb : i0.bytes * H ≤ 281474976710656 := by rw [hz2]; omega
  have hmul : IntKind.i64.wrap (2 * (n : Int)) = (H : Int) := by rw [IntKind.wrap_i64]; omega
  have HHN := hide hH
  have hH256 : H ≤ 256 := by omega
  clear hi0 hz0 hz1 hz2 hg hmV hH
  go_enter Tryd.func21, Tryd.ntmps21
  go_wp2_with fail
  refine (refMay_any _ V a n cap es ((unhide HE).below (unhide HB0).bel)).mono ?_
  rintro e w1 ⟨⟨r, rfl, hr⟩, hb1⟩
  have hrt : r = true := hr.2 (unhide HG)
  subst hrt
  have HB1 := hide ((unhide HB0).step hb1)
  clear hb1 HB0 g0 g1 hr HE
  obtain ⟨g0, g1⟩ := (unhide HB1).cells
  go_wp2_with (refine wpList_make_full _ rfl (.tmp 23) (.tmp 23) 37 rfl w1.heap.size 3 i0 (.int .i64 0) 1 Tryd.underlying37 (unhide HI) (unhide HZ0) (unhide HZ1) .i64 .i64 _ _ H rfl rfl rfl rfl hzb ?m1 ?m2 ?_)
  case m1 => unfold maxLen; omega
  case m2 => simp
  intro w2 hown2 hg2
  rw [toList_madeCells_one] at hown2
  have hb2 : Below w1.heap.size w1 w2 := ⟨hg2.os, hg2.tape, hg2.output, hg2.size, fun k hk => hg2.block k hk (by simp)⟩
  have HB2 := hide ((unhide HB1).step hb2)
  have hw1 := (unhide HB1).lt
  obtain ⟨gs, hgs⟩ : ∃ gs, w1.heap.size = gs := ⟨_, rfl⟩
  have HR2 := hide (show RowZ w2 gs H (fun j => ((upto rs 0 0).count (j : Int) : Nat)) from by rw [← hgs]; exact (Row.of_owns hown2).congr fun t ht => by rw [upto_zero]; rfl)
  have HK0 := hide (EkTo.start n es rs)
  have hgw : w.heap.size < gs := by omega
  clear hown2 hg2 hb2 HB1 g0 g1
  rw [hgs]
  clear hgs hw1
  go_wp2_with fail
  go_loopw [6] (fun i wr => ∃ x : Nat, i = .int .i64 x ∧ x ≤ m ∧ Hid (EkTo n es rs x 0) ∧ Hid (RowZ wr gs H (fun j => ((upto rs x 0).count (j : Int) : Nat))) ∧ Hid (Bg w wr (.int .i64 V) (.slice a n cap))) (fun i wr => m - (intOf i).toNat)
  case atStart => exact ⟨0, rfl, by omega, HK0, HR2, HB2⟩
  case round =>
    clear HK0 HR2 HB2
    obtain ⟨x, rfl, hx, HK, HRw, HB⟩ := hrel
    by_cases hxm : x < m
    · have hxm2 : (x : Int) < (m : Int) := by omega
      obtain ⟨gr, or, la, lc, ha, hgr, c0, hlc, hls⟩ := (unhide HR).2.2 x hxm
      subst ha
      have hlx := hsm x hxm
      obtain ⟨l, hl⟩ : ∃ l, rs.getD x [] = l := ⟨_, rfl⟩
      rw [hl] at c0 hls hlx
      obtain ⟨len, hlen⟩ : ∃ len, l.length = len := ⟨_, rfl⟩
      rw [hlen] at c0 hls hlx
      have HC0 := hide c0
      have HL := hide hl
      have HLEN := hide hlen
      have HLS := hide hls
      have hxr : x < rs.length := by rw [unhide HRL]; exact hxm
      clear hls hlc hl c0 hlen
      go_wp2_with fail
      go_loopw [7] (fun i wr => ∃ k : Nat, i = .int .i64 k ∧ k ≤ len ∧ Hid (EkTo n es rs x k) ∧ Hid (RowZ wr gs H (fun j => ((upto rs x k).count (j : Int) : Nat))) ∧ Hid (Bg w wr (.int .i64 V) (.slice a n cap))) (fun i wr => len - (intOf i).toNat)
      case atStart => exact ⟨0, rfl, by omega, HK, HRw, HB⟩
      case round =>
        clear HK HRw HB
        obtain ⟨k, rfl, hk, HK, HRw, HB⟩ := hrel
        have d0 : wr.cell? ⟨gr, or + x, none⟩ = some (.slice la len lc) := by rw [(unhide HB).bel.cell (p := ⟨gr, or + x, none⟩) hgr]; exact unhide HC0
        have hgr2 : gr < wr.heap.size := Nat.lt_of_lt_of_le hgr (unhide HB).bel.size
        by_cases hkl : k < len
        · have hkl2 : (k : Int) < (len : Int) := by omega
          have hi : k < (rs.getD x []).length := by rw [unhide HL, unhide HLEN]; exact hkl
          obtain ⟨gl, ol, hla, hgl, c1⟩ := (unhide HLS).2.2 k hkl
          subst hla
          obtain ⟨z, hz⟩ : ∃ z, l.getD k 0 = z := ⟨_, rfl⟩
          rw [hz] at c1
          have hzr : (rs.getD x []).getD k 0 = z := by rw [unhide HL, hz]
          have d1 : wr.cell? ⟨gl, ol + k, none⟩ = some (.int .i64 z) := by rw [(unhide HB).bel.cell (p := ⟨gl, ol + k, none⟩) hgl]; exact c1
          have hsz := (unhide HB).bel.size
          have hgl2 : gl < wr.heap.size := by omega
          have HZR := hide hzr
          have HX := hide hxr
          have HIX := hide hi
          obtain ⟨g0, g1⟩ := (unhide HB).cells
          clear c1 hz hzr hi
          by_cases hz0 : z < 0
          · have HNO := hide (show ¬ IsRot V n es rs from rot_bad (unhide HX) (unhide HIX) (by rw [unhide HZR]; omega))
            go_wp2_with fail
            go_ret
            exact ⟨Told.no (unhide HNO), (unhide HB).bel⟩
          have e0 : decide (z < 0) = false := decide_eq_false hz0
          obtain ⟨j, rfl⟩ : ∃ j : Nat, z = (j : Int) := ⟨z.toNat, by omega⟩
          by_cases hz1 : H ≤ j
          · have e1 : (H : Int) ≤ (j : Int) := by omega
            have HNO := hide (show ¬ IsRot V n es rs from rot_bad (unhide HX) (unhide HIX) (by rw [unhide HZR]; have := unhide HHN; omega))
            go_wp2_with fail
            go_ret
            exact ⟨Told.no (unhide HNO), (unhide HB).bel⟩
          have e1 : decide ((H : Int) ≤ (j : Int)) = false := decide_eq_false (by omega)
          have hjH : j < H := by omega
          have hjH2 : (j : Int) < (H : Int) := by omega
          have hz2 : ¬ (j : Int) < 0 := by omega
          have hz3 : ¬ (H : Int) ≤ (j : Int) := by omega
          have HCAT := hide (unhide HAT wr (unhide HB).bel j (by rw [unhide HHN]; exact hjH))
          clear hz0 hz1
          by_cases hax : atI es j = (x : Int)
          case neg =>
            have t2 : (atI es j != (x : Int)) = true := by simp [hax]
            have HNO := hide (show ¬ IsRot V n es rs from rot_bad (unhide HX) (unhide HIX) (by rw [unhide HZR]; intro hc; exact hax (by have := hc.2.2; simpa using this)))
            generalize atI es j = q at *
            clear hax
            go_wp2_with (go_at_call 29; refine (unhide HCAT).mono ?_; rintro e w5 ⟨rfl, hb5⟩; have HB5 := hide ((unhide HB).step hb5); clear hb5)
            go_ret
            exact ⟨Told.no (unhide HNO), (unhide HB5).bel⟩
          have t2 : ((x : Int) != (x : Int)) = false := by simp
          have hK2 := EkTo.step (unhide HK) (unhide HIX) (unhide HZR) (by rw [unhide HHN]; exact hjH) hax
          have hup : upto rs x (k + 1) = upto rs x k ++ [(j : Int)] := by rw [upto_step (unhide HIX), unhide HZR]
          have hcl : (upto rs x k).count (j : Int) ≤ 1001000 := by
            have h1 := List.count_le_length (a := (j : Int)) (l := upto rs x k)
            have h2 := ek_len (rs := rs) (x := x) (i := k)
            omega
          have HK2 := hide hK2
          have HUP := hide hup
          rw [hax] at HCAT
          clear hup hax hK2
          obtain ⟨cj, hcj⟩ : ∃ c, (upto rs x k).count (j : Int) = c := ⟨_, rfl⟩
          rw [hcj] at hcl
          have HCJ := hide hcj
          clear hcj
          go_wp2_with (go_at_call 29; refine (unhide HCAT).mono ?_; rintro e w5 ⟨rfl, hb5⟩; have HB5 := hide ((unhide HB).step hb5); have HR5 := hide (Row.below (unhide HRw) hb5); clear hb5; have r0 : w5.cell? ⟨gs, j, none⟩ = some (.int .i64 (cj : Nat)) := (by have := (unhide HR5).cell hjH; simp only [unhide HCJ] at this; exact this); have r1 := (unhide HR5).fz j; have hg5 := (unhide HR5).lt)
          have HR6 := hide (show RowZ (w5.setCell ⟨gs, j, none⟩ (.int .i64 ((cj : Int) + 1))) gs H (fun t => ((upto rs x (k + 1)).count (t : Int) : Nat)) from
            Row.congr (RowZ.set (unhide HR5) j ((cj : Int) + 1)) fun t ht => congrArg (Value.int .i64) (by
              unfold upd
              show (if t = j then (cj : Int) + 1 else (((upto rs x k).count (t : Int) : Nat) : Int)) = (((upto rs x (k + 1)).count (t : Int) : Nat) : Int)
              rw [unhide HUP, List.count_append]
              by_cases htj : t = j
              · subst htj
                rw [if_pos rfl, unhide HCJ]
                simp
              · rw [if_neg htj]
                have : List.count (t : Int) [(j : Int)] = 0 := by
                  rw [List.count_eq_zero]
                  simp
                  omega
                rw [this]
                simp))
          have HB6 := hide ((unhide HB5).stepB (B := gs) hgw ((Below.refl _ _).setCell (p := ⟨gs, j, none⟩) (Nat.le_refl _) (.int .i64 ((cj : Int) + 1))))
          go_roundw
          case rel => exact ⟨k + 1, by go_num, by omega, HK2, HR6, HB6⟩
          case measure => simp [intOf]; omega
        · obtain rfl : k = len := by omega
          have hln2 : (rs.getD x []).length = k := by rw [unhide HL, unhide HLEN]
          have hu := upto_next hxr
          rw [hln2] at hu
          have HK2 := hide (show EkTo n es rs (x + 1) 0 from EkTo.next (by rw [hln2]; exact unhide HK))
          have HR2 := hide (show RowZ wr gs H (fun j => ((upto rs (x + 1) 0).count (j : Int) : Nat)) by rw [hu]; exact unhide HRw)
          clear hu hln2
          go_wp2_with fail
          go_roundw
          case rel => exact ⟨x + 1, by go_num, by omega, HK2, HR2, HB⟩
          case measure => simp [intOf]; omega
    · obtain rfl : x = m := by omega
      have hfin := EkTo.rot (V := V) (by rw [unhide HRL]; exact unhide HK) (unhide HG) (by rw [unhide HRL]; exact unhide HMV)
      rw [unhide HRL, unhide HHN] at hfin
      have HF := hide hfin
      clear hfin
      go_wp2_with fail
      go_loopw [9] (fun i wr' => ∃ k : Nat, i = .int .i64 k ∧ k ≤ H ∧ wr' = wr ∧ Hid (∀ j, j < k → (upto rs x 0).count (j : Int) = 1)) (fun i wr' => H - (intOf i).toNat)
      case atStart => exact ⟨0, rfl, by omega, rfl, fun j hj => by omega⟩
      case round =>
        obtain ⟨k, rfl, hk, hwe, HS⟩ := hrel
        subst hwe
        by_cases hkH : k < H
        · have hkH2 : (k : Int) < (H : Int) := by omega
          obtain ⟨ck, hck⟩ : ∃ c, (upto rs x 0).count (k : Int) = c := ⟨_, rfl⟩
          have HCK := hide hck
          have r0 : wr.cell? ⟨gs, k, none⟩ = some (.int .i64 (ck : Nat)) := by have := (unhide HRw).cell hkH; simp only [hck] at this; exact this
          have hgs := (unhide HRw).lt
          clear hck
          by_cases h1 : ck = 1
          · have t3 : ((ck : Int) != 1) = false := by simp [h1]
            have HS2 := hide (show ∀ j, j < k + 1 → (upto rs x 0).count (j : Int) = 1 from fun j hj => by
              by_cases hjk : j = k
              · rw [hjk, unhide HCK, h1]
              · exact unhide HS j (by omega))
            clear h1
            go_wp2_with fail
            go_roundw
            case rel => exact ⟨k + 1, by go_num, by omega, (by first | rfl | trivial), HS2⟩
            case measure => simp [intOf]; omega
          · have t3 : ((ck : Int) != 1) = true := by simp; omega
            have HNO := hide (show ¬ IsRot V n es rs from fun hr => h1 (by rw [← unhide HCK]; exact (unhide HF).1 hr k hkH))
            clear h1
            go_wp2_with fail
            go_ret
            exact ⟨Told.no (unhide HNO), (unhide HB).bel⟩
        · obtain rfl : k = H := by omega
          go_wp2_with fail
          go_ret
          exact ⟨Told.yes ((unhide HF).2 (unhide HS)), (unhide HB).bel⟩
end Go.Proofs.YtefagplbpbkpgaaDoor
/-
  The contracts of the document's Next and Faces. Conditions: the graph and the lists lie in memory as told, and the lists are a rotation.
-/
namespace Go.Proofs.YtefagplbpbkpgaaDoor
open Go.RowKit
set_option linter.unusedVariables false
set_option maxRecDepth 20000

set_option maxHeartbeats 4000000 in
theorem next_any (w : World) (V : Nat) (a : Option Addr) (n cap : Nat) (es : List (Nat × Nat)) {B : Nat} (h : Es B w a n (toI es)) (hne : es.length = n) (hn : n ≤ 128) (ra : Option Addr) (m rc : Nat) (q : List (List Nat)) (hr : Rr w ra m (rowsI q)) (ro : pt.Ro V es q) (N : Nat → Nat) (hN : Behind q N) (j : Nat) (hj : j < 2 * n) :
    Calls Tryd.prog 52 #[.agg #[.int .i64 V, .slice a n cap], .slice ra m rc, .int .i64 (j : Nat)] w fun e w' => e = .returned (.int .i64 (N j : Nat)) ∧ Below w.heap.size w w' := by
  have hmV : m = V := by have := hr.1; rw [rowsI_length] at this; rw [← this, ro.len]
  have HB0 := hide (Bg.start w (.int .i64 V) (.slice a n cap))
  have hoj : oth j < 2 * n := oth_lt hj
  have hat := ro.at (h := oth j) (by rw [hne]; exact hoj)
  have HAT := hide (fun (u : World) (hu : Below w.heap.size w u) => show Calls Tryd.prog 29 #[.agg #[.int .i64 V, .slice a n cap], .int .i64 (oth j : Nat)] u fun e w' => e = .returned (.int .i64 (pt.stV es (oth j) : Nat)) ∧ Below u.heap.size u w' from by
    refine (at_any u V a n cap (toI es) (h.below hu) (oth j) hoj hn).mono ?_
    rintro e w' ⟨rfl, hb⟩
    rw [pt.atI_toI]
    exact ⟨rfl, hb⟩)
  obtain ⟨x, hx⟩ : ∃ x, pt.stV es (oth j) = x := ⟨_, rfl⟩
  rw [hx] at hat HAT
  obtain ⟨p, hp, hpe⟩ := pt.in_getD hat.2
  have hNj : N j = (q.getD x []).getD ((p + 1) % (q.getD x []).length) 0 := by
    have := hN x (by rw [ro.len]; exact hat.1) p hp
    rwa [hpe, oth_oth] at this
  have hnd := ro.one x hat.1
  have hxV := hat.1
  obtain ⟨l, hl⟩ : ∃ l, q.getD x [] = l := ⟨_, rfl⟩
  rw [hl] at hp hpe hNj hnd
  have hrx := hr.2.2 x (by omega)
  rw [rowsI_getD, toIs_length, hl] at hrx
  obtain ⟨gr, or, la, lc, ha, hgr, c0, hlc, hls⟩ := hrx
  subst ha
  have hln := hls.2.1
  obtain ⟨len, hlen⟩ : ∃ len, l.length = len := ⟨_, rfl⟩
  rw [hlen] at hp hNj c0 hls hln
  have HLS := hide hls
  have HC0 := hide c0
  have HND := hide hnd
  have HLEN := hide hlen
  have HPE := hide hpe
  have HNJ := hide hNj
  have hxm : (x : Int) < (m : Int) := by omega
  have hw1 : IntKind.i64.wrap ((j : Int) + 1) = (j : Int) + 1 := by rw [IntKind.wrap_i64]; omega
  have hw2 : IntKind.i64.wrap ((j : Int) - 1) = (j : Int) - 1 := by rw [IntKind.wrap_i64]; omega
  have hrm : ((j : Nat) : Int).tmod 2 = ((j % 2 : Nat) : Int) := by rw [show (2 : Int) = ((2 : Nat) : Int) from rfl, ← Int.ofNat_tmod]
  have hwr : IntKind.i64.wrap ((j % 2 : Nat) : Int) = ((j % 2 : Nat) : Int) := by rw [IntKind.wrap_i64]; omega
  obtain ⟨g0, g1⟩ := (unhide HB0).cells
  clear h hne hr ro hN hat hls c0 hnd hlen hpe hNj hl hx hmV
  have rest : ∀ w2 : World, Below w.heap.size w w2 → True := fun _ _ => trivial
  obtain ⟨o, ho⟩ : ∃ o, oth j = o := ⟨_, rfl⟩
  have hoe : (o : Int) = if j % 2 = 0 then (j : Int) + 1 else (j : Int) - 1 := by
    rw [← ho]
    unfold oth
    split <;> omega
  rw [ho] at HAT hoj
  have HPO := hide (show l.getD p 0 = o by rw [← ho]; exact unhide HPE)
  clear ho HPE rest
  have HOE := hide hoe
  clear hoe hrm hwr
  by_cases hj0 : j % 2 = 0
  · have hoo : (o : Int) = (j : Int) + 1 := by rw [unhide HOE, if_pos hj0]
    have t1 : ((j : Int) % 2 == 1) = false := by rw [beq_eq_false_iff_ne]; omega
    go_enter Tryd.func52, Tryd.ntmps52
    go_wp2_with fail
    rw [← hoo]
    refine (unhide HAT _ (unhide HB0).bel).mono ?_
    rintro e w2 ⟨rfl, hb2⟩
    have HB2 := hide ((unhide HB0).step hb2)
    have d0 : w2.cell? ⟨gr, or + x, none⟩ = some (.slice la len lc) := by rw [(unhide HB2).bel.cell (p := ⟨gr, or + x, none⟩) hgr]; exact unhide HC0
    have hgr2 : gr < w2.heap.size := Nat.lt_of_lt_of_le hgr (unhide HB2).bel.size
    clear hb2 g0 g1
    go_wp2_with fail
    clear d0 hgr2
    go_loopw [9] (fun i wr => ∃ k : Nat, i = .int .i64 k ∧ k ≤ p ∧ wr = w2) (fun i wr => p + 1 - (intOf i).toNat)
    case atStart => exact ⟨0, rfl, by omega, rfl⟩
    case round =>
      obtain ⟨k, rfl, hk, hwe⟩ := hrel
      subst hwe
      have hkl : k < len := by omega
      have hkl2 : (k : Int) < (len : Int) := by omega
      obtain ⟨gl, ol, hla, hgl, c1⟩ := (unhide HLS).2.2 k hkl
      have hpp : (k + 1) % len < len := Nat.mod_lt _ (by omega)
      obtain ⟨gl', ol', hla', _, c2⟩ := (unhide HLS).2.2 _ hpp
      subst hla
      simp only [Option.some.injEq, Addr.mk.injEq] at hla'
      obtain ⟨rfl, rfl, _⟩ := hla'
      rw [toIs_getD] at c1 c2
      have hsz := (unhide HB2).bel.size
      have hgl2 : gl < wr.heap.size := by omega
      have d1 : wr.cell? ⟨gl, ol + k, none⟩ = some (.int .i64 (l.getD k 0 : Nat)) := by rw [(unhide HB2).bel.cell (p := ⟨gl, ol + k, none⟩) hgl]; exact c1
      have d2 : wr.cell? ⟨gl, ol + (k + 1) % len, none⟩ = some (.int .i64 (l.getD ((k + 1) % len) 0 : Nat)) := by rw [(unhide HB2).bel.cell (p := ⟨gl, ol + (k + 1) % len, none⟩) hgl]; exact c2
      clear c1 c2
      by_cases hkp : k = p
      · subst hkp
        rw [unhide HPO] at d1
        have t2 : ((o : Int) == (o : Int)) = true := by simp
        have hw3 : IntKind.i64.wrap ((k : Int) + 1) = (k : Int) + 1 := by rw [IntKind.wrap_i64]; omega
        have hT : ((k : Int) + 1).tmod (len : Int) = (((k + 1) % len : Nat) : Int) := by rw [show ((k : Int) + 1) = ((k + 1 : Nat) : Int) by omega, Int.ofNat_tmod]
        have hw4 : IntKind.i64.wrap (((k + 1) % len : Nat) : Int) = (((k + 1) % len : Nat) : Int) := by rw [IntKind.wrap_i64]; omega
        have hN0 : ¬ len = 0 := by omega
        have hp2 : (((k + 1) % len : Nat) : Int) < (len : Int) := by omega
        generalize (k + 1) % len = pp at *
        go_wp2_with fail
        go_ret
        exact ⟨by rw [unhide HNJ]; rfl, (unhide HB2).bel⟩
      · have hne : l.getD k 0 ≠ o := fun e => hkp (pt.getD_inj (unhide HND) (by rw [unhide HLEN]; exact hkl) (by rw [unhide HLEN]; exact hp) (e.trans (unhide HPO).symm))
        generalize l.getD k 0 = z at *
        have t2 : ((z : Int) == (o : Int)) = false := by rw [beq_eq_false_iff_ne]; omega
        clear hne d2
        go_wp2_with fail
        go_roundw
        case rel => exact ⟨k + 1, by go_num, by omega, (by first | rfl | trivial)⟩
        case measure => simp [intOf]; omega
  · have hoo : (o : Int) = (j : Int) - 1 := by rw [unhide HOE, if_neg hj0]
    have t1 : ((j : Int) % 2 == 1) = true := by rw [beq_iff_eq]; omega
    go_enter Tryd.func52, Tryd.ntmps52
    go_wp2_with fail
    rw [← hoo]
    refine (unhide HAT _ (unhide HB0).bel).mono ?_
    rintro e w2 ⟨rfl, hb2⟩
    have HB2 := hide ((unhide HB0).step hb2)
    have d0 : w2.cell? ⟨gr, or + x, none⟩ = some (.slice la len lc) := by rw [(unhide HB2).bel.cell (p := ⟨gr, or + x, none⟩) hgr]; exact unhide HC0
    have hgr2 : gr < w2.heap.size := Nat.lt_of_lt_of_le hgr (unhide HB2).bel.size
    clear hb2 g0 g1
    go_wp2_with fail
    clear d0 hgr2
    go_loopw [9] (fun i wr => ∃ k : Nat, i = .int .i64 k ∧ k ≤ p ∧ wr = w2) (fun i wr => p + 1 - (intOf i).toNat)
    case atStart => exact ⟨0, rfl, by omega, rfl⟩
    case round =>
      obtain ⟨k, rfl, hk, hwe⟩ := hrel
      subst hwe
      have hkl : k < len := by omega
      have hkl2 : (k : Int) < (len : Int) := by omega
      obtain ⟨gl, ol, hla, hgl, c1⟩ := (unhide HLS).2.2 k hkl
      have hpp : (k + 1) % len < len := Nat.mod_lt _ (by omega)
      obtain ⟨gl', ol', hla', _, c2⟩ := (unhide HLS).2.2 _ hpp
      subst hla
      simp only [Option.some.injEq, Addr.mk.injEq] at hla'
      obtain ⟨rfl, rfl, _⟩ := hla'
      rw [toIs_getD] at c1 c2
      have hsz := (unhide HB2).bel.size
      have hgl2 : gl < wr.heap.size := by omega
      have d1 : wr.cell? ⟨gl, ol + k, none⟩ = some (.int .i64 (l.getD k 0 : Nat)) := by rw [(unhide HB2).bel.cell (p := ⟨gl, ol + k, none⟩) hgl]; exact c1
      have d2 : wr.cell? ⟨gl, ol + (k + 1) % len, none⟩ = some (.int .i64 (l.getD ((k + 1) % len) 0 : Nat)) := by rw [(unhide HB2).bel.cell (p := ⟨gl, ol + (k + 1) % len, none⟩) hgl]; exact c2
      clear c1 c2
      by_cases hkp : k = p
      · subst hkp
        rw [unhide HPO] at d1
        have t2 : ((o : Int) == (o : Int)) = true := by simp
        have hw3 : IntKind.i64.wrap ((k : Int) + 1) = (k : Int) + 1 := by rw [IntKind.wrap_i64]; omega
        have hT : ((k : Int) + 1).tmod (len : Int) = (((k + 1) % len : Nat) : Int) := by rw [show ((k : Int) + 1) = ((k + 1 : Nat) : Int) by omega, Int.ofNat_tmod]
        have hw4 : IntKind.i64.wrap (((k + 1) % len : Nat) : Int) = (((k + 1) % len : Nat) : Int) := by rw [IntKind.wrap_i64]; omega
        have hN0 : ¬ len = 0 := by omega
        have hp2 : (((k + 1) % len : Nat) : Int) < (len : Int) := by omega
        generalize (k + 1) % len = pp at *
        go_wp2_with fail
        go_ret
        exact ⟨by rw [unhide HNJ]; rfl, (unhide HB2).bel⟩
      · have hne : l.getD k 0 ≠ o := fun e => hkp (pt.getD_inj (unhide HND) (by rw [unhide HLEN]; exact hkl) (by rw [unhide HLEN]; exact hp) (e.trans (unhide HPO).symm))
        generalize l.getD k 0 = z at *
        have t2 : ((z : Int) == (o : Int)) = false := by rw [beq_eq_false_iff_ne]; omega
        clear hne d2
        go_wp2_with fail
        go_roundw
        case rel => exact ⟨k + 1, by go_num, by omega, (by first | rfl | trivial)⟩
        case measure => simp [intOf]; omega
end Go.Proofs.YtefagplbpbkpgaaDoor
/-
  The contract of the document's Faces. Conditions: the graph and the lists lie in memory as told, and the lists are a rotation.
-/
namespace Go.Proofs.YtefagplbpbkpgaaDoor
open Go.RowKit
set_option linter.unusedVariables false
set_option maxRecDepth 20000

/-- lists that are laid: their row, and each of them -/
structure Ol (u0 wr : World) (bv : Value) (R : Nat → Value) (Ls : List (List Nat)) : Prop where
  bel : Below u0.heap.size u0 wr
  own : wr.ownsRow u0.heap.size 37 1 bv Ls.length ((List.range Ls.length).map R)
  rows : ∀ j, j < Ls.length → wr.ownsRow u0.heap.size 3 1 (R j) (Ls.getD j []).length (zcells (toIs (Ls.getD j [])))
theorem Ol.start (u0 : World) : Ol u0 (u0.alloc (.cells #[] 37)) (.slice (some ⟨u0.heap.size, 0, none⟩) 0 0) (fun _ => .slice none 0 0) [] :=
  ⟨b_al _, owns_lit_empty u0 37 1 _ (Nat.le_refl _), fun j hj => by simp at hj⟩
theorem Ol.step {u0 wr wr' : World} {bv : Value} {R : Nat → Value} {Ls : List (List Nat)} (h : Ol u0 wr bv R Ls) (hb : Below wr.heap.size wr wr') : Ol u0 wr' bv R Ls :=
  ⟨bto h.bel hb, owns_below h.own hb, fun j hj => owns_below (h.rows j hj) hb⟩
theorem Ol.push {u0 u u' : World} {bv v' l : Value} {R : Nat → Value} {Ls : List (List Nat)} {x : List Nat} (h : Ol u0 u bv R Ls) (hl : u.ownsRow u0.heap.size 3 1 l x.length (zcells (toIs x)))
    (ho : u'.ownsRow u0.heap.size 37 1 v' (Ls.length + 1) ((List.range Ls.length).map R ++ [l])) (hg : u.grownBy u' bv.ownBlock) : Ol u0 u' v' (upd R Ls.length l) (Ls ++ [x]) := by
  have hk : ∀ {v : Value} {n : Nat} {xs : List Value}, u.ownsRow u0.heap.size 3 1 v n xs → u'.ownsRow u0.heap.size 3 1 v n xs := fun {v n xs} hv => by
    refine owns_keep hv fun g hgv => hg.block g (hv.lt g hgv).2 fun e => ?_
    obtain ⟨c1, h1⟩ := owns_type hv hgv
    obtain ⟨c2, h2⟩ := owns_type h.own e.symm
    rw [h1] at h2
    simp at h2
  refine ⟨h.bel.grown hg h.bel.size fun k hk' => (h.own.lt k hk').1, ?_, fun j hj => ?_⟩
  · rw [List.length_append, show [x].length = 1 from rfl, List.range_succ, List.map_append]
    have e1 : (List.range Ls.length).map (upd R Ls.length l) = (List.range Ls.length).map R := List.map_congr_left fun t ht => upd_other _ _ (by have := List.mem_range.1 ht; omega)
    rw [e1]
    simpa [upd_same] using ho
  · rw [List.length_append, show [x].length = 1 from rfl] at hj
    by_cases hjl : j = Ls.length
    · subst hjl
      rw [upd_same, show (Ls ++ [x]).getD Ls.length [] = x by simp [List.getD]]
      exact hk hl
    · rw [upd_other _ _ hjl, show (Ls ++ [x]).getD j [] = Ls.getD j [] by simp only [List.getD]; rw [List.getElem?_append_left (by omega)]]
      exact hk (h.rows j (by omega))
theorem Ol.read {u0 wr : World} {bv : Value} {R : Nat → Value} {Ls : List (List Nat)} (h : Ol u0 wr bv R Ls) (hL : Ls.length ≤ 1000) (hm : ∀ j, j < Ls.length → (Ls.getD j []).length ≤ 1000) : ∃ ba bc, bv = .slice ba Ls.length bc ∧ Ls.length ≤ bc ∧ Rr wr ba Ls.length (rowsI Ls) := by
  rcases h.own.2 with ⟨hv, hn⟩ | ⟨gb, cap, cur, hv, hb, hg, h1, h2, h3, h4⟩
  · exact ⟨none, 0, by rw [hv, hn], by omega, by rw [rowsI_length], by omega, fun t ht => by omega⟩
  · refine ⟨_, cap, hv, h1, by rw [rowsI_length], by omega, fun t ht => ?_⟩
    have hb' := hm t ht
    obtain ⟨la, lc, hl, hlc, hn⟩ := ns_of_owns (h.rows t ht) (by omega)
    have : (cur.toList.take (Ls.length * 1))[t]? = ((List.range Ls.length).map R)[t]? := by rw [h4]
    rw [List.getElem?_take] at this
    simp [ht] at this
    rw [rowsI_getD, toIs_length]
    exact ⟨gb, 0, la, lc, rfl, (Array.getElem?_eq_some_iff.1 hg).1, by simp [World.cell?, hg, this, hl], hlc, hn⟩
theorem owns_one (w : World) (z : Int) (base : Nat) (hb : base ≤ w.heap.size) : (w.alloc (.cells #[.int .i64 z] 3)).ownsRow base 3 1 (.slice (some ⟨w.heap.size, 0, none⟩) 1 1) 1 [.int .i64 z] :=
  ⟨by simp, .inr ⟨w.heap.size, 1, #[.int .i64 z], rfl, hb, (MapKept.heap_alloc w _).1, Nat.le_refl _, by unfold maxLen; omega, by simp, by simp⟩⟩
/-- none so far is less -/
def lbB (N : Nat → Nat) (h t : Nat) : Bool := (List.range t).all fun s => decide (h ≤ it N s h)
theorem lb_succ (N : Nat → Nat) (h t : Nat) : lbB N h (t + 1) = (lbB N h t && decide (h ≤ it N t h)) := by
  unfold lbB
  rw [List.range_succ, List.all_append]
  simp
theorem lb_end {N : Nat → Nat} {H h : Nat} : lbB N h (pr N H h + 1) = isLeast N H h := by
  unfold lbB isLeast orb
  rw [List.all_map]
  rfl

set_option maxHeartbeats 8000000 in
theorem reffaces_any (w : World) (V : Nat) (a : Option Addr) (n cap : Nat) (es : List (Nat × Nat)) {B : Nat} (h : Es B w a n (toI es)) (hne : es.length = n) (hn : n ≤ 128) (ra : Option Addr) (m rc : Nat) (q : List (List Nat)) (hr : Rr w ra m (rowsI q)) (ro : pt.Ro V es q) (N : Nat → Nat) (hN : Behind q N) :
    Calls Tryd.prog 28 #[.agg #[.int .i64 V, .slice a n cap], .slice ra m rc] w fun e w' => (∃ va vc, e = .returned (.slice va (facesF N (2 * n) (2 * n)).length vc) ∧ (facesF N (2 * n) (2 * n)).length ≤ vc ∧ Rr w' va (facesF N (2 * n) (2 * n)).length (rowsI (facesF N (2 * n) (2 * n)))) ∧ Below w.heap.size w w' := by
  have hpm : Pm N (2 * n) := by rw [← hne]; exact pt.nx_pm ro hN
  have HB0 := hide (Bg.start w (.int .i64 V) (.slice a n cap))
  have HNX := hide (fun (u : World) (hu : Below w.heap.size w u) (j : Nat) (hj : j < 2 * n) => next_any u V a n cap es (h.below hu) hne hn ra m rc q (hr.below hu) ro N hN j hj)
  have HPM := hide hpm
  obtain ⟨H, hH⟩ : ∃ H, 2 * n = H := ⟨_, rfl⟩
  rw [hH] at HNX HPM ⊢
  have hH256 : H ≤ 256 := by omega
  have hmul : IntKind.i64.wrap (2 * (n : Int)) = (H : Int) := by rw [IntKind.wrap_i64]; omega
  obtain ⟨i0, hi0, hz0, hz1, hz2⟩ := info_parts info3
  have HI := hide hi0
  have HZ0 := hide hz0
  have HZ1 := hide hz1
  have HZ2 := hide hz2
  obtain ⟨j0, hj0, hy0, hy1, hy2⟩ := info_parts info28
  have HJ := hide hj0
  have HY0 := hide hy0
  have HY1 := hide hy1
  have HY2 := hide hy2
  clear hi0 hz0 hz1 hz2 hj0 hy0 hy1 hy2 h hne hr ro hN hpm hH
  go_enter Tryd.func28, Tryd.ntmps28
  go_wp2_with fail
  have HO0 := hide (Ol.start (w.alloc (.cells #[.int .i64 (V : Int), .slice a n cap] 24)))
  generalize hw1 : w.alloc (.cells #[.int .i64 (V : Int), .slice a n cap] 24) = w1 at *
  have hs1 : w1.heap.size = w.heap.size + 1 := by rw [← hw1]; simp
  clear hw1
  have HS1 := hide hs1
  clear hs1
  go_loopw [5, 6] (fun v5 i wr => ∃ (k : Nat) (R : Nat → Value), i = .int .i64 k ∧ k ≤ H ∧ Hid (Ol w1 wr v5 R (facesF N H k))) (fun v5 i wr => H - (intOf i).toNat)
  case atStart => exact ⟨0, _, by first | rfl | simp, by omega, by rw [unhide HS1] at HO0; exact HO0⟩
  case round =>
    clear HO0
    obtain ⟨k, R, rfl, hk, HO⟩ := hrel
    obtain ⟨wo, rfl⟩ : ∃ wo, wo = wr := ⟨_, rfl⟩
    have HBr := hide ((unhide HB0).step (unhide HO).bel)
    obtain ⟨g0, g1⟩ := (unhide HBr).cells
    have hfl := facesF_len N H k
    by_cases hkH : k < H
    · have hkH2 : (k : Int) < (H : Int) := by omega
      obtain ⟨hp1, hp2, hp3⟩ := (unhide HPM).pr hkH
      have hlen := lb_end (N := N) (H := H) (h := k)
      have horb := orb_its N H k
      have hol := (unhide HPM).orb_len hkH
      obtain ⟨P, hP⟩ : ∃ P, pr N H k = P := ⟨_, rfl⟩
      rw [hP] at hp1 hp2 hp3 hlen horb
      have HP2 := hide hp2
      have HP3 := hide hp3
      have HLEN := hide hlen
      have HORB := hide horb
      have HLT := hide ((unhide HPM).it_lt hkH)
      clear hp2 hp3 hP hlen horb
      obtain ⟨wa, hwa⟩ : ∃ wa, wo.alloc (.cells #[.int .i64 (k : Int)] 3) = wa := ⟨_, rfl⟩
      have hba : Below wo.heap.size wo wa := by rw [← hwa]; exact b_al _
      have HBA := hide ((unhide HBr).step hba)
      have HFA := hide (show wa.ownsRow wo.heap.size 3 1 (.slice (some ⟨wo.heap.size, 0, none⟩) 1 1) 1 (zcells (toIs (its N k 1))) by rw [← hwa]; exact owns_one wo (k : Int) _ (Nat.le_refl _))
      obtain ⟨g2, g3⟩ := (unhide HBA).cells
      go_wp2_with fail
      refine (unhide HNX _ (unhide HBA).bel k hkH).mono ?_
      rintro e wn ⟨rfl, hbn⟩
      have HBN := hide (bto hba hbn)
      have HFN := hide (owns_below (unhide HFA) hbn)
      have HLB := hide (show lbB N k 1 = true by simp [lbB, it])
      clear hwa hba hbn HBA HFA g2 g3 g0 g1
      go_wp2_with fail
      go_loopw [7, 8, 9] (fun v7 v8 v9 wx => ∃ t : Nat, v9 = .int .i64 (it N t k : Nat) ∧ 1 ≤ t ∧ t ≤ P + 1 ∧ v8 = .bool (lbB N k t) ∧ Hid (wx.ownsRow wo.heap.size 3 1 v7 t (zcells (toIs (its N k t)))) ∧ Hid (Below wo.heap.size wo wx)) (fun v7 v8 v9 wx => P + 1 - slen v7)
      case atStart => exact ⟨1, rfl, by omega, by omega, by rw [unhide HLB], HFN, HBN⟩
      case round =>
        clear HFN HBN HLB
        obtain ⟨t, rfl, ht1, ht2, rfl, HFx, HBx⟩ := hrel
        have hsl := slen_owns (unhide HFx)
        have hszx := (unhide HBx).size
        by_cases htP : t ≤ P
        · have hne : it N t k ≠ k := by
            have := unhide HP3 (t - 1) (by omega)
            rwa [show t - 1 + 1 = t by omega] at this
          have hlt := unhide HLT t
          have hlbs := lb_succ N k t
          obtain ⟨x, hx⟩ : ∃ x, it N t k = x := ⟨_, rfl⟩
          have HXE := hide hx
          rw [hx] at hne hlt hlbs
          rw [hx]
          have t1 : ((x : Int) != (k : Int)) = true := by simp; omega
          have HCN := hide (fun (u : World) (hu : Below w.heap.size w u) => unhide HNX u hu x hlt)
          have HNX1 := hide (show N x = it N (t + 1) k by rw [← unhide HXE]; rfl)
          obtain ⟨lb, hlb⟩ : ∃ b, lbB N k t = b := ⟨_, rfl⟩
          rw [hlb] at hlbs
          rw [hlb]
          obtain ⟨gt, hgt⟩ : ∃ b, decide ((k : Int) < (x : Int)) = b := ⟨_, rfl⟩
          have hgt2 : decide (k < x) = gt := by rw [← hgt]; exact decide_eq_decide.2 (by omega)
          have hgt3 : decide (k ≤ x) = gt := by rw [← hgt]; exact decide_eq_decide.2 (by omega)
          rw [hgt3] at hlbs
          have HLBS := hide hlbs
          clear hx hlbs hlb hgt3
          have fin : ∀ (v2 : Value) (w7 w8 : World), w7.ownsRow wo.heap.size 3 1 v2 (t + 1) (zcells (toIs (its N k t ++ [x]))) → (wr.alloc (.cells #[.int .i64 (x : Int)] 3)).grownBy w7 u7.ownBlock → Below w7.heap.size w7 w8 → w8.ownsRow wo.heap.size 3 1 v2 (t + 1) (zcells (toIs (its N k (t + 1)))) ∧ Below wo.heap.size wo w8 := fun v2 w7 w8 ho hg hb => by
            rw [its_succ, unhide HXE]
            exact ⟨owns_below ho hb, bto (((unhide HBx).alloc hszx _).grown hg (by simp; omega) fun b hb => ((unhide HFx).lt b hb).1) hb⟩
          have bel7 : ∀ (w7 : World), (wr.alloc (.cells #[.int .i64 (x : Int)] 3)).grownBy w7 u7.ownBlock → Bg w w7 (.int .i64 (V : Int)) (.slice a n cap) := fun w7 hg => (unhide HBr).step (((unhide HBx).alloc hszx _).grown hg (by simp; omega) fun b hb => ((unhide HFx).lt b hb).1)
          have HFIN := hide fin
          have HBEL := hide bel7
          clear fin bel7
          cases lb with
          | true =>
            go_wp2_with (at_builtin; refine wpList_append_own _ rfl (.tmp 32) (.tmp 34) 37 rfl wo.heap.size 3 i0 (.int .i64 0) 1 8 Tryd.underlying37 (unhide HI) (unhide HZ0) (unhide HZ1) (unhide HZ2) rfl (by decide) u7 t (zcells (toIs (its N k t))) rfl ((unhide HFx).alloc _) ⟨wr.heap.size, 0, none⟩ 1 1 [.int .i64 (x : Int)] rfl rfl (cell_one_new _ _ _) (one_i (x : Int)) ?a3 ?a4 ?a5 ?_)
            case a3 => unfold maxLen; omega
            case a4 => omega
            case a5 => simp; omega
            intro v2 w7 hown7 hg7 _
            rw [zcells_snoc, toIs_snoc] at hown7
            have HO7 := hide hown7
            have HG7 := hide hg7
            have HB7 := hide (unhide HBEL w7 hg7)
            have hsl2 := slen_owns hown7
            obtain ⟨g4, g5⟩ := (unhide HB7).cells
            clear hown7 hg7
            go_wp2_with fail
            refine (unhide HCN _ (unhide HB7).bel).mono ?_
            rintro e w8 ⟨rfl, hb8⟩
            have HF8 := hide (unhide HFIN v2 w7 w8 (unhide HO7) (unhide HG7) hb8)
            clear hb8 g4 g5
            go_wp2_with fail
            go_roundw
            case rel => exact ⟨t + 1, by rw [unhide HNX1], by omega, by omega, by rw [unhide HLBS]; simp, (unhide HF8).1, (unhide HF8).2⟩
            case measure => omega
          | false =>
            go_wp2_with (at_builtin; refine wpList_append_own _ rfl (.tmp 32) (.tmp 34) 37 rfl wo.heap.size 3 i0 (.int .i64 0) 1 8 Tryd.underlying37 (unhide HI) (unhide HZ0) (unhide HZ1) (unhide HZ2) rfl (by decide) u7 t (zcells (toIs (its N k t))) rfl ((unhide HFx).alloc _) ⟨wr.heap.size, 0, none⟩ 1 1 [.int .i64 (x : Int)] rfl rfl (cell_one_new _ _ _) (one_i (x : Int)) ?a3 ?a4 ?a5 ?_)
            case a3 => unfold maxLen; omega
            case a4 => omega
            case a5 => simp; omega
            intro v2 w7 hown7 hg7 _
            rw [zcells_snoc, toIs_snoc] at hown7
            have HO7 := hide hown7
            have HG7 := hide hg7
            have HB7 := hide (unhide HBEL w7 hg7)
            have hsl2 := slen_owns hown7
            obtain ⟨g4, g5⟩ := (unhide HB7).cells
            clear hown7 hg7
            go_wp2_with fail
            refine (unhide HCN _ (unhide HB7).bel).mono ?_
            rintro e w8 ⟨rfl, hb8⟩
            have HF8 := hide (unhide HFIN v2 w7 w8 (unhide HO7) (unhide HG7) hb8)
            clear hb8 g4 g5
            go_wp2_with fail
            go_roundw
            case rel => exact ⟨t + 1, by rw [unhide HNX1], by omega, by omega, by rw [unhide HLBS]; simp, (unhide HF8).1, (unhide HF8).2⟩
            case measure => omega
        · obtain rfl : t = P + 1 := by omega
          rw [unhide HP2, unhide HLEN]
          have t1 : ((k : Int) != (k : Int)) = false := by simp
          have HOx := hide ((unhide HO).step (unhide HBx))
          have HFy := hide (show wr.ownsRow w1.heap.size 3 1 u7 (orb N H k).length (zcells (toIs (orb N H k))) by
            rw [unhide HORB, its_length]
            exact owns_mono (unhide HFx) (unhide HO).bel.size)
          have hsucc := facesF_succ N H k
          obtain ⟨fa, fc, hfv⟩ := owns_slice (unhide HFy)
          subst hfv
          cases hl : isLeast N H k with
          | true =>
            rw [hl] at hsucc
            have HSU := hide hsucc
            have hs1 := (unhide HOx).bel.size
            clear hsucc hl
            go_wp2_with (at_builtin; refine wpList_append_own _ rfl (.tmp 43) (.tmp 45) 25 rfl w1.heap.size 37 j0 (.slice none 0 0) 1 24 Tryd.underlying25 (unhide HJ) (unhide HY0) (unhide HY1) (unhide HY2) rfl (by decide) u5 (facesF N H k).length _ rfl ((unhide HOx).own.alloc _) ⟨wr.heap.size, 0, none⟩ 1 1 [.slice fa (orb N H k).length fc] rfl rfl (cell_one_new _ _ _) one_v ?a3 ?a4 ?a5 ?_)
            case a3 => unfold maxLen; omega
            case a4 => omega
            case a5 => first | omega | (simp; omega)
            intro v2 w7 hown7 hg7 _
            have hp7 := Ol.push ((unhide HOx).step (b_al _)) (owns_below (unhide HFy) (b_al _)) hown7 hg7
            have HP7 := hide (show Ol w1 w7 v2 (upd R (facesF N H k).length (.slice fa (orb N H k).length fc)) (facesF N H (k + 1)) by rw [unhide HSU]; exact hp7)
            clear hp7 hown7 hg7
            go_wp2_with fail
            go_roundw
            case rel => exact ⟨k + 1, _, by go_num, by omega, HP7⟩
            case measure => simp [intOf]; omega
          | false =>
            rw [hl] at hsucc
            have HO2 := hide (show Ol w1 wr u5 R (facesF N H (k + 1)) by rw [hsucc]; simpa using unhide HOx)
            clear hsucc hl
            go_wp2_with fail
            go_roundw
            case rel => exact ⟨k + 1, R, by go_num, by omega, HO2⟩
            case measure => simp [intOf]; omega
    · obtain rfl : k = H := by omega
      have hfe := (unhide HPM).faces_len (Nat.le_refl k)
      obtain ⟨ba, bc, rfl, hbc, hrr⟩ := (unhide HO).read (by omega) (fun j hj => by have := hfe _ (show (facesF N k k).getD j [] ∈ facesF N k k by simp [List.getD, hj]); omega)
      have HRR := hide hrr
      clear hrr hfe
      go_wp2_with fail
      go_ret
      exact ⟨⟨ba, bc, rfl, hbc, unhide HRR⟩, (unhide HBr).bel⟩
end Go.Proofs.YtefagplbpbkpgaaDoor

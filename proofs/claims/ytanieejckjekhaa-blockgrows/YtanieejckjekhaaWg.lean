/-
  The walk of the statement BlockGrows. Conditions: the graph lies in memory as told.
-/
import Derived.Test.YtanieejckjekhaaGm
import Derived.OrdersHeld
import Derived.Deep.CutBlock
import Derived.Deep.CutRange
import Derived.Deep.RegionHeld
namespace Go.Proofs.Ytanieejckjekhaa
open Go.RowKit
set_option linter.unusedVariables false
set_option maxRecDepth 20000

theorem snoc_plain {V : Nat} {es : List (Nat × Nat)} (hp : Plain V es) (hn : es.length ≤ 100) {a b : Nat} (ha : a < V) (hb : b < V) : Plain V (es ++ [(a, b)]) := by
  refine ⟨hp.v1, hp.v64, by simp; omega, fun e he => ?_⟩
  rcases List.mem_append.1 he with he | he
  · exact hp.ends e he
  · simp at he
    subst he
    exact ⟨ha, hb⟩
theorem at_snoc {es : List (Nat × Nat)} {e : Nat × Nat} {i : Nat} (hi : i < es.length) : Pl.at' (es ++ [e]) i = Pl.at' es i := by
  unfold Pl.at'
  simp [List.getD, List.getElem?_append, hi]
theorem at_last {es : List (Nat × Nat)} {e : Nat × Nat} : Pl.at' (es ++ [e]) es.length = e := by
  unfold Pl.at'
  simp [List.getD]
theorem snoc_nl {es : List (Nat × Nat)} (hn : Df.NoLoop es) {a b : Nat} (hab : a ≠ b) : Df.NoLoop (es ++ [(a, b)]) := by
  intro i hi
  by_cases h : i < es.length
  · rw [at_snoc h]; exact hn i h
  · have : i = es.length := by simp at hi; omega
    subst this
    rw [at_last]
    exact hab
theorem en_snoc {es : List (Nat × Nat)} {x : Nat × Nat} {e u v : Nat} (h : Df.En es e u v) : Df.En (es ++ [x]) e u v := ⟨by simp; have := h.1; omega, by rw [at_snoc h.1]; exact h.2⟩
theorem cn_snoc {es : List (Nat × Nat)} {x : Nat × Nat} {y a b : Nat} (h : Df.Cn es y a b) : Df.Cn (es ++ [x]) y a b := fun R h1 h2 => h R h1 fun e u v he => h2 e u v (en_snoc he)
/-- with an edge more what is in one block stays so -/
theorem bk_snoc {es : List (Nat × Nat)} {x : Nat × Nat} {i j : Nat} (h : Df.Bk es i j) : Df.Bk (es ++ [x]) i j := h.mono fun i j ⟨y, a, b, h1, h2, h3⟩ => ⟨y, a, b, en_snoc h1, en_snoc h2, cn_snoc h3⟩

theorem getD_at {l : List Nat} {j : Nat} (hj : j < l.length) : l.getD j 0 = l[j] := by simp [List.getD, hj]
/-- each edge's place (and 1), for those of the first k lists and of the k-th one the first j -/
structure AtInv (L : List (List Nat)) (k j : Nat) (F : Nat → Nat) : Prop where
  done : ∀ k', k' < k → ∀ i ∈ L.getD k' [], F i = k' + 1
  now : ∀ i ∈ (L.getD k []).take j, F i = k + 1
  only : ∀ i, F i ≠ 0 → (∃ k', k' < k ∧ i ∈ L.getD k' []) ∨ i ∈ (L.getD k []).take j
theorem AtInv.start (L : List (List Nat)) : AtInv L 0 0 (fun _ => 0) := ⟨fun k' h => by omega, by simp, fun i h => absurd rfl h⟩
theorem AtInv.zero {es : List (Nat × Nat)} {L : List (List Nat)} (hL : IsBl es L) {k j : Nat} {F : Nat → Nat} (h : AtInv L k j F) (hk : k < L.length) (hj : j < (L.getD k []).length) : F ((L.getD k []).getD j 0) = 0 := by
  apply Classical.byContradiction
  intro hne
  have hmem : (L.getD k []).getD j 0 ∈ L.getD k [] := by rw [getD_at hj]; exact List.getElem_mem hj
  have hkm : L.getD k [] ∈ L := by simp [List.getD, hk]
  rcases h.only _ hne with ⟨k', hk', hi⟩ | hi
  · have hkm' : L.getD k' [] ∈ L := by simp [List.getD, show k' < L.length by omega]
    have he := Df.flat_one hL.cls.nd hkm' hkm hi hmem
    have hlt := List.pairwise_iff_getElem.1 hL.ord k' k (by omega) hk hk'
    have e1 : L.getD k' [] = L[k'] := by simp [List.getD, show k' < L.length by omega]
    have e2 : L.getD k [] = L[k] := by simp [List.getD, hk]
    rw [e1, e2] at he
    rw [he] at hlt
    omega
  · have hp := hL.srt _ hkm
    obtain ⟨a, ha, hae⟩ := List.mem_iff_getElem.1 hi
    simp only [List.length_take] at ha
    rw [List.getElem_take] at hae
    have := List.pairwise_iff_getElem.1 hp a j (by omega) hj (by omega)
    have h2 := getD_at hj
    omega
theorem AtInv.step {es : List (Nat × Nat)} {L : List (List Nat)} (hL : IsBl es L) {k j : Nat} {F : Nat → Nat} (h : AtInv L k j F) (hk : k < L.length) (hj : j < (L.getD k []).length) : AtInv L k (j + 1) (upd F ((L.getD k []).getD j 0) (k + 1)) := by
  have h0 := h.zero hL hk hj
  have htk : (L.getD k []).take (j + 1) = (L.getD k []).take j ++ [(L.getD k []).getD j 0] := by
    rw [List.take_add_one, getD_at hj, List.getElem?_eq_getElem hj]
    rfl
  refine ⟨fun k' hk' i hi => ?_, fun i hi => ?_, fun i hne => ?_⟩
  · have := h.done k' hk' i hi
    rw [upd_other _ _ (fun e => by rw [e] at this; omega)]
    exact this
  · rw [htk] at hi
    rcases List.mem_append.1 hi with hi | hi
    · have := h.now i hi
      rw [upd_other _ _ (fun e => by rw [e] at this; omega)]
      exact this
    · simp only [List.mem_singleton] at hi
      rw [hi, upd_same]
  · rw [htk]
    by_cases hi : i = (L.getD k []).getD j 0
    · exact .inr (by rw [hi]; simp)
    · rw [upd_other _ _ hi] at hne
      rcases h.only i hne with h1 | h1
      · exact .inl h1
      · exact .inr (List.mem_append_left _ h1)
theorem AtInv.next {L : List (List Nat)} {k j : Nat} {F : Nat → Nat} (h : AtInv L k j F) (hj : j = (L.getD k []).length) : AtInv L (k + 1) 0 F := by
  subst hj
  refine ⟨fun k' hk' i hi => ?_, by simp, fun i hne => ?_⟩
  · by_cases e : k' = k
    · subst e
      exact h.now i (by rw [List.take_length]; exact hi)
    · exact h.done k' (by omega) i hi
  · rcases h.only i hne with ⟨k', h1, h2⟩ | h1
    · exact .inl ⟨k', by omega, h2⟩
    · rw [List.take_length] at h1
      exact .inl ⟨k, by omega, h1⟩
/-- all is told: the place of each -/
theorem AtInv.full {es : List (Nat × Nat)} {L : List (List Nat)} (hL : IsBl es L) {F : Nat → Nat} (h : AtInv L L.length 0 F) {i : Nat} (hi : i < es.length) : ∃ k, k < L.length ∧ i ∈ L.getD k [] ∧ F i = k + 1 := by
  obtain ⟨B, hB, hiB⟩ := List.mem_flatten.1 ((hL.cls.mem i).2 hi)
  obtain ⟨k, hk, rfl⟩ := List.mem_iff_getElem.1 hB
  have e : L.getD k [] = L[k] := by simp [List.getD, hk]
  exact ⟨k, hk, by rw [e]; exact hiB, h.done k hk i (by rw [e]; exact hiB)⟩
/-- what was in one block is in one -/
theorem at_same {es : List (Nat × Nat)} {x : Nat × Nat} {L L' : List (List Nat)} (hL : IsBl es L) (hL' : IsBl (es ++ [x]) L') {F : Nat → Nat} (h : AtInv L' L'.length 0 F) {B : List Nat} (hB : B ∈ L) {i j : Nat} (hi : i ∈ B) (hj : j ∈ B) : F i ≠ 0 ∧ F i = F j ∧ i < es.length ∧ j < es.length := by
  have hi1 : i < es.length := (hL.cls.mem i).1 (List.mem_flatten.2 ⟨B, hB, hi⟩)
  have hj1 : j < es.length := (hL.cls.mem j).1 (List.mem_flatten.2 ⟨B, hB, hj⟩)
  have hb := bk_snoc (x := x) ((hL.cls.cls B hB i hi j hj1).1 hj)
  obtain ⟨k, hk, hik, hF⟩ := h.full hL' (i := i) (by simp; omega)
  have hkm : L'.getD k [] ∈ L' := by simp [List.getD, hk]
  have hjk := (hL'.cls.cls _ hkm i hik j (by simp; omega)).2 hb
  have := h.done k hk j hjk
  omega

set_option maxHeartbeats 16000000 in
theorem grows_walk (w : World) (V : Nat) (a : Option Addr) (n cap : Nat) (es : List (Nat × Nat)) (x0 y0 : Int) {B : Nat} (h : Es B w a n (toI es)) (hne : es.length = n) (hnil : a = none → n = 0 ∧ cap = 0) (hp : Plain V es) (hnl : Df.NoLoop es) (hlo : ¬ LooseP (V : Int) n (toI es)) (hn : n ≤ 40) :
    Calls Try.prog 6 #[.agg #[.int .i64 V, .slice a n cap], .int .i64 x0, .int .i64 y0] w fun e w' => e = .returned (.bool true) ∧ Below w.heap.size w w' := by
  have hv64 := hp.v64
  have hv1 := hp.v1
  have HE := hide h
  have HP := hide hp
  have HN := hide hne
  have HNL := hide hnl
  have HNIL := hide hnil
  have hn' : (n : Int) ≤ 100 := by omega
  have HB0 := hide (Bg.start w (.int .i64 V) (.slice a n cap))
  have HLO := hide hlo
  clear h hp hne hnl hnil hlo
  go_enter Try.func6, Try.ntmps6
  go_wp2_with fail
  refine (speaks_any _).mono ?_
  rintro e w1 ⟨rfl, hb1⟩
  have HB1 := hide ((unhide HB0).step hb1)
  obtain ⟨g0, g1⟩ := (unhide HB1).cells
  clear hb1 HB0
  go_wp2_with fail
  refine (loose_any _ V a n cap (toI es) (.inr ((unhide HE).below (unhide HB1).bel))).mono ?_
  rintro e w2 ⟨⟨r, rfl, hr⟩, hb2⟩
  have hrf : r = false := by
    cases r with
    | false => rfl
    | true => exact absurd (hr.1 rfl) (unhide HLO)
  subst hrf
  have HB2 := hide ((unhide HB1).step hb2)
  clear hb2 HB1 g0 g1 hr
  obtain ⟨g0, g1⟩ := (unhide HB2).cells
  go_wp2_with fail
  have hmod : ∀ z : Int, ∃ p : Nat, Int.tmod (z % 65536) (V : Int) = (p : Int) ∧ p < V := fun z => by
    have h1 := Int.tmod_nonneg (V : Int) (show 0 ≤ z % 65536 by omega)
    have h2 := Int.tmod_lt_of_pos (z % 65536) (show (0 : Int) < (V : Int) by omega)
    exact ⟨((z % 65536).tmod (V : Int)).toNat, by omega, by omega⟩
  obtain ⟨p, hpp, hpV⟩ := hmod x0
  obtain ⟨q, hqq, hqV⟩ := hmod y0
  clear hmod
  have hx5 := i64_and65535 x0
  have hy5 := i64_and65535 y0
  have hVz : ¬ V = 0 := by omega
  have hwp : IntKind.i64.wrap (p : Int) = (p : Int) := by rw [IntKind.wrap_i64]; omega
  have hwq : IntKind.i64.wrap (q : Int) = (q : Int) := by rw [IntKind.wrap_i64]; omega
  refine wp_region_held_drew (S := fun u => u.cell? ⟨w.heap.size, 0, none⟩ = some (.int .i64 V)) (by kernel_rfl) g0 (fun hS0 => ?_)
  refine wpAnyH_take (i := 0) (v := ?_) rfl (by kernel_rfl) (by kernel_rfl) (by kernel_rfl) (fun _ _ _ h => h) (Or.inl ⟨by rfl, ?_⟩) hS0 ?_
  rotate_left
  · intro u hu; (try dsimp only at hu); go_simp; try with_reducible rfl
  simp only [Act.put, List.getElem_toArray, List.getElem_cons_zero, List.setIfInBounds_toArray, List.set_cons_zero, List.set_cons_succ]
  refine wpAnyH_take (i := 1) (v := ?_) rfl (by kernel_rfl) (by kernel_rfl) (by kernel_rfl) (fun _ _ _ h => h) (Or.inl ⟨by rfl, ?_⟩) hS0 ?_
  rotate_left
  · intro u hu; (try dsimp only at hu); go_simp; try with_reducible rfl
  simp only [Act.put, List.getElem_toArray, List.getElem_cons_zero, List.getElem_cons_succ, List.setIfInBounds_toArray, List.set_cons_zero, List.set_cons_succ]
  refine wpAnyH_take (i := 2) (v := ?_) rfl (by kernel_rfl) (by kernel_rfl) (by kernel_rfl) (fun _ _ _ h => h) (Or.inl ⟨by rfl, ?_⟩) hS0 ?_
  rotate_left
  · intro u hu; (try dsimp only at hu); go_simp; try with_reducible rfl
  simp only [Act.put, List.getElem_toArray, List.getElem_cons_zero, List.getElem_cons_succ, List.setIfInBounds_toArray, List.set_cons_zero, List.set_cons_succ]
  refine wpAnyH_take (i := 3) (v := ?_) rfl (by kernel_rfl) (by kernel_rfl) (by kernel_rfl) (fun _ _ _ h => h) (Or.inl ⟨by rfl, ?_⟩) hS0 ?_
  rotate_left
  · intro u hu; (try dsimp only at hu); go_simp; try with_reducible rfl
  simp only [Act.put, List.getElem_toArray, List.getElem_cons_zero, List.getElem_cons_succ, List.setIfInBounds_toArray, List.set_cons_zero, List.set_cons_succ]
  refine wpAnyH_take (i := 4) (v := ?_) rfl (by kernel_rfl) (by kernel_rfl) (by kernel_rfl) (fun _ _ _ h => h) (Or.inl ⟨by rfl, ?_⟩) hS0 ?_
  rotate_left
  · intro u hu; (try dsimp only at hu); go_simp; try with_reducible rfl
  simp only [Act.put, List.getElem_toArray, List.getElem_cons_zero, List.getElem_cons_succ, List.setIfInBounds_toArray, List.set_cons_zero, List.set_cons_succ]
  refine wpAnyH_take (i := 5) (v := ?_) rfl (by kernel_rfl) (by kernel_rfl) (by kernel_rfl) (fun _ _ _ h => h) (Or.inl ⟨by rfl, ?_⟩) hS0 ?_
  rotate_left
  · intro u hu; (try dsimp only at hu); go_simp; try with_reducible rfl
  simp only [Act.put, List.getElem_toArray, List.getElem_cons_zero, List.getElem_cons_succ, List.setIfInBounds_toArray, List.set_cons_zero, List.set_cons_succ]
  refine wpAnyH_take (i := 6) (v := ?_) rfl (by kernel_rfl) (by kernel_rfl) (by kernel_rfl) (fun _ _ _ h => h) (Or.inl ⟨by rfl, ?_⟩) hS0 ?_
  rotate_left
  · intro u hu; (try dsimp only at hu); go_simp; try with_reducible rfl
  simp only [Act.put, List.getElem_toArray, List.getElem_cons_zero, List.getElem_cons_succ, List.setIfInBounds_toArray, List.set_cons_zero, List.set_cons_succ]
  refine wpAnyH_take (i := 7) (v := ?_) rfl (by kernel_rfl) (by kernel_rfl) (by kernel_rfl) (fun _ _ _ h => h) (Or.inl ⟨by rfl, ?_⟩) hS0 ?_
  rotate_left
  · intro u hu; (try dsimp only at hu); go_simp; try with_reducible rfl
  simp only [Act.put, List.getElem_toArray, List.getElem_cons_zero, List.getElem_cons_succ, List.setIfInBounds_toArray, List.set_cons_zero, List.set_cons_succ]
  refine wpAnyH_take (i := 8) (v := ?_) rfl (by kernel_rfl) (by kernel_rfl) (by kernel_rfl) (fun _ _ _ h => h) (Or.inl ⟨by rfl, ?_⟩) hS0 ?_
  rotate_left
  · intro u hu; (try dsimp only at hu); go_simp; try with_reducible rfl
  simp only [Act.put, List.getElem_toArray, List.getElem_cons_zero, List.getElem_cons_succ, List.setIfInBounds_toArray, List.set_cons_zero, List.set_cons_succ]
  refine wpAnyH_take (i := 9) (v := ?_) rfl (by kernel_rfl) (by kernel_rfl) (by kernel_rfl) (fun _ _ _ h => h) (Or.inl ⟨by rfl, ?_⟩) hS0 ?_
  rotate_left
  · intro u hu; (try dsimp only at hu); go_simp; try with_reducible rfl
  simp only [Act.put, List.getElem_toArray, List.getElem_cons_zero, List.getElem_cons_succ, List.setIfInBounds_toArray, List.set_cons_zero, List.set_cons_succ]
  refine wpAnyH_take (i := 10) (v := ?_) rfl (by kernel_rfl) (by kernel_rfl) (by kernel_rfl) (fun _ _ _ h => h) (Or.inl ⟨by rfl, ?_⟩) hS0 ?_
  rotate_left
  · intro u hu; (try dsimp only at hu); go_simp; try with_reducible rfl
  simp only [Act.put, List.getElem_toArray, List.getElem_cons_zero, List.getElem_cons_succ, List.setIfInBounds_toArray, List.set_cons_zero, List.set_cons_succ]
  refine wpAnyH_take (i := 11) (v := ?_) rfl (by kernel_rfl) (by kernel_rfl) (by kernel_rfl) (fun _ _ _ h => h) (Or.inl ⟨by rfl, ?_⟩) hS0 ?_
  rotate_left
  · intro u hu; (try dsimp only at hu); go_simp; try with_reducible rfl
  simp only [Act.put, List.getElem_toArray, List.getElem_cons_zero, List.getElem_cons_succ, List.setIfInBounds_toArray, List.set_cons_zero, List.set_cons_succ]
  refine wpAnyH_done (by kernel_rfl) ?_ _
  have HB3 := hide ((unhide HB2).step b_dr)
  clear hS0 g0 g1 HB2
  generalize w2.drew = w3 at HB3 ⊢
  by_cases hpq : p = q
  · have hpq2 : ((p : Int) == (q : Int)) = true := by simp [hpq]
    clear hpq
    go_wp2_with fail
    go_ret
    exact ⟨rfl, (unhide HB3).bel⟩
  have hpq2 : ((p : Int) == (q : Int)) = false := by rw [beq_eq_false_iff_ne]; omega
  have HPQ := hide hpq
  clear hpq
  go_upto_region 8 with fail
  have hlen1 : (toI es ++ [((p : Int), (q : Int))]).length = n + 1 := by rw [List.length_append, toI_length, unhide HN]; rfl
  go_cut [7] from 34 to 45 (fun v7 wx => ∃ gb va vc, v7 = .pointer (some ⟨gb, 0, none⟩) ∧ Hid (Bg w wx (.int .i64 V) (.slice a n cap)) ∧ Hid (wx.heap[gb]? = some (.cells #[.int .i64 (V : Int), .slice va (n + 1) vc] 24 (0, 0))) ∧ Hid (wx.ownsRow w3.heap.size 40 2 (.slice va (n + 1) vc) (toI es ++ [((p : Int), (q : Int))]).length (ecells (toI es ++ [((p : Int), (q : Int))]))))
  case first =>
    have XD := hide ((unhide HB3).step b_dr)
    refine wp_region_held_drew (S := fun u => u.cell? ⟨w.heap.size, 0, none⟩ = some (.int .i64 V) ∧ u.cell? ⟨w.heap.size, 1, none⟩ = some (.slice a n cap)) (by kernel_rfl) (unhide XD).cells (fun hS => ?_)
    have HSU := hide (show w3.drew.heap.size = w3.heap.size from rfl)
    generalize w3.drew = u0 at XD hS HSU ⊢
    have HEU := hide ((unhide HE).below (unhide XD).bel)
    have KY := hide (Gm.start u0 true)
    refine wpAnyH_take (i := 0) (v := ?_) rfl (by kernel_rfl) (by kernel_rfl) (by kernel_rfl) (fun _ _ _ h => h) (Or.inl ⟨by rfl, ?_⟩) hS ?_
    rotate_left
    · intro u hu; (try dsimp only at hu); go_simp; try with_reducible rfl
    simp only [Act.put, List.getElem_toArray, List.getElem_cons_zero, List.setIfInBounds_toArray, List.set_cons_zero, List.set_cons_succ]
    refine wpAnyH_take (i := 1) (v := ?_) rfl (by kernel_rfl) (by kernel_rfl) (by kernel_rfl) (fun _ _ _ h => h) (Or.inl ⟨by rfl, ?_⟩) hS ?_
    rotate_left
    · intro u hu; (try dsimp only at hu); go_simp; try with_reducible rfl
    simp only [Act.put, List.getElem_toArray, List.getElem_cons_zero, List.getElem_cons_succ, List.setIfInBounds_toArray, List.set_cons_zero, List.set_cons_succ]
    refine wpAnyH_take (i := 3) (v := ?_) rfl (by kernel_rfl) (by kernel_rfl) (by kernel_rfl) (fun _ _ _ h => h) (Or.inl ⟨by rfl, ?_⟩) hS ?_
    rotate_left
    · intro u hu; (try dsimp only at hu); go_simp; try with_reducible rfl
    simp only [Act.put, List.getElem_toArray, List.getElem_cons_zero, List.getElem_cons_succ, List.setIfInBounds_toArray, List.set_cons_zero, List.set_cons_succ]
    refine wpAnyH_take (i := 4) (v := ?_) rfl (by kernel_rfl) (by kernel_rfl) (by kernel_rfl) (fun _ _ _ h => h) (Or.inl ⟨by rfl, ?_⟩) hS ?_
    rotate_left
    · intro u hu; (try dsimp only at hu); go_simp; try with_reducible rfl
    simp only [Act.put, List.getElem_toArray, List.getElem_cons_zero, List.getElem_cons_succ, List.setIfInBounds_toArray, List.set_cons_zero, List.set_cons_succ]
    refine wpAnyH_take (i := 6) (v := ?_) rfl (by kernel_rfl) (by kernel_rfl) (by kernel_rfl) (fun _ _ _ h => h) (Or.inl ⟨by rfl, ?_⟩) hS ?_
    rotate_left
    · intro u hu; (try dsimp only at hu); go_simp; try with_reducible rfl
    simp only [Act.put, List.getElem_toArray, List.getElem_cons_zero, List.getElem_cons_succ, List.setIfInBounds_toArray, List.set_cons_zero, List.set_cons_succ]
    refine wpAnyH_take (i := 7) (v := ?_) rfl (by kernel_rfl) (by kernel_rfl) (by kernel_rfl) (fun _ _ _ h => h) (Or.inl ⟨by rfl, ?_⟩) hS ?_
    rotate_left
    · intro u hu; (try dsimp only at hu); go_simp; try with_reducible rfl
    simp only [Act.put, List.getElem_toArray, List.getElem_cons_zero, List.getElem_cons_succ, List.setIfInBounds_toArray, List.set_cons_zero, List.set_cons_succ]
    refine wpAnyH_take (i := 8) (v := ?_) rfl (by kernel_rfl) (by kernel_rfl) (by kernel_rfl) (fun _ _ _ h => h) (Or.inl ⟨by rfl, ?_⟩) hS ?_
    rotate_left
    · intro u hu; (try dsimp only at hu); go_simp; try with_reducible rfl
    simp only [Act.put, List.getElem_toArray, List.getElem_cons_zero, List.getElem_cons_succ, List.setIfInBounds_toArray, List.set_cons_zero, List.set_cons_succ]
    refine wpAnyH_ready (rs := [2, 9, 12]) (by kernel_rfl) (by simp) ?_
    refine AllReadyH.cons rfl (fun K hK => ?_) (AllReadyH.cons rfl (fun K hK => ?_) (AllReadyH.cons rfl (fun K hK => ?_) AllReadyH.nil))
    · go_simp
      have KY2 : Hid (Gm u0 (u0.alloc (.cells #[] 40)) true (some (.slice (some ⟨u0.heap.size, 0, none⟩) 0 0)) [] none none) := (unhide KY).row
      refine hK.out _ _ (((unhide XD).step (unhide KY2).bel).cells) (fun hS2 => ?_)
      clear hK K hS KY; have hS := hS2; clear hS2; have KY := KY2; clear KY2
      generalize u0.alloc (.cells #[] 40) = uk1 at KY hS ⊢
      generalize u0.heap.size = bk2 at KY ⊢
      refine wpAnyH_ready (rs := [5, 9, 12]) (by kernel_rfl) (by simp) ?_
      refine AllReadyH.cons rfl (fun K hK => ?_) (AllReadyH.cons rfl (fun K hK => ?_) (AllReadyH.cons rfl (fun K hK => ?_) AllReadyH.nil))
      · rw [if_pos (by rfl)]
        refine Gm.app (unhide KY) (.inl rfl) (.tmp 36) (.tmp 38) rfl rfl a n cap (toI es) rfl (unhide HNIL) ((unhide HEU).below (unhide KY).bel) (by simp; omega) ?_
        intro vk4 uk3 ky2
        rw [List.nil_append] at ky2
        have KY2 : Hid (Gm u0 uk3 false (some vk4) (toI es) none none) := ky2
        clear ky2
        refine hK.out _ _ (((unhide XD).step (unhide KY2).bel).cells) (fun hS2 => ?_)
        clear hK K hS KY; have hS := hS2; clear hS2; have KY := KY2; clear KY2
        simp only [Act.put, List.getElem_toArray, List.getElem_cons_zero, List.getElem_cons_succ, List.setIfInBounds_toArray, List.set_cons_zero, List.set_cons_succ]
        refine wpAnyH_ready (rs := [9, 12]) (by kernel_rfl) (by simp) ?_
        refine AllReadyH.cons rfl (fun K hK => ?_) (AllReadyH.cons rfl (fun K hK => ?_) AllReadyH.nil)
        · go_simp
          have KY2 : Hid (Gm u0 (uk3.alloc (.cells #[.int .i64 (p : Int), .int .i64 (q : Int)] 40)) false (some vk4) (toI es) (some (uk3.heap.size, (p : Int), (q : Int))) none) := (unhide KY).edge (p : Int) (q : Int)
          refine hK.out _ _ (((unhide XD).step (unhide KY2).bel).cells) (fun hS2 => ?_)
          clear hK K hS KY; have hS := hS2; clear hS2; have KY := KY2; clear KY2
          generalize uk3.alloc (.cells #[.int .i64 (p : Int), .int .i64 (q : Int)] 40) = uk5 at KY hS ⊢
          generalize uk3.heap.size = bk6 at KY ⊢
          refine wpAnyH_ready (rs := [10, 12]) (by kernel_rfl) (by simp) ?_
          refine AllReadyH.cons rfl (fun K hK => ?_) (AllReadyH.cons rfl (fun K hK => ?_) AllReadyH.nil)
          · rw [if_pos (by rfl)]
            refine Gm.appE (unhide KY) (.tmp 39) (.tmp 43) rfl rfl 1 rfl (by rw [toI_length, unhide HN]; omega) ?_
            intro vk8 uk7 ky2
            have KY2 : Hid (Gm u0 uk7 false (some vk8) (toI es ++ [((p : Int), (q : Int))]) none none) := ky2
            clear ky2
            refine hK.out _ _ (((unhide XD).step (unhide KY2).bel).cells) (fun hS2 => ?_)
            clear hK K hS KY; have hS := hS2; clear hS2; have KY := KY2; clear KY2
            simp only [Act.put, List.getElem_toArray, List.getElem_cons_zero, List.getElem_cons_succ, List.setIfInBounds_toArray, List.set_cons_zero, List.set_cons_succ]
            obtain ⟨va, vc, rfl, _⟩ := es_of_owns ((unhide KY).hrow vk8 rfl) (by rw [List.length_append, toI_length, unhide HN]; simp; omega)
            rw [hlen1] at KY ⊢
            refine wpAnyH_take (i := 11) (v := ?_) rfl (by kernel_rfl) (by kernel_rfl) (by kernel_rfl) (fun _ _ _ h => h) (Or.inl ⟨by rfl, ?_⟩) hS ?_
            rotate_left
            · intro u hu; (try dsimp only at hu); go_simp; try with_reducible rfl
            simp only [Act.put, List.getElem_toArray, List.getElem_cons_zero, List.getElem_cons_succ, List.setIfInBounds_toArray, List.set_cons_zero, List.set_cons_succ]
            refine wpAnyH_ready (rs := [12]) (by kernel_rfl) (by simp) ?_
            refine AllReadyH.cons rfl (fun K hK => ?_) AllReadyH.nil
            go_simp
            have KY2 : Hid (Gm u0 (uk7.alloc (.cells #[.int .i64 0, .slice none 0 0] 24)) false (some (.slice va (n + 1) vc)) (toI es ++ [((p : Int), (q : Int))]) none (some uk7.heap.size)) := (unhide KY).box
            refine hK.out _ _ (((unhide XD).step (unhide KY2).bel).cells) (fun hS2 => ?_)
            clear hK K hS KY; have hS := hS2; clear hS2; have KY := KY2; clear KY2
            generalize uk7.alloc (.cells #[.int .i64 0, .slice none 0 0] 24) = uk9 at KY hS ⊢
            generalize uk7.heap.size = bk10 at KY ⊢
            obtain ⟨t0, t1, t2, t3⟩ := (unhide KY).boxCells
            refine wpAnyH_ready (rs := [13]) (by kernel_rfl) (by simp) ?_
            refine AllReadyH.cons rfl (fun K hK => ?_) AllReadyH.nil
            go_simp
            have KZ := hide ((unhide KY).stored (.int .i64 (V : Int)) (.slice va (n + 1) vc))
            refine hK.out _ _ (((unhide XD).step (unhide KZ).1).cells) (fun hS2 => ?_)
            clear hK K hS hS2 t0 t1 t2 t3
            refine wpAnyH_done (by kernel_rfl) ?_ _
            go_wp2_with fail
            go_meet
            exact ⟨bk10, va, vc, rfl, (unhide XD).step (unhide KZ).1, (unhide KZ).2.1, (by have h := (unhide KZ).2.2; rw [unhide HSU] at h; exact h)⟩
          · go_simp
            have KY2 : Hid (Gm u0 (uk5.alloc (.cells #[.int .i64 0, .slice none 0 0] 24)) false (some vk4) (toI es) (some (bk6, (p : Int), (q : Int))) (some uk5.heap.size)) := (unhide KY).box
            refine hK.out _ _ (((unhide XD).step (unhide KY2).bel).cells) (fun hS2 => ?_)
            clear hK K hS KY; have hS := hS2; clear hS2; have KY := KY2; clear KY2
            generalize uk5.alloc (.cells #[.int .i64 0, .slice none 0 0] 24) = uk11 at KY hS ⊢
            generalize uk5.heap.size = bk12 at KY ⊢
            refine wpAnyH_ready (rs := [10]) (by kernel_rfl) (by simp) ?_
            refine AllReadyH.cons rfl (fun K hK => ?_) AllReadyH.nil
            rw [if_pos (by rfl)]
            refine Gm.appE (unhide KY) (.tmp 39) (.tmp 43) rfl rfl 1 rfl (by rw [toI_length, unhide HN]; omega) ?_
            intro vk14 uk13 ky2
            have KY2 : Hid (Gm u0 uk13 false (some vk14) (toI es ++ [((p : Int), (q : Int))]) none (some bk12)) := ky2
            clear ky2
            refine hK.out _ _ (((unhide XD).step (unhide KY2).bel).cells) (fun hS2 => ?_)
            clear hK K hS KY; have hS := hS2; clear hS2; have KY := KY2; clear KY2
            simp only [Act.put, List.getElem_toArray, List.getElem_cons_zero, List.getElem_cons_succ, List.setIfInBounds_toArray, List.set_cons_zero, List.set_cons_succ]
            obtain ⟨va, vc, rfl, _⟩ := es_of_owns ((unhide KY).hrow vk14 rfl) (by rw [List.length_append, toI_length, unhide HN]; simp; omega)
            rw [hlen1] at KY ⊢
            refine wpAnyH_take (i := 11) (v := ?_) rfl (by kernel_rfl) (by kernel_rfl) (by kernel_rfl) (fun _ _ _ h => h) (Or.inl ⟨by rfl, ?_⟩) hS ?_
            rotate_left
            · intro u hu; (try dsimp only at hu); go_simp; try with_reducible rfl
            simp only [Act.put, List.getElem_toArray, List.getElem_cons_zero, List.getElem_cons_succ, List.setIfInBounds_toArray, List.set_cons_zero, List.set_cons_succ]
            obtain ⟨t0, t1, t2, t3⟩ := (unhide KY).boxCells
            refine wpAnyH_ready (rs := [13]) (by kernel_rfl) (by simp) ?_
            refine AllReadyH.cons rfl (fun K hK => ?_) AllReadyH.nil
            go_simp
            have KZ := hide ((unhide KY).stored (.int .i64 (V : Int)) (.slice va (n + 1) vc))
            refine hK.out _ _ (((unhide XD).step (unhide KZ).1).cells) (fun hS2 => ?_)
            clear hK K hS hS2 t0 t1 t2 t3
            refine wpAnyH_done (by kernel_rfl) ?_ _
            go_wp2_with fail
            go_meet
            exact ⟨bk12, va, vc, rfl, (unhide XD).step (unhide KZ).1, (unhide KZ).2.1, (by have h := (unhide KZ).2.2; rw [unhide HSU] at h; exact h)⟩
        · go_simp
          have KY2 : Hid (Gm u0 (uk3.alloc (.cells #[.int .i64 0, .slice none 0 0] 24)) false (some vk4) (toI es) none (some uk3.heap.size)) := (unhide KY).box
          refine hK.out _ _ (((unhide XD).step (unhide KY2).bel).cells) (fun hS2 => ?_)
          clear hK K hS KY; have hS := hS2; clear hS2; have KY := KY2; clear KY2
          generalize uk3.alloc (.cells #[.int .i64 0, .slice none 0 0] 24) = uk15 at KY hS ⊢
          generalize uk3.heap.size = bk16 at KY ⊢
          refine wpAnyH_ready (rs := [9]) (by kernel_rfl) (by simp) ?_
          refine AllReadyH.cons rfl (fun K hK => ?_) AllReadyH.nil
          go_simp
          have KY2 : Hid (Gm u0 (uk15.alloc (.cells #[.int .i64 (p : Int), .int .i64 (q : Int)] 40)) false (some vk4) (toI es) (some (uk15.heap.size, (p : Int), (q : Int))) (some bk16)) := (unhide KY).edge (p : Int) (q : Int)
          refine hK.out _ _ (((unhide XD).step (unhide KY2).bel).cells) (fun hS2 => ?_)
          clear hK K hS KY; have hS := hS2; clear hS2; have KY := KY2; clear KY2
          generalize uk15.alloc (.cells #[.int .i64 (p : Int), .int .i64 (q : Int)] 40) = uk17 at KY hS ⊢
          generalize uk15.heap.size = bk18 at KY ⊢
          refine wpAnyH_ready (rs := [10]) (by kernel_rfl) (by simp) ?_
          refine AllReadyH.cons rfl (fun K hK => ?_) AllReadyH.nil
          rw [if_pos (by rfl)]
          refine Gm.appE (unhide KY) (.tmp 39) (.tmp 43) rfl rfl 1 rfl (by rw [toI_length, unhide HN]; omega) ?_
          intro vk20 uk19 ky2
          have KY2 : Hid (Gm u0 uk19 false (some vk20) (toI es ++ [((p : Int), (q : Int))]) none (some bk16)) := ky2
          clear ky2
          refine hK.out _ _ (((unhide XD).step (unhide KY2).bel).cells) (fun hS2 => ?_)
          clear hK K hS KY; have hS := hS2; clear hS2; have KY := KY2; clear KY2
          simp only [Act.put, List.getElem_toArray, List.getElem_cons_zero, List.getElem_cons_succ, List.setIfInBounds_toArray, List.set_cons_zero, List.set_cons_succ]
          obtain ⟨va, vc, rfl, _⟩ := es_of_owns ((unhide KY).hrow vk20 rfl) (by rw [List.length_append, toI_length, unhide HN]; simp; omega)
          rw [hlen1] at KY ⊢
          refine wpAnyH_take (i := 11) (v := ?_) rfl (by kernel_rfl) (by kernel_rfl) (by kernel_rfl) (fun _ _ _ h => h) (Or.inl ⟨by rfl, ?_⟩) hS ?_
          rotate_left
          · intro u hu; (try dsimp only at hu); go_simp; try with_reducible rfl
          simp only [Act.put, List.getElem_toArray, List.getElem_cons_zero, List.getElem_cons_succ, List.setIfInBounds_toArray, List.set_cons_zero, List.set_cons_succ]
          obtain ⟨t0, t1, t2, t3⟩ := (unhide KY).boxCells
          refine wpAnyH_ready (rs := [13]) (by kernel_rfl) (by simp) ?_
          refine AllReadyH.cons rfl (fun K hK => ?_) AllReadyH.nil
          go_simp
          have KZ := hide ((unhide KY).stored (.int .i64 (V : Int)) (.slice va (n + 1) vc))
          refine hK.out _ _ (((unhide XD).step (unhide KZ).1).cells) (fun hS2 => ?_)
          clear hK K hS hS2 t0 t1 t2 t3
          refine wpAnyH_done (by kernel_rfl) ?_ _
          go_wp2_with fail
          go_meet
          exact ⟨bk16, va, vc, rfl, (unhide XD).step (unhide KZ).1, (unhide KZ).2.1, (by have h := (unhide KZ).2.2; rw [unhide HSU] at h; exact h)⟩
      · go_simp
        have KY2 : Hid (Gm u0 (uk1.alloc (.cells #[.int .i64 (p : Int), .int .i64 (q : Int)] 40)) true (some (.slice (some ⟨bk2, 0, none⟩) 0 0)) [] (some (uk1.heap.size, (p : Int), (q : Int))) none) := (unhide KY).edge (p : Int) (q : Int)
        refine hK.out _ _ (((unhide XD).step (unhide KY2).bel).cells) (fun hS2 => ?_)
        clear hK K hS KY; have hS := hS2; clear hS2; have KY := KY2; clear KY2
        generalize uk1.alloc (.cells #[.int .i64 (p : Int), .int .i64 (q : Int)] 40) = uk21 at KY hS ⊢
        generalize uk1.heap.size = bk22 at KY ⊢
        refine wpAnyH_ready (rs := [5, 12]) (by kernel_rfl) (by simp) ?_
        refine AllReadyH.cons rfl (fun K hK => ?_) (AllReadyH.cons rfl (fun K hK => ?_) AllReadyH.nil)
        · rw [if_pos (by rfl)]
          refine Gm.app (unhide KY) (.inl rfl) (.tmp 36) (.tmp 38) rfl rfl a n cap (toI es) rfl (unhide HNIL) ((unhide HEU).below (unhide KY).bel) (by simp; omega) ?_
          intro vk24 uk23 ky2
          rw [List.nil_append] at ky2
          have KY2 : Hid (Gm u0 uk23 false (some vk24) (toI es) (some (bk22, (p : Int), (q : Int))) none) := ky2
          clear ky2
          refine hK.out _ _ (((unhide XD).step (unhide KY2).bel).cells) (fun hS2 => ?_)
          clear hK K hS KY; have hS := hS2; clear hS2; have KY := KY2; clear KY2
          simp only [Act.put, List.getElem_toArray, List.getElem_cons_zero, List.getElem_cons_succ, List.setIfInBounds_toArray, List.set_cons_zero, List.set_cons_succ]
          refine wpAnyH_ready (rs := [10, 12]) (by kernel_rfl) (by simp) ?_
          refine AllReadyH.cons rfl (fun K hK => ?_) (AllReadyH.cons rfl (fun K hK => ?_) AllReadyH.nil)
          · rw [if_pos (by rfl)]
            refine Gm.appE (unhide KY) (.tmp 39) (.tmp 43) rfl rfl 1 rfl (by rw [toI_length, unhide HN]; omega) ?_
            intro vk26 uk25 ky2
            have KY2 : Hid (Gm u0 uk25 false (some vk26) (toI es ++ [((p : Int), (q : Int))]) none none) := ky2
            clear ky2
            refine hK.out _ _ (((unhide XD).step (unhide KY2).bel).cells) (fun hS2 => ?_)
            clear hK K hS KY; have hS := hS2; clear hS2; have KY := KY2; clear KY2
            simp only [Act.put, List.getElem_toArray, List.getElem_cons_zero, List.getElem_cons_succ, List.setIfInBounds_toArray, List.set_cons_zero, List.set_cons_succ]
            obtain ⟨va, vc, rfl, _⟩ := es_of_owns ((unhide KY).hrow vk26 rfl) (by rw [List.length_append, toI_length, unhide HN]; simp; omega)
            rw [hlen1] at KY ⊢
            refine wpAnyH_take (i := 11) (v := ?_) rfl (by kernel_rfl) (by kernel_rfl) (by kernel_rfl) (fun _ _ _ h => h) (Or.inl ⟨by rfl, ?_⟩) hS ?_
            rotate_left
            · intro u hu; (try dsimp only at hu); go_simp; try with_reducible rfl
            simp only [Act.put, List.getElem_toArray, List.getElem_cons_zero, List.getElem_cons_succ, List.setIfInBounds_toArray, List.set_cons_zero, List.set_cons_succ]
            refine wpAnyH_ready (rs := [12]) (by kernel_rfl) (by simp) ?_
            refine AllReadyH.cons rfl (fun K hK => ?_) AllReadyH.nil
            go_simp
            have KY2 : Hid (Gm u0 (uk25.alloc (.cells #[.int .i64 0, .slice none 0 0] 24)) false (some (.slice va (n + 1) vc)) (toI es ++ [((p : Int), (q : Int))]) none (some uk25.heap.size)) := (unhide KY).box
            refine hK.out _ _ (((unhide XD).step (unhide KY2).bel).cells) (fun hS2 => ?_)
            clear hK K hS KY; have hS := hS2; clear hS2; have KY := KY2; clear KY2
            generalize uk25.alloc (.cells #[.int .i64 0, .slice none 0 0] 24) = uk27 at KY hS ⊢
            generalize uk25.heap.size = bk28 at KY ⊢
            obtain ⟨t0, t1, t2, t3⟩ := (unhide KY).boxCells
            refine wpAnyH_ready (rs := [13]) (by kernel_rfl) (by simp) ?_
            refine AllReadyH.cons rfl (fun K hK => ?_) AllReadyH.nil
            go_simp
            have KZ := hide ((unhide KY).stored (.int .i64 (V : Int)) (.slice va (n + 1) vc))
            refine hK.out _ _ (((unhide XD).step (unhide KZ).1).cells) (fun hS2 => ?_)
            clear hK K hS hS2 t0 t1 t2 t3
            refine wpAnyH_done (by kernel_rfl) ?_ _
            go_wp2_with fail
            go_meet
            exact ⟨bk28, va, vc, rfl, (unhide XD).step (unhide KZ).1, (unhide KZ).2.1, (by have h := (unhide KZ).2.2; rw [unhide HSU] at h; exact h)⟩
          · go_simp
            have KY2 : Hid (Gm u0 (uk23.alloc (.cells #[.int .i64 0, .slice none 0 0] 24)) false (some vk24) (toI es) (some (bk22, (p : Int), (q : Int))) (some uk23.heap.size)) := (unhide KY).box
            refine hK.out _ _ (((unhide XD).step (unhide KY2).bel).cells) (fun hS2 => ?_)
            clear hK K hS KY; have hS := hS2; clear hS2; have KY := KY2; clear KY2
            generalize uk23.alloc (.cells #[.int .i64 0, .slice none 0 0] 24) = uk29 at KY hS ⊢
            generalize uk23.heap.size = bk30 at KY ⊢
            refine wpAnyH_ready (rs := [10]) (by kernel_rfl) (by simp) ?_
            refine AllReadyH.cons rfl (fun K hK => ?_) AllReadyH.nil
            rw [if_pos (by rfl)]
            refine Gm.appE (unhide KY) (.tmp 39) (.tmp 43) rfl rfl 1 rfl (by rw [toI_length, unhide HN]; omega) ?_
            intro vk32 uk31 ky2
            have KY2 : Hid (Gm u0 uk31 false (some vk32) (toI es ++ [((p : Int), (q : Int))]) none (some bk30)) := ky2
            clear ky2
            refine hK.out _ _ (((unhide XD).step (unhide KY2).bel).cells) (fun hS2 => ?_)
            clear hK K hS KY; have hS := hS2; clear hS2; have KY := KY2; clear KY2
            simp only [Act.put, List.getElem_toArray, List.getElem_cons_zero, List.getElem_cons_succ, List.setIfInBounds_toArray, List.set_cons_zero, List.set_cons_succ]
            obtain ⟨va, vc, rfl, _⟩ := es_of_owns ((unhide KY).hrow vk32 rfl) (by rw [List.length_append, toI_length, unhide HN]; simp; omega)
            rw [hlen1] at KY ⊢
            refine wpAnyH_take (i := 11) (v := ?_) rfl (by kernel_rfl) (by kernel_rfl) (by kernel_rfl) (fun _ _ _ h => h) (Or.inl ⟨by rfl, ?_⟩) hS ?_
            rotate_left
            · intro u hu; (try dsimp only at hu); go_simp; try with_reducible rfl
            simp only [Act.put, List.getElem_toArray, List.getElem_cons_zero, List.getElem_cons_succ, List.setIfInBounds_toArray, List.set_cons_zero, List.set_cons_succ]
            obtain ⟨t0, t1, t2, t3⟩ := (unhide KY).boxCells
            refine wpAnyH_ready (rs := [13]) (by kernel_rfl) (by simp) ?_
            refine AllReadyH.cons rfl (fun K hK => ?_) AllReadyH.nil
            go_simp
            have KZ := hide ((unhide KY).stored (.int .i64 (V : Int)) (.slice va (n + 1) vc))
            refine hK.out _ _ (((unhide XD).step (unhide KZ).1).cells) (fun hS2 => ?_)
            clear hK K hS hS2 t0 t1 t2 t3
            refine wpAnyH_done (by kernel_rfl) ?_ _
            go_wp2_with fail
            go_meet
            exact ⟨bk30, va, vc, rfl, (unhide XD).step (unhide KZ).1, (unhide KZ).2.1, (by have h := (unhide KZ).2.2; rw [unhide HSU] at h; exact h)⟩
        · go_simp
          have KY2 : Hid (Gm u0 (uk21.alloc (.cells #[.int .i64 0, .slice none 0 0] 24)) true (some (.slice (some ⟨bk2, 0, none⟩) 0 0)) [] (some (bk22, (p : Int), (q : Int))) (some uk21.heap.size)) := (unhide KY).box
          refine hK.out _ _ (((unhide XD).step (unhide KY2).bel).cells) (fun hS2 => ?_)
          clear hK K hS KY; have hS := hS2; clear hS2; have KY := KY2; clear KY2
          generalize uk21.alloc (.cells #[.int .i64 0, .slice none 0 0] 24) = uk33 at KY hS ⊢
          generalize uk21.heap.size = bk34 at KY ⊢
          refine wpAnyH_ready (rs := [5]) (by kernel_rfl) (by simp) ?_
          refine AllReadyH.cons rfl (fun K hK => ?_) AllReadyH.nil
          rw [if_pos (by rfl)]
          refine Gm.app (unhide KY) (.inl rfl) (.tmp 36) (.tmp 38) rfl rfl a n cap (toI es) rfl (unhide HNIL) ((unhide HEU).below (unhide KY).bel) (by simp; omega) ?_
          intro vk36 uk35 ky2
          rw [List.nil_append] at ky2
          have KY2 : Hid (Gm u0 uk35 false (some vk36) (toI es) (some (bk22, (p : Int), (q : Int))) (some bk34)) := ky2
          clear ky2
          refine hK.out _ _ (((unhide XD).step (unhide KY2).bel).cells) (fun hS2 => ?_)
          clear hK K hS KY; have hS := hS2; clear hS2; have KY := KY2; clear KY2
          simp only [Act.put, List.getElem_toArray, List.getElem_cons_zero, List.getElem_cons_succ, List.setIfInBounds_toArray, List.set_cons_zero, List.set_cons_succ]
          refine wpAnyH_ready (rs := [10]) (by kernel_rfl) (by simp) ?_
          refine AllReadyH.cons rfl (fun K hK => ?_) AllReadyH.nil
          rw [if_pos (by rfl)]
          refine Gm.appE (unhide KY) (.tmp 39) (.tmp 43) rfl rfl 1 rfl (by rw [toI_length, unhide HN]; omega) ?_
          intro vk38 uk37 ky2
          have KY2 : Hid (Gm u0 uk37 false (some vk38) (toI es ++ [((p : Int), (q : Int))]) none (some bk34)) := ky2
          clear ky2
          refine hK.out _ _ (((unhide XD).step (unhide KY2).bel).cells) (fun hS2 => ?_)
          clear hK K hS KY; have hS := hS2; clear hS2; have KY := KY2; clear KY2
          simp only [Act.put, List.getElem_toArray, List.getElem_cons_zero, List.getElem_cons_succ, List.setIfInBounds_toArray, List.set_cons_zero, List.set_cons_succ]
          obtain ⟨va, vc, rfl, _⟩ := es_of_owns ((unhide KY).hrow vk38 rfl) (by rw [List.length_append, toI_length, unhide HN]; simp; omega)
          rw [hlen1] at KY ⊢
          refine wpAnyH_take (i := 11) (v := ?_) rfl (by kernel_rfl) (by kernel_rfl) (by kernel_rfl) (fun _ _ _ h => h) (Or.inl ⟨by rfl, ?_⟩) hS ?_
          rotate_left
          · intro u hu; (try dsimp only at hu); go_simp; try with_reducible rfl
          simp only [Act.put, List.getElem_toArray, List.getElem_cons_zero, List.getElem_cons_succ, List.setIfInBounds_toArray, List.set_cons_zero, List.set_cons_succ]
          obtain ⟨t0, t1, t2, t3⟩ := (unhide KY).boxCells
          refine wpAnyH_ready (rs := [13]) (by kernel_rfl) (by simp) ?_
          refine AllReadyH.cons rfl (fun K hK => ?_) AllReadyH.nil
          go_simp
          have KZ := hide ((unhide KY).stored (.int .i64 (V : Int)) (.slice va (n + 1) vc))
          refine hK.out _ _ (((unhide XD).step (unhide KZ).1).cells) (fun hS2 => ?_)
          clear hK K hS hS2 t0 t1 t2 t3
          refine wpAnyH_done (by kernel_rfl) ?_ _
          go_wp2_with fail
          go_meet
          exact ⟨bk34, va, vc, rfl, (unhide XD).step (unhide KZ).1, (unhide KZ).2.1, (by have h := (unhide KZ).2.2; rw [unhide HSU] at h; exact h)⟩
      · go_simp
        have KY2 : Hid (Gm u0 (uk1.alloc (.cells #[.int .i64 0, .slice none 0 0] 24)) true (some (.slice (some ⟨bk2, 0, none⟩) 0 0)) [] none (some uk1.heap.size)) := (unhide KY).box
        refine hK.out _ _ (((unhide XD).step (unhide KY2).bel).cells) (fun hS2 => ?_)
        clear hK K hS KY; have hS := hS2; clear hS2; have KY := KY2; clear KY2
        generalize uk1.alloc (.cells #[.int .i64 0, .slice none 0 0] 24) = uk39 at KY hS ⊢
        generalize uk1.heap.size = bk40 at KY ⊢
        refine wpAnyH_ready (rs := [5, 9]) (by kernel_rfl) (by simp) ?_
        refine AllReadyH.cons rfl (fun K hK => ?_) (AllReadyH.cons rfl (fun K hK => ?_) AllReadyH.nil)
        · rw [if_pos (by rfl)]
          refine Gm.app (unhide KY) (.inl rfl) (.tmp 36) (.tmp 38) rfl rfl a n cap (toI es) rfl (unhide HNIL) ((unhide HEU).below (unhide KY).bel) (by simp; omega) ?_
          intro vk42 uk41 ky2
          rw [List.nil_append] at ky2
          have KY2 : Hid (Gm u0 uk41 false (some vk42) (toI es) none (some bk40)) := ky2
          clear ky2
          refine hK.out _ _ (((unhide XD).step (unhide KY2).bel).cells) (fun hS2 => ?_)
          clear hK K hS KY; have hS := hS2; clear hS2; have KY := KY2; clear KY2
          simp only [Act.put, List.getElem_toArray, List.getElem_cons_zero, List.getElem_cons_succ, List.setIfInBounds_toArray, List.set_cons_zero, List.set_cons_succ]
          refine wpAnyH_ready (rs := [9]) (by kernel_rfl) (by simp) ?_
          refine AllReadyH.cons rfl (fun K hK => ?_) AllReadyH.nil
          go_simp
          have KY2 : Hid (Gm u0 (uk41.alloc (.cells #[.int .i64 (p : Int), .int .i64 (q : Int)] 40)) false (some vk42) (toI es) (some (uk41.heap.size, (p : Int), (q : Int))) (some bk40)) := (unhide KY).edge (p : Int) (q : Int)
          refine hK.out _ _ (((unhide XD).step (unhide KY2).bel).cells) (fun hS2 => ?_)
          clear hK K hS KY; have hS := hS2; clear hS2; have KY := KY2; clear KY2
          generalize uk41.alloc (.cells #[.int .i64 (p : Int), .int .i64 (q : Int)] 40) = uk43 at KY hS ⊢
          generalize uk41.heap.size = bk44 at KY ⊢
          refine wpAnyH_ready (rs := [10]) (by kernel_rfl) (by simp) ?_
          refine AllReadyH.cons rfl (fun K hK => ?_) AllReadyH.nil
          rw [if_pos (by rfl)]
          refine Gm.appE (unhide KY) (.tmp 39) (.tmp 43) rfl rfl 1 rfl (by rw [toI_length, unhide HN]; omega) ?_
          intro vk46 uk45 ky2
          have KY2 : Hid (Gm u0 uk45 false (some vk46) (toI es ++ [((p : Int), (q : Int))]) none (some bk40)) := ky2
          clear ky2
          refine hK.out _ _ (((unhide XD).step (unhide KY2).bel).cells) (fun hS2 => ?_)
          clear hK K hS KY; have hS := hS2; clear hS2; have KY := KY2; clear KY2
          simp only [Act.put, List.getElem_toArray, List.getElem_cons_zero, List.getElem_cons_succ, List.setIfInBounds_toArray, List.set_cons_zero, List.set_cons_succ]
          obtain ⟨va, vc, rfl, _⟩ := es_of_owns ((unhide KY).hrow vk46 rfl) (by rw [List.length_append, toI_length, unhide HN]; simp; omega)
          rw [hlen1] at KY ⊢
          refine wpAnyH_take (i := 11) (v := ?_) rfl (by kernel_rfl) (by kernel_rfl) (by kernel_rfl) (fun _ _ _ h => h) (Or.inl ⟨by rfl, ?_⟩) hS ?_
          rotate_left
          · intro u hu; (try dsimp only at hu); go_simp; try with_reducible rfl
          simp only [Act.put, List.getElem_toArray, List.getElem_cons_zero, List.getElem_cons_succ, List.setIfInBounds_toArray, List.set_cons_zero, List.set_cons_succ]
          obtain ⟨t0, t1, t2, t3⟩ := (unhide KY).boxCells
          refine wpAnyH_ready (rs := [13]) (by kernel_rfl) (by simp) ?_
          refine AllReadyH.cons rfl (fun K hK => ?_) AllReadyH.nil
          go_simp
          have KZ := hide ((unhide KY).stored (.int .i64 (V : Int)) (.slice va (n + 1) vc))
          refine hK.out _ _ (((unhide XD).step (unhide KZ).1).cells) (fun hS2 => ?_)
          clear hK K hS hS2 t0 t1 t2 t3
          refine wpAnyH_done (by kernel_rfl) ?_ _
          go_wp2_with fail
          go_meet
          exact ⟨bk40, va, vc, rfl, (unhide XD).step (unhide KZ).1, (unhide KZ).2.1, (by have h := (unhide KZ).2.2; rw [unhide HSU] at h; exact h)⟩
        · go_simp
          have KY2 : Hid (Gm u0 (uk39.alloc (.cells #[.int .i64 (p : Int), .int .i64 (q : Int)] 40)) true (some (.slice (some ⟨bk2, 0, none⟩) 0 0)) [] (some (uk39.heap.size, (p : Int), (q : Int))) (some bk40)) := (unhide KY).edge (p : Int) (q : Int)
          refine hK.out _ _ (((unhide XD).step (unhide KY2).bel).cells) (fun hS2 => ?_)
          clear hK K hS KY; have hS := hS2; clear hS2; have KY := KY2; clear KY2
          generalize uk39.alloc (.cells #[.int .i64 (p : Int), .int .i64 (q : Int)] 40) = uk47 at KY hS ⊢
          generalize uk39.heap.size = bk48 at KY ⊢
          refine wpAnyH_ready (rs := [5]) (by kernel_rfl) (by simp) ?_
          refine AllReadyH.cons rfl (fun K hK => ?_) AllReadyH.nil
          rw [if_pos (by rfl)]
          refine Gm.app (unhide KY) (.inl rfl) (.tmp 36) (.tmp 38) rfl rfl a n cap (toI es) rfl (unhide HNIL) ((unhide HEU).below (unhide KY).bel) (by simp; omega) ?_
          intro vk50 uk49 ky2
          rw [List.nil_append] at ky2
          have KY2 : Hid (Gm u0 uk49 false (some vk50) (toI es) (some (bk48, (p : Int), (q : Int))) (some bk40)) := ky2
          clear ky2
          refine hK.out _ _ (((unhide XD).step (unhide KY2).bel).cells) (fun hS2 => ?_)
          clear hK K hS KY; have hS := hS2; clear hS2; have KY := KY2; clear KY2
          simp only [Act.put, List.getElem_toArray, List.getElem_cons_zero, List.getElem_cons_succ, List.setIfInBounds_toArray, List.set_cons_zero, List.set_cons_succ]
          refine wpAnyH_ready (rs := [10]) (by kernel_rfl) (by simp) ?_
          refine AllReadyH.cons rfl (fun K hK => ?_) AllReadyH.nil
          rw [if_pos (by rfl)]
          refine Gm.appE (unhide KY) (.tmp 39) (.tmp 43) rfl rfl 1 rfl (by rw [toI_length, unhide HN]; omega) ?_
          intro vk52 uk51 ky2
          have KY2 : Hid (Gm u0 uk51 false (some vk52) (toI es ++ [((p : Int), (q : Int))]) none (some bk40)) := ky2
          clear ky2
          refine hK.out _ _ (((unhide XD).step (unhide KY2).bel).cells) (fun hS2 => ?_)
          clear hK K hS KY; have hS := hS2; clear hS2; have KY := KY2; clear KY2
          simp only [Act.put, List.getElem_toArray, List.getElem_cons_zero, List.getElem_cons_succ, List.setIfInBounds_toArray, List.set_cons_zero, List.set_cons_succ]
          obtain ⟨va, vc, rfl, _⟩ := es_of_owns ((unhide KY).hrow vk52 rfl) (by rw [List.length_append, toI_length, unhide HN]; simp; omega)
          rw [hlen1] at KY ⊢
          refine wpAnyH_take (i := 11) (v := ?_) rfl (by kernel_rfl) (by kernel_rfl) (by kernel_rfl) (fun _ _ _ h => h) (Or.inl ⟨by rfl, ?_⟩) hS ?_
          rotate_left
          · intro u hu; (try dsimp only at hu); go_simp; try with_reducible rfl
          simp only [Act.put, List.getElem_toArray, List.getElem_cons_zero, List.getElem_cons_succ, List.setIfInBounds_toArray, List.set_cons_zero, List.set_cons_succ]
          obtain ⟨t0, t1, t2, t3⟩ := (unhide KY).boxCells
          refine wpAnyH_ready (rs := [13]) (by kernel_rfl) (by simp) ?_
          refine AllReadyH.cons rfl (fun K hK => ?_) AllReadyH.nil
          go_simp
          have KZ := hide ((unhide KY).stored (.int .i64 (V : Int)) (.slice va (n + 1) vc))
          refine hK.out _ _ (((unhide XD).step (unhide KZ).1).cells) (fun hS2 => ?_)
          clear hK K hS hS2 t0 t1 t2 t3
          refine wpAnyH_done (by kernel_rfl) ?_ _
          go_wp2_with fail
          go_meet
          exact ⟨bk40, va, vc, rfl, (unhide XD).step (unhide KZ).1, (unhide KZ).2.1, (by have h := (unhide KZ).2.2; rw [unhide HSU] at h; exact h)⟩
    · go_simp
      have KY2 : Hid (Gm u0 (u0.alloc (.cells #[.int .i64 (p : Int), .int .i64 (q : Int)] 40)) true none [] (some (u0.heap.size, (p : Int), (q : Int))) none) := (unhide KY).edge (p : Int) (q : Int)
      refine hK.out _ _ (((unhide XD).step (unhide KY2).bel).cells) (fun hS2 => ?_)
      clear hK K hS KY; have hS := hS2; clear hS2; have KY := KY2; clear KY2
      generalize u0.alloc (.cells #[.int .i64 (p : Int), .int .i64 (q : Int)] 40) = uk53 at KY hS ⊢
      generalize u0.heap.size = bk54 at KY ⊢
      refine wpAnyH_ready (rs := [2, 12]) (by kernel_rfl) (by simp) ?_
      refine AllReadyH.cons rfl (fun K hK => ?_) (AllReadyH.cons rfl (fun K hK => ?_) AllReadyH.nil)
      · go_simp
        have KY2 : Hid (Gm u0 (uk53.alloc (.cells #[] 40)) true (some (.slice (some ⟨uk53.heap.size, 0, none⟩) 0 0)) [] (some (bk54, (p : Int), (q : Int))) none) := (unhide KY).row
        refine hK.out _ _ (((unhide XD).step (unhide KY2).bel).cells) (fun hS2 => ?_)
        clear hK K hS KY; have hS := hS2; clear hS2; have KY := KY2; clear KY2
        generalize uk53.alloc (.cells #[] 40) = uk55 at KY hS ⊢
        generalize uk53.heap.size = bk56 at KY ⊢
        refine wpAnyH_ready (rs := [5, 12]) (by kernel_rfl) (by simp) ?_
        refine AllReadyH.cons rfl (fun K hK => ?_) (AllReadyH.cons rfl (fun K hK => ?_) AllReadyH.nil)
        · rw [if_pos (by rfl)]
          refine Gm.app (unhide KY) (.inl rfl) (.tmp 36) (.tmp 38) rfl rfl a n cap (toI es) rfl (unhide HNIL) ((unhide HEU).below (unhide KY).bel) (by simp; omega) ?_
          intro vk58 uk57 ky2
          rw [List.nil_append] at ky2
          have KY2 : Hid (Gm u0 uk57 false (some vk58) (toI es) (some (bk54, (p : Int), (q : Int))) none) := ky2
          clear ky2
          refine hK.out _ _ (((unhide XD).step (unhide KY2).bel).cells) (fun hS2 => ?_)
          clear hK K hS KY; have hS := hS2; clear hS2; have KY := KY2; clear KY2
          simp only [Act.put, List.getElem_toArray, List.getElem_cons_zero, List.getElem_cons_succ, List.setIfInBounds_toArray, List.set_cons_zero, List.set_cons_succ]
          refine wpAnyH_ready (rs := [10, 12]) (by kernel_rfl) (by simp) ?_
          refine AllReadyH.cons rfl (fun K hK => ?_) (AllReadyH.cons rfl (fun K hK => ?_) AllReadyH.nil)
          · rw [if_pos (by rfl)]
            refine Gm.appE (unhide KY) (.tmp 39) (.tmp 43) rfl rfl 1 rfl (by rw [toI_length, unhide HN]; omega) ?_
            intro vk60 uk59 ky2
            have KY2 : Hid (Gm u0 uk59 false (some vk60) (toI es ++ [((p : Int), (q : Int))]) none none) := ky2
            clear ky2
            refine hK.out _ _ (((unhide XD).step (unhide KY2).bel).cells) (fun hS2 => ?_)
            clear hK K hS KY; have hS := hS2; clear hS2; have KY := KY2; clear KY2
            simp only [Act.put, List.getElem_toArray, List.getElem_cons_zero, List.getElem_cons_succ, List.setIfInBounds_toArray, List.set_cons_zero, List.set_cons_succ]
            obtain ⟨va, vc, rfl, _⟩ := es_of_owns ((unhide KY).hrow vk60 rfl) (by rw [List.length_append, toI_length, unhide HN]; simp; omega)
            rw [hlen1] at KY ⊢
            refine wpAnyH_take (i := 11) (v := ?_) rfl (by kernel_rfl) (by kernel_rfl) (by kernel_rfl) (fun _ _ _ h => h) (Or.inl ⟨by rfl, ?_⟩) hS ?_
            rotate_left
            · intro u hu; (try dsimp only at hu); go_simp; try with_reducible rfl
            simp only [Act.put, List.getElem_toArray, List.getElem_cons_zero, List.getElem_cons_succ, List.setIfInBounds_toArray, List.set_cons_zero, List.set_cons_succ]
            refine wpAnyH_ready (rs := [12]) (by kernel_rfl) (by simp) ?_
            refine AllReadyH.cons rfl (fun K hK => ?_) AllReadyH.nil
            go_simp
            have KY2 : Hid (Gm u0 (uk59.alloc (.cells #[.int .i64 0, .slice none 0 0] 24)) false (some (.slice va (n + 1) vc)) (toI es ++ [((p : Int), (q : Int))]) none (some uk59.heap.size)) := (unhide KY).box
            refine hK.out _ _ (((unhide XD).step (unhide KY2).bel).cells) (fun hS2 => ?_)
            clear hK K hS KY; have hS := hS2; clear hS2; have KY := KY2; clear KY2
            generalize uk59.alloc (.cells #[.int .i64 0, .slice none 0 0] 24) = uk61 at KY hS ⊢
            generalize uk59.heap.size = bk62 at KY ⊢
            obtain ⟨t0, t1, t2, t3⟩ := (unhide KY).boxCells
            refine wpAnyH_ready (rs := [13]) (by kernel_rfl) (by simp) ?_
            refine AllReadyH.cons rfl (fun K hK => ?_) AllReadyH.nil
            go_simp
            have KZ := hide ((unhide KY).stored (.int .i64 (V : Int)) (.slice va (n + 1) vc))
            refine hK.out _ _ (((unhide XD).step (unhide KZ).1).cells) (fun hS2 => ?_)
            clear hK K hS hS2 t0 t1 t2 t3
            refine wpAnyH_done (by kernel_rfl) ?_ _
            go_wp2_with fail
            go_meet
            exact ⟨bk62, va, vc, rfl, (unhide XD).step (unhide KZ).1, (unhide KZ).2.1, (by have h := (unhide KZ).2.2; rw [unhide HSU] at h; exact h)⟩
          · go_simp
            have KY2 : Hid (Gm u0 (uk57.alloc (.cells #[.int .i64 0, .slice none 0 0] 24)) false (some vk58) (toI es) (some (bk54, (p : Int), (q : Int))) (some uk57.heap.size)) := (unhide KY).box
            refine hK.out _ _ (((unhide XD).step (unhide KY2).bel).cells) (fun hS2 => ?_)
            clear hK K hS KY; have hS := hS2; clear hS2; have KY := KY2; clear KY2
            generalize uk57.alloc (.cells #[.int .i64 0, .slice none 0 0] 24) = uk63 at KY hS ⊢
            generalize uk57.heap.size = bk64 at KY ⊢
            refine wpAnyH_ready (rs := [10]) (by kernel_rfl) (by simp) ?_
            refine AllReadyH.cons rfl (fun K hK => ?_) AllReadyH.nil
            rw [if_pos (by rfl)]
            refine Gm.appE (unhide KY) (.tmp 39) (.tmp 43) rfl rfl 1 rfl (by rw [toI_length, unhide HN]; omega) ?_
            intro vk66 uk65 ky2
            have KY2 : Hid (Gm u0 uk65 false (some vk66) (toI es ++ [((p : Int), (q : Int))]) none (some bk64)) := ky2
            clear ky2
            refine hK.out _ _ (((unhide XD).step (unhide KY2).bel).cells) (fun hS2 => ?_)
            clear hK K hS KY; have hS := hS2; clear hS2; have KY := KY2; clear KY2
            simp only [Act.put, List.getElem_toArray, List.getElem_cons_zero, List.getElem_cons_succ, List.setIfInBounds_toArray, List.set_cons_zero, List.set_cons_succ]
            obtain ⟨va, vc, rfl, _⟩ := es_of_owns ((unhide KY).hrow vk66 rfl) (by rw [List.length_append, toI_length, unhide HN]; simp; omega)
            rw [hlen1] at KY ⊢
            refine wpAnyH_take (i := 11) (v := ?_) rfl (by kernel_rfl) (by kernel_rfl) (by kernel_rfl) (fun _ _ _ h => h) (Or.inl ⟨by rfl, ?_⟩) hS ?_
            rotate_left
            · intro u hu; (try dsimp only at hu); go_simp; try with_reducible rfl
            simp only [Act.put, List.getElem_toArray, List.getElem_cons_zero, List.getElem_cons_succ, List.setIfInBounds_toArray, List.set_cons_zero, List.set_cons_succ]
            obtain ⟨t0, t1, t2, t3⟩ := (unhide KY).boxCells
            refine wpAnyH_ready (rs := [13]) (by kernel_rfl) (by simp) ?_
            refine AllReadyH.cons rfl (fun K hK => ?_) AllReadyH.nil
            go_simp
            have KZ := hide ((unhide KY).stored (.int .i64 (V : Int)) (.slice va (n + 1) vc))
            refine hK.out _ _ (((unhide XD).step (unhide KZ).1).cells) (fun hS2 => ?_)
            clear hK K hS hS2 t0 t1 t2 t3
            refine wpAnyH_done (by kernel_rfl) ?_ _
            go_wp2_with fail
            go_meet
            exact ⟨bk64, va, vc, rfl, (unhide XD).step (unhide KZ).1, (unhide KZ).2.1, (by have h := (unhide KZ).2.2; rw [unhide HSU] at h; exact h)⟩
        · go_simp
          have KY2 : Hid (Gm u0 (uk55.alloc (.cells #[.int .i64 0, .slice none 0 0] 24)) true (some (.slice (some ⟨bk56, 0, none⟩) 0 0)) [] (some (bk54, (p : Int), (q : Int))) (some uk55.heap.size)) := (unhide KY).box
          refine hK.out _ _ (((unhide XD).step (unhide KY2).bel).cells) (fun hS2 => ?_)
          clear hK K hS KY; have hS := hS2; clear hS2; have KY := KY2; clear KY2
          generalize uk55.alloc (.cells #[.int .i64 0, .slice none 0 0] 24) = uk67 at KY hS ⊢
          generalize uk55.heap.size = bk68 at KY ⊢
          refine wpAnyH_ready (rs := [5]) (by kernel_rfl) (by simp) ?_
          refine AllReadyH.cons rfl (fun K hK => ?_) AllReadyH.nil
          rw [if_pos (by rfl)]
          refine Gm.app (unhide KY) (.inl rfl) (.tmp 36) (.tmp 38) rfl rfl a n cap (toI es) rfl (unhide HNIL) ((unhide HEU).below (unhide KY).bel) (by simp; omega) ?_
          intro vk70 uk69 ky2
          rw [List.nil_append] at ky2
          have KY2 : Hid (Gm u0 uk69 false (some vk70) (toI es) (some (bk54, (p : Int), (q : Int))) (some bk68)) := ky2
          clear ky2
          refine hK.out _ _ (((unhide XD).step (unhide KY2).bel).cells) (fun hS2 => ?_)
          clear hK K hS KY; have hS := hS2; clear hS2; have KY := KY2; clear KY2
          simp only [Act.put, List.getElem_toArray, List.getElem_cons_zero, List.getElem_cons_succ, List.setIfInBounds_toArray, List.set_cons_zero, List.set_cons_succ]
          refine wpAnyH_ready (rs := [10]) (by kernel_rfl) (by simp) ?_
          refine AllReadyH.cons rfl (fun K hK => ?_) AllReadyH.nil
          rw [if_pos (by rfl)]
          refine Gm.appE (unhide KY) (.tmp 39) (.tmp 43) rfl rfl 1 rfl (by rw [toI_length, unhide HN]; omega) ?_
          intro vk72 uk71 ky2
          have KY2 : Hid (Gm u0 uk71 false (some vk72) (toI es ++ [((p : Int), (q : Int))]) none (some bk68)) := ky2
          clear ky2
          refine hK.out _ _ (((unhide XD).step (unhide KY2).bel).cells) (fun hS2 => ?_)
          clear hK K hS KY; have hS := hS2; clear hS2; have KY := KY2; clear KY2
          simp only [Act.put, List.getElem_toArray, List.getElem_cons_zero, List.getElem_cons_succ, List.setIfInBounds_toArray, List.set_cons_zero, List.set_cons_succ]
          obtain ⟨va, vc, rfl, _⟩ := es_of_owns ((unhide KY).hrow vk72 rfl) (by rw [List.length_append, toI_length, unhide HN]; simp; omega)
          rw [hlen1] at KY ⊢
          refine wpAnyH_take (i := 11) (v := ?_) rfl (by kernel_rfl) (by kernel_rfl) (by kernel_rfl) (fun _ _ _ h => h) (Or.inl ⟨by rfl, ?_⟩) hS ?_
          rotate_left
          · intro u hu; (try dsimp only at hu); go_simp; try with_reducible rfl
          simp only [Act.put, List.getElem_toArray, List.getElem_cons_zero, List.getElem_cons_succ, List.setIfInBounds_toArray, List.set_cons_zero, List.set_cons_succ]
          obtain ⟨t0, t1, t2, t3⟩ := (unhide KY).boxCells
          refine wpAnyH_ready (rs := [13]) (by kernel_rfl) (by simp) ?_
          refine AllReadyH.cons rfl (fun K hK => ?_) AllReadyH.nil
          go_simp
          have KZ := hide ((unhide KY).stored (.int .i64 (V : Int)) (.slice va (n + 1) vc))
          refine hK.out _ _ (((unhide XD).step (unhide KZ).1).cells) (fun hS2 => ?_)
          clear hK K hS hS2 t0 t1 t2 t3
          refine wpAnyH_done (by kernel_rfl) ?_ _
          go_wp2_with fail
          go_meet
          exact ⟨bk68, va, vc, rfl, (unhide XD).step (unhide KZ).1, (unhide KZ).2.1, (by have h := (unhide KZ).2.2; rw [unhide HSU] at h; exact h)⟩
      · go_simp
        have KY2 : Hid (Gm u0 (uk53.alloc (.cells #[.int .i64 0, .slice none 0 0] 24)) true none [] (some (bk54, (p : Int), (q : Int))) (some uk53.heap.size)) := (unhide KY).box
        refine hK.out _ _ (((unhide XD).step (unhide KY2).bel).cells) (fun hS2 => ?_)
        clear hK K hS KY; have hS := hS2; clear hS2; have KY := KY2; clear KY2
        generalize uk53.alloc (.cells #[.int .i64 0, .slice none 0 0] 24) = uk73 at KY hS ⊢
        generalize uk53.heap.size = bk74 at KY ⊢
        refine wpAnyH_ready (rs := [2]) (by kernel_rfl) (by simp) ?_
        refine AllReadyH.cons rfl (fun K hK => ?_) AllReadyH.nil
        go_simp
        have KY2 : Hid (Gm u0 (uk73.alloc (.cells #[] 40)) true (some (.slice (some ⟨uk73.heap.size, 0, none⟩) 0 0)) [] (some (bk54, (p : Int), (q : Int))) (some bk74)) := (unhide KY).row
        refine hK.out _ _ (((unhide XD).step (unhide KY2).bel).cells) (fun hS2 => ?_)
        clear hK K hS KY; have hS := hS2; clear hS2; have KY := KY2; clear KY2
        generalize uk73.alloc (.cells #[] 40) = uk75 at KY hS ⊢
        generalize uk73.heap.size = bk76 at KY ⊢
        refine wpAnyH_ready (rs := [5]) (by kernel_rfl) (by simp) ?_
        refine AllReadyH.cons rfl (fun K hK => ?_) AllReadyH.nil
        rw [if_pos (by rfl)]
        refine Gm.app (unhide KY) (.inl rfl) (.tmp 36) (.tmp 38) rfl rfl a n cap (toI es) rfl (unhide HNIL) ((unhide HEU).below (unhide KY).bel) (by simp; omega) ?_
        intro vk78 uk77 ky2
        rw [List.nil_append] at ky2
        have KY2 : Hid (Gm u0 uk77 false (some vk78) (toI es) (some (bk54, (p : Int), (q : Int))) (some bk74)) := ky2
        clear ky2
        refine hK.out _ _ (((unhide XD).step (unhide KY2).bel).cells) (fun hS2 => ?_)
        clear hK K hS KY; have hS := hS2; clear hS2; have KY := KY2; clear KY2
        simp only [Act.put, List.getElem_toArray, List.getElem_cons_zero, List.getElem_cons_succ, List.setIfInBounds_toArray, List.set_cons_zero, List.set_cons_succ]
        refine wpAnyH_ready (rs := [10]) (by kernel_rfl) (by simp) ?_
        refine AllReadyH.cons rfl (fun K hK => ?_) AllReadyH.nil
        rw [if_pos (by rfl)]
        refine Gm.appE (unhide KY) (.tmp 39) (.tmp 43) rfl rfl 1 rfl (by rw [toI_length, unhide HN]; omega) ?_
        intro vk80 uk79 ky2
        have KY2 : Hid (Gm u0 uk79 false (some vk80) (toI es ++ [((p : Int), (q : Int))]) none (some bk74)) := ky2
        clear ky2
        refine hK.out _ _ (((unhide XD).step (unhide KY2).bel).cells) (fun hS2 => ?_)
        clear hK K hS KY; have hS := hS2; clear hS2; have KY := KY2; clear KY2
        simp only [Act.put, List.getElem_toArray, List.getElem_cons_zero, List.getElem_cons_succ, List.setIfInBounds_toArray, List.set_cons_zero, List.set_cons_succ]
        obtain ⟨va, vc, rfl, _⟩ := es_of_owns ((unhide KY).hrow vk80 rfl) (by rw [List.length_append, toI_length, unhide HN]; simp; omega)
        rw [hlen1] at KY ⊢
        refine wpAnyH_take (i := 11) (v := ?_) rfl (by kernel_rfl) (by kernel_rfl) (by kernel_rfl) (fun _ _ _ h => h) (Or.inl ⟨by rfl, ?_⟩) hS ?_
        rotate_left
        · intro u hu; (try dsimp only at hu); go_simp; try with_reducible rfl
        simp only [Act.put, List.getElem_toArray, List.getElem_cons_zero, List.getElem_cons_succ, List.setIfInBounds_toArray, List.set_cons_zero, List.set_cons_succ]
        obtain ⟨t0, t1, t2, t3⟩ := (unhide KY).boxCells
        refine wpAnyH_ready (rs := [13]) (by kernel_rfl) (by simp) ?_
        refine AllReadyH.cons rfl (fun K hK => ?_) AllReadyH.nil
        go_simp
        have KZ := hide ((unhide KY).stored (.int .i64 (V : Int)) (.slice va (n + 1) vc))
        refine hK.out _ _ (((unhide XD).step (unhide KZ).1).cells) (fun hS2 => ?_)
        clear hK K hS hS2 t0 t1 t2 t3
        refine wpAnyH_done (by kernel_rfl) ?_ _
        go_wp2_with fail
        go_meet
        exact ⟨bk74, va, vc, rfl, (unhide XD).step (unhide KZ).1, (unhide KZ).2.1, (by have h := (unhide KZ).2.2; rw [unhide HSU] at h; exact h)⟩
    · go_simp
      have KY2 : Hid (Gm u0 (u0.alloc (.cells #[.int .i64 0, .slice none 0 0] 24)) true none [] none (some u0.heap.size)) := (unhide KY).box
      refine hK.out _ _ (((unhide XD).step (unhide KY2).bel).cells) (fun hS2 => ?_)
      clear hK K hS KY; have hS := hS2; clear hS2; have KY := KY2; clear KY2
      generalize u0.alloc (.cells #[.int .i64 0, .slice none 0 0] 24) = uk81 at KY hS ⊢
      generalize u0.heap.size = bk82 at KY ⊢
      refine wpAnyH_ready (rs := [2, 9]) (by kernel_rfl) (by simp) ?_
      refine AllReadyH.cons rfl (fun K hK => ?_) (AllReadyH.cons rfl (fun K hK => ?_) AllReadyH.nil)
      · go_simp
        have KY2 : Hid (Gm u0 (uk81.alloc (.cells #[] 40)) true (some (.slice (some ⟨uk81.heap.size, 0, none⟩) 0 0)) [] none (some bk82)) := (unhide KY).row
        refine hK.out _ _ (((unhide XD).step (unhide KY2).bel).cells) (fun hS2 => ?_)
        clear hK K hS KY; have hS := hS2; clear hS2; have KY := KY2; clear KY2
        generalize uk81.alloc (.cells #[] 40) = uk83 at KY hS ⊢
        generalize uk81.heap.size = bk84 at KY ⊢
        refine wpAnyH_ready (rs := [5, 9]) (by kernel_rfl) (by simp) ?_
        refine AllReadyH.cons rfl (fun K hK => ?_) (AllReadyH.cons rfl (fun K hK => ?_) AllReadyH.nil)
        · rw [if_pos (by rfl)]
          refine Gm.app (unhide KY) (.inl rfl) (.tmp 36) (.tmp 38) rfl rfl a n cap (toI es) rfl (unhide HNIL) ((unhide HEU).below (unhide KY).bel) (by simp; omega) ?_
          intro vk86 uk85 ky2
          rw [List.nil_append] at ky2
          have KY2 : Hid (Gm u0 uk85 false (some vk86) (toI es) none (some bk82)) := ky2
          clear ky2
          refine hK.out _ _ (((unhide XD).step (unhide KY2).bel).cells) (fun hS2 => ?_)
          clear hK K hS KY; have hS := hS2; clear hS2; have KY := KY2; clear KY2
          simp only [Act.put, List.getElem_toArray, List.getElem_cons_zero, List.getElem_cons_succ, List.setIfInBounds_toArray, List.set_cons_zero, List.set_cons_succ]
          refine wpAnyH_ready (rs := [9]) (by kernel_rfl) (by simp) ?_
          refine AllReadyH.cons rfl (fun K hK => ?_) AllReadyH.nil
          go_simp
          have KY2 : Hid (Gm u0 (uk85.alloc (.cells #[.int .i64 (p : Int), .int .i64 (q : Int)] 40)) false (some vk86) (toI es) (some (uk85.heap.size, (p : Int), (q : Int))) (some bk82)) := (unhide KY).edge (p : Int) (q : Int)
          refine hK.out _ _ (((unhide XD).step (unhide KY2).bel).cells) (fun hS2 => ?_)
          clear hK K hS KY; have hS := hS2; clear hS2; have KY := KY2; clear KY2
          generalize uk85.alloc (.cells #[.int .i64 (p : Int), .int .i64 (q : Int)] 40) = uk87 at KY hS ⊢
          generalize uk85.heap.size = bk88 at KY ⊢
          refine wpAnyH_ready (rs := [10]) (by kernel_rfl) (by simp) ?_
          refine AllReadyH.cons rfl (fun K hK => ?_) AllReadyH.nil
          rw [if_pos (by rfl)]
          refine Gm.appE (unhide KY) (.tmp 39) (.tmp 43) rfl rfl 1 rfl (by rw [toI_length, unhide HN]; omega) ?_
          intro vk90 uk89 ky2
          have KY2 : Hid (Gm u0 uk89 false (some vk90) (toI es ++ [((p : Int), (q : Int))]) none (some bk82)) := ky2
          clear ky2
          refine hK.out _ _ (((unhide XD).step (unhide KY2).bel).cells) (fun hS2 => ?_)
          clear hK K hS KY; have hS := hS2; clear hS2; have KY := KY2; clear KY2
          simp only [Act.put, List.getElem_toArray, List.getElem_cons_zero, List.getElem_cons_succ, List.setIfInBounds_toArray, List.set_cons_zero, List.set_cons_succ]
          obtain ⟨va, vc, rfl, _⟩ := es_of_owns ((unhide KY).hrow vk90 rfl) (by rw [List.length_append, toI_length, unhide HN]; simp; omega)
          rw [hlen1] at KY ⊢
          refine wpAnyH_take (i := 11) (v := ?_) rfl (by kernel_rfl) (by kernel_rfl) (by kernel_rfl) (fun _ _ _ h => h) (Or.inl ⟨by rfl, ?_⟩) hS ?_
          rotate_left
          · intro u hu; (try dsimp only at hu); go_simp; try with_reducible rfl
          simp only [Act.put, List.getElem_toArray, List.getElem_cons_zero, List.getElem_cons_succ, List.setIfInBounds_toArray, List.set_cons_zero, List.set_cons_succ]
          obtain ⟨t0, t1, t2, t3⟩ := (unhide KY).boxCells
          refine wpAnyH_ready (rs := [13]) (by kernel_rfl) (by simp) ?_
          refine AllReadyH.cons rfl (fun K hK => ?_) AllReadyH.nil
          go_simp
          have KZ := hide ((unhide KY).stored (.int .i64 (V : Int)) (.slice va (n + 1) vc))
          refine hK.out _ _ (((unhide XD).step (unhide KZ).1).cells) (fun hS2 => ?_)
          clear hK K hS hS2 t0 t1 t2 t3
          refine wpAnyH_done (by kernel_rfl) ?_ _
          go_wp2_with fail
          go_meet
          exact ⟨bk82, va, vc, rfl, (unhide XD).step (unhide KZ).1, (unhide KZ).2.1, (by have h := (unhide KZ).2.2; rw [unhide HSU] at h; exact h)⟩
        · go_simp
          have KY2 : Hid (Gm u0 (uk83.alloc (.cells #[.int .i64 (p : Int), .int .i64 (q : Int)] 40)) true (some (.slice (some ⟨bk84, 0, none⟩) 0 0)) [] (some (uk83.heap.size, (p : Int), (q : Int))) (some bk82)) := (unhide KY).edge (p : Int) (q : Int)
          refine hK.out _ _ (((unhide XD).step (unhide KY2).bel).cells) (fun hS2 => ?_)
          clear hK K hS KY; have hS := hS2; clear hS2; have KY := KY2; clear KY2
          generalize uk83.alloc (.cells #[.int .i64 (p : Int), .int .i64 (q : Int)] 40) = uk91 at KY hS ⊢
          generalize uk83.heap.size = bk92 at KY ⊢
          refine wpAnyH_ready (rs := [5]) (by kernel_rfl) (by simp) ?_
          refine AllReadyH.cons rfl (fun K hK => ?_) AllReadyH.nil
          rw [if_pos (by rfl)]
          refine Gm.app (unhide KY) (.inl rfl) (.tmp 36) (.tmp 38) rfl rfl a n cap (toI es) rfl (unhide HNIL) ((unhide HEU).below (unhide KY).bel) (by simp; omega) ?_
          intro vk94 uk93 ky2
          rw [List.nil_append] at ky2
          have KY2 : Hid (Gm u0 uk93 false (some vk94) (toI es) (some (bk92, (p : Int), (q : Int))) (some bk82)) := ky2
          clear ky2
          refine hK.out _ _ (((unhide XD).step (unhide KY2).bel).cells) (fun hS2 => ?_)
          clear hK K hS KY; have hS := hS2; clear hS2; have KY := KY2; clear KY2
          simp only [Act.put, List.getElem_toArray, List.getElem_cons_zero, List.getElem_cons_succ, List.setIfInBounds_toArray, List.set_cons_zero, List.set_cons_succ]
          refine wpAnyH_ready (rs := [10]) (by kernel_rfl) (by simp) ?_
          refine AllReadyH.cons rfl (fun K hK => ?_) AllReadyH.nil
          rw [if_pos (by rfl)]
          refine Gm.appE (unhide KY) (.tmp 39) (.tmp 43) rfl rfl 1 rfl (by rw [toI_length, unhide HN]; omega) ?_
          intro vk96 uk95 ky2
          have KY2 : Hid (Gm u0 uk95 false (some vk96) (toI es ++ [((p : Int), (q : Int))]) none (some bk82)) := ky2
          clear ky2
          refine hK.out _ _ (((unhide XD).step (unhide KY2).bel).cells) (fun hS2 => ?_)
          clear hK K hS KY; have hS := hS2; clear hS2; have KY := KY2; clear KY2
          simp only [Act.put, List.getElem_toArray, List.getElem_cons_zero, List.getElem_cons_succ, List.setIfInBounds_toArray, List.set_cons_zero, List.set_cons_succ]
          obtain ⟨va, vc, rfl, _⟩ := es_of_owns ((unhide KY).hrow vk96 rfl) (by rw [List.length_append, toI_length, unhide HN]; simp; omega)
          rw [hlen1] at KY ⊢
          refine wpAnyH_take (i := 11) (v := ?_) rfl (by kernel_rfl) (by kernel_rfl) (by kernel_rfl) (fun _ _ _ h => h) (Or.inl ⟨by rfl, ?_⟩) hS ?_
          rotate_left
          · intro u hu; (try dsimp only at hu); go_simp; try with_reducible rfl
          simp only [Act.put, List.getElem_toArray, List.getElem_cons_zero, List.getElem_cons_succ, List.setIfInBounds_toArray, List.set_cons_zero, List.set_cons_succ]
          obtain ⟨t0, t1, t2, t3⟩ := (unhide KY).boxCells
          refine wpAnyH_ready (rs := [13]) (by kernel_rfl) (by simp) ?_
          refine AllReadyH.cons rfl (fun K hK => ?_) AllReadyH.nil
          go_simp
          have KZ := hide ((unhide KY).stored (.int .i64 (V : Int)) (.slice va (n + 1) vc))
          refine hK.out _ _ (((unhide XD).step (unhide KZ).1).cells) (fun hS2 => ?_)
          clear hK K hS hS2 t0 t1 t2 t3
          refine wpAnyH_done (by kernel_rfl) ?_ _
          go_wp2_with fail
          go_meet
          exact ⟨bk82, va, vc, rfl, (unhide XD).step (unhide KZ).1, (unhide KZ).2.1, (by have h := (unhide KZ).2.2; rw [unhide HSU] at h; exact h)⟩
      · go_simp
        have KY2 : Hid (Gm u0 (uk81.alloc (.cells #[.int .i64 (p : Int), .int .i64 (q : Int)] 40)) true none [] (some (uk81.heap.size, (p : Int), (q : Int))) (some bk82)) := (unhide KY).edge (p : Int) (q : Int)
        refine hK.out _ _ (((unhide XD).step (unhide KY2).bel).cells) (fun hS2 => ?_)
        clear hK K hS KY; have hS := hS2; clear hS2; have KY := KY2; clear KY2
        generalize uk81.alloc (.cells #[.int .i64 (p : Int), .int .i64 (q : Int)] 40) = uk97 at KY hS ⊢
        generalize uk81.heap.size = bk98 at KY ⊢
        refine wpAnyH_ready (rs := [2]) (by kernel_rfl) (by simp) ?_
        refine AllReadyH.cons rfl (fun K hK => ?_) AllReadyH.nil
        go_simp
        have KY2 : Hid (Gm u0 (uk97.alloc (.cells #[] 40)) true (some (.slice (some ⟨uk97.heap.size, 0, none⟩) 0 0)) [] (some (bk98, (p : Int), (q : Int))) (some bk82)) := (unhide KY).row
        refine hK.out _ _ (((unhide XD).step (unhide KY2).bel).cells) (fun hS2 => ?_)
        clear hK K hS KY; have hS := hS2; clear hS2; have KY := KY2; clear KY2
        generalize uk97.alloc (.cells #[] 40) = uk99 at KY hS ⊢
        generalize uk97.heap.size = bk100 at KY ⊢
        refine wpAnyH_ready (rs := [5]) (by kernel_rfl) (by simp) ?_
        refine AllReadyH.cons rfl (fun K hK => ?_) AllReadyH.nil
        rw [if_pos (by rfl)]
        refine Gm.app (unhide KY) (.inl rfl) (.tmp 36) (.tmp 38) rfl rfl a n cap (toI es) rfl (unhide HNIL) ((unhide HEU).below (unhide KY).bel) (by simp; omega) ?_
        intro vk102 uk101 ky2
        rw [List.nil_append] at ky2
        have KY2 : Hid (Gm u0 uk101 false (some vk102) (toI es) (some (bk98, (p : Int), (q : Int))) (some bk82)) := ky2
        clear ky2
        refine hK.out _ _ (((unhide XD).step (unhide KY2).bel).cells) (fun hS2 => ?_)
        clear hK K hS KY; have hS := hS2; clear hS2; have KY := KY2; clear KY2
        simp only [Act.put, List.getElem_toArray, List.getElem_cons_zero, List.getElem_cons_succ, List.setIfInBounds_toArray, List.set_cons_zero, List.set_cons_succ]
        refine wpAnyH_ready (rs := [10]) (by kernel_rfl) (by simp) ?_
        refine AllReadyH.cons rfl (fun K hK => ?_) AllReadyH.nil
        rw [if_pos (by rfl)]
        refine Gm.appE (unhide KY) (.tmp 39) (.tmp 43) rfl rfl 1 rfl (by rw [toI_length, unhide HN]; omega) ?_
        intro vk104 uk103 ky2
        have KY2 : Hid (Gm u0 uk103 false (some vk104) (toI es ++ [((p : Int), (q : Int))]) none (some bk82)) := ky2
        clear ky2
        refine hK.out _ _ (((unhide XD).step (unhide KY2).bel).cells) (fun hS2 => ?_)
        clear hK K hS KY; have hS := hS2; clear hS2; have KY := KY2; clear KY2
        simp only [Act.put, List.getElem_toArray, List.getElem_cons_zero, List.getElem_cons_succ, List.setIfInBounds_toArray, List.set_cons_zero, List.set_cons_succ]
        obtain ⟨va, vc, rfl, _⟩ := es_of_owns ((unhide KY).hrow vk104 rfl) (by rw [List.length_append, toI_length, unhide HN]; simp; omega)
        rw [hlen1] at KY ⊢
        refine wpAnyH_take (i := 11) (v := ?_) rfl (by kernel_rfl) (by kernel_rfl) (by kernel_rfl) (fun _ _ _ h => h) (Or.inl ⟨by rfl, ?_⟩) hS ?_
        rotate_left
        · intro u hu; (try dsimp only at hu); go_simp; try with_reducible rfl
        simp only [Act.put, List.getElem_toArray, List.getElem_cons_zero, List.getElem_cons_succ, List.setIfInBounds_toArray, List.set_cons_zero, List.set_cons_succ]
        obtain ⟨t0, t1, t2, t3⟩ := (unhide KY).boxCells
        refine wpAnyH_ready (rs := [13]) (by kernel_rfl) (by simp) ?_
        refine AllReadyH.cons rfl (fun K hK => ?_) AllReadyH.nil
        go_simp
        have KZ := hide ((unhide KY).stored (.int .i64 (V : Int)) (.slice va (n + 1) vc))
        refine hK.out _ _ (((unhide XD).step (unhide KZ).1).cells) (fun hS2 => ?_)
        clear hK K hS hS2 t0 t1 t2 t3
        refine wpAnyH_done (by kernel_rfl) ?_ _
        go_wp2_with fail
        go_meet
        exact ⟨bk82, va, vc, rfl, (unhide XD).step (unhide KZ).1, (unhide KZ).2.1, (by have h := (unhide KZ).2.2; rw [unhide HSU] at h; exact h)⟩
  case rest =>
    obtain ⟨gb, va, vc, rfl, HB4, HG4, HO4⟩ := hcut
    have hPx := snoc_plain (unhide HP) (by rw [unhide HN]; omega) hpV hqV
    have hNx := snoc_nl (unhide HNL) (unhide HPQ)
    obtain ⟨L, hL⟩ := isBl_ex (V := V) (es := es) ⟨unhide HNL, fun i hi => (unhide HP).at hi⟩
    obtain ⟨L', hL'⟩ := isBl_ex (V := V) (es := es ++ [(p, q)]) ⟨hNx, fun i hi => hPx.at hi⟩
    obtain ⟨gv, cv, hva, _, _⟩ := (unhide HO4).form (by rw [hlen1]; omega)
    rw [hlen1] at hva
    simp only [Value.slice.injEq, true_and] at hva
    obtain ⟨rfl, rfl⟩ := hva
    have HEX := hide (show Es w3.heap.size wc (some ⟨gv, 0, none⟩) (n + 1) (toI (es ++ [(p, q)])) by
      obtain ⟨a', c', he, hh⟩ := es_of_owns (unhide HO4) (by rw [hlen1]; omega)
      rw [hlen1] at he hh
      cases he
      have : toI (es ++ [(p, q)]) = toI es ++ [((p : Int), (q : Int))] := by simp [toI]
      rw [this]
      exact hh)
    have hlx : (es ++ [(p, q)]).length = n + 1 := by rw [List.length_append, unhide HN]; rfl
    have HBX := hide (fun (u : World) (h : Es w3.heap.size u (some ⟨gv, 0, none⟩) (n + 1) (toI (es ++ [(p, q)]))) => show Calls Try.prog 9 #[.agg #[.int .i64 V, .slice (some ⟨gv, 0, none⟩) (n + 1) vc]] u fun e w' => ListsTold u.heap.size w' L' e ∧ Below u.heap.size u w' from by
      rw [← hlx] at h ⊢
      exact blocks_good u V (some ⟨gv, 0, none⟩) vc (es ++ [(p, q)]) h (fun e => by cases e) hPx hNx L' hL')
    have HBG := hide (fun (u : World) (h : Es B u a n (toI es)) => show Calls Try.prog 9 #[.agg #[.int .i64 V, .slice a n cap]] u fun e w' => ListsTold u.heap.size w' L e ∧ Below u.heap.size u w' from by
      have hl := unhide HN
      have hnn := unhide HNIL
      subst hl
      exact blocks_good u V a cap es h hnn (unhide HP) (unhide HNL) L hL)
    have HIL := hide hL
    have HIX := hide hL'
    have hll := hL.len
    have hll' := hL'.len
    rw [unhide HN] at hll
    rw [hlx] at hll'
    have HEA := hide (hL.each (by rw [unhide HN]; omega))
    have HEAX := hide (hL'.each (by rw [hlx]; omega))
    have HLX := hide hlx
    obtain ⟨i0, hi0, hz0, hz1, hz2⟩ := info_parts info3
    have HI := hide hi0
    have HZ0 := hide hz0
    have HZ1 := hide hz1
    have hzb : i0.bytes * (n + 1) ≤ 281474976710656 := by rw [hz2]; omega
    have d0 : wc.cell? ⟨gb, 0, none⟩ = some (.int .i64 V) := by simp [World.cell?, unhide HG4]
    have d1 : wc.cell? ⟨gb, 1, none⟩ = some (.slice (some ⟨gv, 0, none⟩) (n + 1) vc) := by simp [World.cell?, unhide HG4]
    have hbl := heap_lt (unhide HG4)
    have HD0 := hide d0
    have HD1 := hide d1
    clear hPx hNx hL hL' hlen1 HO4 hi0 hz0 hz1 hz2 hlx
    go_wp2_with (refine wpList_make_full _ rfl (.tmp 48) (.tmp 48) 29 rfl wc.heap.size 3 i0 (.int .i64 0) 1 Try.underlying29 (unhide HI) (unhide HZ0) (unhide HZ1) .i64 .i64 _ _ (n + 1) rfl rfl ?m0 ?m00 hzb ?m1 ?m2 ?_)
    case m0 => omega
    case m00 => omega
    case m1 => unfold maxLen; omega
    case m2 => exact Nat.le_refl _
    intro w5 ho5 hg5
    rw [toList_madeCells_one] at ho5
    have HR5 := hide (row_made ho5)
    have HB5 := hide (show Below wc.heap.size wc w5 from ⟨hg5.os, hg5.tape, hg5.output, hg5.size, fun i hi => hg5.block i hi (by simp)⟩)
    have hs5 := (unhide HR5).lt
    have f0 := cell_q d0 (unhide HB5)
    have f1 := cell_q d1 (unhide HB5)
    clear ho5 hg5 d0 d1
    go_wp2_with fail
    refine (unhide HBX w5 ((unhide HEX).below (unhide HB5))).mono ?_
    rintro en w6 ⟨⟨la, lc, rfl, hln, hlc, AK, CK, hrs⟩, hb6⟩
    have HRS := hide hrs
    have HB6 := hide hb6
    have HR6 := hide ((unhide HR5).keep (hb6.block _ hs5))
    have hs6 : wc.heap.size < w6.heap.size := by have := hb6.size; omega
    have HBW6 := hide (((unhide HB4).step (unhide HB5)).step hb6)
    have hgl := (unhide HB4).lt
    clear hrs hb6 f0 f1 HR5 HBX HEX
    obtain ⟨n', hn''⟩ : ∃ n', L'.length = n' := ⟨_, rfl⟩
    rw [hn''] at hll'
    rw [hn'']
    have HNX := hide hn''
    clear hn''
    obtain ⟨g8, hg8⟩ : ∃ g8, wc.heap.size = g8 := ⟨_, rfl⟩
    have HB56 := hide (show g8 < w5.heap.size by rw [← hg8]; exact hs5)
    rw [hg8] at HR6 hs6 ⊢
    have hgl8 : w.heap.size < g8 := by rw [← hg8]; exact hgl
    clear hg8 hs5 hgl
    have HLI := hide (fun (u : World) (X : Adv g8 w6 u) => unhide HRS u (by rw [X.size]; exact Nat.le_refl _) fun i h1 h2 => X.block i (by have := unhide HB56; omega))
    go_wp2_with fail
    go_loopw [53] (fun i wr => ∃ (k : Nat) (F : Nat → Nat), i = .int .i64 k ∧ k ≤ n' ∧ Hid (AtInv L' k 0 F) ∧ Hid (RowAt wr g8 0 (n + 1) (fun i => (F i : Int))) ∧ Hid (Adv g8 w6 wr)) (fun i wr => n' - (intOf i).toNat)
    case atStart => exact ⟨0, fun _ => 0, rfl, by omega, AtInv.start L', HR6, Adv.refl _ _⟩
    case round =>
      clear HR6
      obtain ⟨k, F, rfl, hk, HAI, HRA, HAD⟩ := hrel
      by_cases hlt : k < n'
      · have hkL : k < L'.length := by rw [unhide HNX]; exact hlt
        obtain ⟨gl, ol, hla, hgl, r0, hck, hnk, hNk⟩ := unhide HLI wr (unhide HAD) k hkL
        subst hla
        simp only at r0 hck hnk hNk
        have hBm : L'.getD k [] ∈ L' := by simp [List.getD, hkL]
        obtain ⟨hB1, hB2, hB3⟩ := unhide HEAX _ hBm
        have HB3' := hide hB3
        obtain ⟨gi, oi, hak, _, _⟩ := ns_at hNk (List.length_pos_iff.2 hB1)
        rw [hak] at r0
        have HAK := hide hak
        clear hak
        obtain ⟨bl, hbl2⟩ : ∃ bl, (L'.getD k []).length = bl := ⟨_, rfl⟩
        rw [hbl2] at r0 hB2
        have HBL := hide hbl2
        have hlt2 : (k : Int) < (n' : Int) := by omega
        have HKL := hide hkL
        clear hck hnk hNk hBm hB1 hB3 hbl2 hkL
        go_wp2_with fail
        clear r0
        obtain ⟨wo, rfl⟩ : ∃ wo, wo = wr := ⟨_, rfl⟩
        go_loopw [60] (fun i wr => ∃ (j : Nat) (F : Nat → Nat), i = .int .i64 j ∧ j ≤ bl ∧ Hid (AtInv L' k j F) ∧ Hid (RowAt wr g8 0 (n + 1) (fun i => (F i : Int))) ∧ Hid (Adv g8 w6 wr)) (fun i wr => bl - (intOf i).toNat)
        case atStart => exact ⟨0, F, rfl, by omega, HAI, HRA, HAD⟩
        case round =>
          clear HAI HRA HAD
          obtain ⟨j, F, rfl, hj, HAI, HRA, HAD⟩ := hrel
          by_cases hjlt : j < bl
          · have hjB : j < (L'.getD k []).length := by rw [unhide HBL]; exact hjlt
            obtain ⟨_, _, _, _, _, _, _, hNk2⟩ := unhide HLI wr (unhide HAD) k (unhide HKL)
            rw [unhide HAK] at hNk2
            obtain ⟨gi2, oi2, hai, hgi, r1⟩ := ns_at hNk2 hjB
            obtain ⟨rfl, rfl⟩ : gi = gi2 ∧ oi = oi2 := by simpa using hai
            have h0 := (unhide HAI).zero (unhide HIX) (unhide HKL) hjB
            have hstep := (unhide HAI).step (unhide HIX) (unhide HKL) hjB
            have him := unhide HB3' ((L'.getD k []).getD j 0) (by rw [getD_at hjB]; exact List.getElem_mem hjB)
            rw [unhide HLX] at him
            generalize (L'.getD k []).getD j 0 = i at r1 h0 hstep him
            have t0 := (unhide HRA).cell him
            have t1 := (unhide HRA).fz i
            rw [Nat.zero_add] at t0
            rw [h0] at t0
            have HSTEP := hide hstep
            have hjlt2 : (j : Int) < (bl : Int) := by omega
            have him2 : (i : Int) < ((n : Int) + 1) := by omega
            have hin1 : i < n + 1 := him
            clear hstep hNk2 hjB h0 hai
            go_wp2_with fail
            go_roundw
            case rel =>
              refine ⟨u6, .int .i64 (i : Int), .int .i64 ((j : Int) + 1), ⟨j + 1, by go_num, by omega, _, HSTEP, ?_, (unhide HAD).setCell i _⟩, rfl, rfl, rfl⟩
              have := (unhide HRA).set i ((k : Int) + 1)
              rw [Nat.zero_add] at this
              refine this.congr fun t ht => ?_
              unfold upd
              split <;> simp
            case measure => simp [intOf]; omega
          · obtain rfl : j = bl := by omega
            go_wp2_with fail
            go_roundw
            case rel => exact ⟨k + 1, F, by go_num, by omega, (unhide HAI).next (unhide HBL).symm, HRA, HAD⟩
            case measure => simp [intOf]; omega
      · obtain rfl : k = n' := by omega
        have hai := unhide HAI
        rw [← unhide HNX] at hai
        have HAF := hide hai
        have HBWr := hide (show Bg w wr (.int .i64 V) (.slice a n cap) from (unhide HBW6).stepB (B := g8) hgl8 ((unhide HAD).below (Nat.le_refl _)))
        obtain ⟨g0, g1⟩ := (unhide HBWr).cells
        have hs8 := (unhide HRA).lt
        clear hai HAI
        go_wp2_with fail
        refine (unhide HBG wr ((unhide HE).below (unhide HBWr).bel)).mono ?_
        rintro en w8 ⟨⟨ma, mc, rfl, hmn, hmc, AM, CM, hms⟩, hb8⟩
        have HMS := hide (fun (u : World) (X : Below w8.heap.size w8 u) => hms u X.size fun i h1 h2 => X.block i h2)
        have HRB := hide (fun (u : World) (X : Below w8.heap.size w8 u) => show RowAt u g8 0 (n + 1) (fun i => (F i : Int)) from ((unhide HRA).keep (hb8.block _ hs8)).keep (X.block _ (by have := hb8.size; omega)))
        have HBW8 := hide ((unhide HBWr).step hb8)
        clear hms hb8 HRA HAD HLI g0 g1 HBWr
        obtain ⟨m8, hm8⟩ : ∃ m8, L.length = m8 := ⟨_, rfl⟩
        rw [hm8] at hll
        rw [hm8]
        have HN8 := hide hm8
        clear hm8
        go_wp2_with fail
        obtain ⟨wo, rfl⟩ : ∃ wo, wo = wr := ⟨_, rfl⟩
        go_loopw [89] (fun i wr => ∃ k : Nat, i = .int .i64 k ∧ k ≤ m8 ∧ Hid (Below w8.heap.size w8 wr)) (fun i wr => m8 - (intOf i).toNat)
        case atStart => exact ⟨0, rfl, by omega, Below.refl _ _⟩
        case round =>
          obtain ⟨k2, rfl, hk2, HX⟩ := hrel
          by_cases hlt2 : k2 < m8
          · have hkL : k2 < L.length := by rw [unhide HN8]; exact hlt2
            obtain ⟨gl, ol, hla, hgl, r0, hck, hnk, hNk⟩ := unhide HMS wr (unhide HX) k2 hkL
            subst hla
            simp only at r0 hck hnk hNk
            have hBm : L.getD k2 [] ∈ L := by simp [List.getD, hkL]
            obtain ⟨hB1, hB2, hB3⟩ := unhide HEA _ hBm
            obtain ⟨gi, oi, hak, _, _⟩ := ns_at hNk (List.length_pos_iff.2 hB1)
            rw [hak] at r0
            have HAK := hide hak
            clear hak
            obtain ⟨bl, hbl2⟩ : ∃ bl, (L.getD k2 []).length = bl := ⟨_, rfl⟩
            rw [hbl2] at r0 hB2
            have hblp : 0 < bl := by rw [← hbl2]; exact List.length_pos_iff.2 hB1
            have HBL := hide hbl2
            have HBM := hide hBm
            have HKL := hide hkL
            have hlt3 : (k2 : Int) < (m8 : Int) := by omega
            clear hck hnk hNk hBm hB1 hB3 hbl2 hkL
            go_wp2_with fail
            clear r0
            obtain ⟨wo2, rfl⟩ : ∃ wo2, wo2 = wr := ⟨_, rfl⟩
            go_loopw [95] (fun i wr => ∃ j : Nat, i = .int .i64 j ∧ j ≤ bl ∧ Hid (Below w8.heap.size w8 wr)) (fun i wr => bl - (intOf i).toNat)
            case atStart => exact ⟨0, rfl, by omega, HX⟩
            case round =>
              clear HX
              obtain ⟨j, rfl, hj, HX⟩ := hrel
              by_cases hjlt : j < bl
              · have hjB : j < (L.getD k2 []).length := by rw [unhide HBL]; exact hjlt
                have h0B : 0 < (L.getD k2 []).length := by rw [unhide HBL]; exact hblp
                obtain ⟨_, _, _, _, _, _, _, hNk2⟩ := unhide HMS wr (unhide HX) k2 (unhide HKL)
                rw [unhide HAK] at hNk2
                obtain ⟨gi2, oi2, hai, hgi, r1⟩ := ns_at hNk2 hjB
                obtain ⟨rfl, rfl⟩ : gi = gi2 ∧ oi = oi2 := by simpa using hai
                obtain ⟨gi2, oi2, hai2, _, r2⟩ := ns_at hNk2 h0B
                obtain ⟨rfl, rfl⟩ : gi = gi2 ∧ oi = oi2 := by simpa using hai2
                have hsame := at_same (unhide HIL) (unhide HIX) (unhide HAF) (unhide HBM) (i := (L.getD k2 []).getD j 0) (j := (L.getD k2 []).getD 0 0) (by rw [getD_at hjB]; exact List.getElem_mem hjB) (by rw [getD_at h0B]; exact List.getElem_mem h0B)
                generalize (L.getD k2 []).getD j 0 = i at r1 hsame
                generalize (L.getD k2 []).getD 0 0 = i2 at r2 hsame
                obtain ⟨s1, s2, s3, s4⟩ := hsame
                rw [unhide HN] at s3 s4
                have hrow := unhide HRB wr (unhide HX)
                have t0 := hrow.cell (t := i) (by omega)
                have t1 := hrow.cell (t := i2) (by omega)
                rw [Nat.zero_add] at t0 t1
                rw [← s2] at t1
                obtain ⟨fi, hfi⟩ : ∃ fi, F i = fi := ⟨_, rfl⟩
                rw [hfi] at t0 t1 s1
                have hfz : ((fi : Int) == 0) = false := by rw [beq_eq_false_iff_ne]; omega
                obtain ⟨g0, g1⟩ := ((unhide HBW8).step (unhide HX)).cells
                have hjlt2 : (j : Int) < (bl : Int) := by omega
                have hblp2 : (0 : Int) < (bl : Int) := by omega
                have him2 : (i : Int) < (n : Int) := by omega
                have him3 : (i2 : Int) < (n : Int) := by omega
                have hia : (i : Int) < (n : Int) + 1 := by omega
                have hib : (i2 : Int) < (n : Int) + 1 := by omega
                rw [Nat.add_zero] at r2
                have hi0 : decide ((i : Int) < 0) = false := decide_eq_false (by omega)
                have hin : decide (n ≤ i) = false := decide_eq_false (by omega)
                clear hrow hNk2 hjB h0B hai hai2 s1 s2 hfi
                go_upto_region 27 with fail
                refine wp_region_held_drew (S := fun u => u.cell? ⟨w.heap.size, 1, none⟩ = some (.slice a n cap) ∧ u.cell? ⟨g8, i, none⟩ = some (.int .i64 (fi : Int)) ∧ u.cell? ⟨g8, i2, none⟩ = some (.int .i64 (fi : Int)) ∧ u.cell? ⟨gi, oi, none⟩ = some (.int .i64 (i2 : Int))) (by kernel_rfl) ⟨g1, t0, t1, r2⟩ (fun hS => ?_)
                refine wpAnyH_take (i := 0) (v := ?_) rfl (by kernel_rfl) (by kernel_rfl) (by kernel_rfl) (fun _ _ _ h => h) (Or.inl ⟨by rfl, ?_⟩) hS ?_
                rotate_left
                · intro u hu; (try dsimp only at hu); go_simp; try with_reducible rfl
                simp only [Act.put, List.getElem_toArray, List.getElem_cons_zero, List.setIfInBounds_toArray, List.set_cons_zero, List.set_cons_succ]
                refine wpAnyH_take (i := 1) (v := ?_) rfl (by kernel_rfl) (by kernel_rfl) (by kernel_rfl) (fun _ _ _ h => h) (Or.inl ⟨by rfl, ?_⟩) hS ?_
                rotate_left
                · intro u hu; (try dsimp only at hu); go_simp; try with_reducible rfl
                simp only [Act.put, List.getElem_toArray, List.getElem_cons_zero, List.getElem_cons_succ, List.setIfInBounds_toArray, List.set_cons_zero, List.set_cons_succ]
                refine wpAnyH_take (i := 2) (v := ?_) rfl (by kernel_rfl) (by kernel_rfl) (by kernel_rfl) (fun _ _ _ h => h) (Or.inl ⟨by rfl, ?_⟩) hS ?_
                rotate_left
                · intro u hu; (try dsimp only at hu); go_simp; try with_reducible rfl
                simp only [Act.put, List.getElem_toArray, List.getElem_cons_zero, List.getElem_cons_succ, List.setIfInBounds_toArray, List.set_cons_zero, List.set_cons_succ]
                refine wpAnyH_take (i := 3) (v := ?_) rfl (by kernel_rfl) (by kernel_rfl) (by kernel_rfl) (fun _ _ _ h => h) (Or.inl ⟨by rfl, ?_⟩) hS ?_
                rotate_left
                · intro u hu; (try dsimp only at hu); go_simp; try with_reducible rfl
                simp only [Act.put, List.getElem_toArray, List.getElem_cons_zero, List.getElem_cons_succ, List.setIfInBounds_toArray, List.set_cons_zero, List.set_cons_succ]
                refine wpAnyH_take (i := 4) (v := ?_) rfl (by kernel_rfl) (by kernel_rfl) (by kernel_rfl) (fun _ _ _ h => h) (Or.inl ⟨by rfl, ?_⟩) hS ?_
                rotate_left
                · intro u hu; (try dsimp only at hu); go_simp; try with_reducible rfl
                simp only [Act.put, List.getElem_toArray, List.getElem_cons_zero, List.getElem_cons_succ, List.setIfInBounds_toArray, List.set_cons_zero, List.set_cons_succ]
                refine wpAnyH_take (i := 5) (v := ?_) rfl (by kernel_rfl) (by kernel_rfl) (by kernel_rfl) (fun _ _ _ h => h) (Or.inl ⟨by rfl, ?_⟩) hS ?_
                rotate_left
                · intro u hu; (try dsimp only at hu); go_simp; try with_reducible rfl
                simp only [Act.put, List.getElem_toArray, List.getElem_cons_zero, List.getElem_cons_succ, List.setIfInBounds_toArray, List.set_cons_zero, List.set_cons_succ]
                refine wpAnyH_take (i := 6) (v := ?_) rfl (by kernel_rfl) (by kernel_rfl) (by kernel_rfl) (fun _ _ _ h => h) (Or.inl ⟨by rfl, ?_⟩) hS ?_
                rotate_left
                · intro u hu; (try dsimp only at hu); go_simp; try with_reducible rfl
                simp only [Act.put, List.getElem_toArray, List.getElem_cons_zero, List.getElem_cons_succ, List.setIfInBounds_toArray, List.set_cons_zero, List.set_cons_succ]
                refine wpAnyH_take (i := 7) (v := ?_) rfl (by kernel_rfl) (by kernel_rfl) (by kernel_rfl) (fun _ _ _ h => h) (Or.inl ⟨by rfl, ?_⟩) hS ?_
                rotate_left
                · intro u hu; (try dsimp only at hu); go_simp; try with_reducible rfl
                simp only [Act.put, List.getElem_toArray, List.getElem_cons_zero, List.getElem_cons_succ, List.setIfInBounds_toArray, List.set_cons_zero, List.set_cons_succ]
                refine wpAnyH_take (i := 8) (v := ?_) rfl (by kernel_rfl) (by kernel_rfl) (by kernel_rfl) (fun _ _ _ h => h) (Or.inl ⟨by rfl, ?_⟩) hS ?_
                rotate_left
                · intro u hu; (try dsimp only at hu); go_simp; try with_reducible rfl
                simp only [Act.put, List.getElem_toArray, List.getElem_cons_zero, List.getElem_cons_succ, List.setIfInBounds_toArray, List.set_cons_zero, List.set_cons_succ]
                refine wpAnyH_take (i := 9) (v := ?_) rfl (by kernel_rfl) (by kernel_rfl) (by kernel_rfl) (fun _ _ _ h => h) (Or.inl ⟨by rfl, ?_⟩) hS ?_
                rotate_left
                · intro u hu; (try dsimp only at hu); go_simp; try with_reducible rfl
                simp only [Act.put, List.getElem_toArray, List.getElem_cons_zero, List.getElem_cons_succ, List.setIfInBounds_toArray, List.set_cons_zero, List.set_cons_succ]
                refine wpAnyH_take (i := 10) (v := ?_) rfl (by kernel_rfl) (by kernel_rfl) (by kernel_rfl) (fun _ _ _ h => h) (Or.inl ⟨by rfl, ?_⟩) hS ?_
                rotate_left
                · intro u hu; (try dsimp only at hu); go_simp; try with_reducible rfl
                simp only [Act.put, List.getElem_toArray, List.getElem_cons_zero, List.getElem_cons_succ, List.setIfInBounds_toArray, List.set_cons_zero, List.set_cons_succ]
                refine wpAnyH_take (i := 11) (v := ?_) rfl (by kernel_rfl) (by kernel_rfl) (by kernel_rfl) (fun _ _ _ h => h) (Or.inl ⟨by rfl, ?_⟩) hS ?_
                rotate_left
                · intro u hu; (try dsimp only at hu); go_simp; try with_reducible rfl
                simp only [Act.put, List.getElem_toArray, List.getElem_cons_zero, List.getElem_cons_succ, List.setIfInBounds_toArray, List.set_cons_zero, List.set_cons_succ]
                refine wpAnyH_take (i := 12) (v := ?_) rfl (by kernel_rfl) (by kernel_rfl) (by kernel_rfl) (fun _ _ _ h => h) (Or.inl ⟨by rfl, ?_⟩) hS ?_
                rotate_left
                · intro u hu; (try dsimp only at hu); go_simp; try with_reducible rfl
                simp only [Act.put, List.getElem_toArray, List.getElem_cons_zero, List.getElem_cons_succ, List.setIfInBounds_toArray, List.set_cons_zero, List.set_cons_succ]
                refine wpAnyH_take (i := 13) (v := ?_) rfl (by kernel_rfl) (by kernel_rfl) (by kernel_rfl) (fun _ _ _ h => h) (Or.inl ⟨by rfl, ?_⟩) hS ?_
                rotate_left
                · intro u hu; (try dsimp only at hu); go_simp; try with_reducible rfl
                simp only [Act.put, List.getElem_toArray, List.getElem_cons_zero, List.getElem_cons_succ, List.setIfInBounds_toArray, List.set_cons_zero, List.set_cons_succ]
                refine wpAnyH_take (i := 14) (v := ?_) rfl (by kernel_rfl) (by kernel_rfl) (by kernel_rfl) (fun _ _ _ h => h) (Or.inl ⟨by rfl, ?_⟩) hS ?_
                rotate_left
                · intro u hu; (try dsimp only at hu); go_simp; try with_reducible rfl
                simp only [Act.put, List.getElem_toArray, List.getElem_cons_zero, List.getElem_cons_succ, List.setIfInBounds_toArray, List.set_cons_zero, List.set_cons_succ]
                refine wpAnyH_take (i := 15) (v := ?_) rfl (by kernel_rfl) (by kernel_rfl) (by kernel_rfl) (fun _ _ _ h => h) (Or.inl ⟨by rfl, ?_⟩) hS ?_
                rotate_left
                · intro u hu; (try dsimp only at hu); go_simp; try with_reducible rfl
                simp only [Act.put, List.getElem_toArray, List.getElem_cons_zero, List.getElem_cons_succ, List.setIfInBounds_toArray, List.set_cons_zero, List.set_cons_succ]
                refine wpAnyH_take (i := 16) (v := ?_) rfl (by kernel_rfl) (by kernel_rfl) (by kernel_rfl) (fun _ _ _ h => h) (Or.inl ⟨by rfl, ?_⟩) hS ?_
                rotate_left
                · intro u hu; (try dsimp only at hu); go_simp; try with_reducible rfl
                simp only [Act.put, List.getElem_toArray, List.getElem_cons_zero, List.getElem_cons_succ, List.setIfInBounds_toArray, List.set_cons_zero, List.set_cons_succ]
                refine wpAnyH_take (i := 17) (v := ?_) rfl (by kernel_rfl) (by kernel_rfl) (by kernel_rfl) (fun _ _ _ h => h) (Or.inl ⟨by rfl, ?_⟩) hS ?_
                rotate_left
                · intro u hu; (try dsimp only at hu); go_simp; try with_reducible rfl
                simp only [Act.put, List.getElem_toArray, List.getElem_cons_zero, List.getElem_cons_succ, List.setIfInBounds_toArray, List.set_cons_zero, List.set_cons_succ]
                refine wpAnyH_take (i := 18) (v := ?_) rfl (by kernel_rfl) (by kernel_rfl) (by kernel_rfl) (fun _ _ _ h => h) (Or.inl ⟨by rfl, ?_⟩) hS ?_
                rotate_left
                · intro u hu; (try dsimp only at hu); go_simp; try with_reducible rfl
                simp only [Act.put, List.getElem_toArray, List.getElem_cons_zero, List.getElem_cons_succ, List.setIfInBounds_toArray, List.set_cons_zero, List.set_cons_succ]
                refine wpAnyH_take (i := 19) (v := ?_) rfl (by kernel_rfl) (by kernel_rfl) (by kernel_rfl) (fun _ _ _ h => h) (Or.inl ⟨by rfl, ?_⟩) hS ?_
                rotate_left
                · intro u hu; (try dsimp only at hu); go_simp; try with_reducible rfl
                simp only [Act.put, List.getElem_toArray, List.getElem_cons_zero, List.getElem_cons_succ, List.setIfInBounds_toArray, List.set_cons_zero, List.set_cons_succ]
                refine wpAnyH_take (i := 20) (v := ?_) rfl (by kernel_rfl) (by kernel_rfl) (by kernel_rfl) (fun _ _ _ h => h) (Or.inl ⟨by rfl, ?_⟩) hS ?_
                rotate_left
                · intro u hu; (try dsimp only at hu); go_simp; try with_reducible rfl
                simp only [Act.put, List.getElem_toArray, List.getElem_cons_zero, List.getElem_cons_succ, List.setIfInBounds_toArray, List.set_cons_zero, List.set_cons_succ]
                refine wpAnyH_take (i := 21) (v := ?_) rfl (by kernel_rfl) (by kernel_rfl) (by kernel_rfl) (fun _ _ _ h => h) (Or.inl ⟨by rfl, ?_⟩) hS ?_
                rotate_left
                · intro u hu; (try dsimp only at hu); go_simp; try with_reducible rfl
                simp only [Act.put, List.getElem_toArray, List.getElem_cons_zero, List.getElem_cons_succ, List.setIfInBounds_toArray, List.set_cons_zero, List.set_cons_succ]
                refine wpAnyH_take (i := 22) (v := ?_) rfl (by kernel_rfl) (by kernel_rfl) (by kernel_rfl) (fun _ _ _ h => h) (Or.inl ⟨by rfl, ?_⟩) hS ?_
                rotate_left
                · intro u hu; (try dsimp only at hu); go_simp; try with_reducible rfl
                simp only [Act.put, List.getElem_toArray, List.getElem_cons_zero, List.getElem_cons_succ, List.setIfInBounds_toArray, List.set_cons_zero, List.set_cons_succ]
                refine wpAnyH_take (i := 23) (v := ?_) rfl (by kernel_rfl) (by kernel_rfl) (by kernel_rfl) (fun _ _ _ h => h) (Or.inl ⟨by rfl, ?_⟩) hS ?_
                rotate_left
                · intro u hu; (try dsimp only at hu); go_simp; try with_reducible rfl
                simp only [Act.put, List.getElem_toArray, List.getElem_cons_zero, List.getElem_cons_succ, List.setIfInBounds_toArray, List.set_cons_zero, List.set_cons_succ]
                refine wpAnyH_take (i := 24) (v := ?_) rfl (by kernel_rfl) (by kernel_rfl) (by kernel_rfl) (fun _ _ _ h => h) (Or.inl ⟨by rfl, ?_⟩) hS ?_
                rotate_left
                · intro u hu; (try dsimp only at hu); go_simp; try with_reducible rfl
                simp only [Act.put, List.getElem_toArray, List.getElem_cons_zero, List.getElem_cons_succ, List.setIfInBounds_toArray, List.set_cons_zero, List.set_cons_succ]
                refine wpAnyH_take (i := 25) (v := ?_) rfl (by kernel_rfl) (by kernel_rfl) (by kernel_rfl) (fun _ _ _ h => h) (Or.inl ⟨by rfl, ?_⟩) hS ?_
                rotate_left
                · intro u hu; (try dsimp only at hu); go_simp; try with_reducible rfl
                simp only [Act.put, List.getElem_toArray, List.getElem_cons_zero, List.getElem_cons_succ, List.setIfInBounds_toArray, List.set_cons_zero, List.set_cons_succ]
                refine wpAnyH_take (i := 26) (v := ?_) rfl (by kernel_rfl) (by kernel_rfl) (by kernel_rfl) (fun _ _ _ h => h) (Or.inl ⟨by rfl, ?_⟩) hS ?_
                rotate_left
                · intro u hu; (try dsimp only at hu); go_simp; try with_reducible rfl
                simp only [Act.put, List.getElem_toArray, List.getElem_cons_zero, List.getElem_cons_succ, List.setIfInBounds_toArray, List.set_cons_zero, List.set_cons_succ]
                refine wpAnyH_take (i := 27) (v := ?_) rfl (by kernel_rfl) (by kernel_rfl) (by kernel_rfl) (fun _ _ _ h => h) (Or.inl ⟨by rfl, ?_⟩) hS ?_
                rotate_left
                · intro u hu; (try dsimp only at hu); go_simp; try with_reducible rfl
                simp only [Act.put, List.getElem_toArray, List.getElem_cons_zero, List.getElem_cons_succ, List.setIfInBounds_toArray, List.set_cons_zero, List.set_cons_succ]
                refine wpAnyH_take (i := 28) (v := ?_) rfl (by kernel_rfl) (by kernel_rfl) (by kernel_rfl) (fun _ _ _ h => h) (Or.inl ⟨by rfl, ?_⟩) hS ?_
                rotate_left
                · intro u hu; (try dsimp only at hu); go_simp; try with_reducible rfl
                simp only [Act.put, List.getElem_toArray, List.getElem_cons_zero, List.getElem_cons_succ, List.setIfInBounds_toArray, List.set_cons_zero, List.set_cons_succ]
                refine wpAnyH_done (by kernel_rfl) ?_ _
                clear hS
                go_wp2_with fail
                go_roundw
                case rel => exact ⟨j + 1, by go_num, by omega, (unhide HX).drew⟩
                case measure => simp [intOf]; omega
              · obtain rfl : j = bl := by omega
                go_wp2_with fail
                go_roundw
                case rel => exact ⟨k2 + 1, by go_num, by omega, HX⟩
                case measure => simp [intOf]; omega
          · obtain rfl : k2 = m8 := by omega
            obtain ⟨g0, g1⟩ := ((unhide HBW8).step (unhide HX)).cells
            obtain ⟨kf, _, _, hF⟩ := (unhide HAF).full (unhide HIX) (i := n) (by rw [unhide HLX]; omega)
            have t0 := (unhide HRB wr (unhide HX)).cell (t := n) (by omega)
            rw [Nat.zero_add, hF] at t0
            have hpos : (0 : Int) < ((kf + 1 : Nat) : Int) := by omega
            have hnn1 : (n : Int) < (n : Int) + 1 := by omega
            have HBF := hide ((unhide HBW8).step (unhide HX)).bel
            clear hF
            go_wp2_with fail
            go_ret
            exact ⟨rfl, unhide HBF⟩
end Go.Proofs.Ytanieejckjekhaa


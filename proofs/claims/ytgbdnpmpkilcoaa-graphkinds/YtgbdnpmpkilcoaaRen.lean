/-
  The contract of graph.Rename. Conditions: the graph, the names and the order lie in memory as told.
-/
import Derived.Test.YtgbdnpmpkilcoaaRenL
namespace Go.Proofs.Ytgbdnpmpkilcoaa
open Go.RowKit
set_option linter.unusedVariables false
set_option linter.unusedSimpArgs false

/-- the boxes at a function's head stand -/
structure BX (w wk : World) (V : Value) (r : Obj) : Prop where
  bel : Below w.heap.size w wk
  gb : wk.heap[w.heap.size]? = some (.cells #[V.cells[0]!, V.cells[1]!] 24 (0, 0))
  rb : wk.heap[w.heap.size + 1]? = some r

set_option maxHeartbeats 8000000 in
theorem rename_good (w : World) (V : Nat) (a : Option Addr) (cap : Nat) (es : List (Nat × Nat)) (na oa : Option Addr) (nc oc : Nat) (ns os : List Nat) {B : Nat} (h : Es B w a es.length (toI es)) (hp : Plain V es)
    (hns : Ns w na V (toIs ns)) (hos : Ns w oa es.length (toIs os)) (hnc : V ≤ nc) (hoc : es.length ≤ oc) (hpn : IsPerm V (toIs ns)) (hpo : IsPerm es.length (toIs os)) :
    Calls Try.prog 25 #[.agg #[.int .i64 V, .slice a es.length cap], .slice na V nc, .slice oa es.length oc] w fun e w' =>
      (∃ a' cap', e = .returned (.tuple #[.agg #[.int .i64 V, .slice a' es.length cap'], .int .i64 0]) ∧ Es w.heap.size w' a' es.length (toI (ren ns es os))) ∧ Below w.heap.size w w' := by
  have hv64 := hp.v64
  have hn128 := hp.n128
  have HE := hide h
  have HP := hide hp
  have HNS := hide hns
  have HOS := hide hos
  have HPN := hide hpn
  have HPO := hide hpo
  have hnl : ns.length = V := by have := hpn.1; rw [toIs_length] at this; exact this
  have hol : os.length = es.length := by have := hpo.1; rw [toIs_length] at this; exact this
  have HNL := hide hnl
  have HOL0 := hide hol
  have hoslt : ∀ i, i < os.length → os.getD i 0 < es.length := by
    intro i hi
    have := hpo.2.2 ((os.getD i 0 : Nat) : Int) (mem_toIs.2 (by simp [List.getD, hi]))
    omega
  have HOSL := hide hoslt
  have hg := good_of_plain hp
  have HG := hide hg
  obtain ⟨i0, hi0, hz0, hz1, hz2⟩ := info_parts info54
  have HI := hide hi0
  have HZ0 := hide hz0
  have HZ1 := hide hz1
  have HZ2 := hide hz2
  obtain ⟨n, hn⟩ : ∃ n, es.length = n := ⟨_, rfl⟩
  have HN := hide hn
  rw [hn] at hoc hn128 ⊢
  have HOL := hide (show os.length = n by rw [hol, hn])
  have HEN := hide (show Es B w a n (toI es) by rw [← hn]; exact h)
  have HOSN := hide (show Ns w oa n (toIs os) by rw [← hn]; exact hos)
  have HPON := hide (show IsPerm n (toIs os) by rw [← hn]; exact hpo)
  have HGN := hide (show Good V n (toI es) by rw [← hn]; exact hg)
  clear h hp hns hos hpn hpo hnl hol hg hi0 hz0 hz1 hz2 hn hoslt
  have hb0 : Below w.heap.size w ((w.alloc (.cells #[.int .i64 V, .slice a n cap] 24)).alloc (.cells #[.int .i64 0, .slice none 0 0] 24)) := ((Below.refl _ _).alloc (Nat.le_refl _) _).alloc (by simp) _
  go_enter Try.func25, Try.ntmps25
  go_wp2_with fail
  refine (may_any _ V a n cap (toI es) ((unhide HEN).below hb0)).mono ?_
  rintro e w1 ⟨⟨r, rfl, hr⟩, hb1⟩
  have hrf : r = true := hr.2 (unhide HGN)
  subst hrf
  have hbw1 := hb0.trans (hb1.mono (by simp; omega))
  have HB1 := hide hbw1
  have gb : w1.heap[w.heap.size]? = some (.cells #[.int .i64 V, .slice a n cap] 24 (0, 0)) := by
    rw [hb1.block _ (by simp; omega), Below.heap_alloc _ _ _ (by simp)]
    exact (MapKept.heap_alloc w _).1
  have rbb : w1.heap[w.heap.size + 1]? = some (.cells #[.int .i64 0, .slice none 0 0] 24 (0, 0)) := by
    rw [hb1.block _ (by simp)]
    have := (MapKept.heap_alloc (w.alloc (.cells #[.int .i64 V, .slice a n cap] 24)) (.cells #[.int .i64 0, .slice none 0 0] 24)).1
    simpa using this
  have g0 : w1.cell? ⟨w.heap.size, 0, none⟩ = some (.int .i64 V) := by simp [World.cell?, gb]
  have g1 : w1.cell? ⟨w.heap.size, 1, none⟩ = some (.slice a n cap) := by simp [World.cell?, gb]
  have hl1 : w.heap.size + 1 < w1.heap.size := (Array.getElem?_eq_some_iff.1 rbb).1
  have HN1 := hide ((unhide HNS).below hbw1)
  have HO1 := hide ((unhide HOSN).below hbw1)
  have HGB := hide gb
  have HRB := hide rbb
  clear hr hb0 hb1 hbw1 gb rbb
  have hlo : w.heap.size + 1 < w1.heap.size := by omega
  have hR0 : RRel w (w1.alloc (.cells #[.int .i64 V, .slice none 0 0] 24)) w1.heap.size V 0 (.slice none 0 0) (toI (ren ns es (os.take 0))) := by
    refine ⟨(unhide HB1).alloc (by omega) _, by omega, .inr trivial, ?_, ?_⟩
    · exact (MapKept.heap_alloc w1 _).1
    · simp only [List.take_zero]
      exact World.ownsRow_nil _ _ _ _
  have HR0 := hide hR0
  clear hR0
  have hcall1 := eachOnce_any w1 na V nc V (toIs ns) (unhide HN1) hnc (by omega)
  have hcall2 := eachOnce_any w1 oa n oc n (toIs os) (unhide HO1) hoc (by omega)
  have HC1 := hide hcall1
  have HC2 := hide hcall2
  clear hcall1 hcall2
  go_wp2_with fail
  refine (unhide HC1).mono ?_
  rintro e w' ⟨⟨r, rfl, hr⟩, hw'⟩
  obtain rfl := hw'.symm
  have hrt : r = true := hr.2 (unhide HPN)
  subst hrt
  clear hr hw'
  go_wp2_with fail
  refine (unhide HC2).mono ?_
  rintro e w' ⟨⟨r, rfl, hr⟩, hw'⟩
  obtain rfl := hw'.symm
  have hrt : r = true := hr.2 (unhide HPON)
  subst hrt
  clear hr hw'
  go_wp2_with fail
  go_loopw [36] (fun i wr => ∃ (k : Nat) (v : Value), i = .int .i64 k ∧ k ≤ n ∧ RRel w wr w1.heap.size V k v (toI (ren ns es (os.take k))) ∧ ∀ i, i < w1.heap.size → wr.heap[i]? = w1.heap[i]?) (fun i wr => n - (intOf i).toNat)
  case atStart => exact ⟨0, _, rfl, by omega, unhide HR0, fun i hi => Below.heap_alloc _ _ _ hi⟩
  case round =>
    obtain ⟨k, vv, rfl, hk, hR, hold⟩ := hrel
    have HR := hide hR
    have HOLD := hide hold
    have hbr := hR.bel
    have hrl := hR.lt
    obtain ⟨_, rv1, rf1⟩ := hR.cells
    have q1 : wr.cell? ⟨w.heap.size, 1, none⟩ = some (.slice a n cap) := by rw [World.cell?_of_block (w := w1) (hold w.heap.size (by omega))]; exact g1
    by_cases hlt : k < n
    · obtain ⟨go, oo, hoa, hgo, o0⟩ := ns_at (show Ns w oa os.length (toIs os) by rw [unhide HOL]; exact unhide HOSN) (i := k) (by rw [unhide HOL]; exact hlt)
      have hil := unhide HOSL k (by rw [unhide HOL]; exact hlt)
      obtain ⟨i, hi⟩ : ∃ i, os.getD k 0 = i := ⟨_, rfl⟩
      rw [hi] at o0 hil
      obtain ⟨ge, oe, hae, hge, e0, e1⟩ := es_at (unhide HE) hil
      have hxyV := (unhide HP).at hil
      obtain ⟨x, y, hxy⟩ : ∃ x y, Pl.at' es i = (x, y) := ⟨_, _, rfl⟩
      rw [hxy] at e0 e1 hxyV
      obtain ⟨hxV, hyV⟩ := hxyV
      simp only at e0 e1 hxV hyV
      have hNSl : Ns w na ns.length (toIs ns) := by rw [unhide HNL]; exact unhide HNS
      obtain ⟨gx, ox, hax, hgx, n0⟩ := ns_at hNSl (i := x) (by rw [unhide HNL]; exact hxV)
      obtain ⟨gy, oy, hay, hgy, n1⟩ := ns_at hNSl (i := y) (by rw [unhide HNL]; exact hyV)
      obtain ⟨rfl, rfl⟩ : gx = gy ∧ ox = oy := by rw [hax] at hay; simpa using hay
      subst hoa
      subst hae
      subst hax
      obtain ⟨nx, hnx⟩ : ∃ nx : Int, ((ns.getD x 0 : Nat) : Int) = nx := ⟨_, rfl⟩
      obtain ⟨ny, hny⟩ : ∃ ny : Int, ((ns.getD y 0 : Nat) : Int) = ny := ⟨_, rfl⟩
      rw [hnx] at n0
      rw [hny] at n1
      have HNX := hide (show (nx, ny) = (((renE ns es (os.getD k 0)).1 : Int), ((renE ns es (os.getD k 0)).2 : Int)) by unfold renE; rw [hi, hxy, ← hnx, ← hny])
      have p0 : wr.cell? ⟨go, oo + k, none⟩ = some (.int .i64 (i : Nat)) := by rw [hbr.cell (p := ⟨go, oo + k, none⟩) hgo]; exact o0
      have p1 : wr.cell? ⟨ge, oe + i * 2, none⟩ = some (.int .i64 (x : Nat)) := by rw [hbr.cell (p := ⟨ge, oe + i * 2, none⟩) hge]; exact e0
      have p2 : wr.cell? ⟨ge, oe + i * 2 + 1, none⟩ = some (.int .i64 (y : Nat)) := by rw [hbr.cell (p := ⟨ge, oe + i * 2 + 1, none⟩) hge]; exact e1
      have nx1 : wr.cell? ⟨gx, ox + x, none⟩ = some (.int .i64 nx) := by rw [hbr.cell (p := ⟨gx, ox + x, none⟩) hgx]; exact n0
      have ny1 : wr.cell? ⟨gx, ox + y, none⟩ = some (.int .i64 ny) := by rw [hbr.cell (p := ⟨gx, ox + y, none⟩) hgx]; exact n1
      have hown := hR.own
      obtain ⟨cx, hcx⟩ : ∃ cx, ecells (toI (ren ns es (os.take k))) = cx := ⟨_, rfl⟩
      rw [hcx] at hown
      have HCX := hide hcx
      have HOWN := hide hown
      have hsz := hbr.size
      have hgl : gx < wr.heap.size := by omega
      have hgl2 : ge < wr.heap.size := by omega
      have hlt2 : (k : Int) < (n : Int) := by omega
      have hil2 : (i : Int) < (n : Int) := by rw [unhide HN] at hil; omega
      have hxV2 : (x : Int) < (V : Int) := by omega
      have hyV2 : (y : Int) < (V : Int) := by omega
      clear hR hold hbr o0 e0 e1 n0 n1 hnx hny hi hxy hcx hown hNSl hil hay
      have HBW := hide (show Below wr.heap.size wr ((wr.alloc (.cells #[.int .i64 x, .int .i64 y] 54)).alloc (.cells #[.int .i64 nx, .int .i64 ny] 54)).drew from (((Below.refl _ _).alloc (Nat.le_refl _) _).alloc (by simp) _).drew)
      have HOW := hide (show ((wr.alloc (.cells #[.int .i64 x, .int .i64 y] 54)).alloc (.cells #[.int .i64 nx, .int .i64 ny] 54)).drew.ownsRow (w1.heap.size + 1) 54 2 vv k cx from (((unhide HOWN).alloc _).alloc _).drew)
      have HNW := hide (news_two (wr.alloc (.cells #[.int .i64 x, .int .i64 y] 54)) (.int .i64 nx) (.int .i64 ny) 54 (wr.heap.size + 1) (by simp))
      have HBA := hide (show w1.heap.size + 1 ≤ ((wr.alloc (.cells #[.int .i64 x, .int .i64 y] 54)).alloc (.cells #[.int .i64 nx, .int .i64 ny] 54)).drew.heap.size from Nat.le_trans (unhide HR).lt (unhide HBW).size)
      have HE0 := hide (show ((wr.alloc (.cells #[.int .i64 x, .int .i64 y] 54)).alloc (.cells #[.int .i64 nx, .int .i64 ny] 54)).drew.cell? ⟨wr.heap.size, 0, none⟩ = some (.int .i64 x) by simp)
      have HE1 := hide (show ((wr.alloc (.cells #[.int .i64 x, .int .i64 y] 54)).alloc (.cells #[.int .i64 nx, .int .i64 ny] 54)).drew.cell? ⟨wr.heap.size, 1, none⟩ = some (.int .i64 y) by simp)
      have hb63 : k + 1 ≤ maxLen := by unfold maxLen; omega
      have hbby : (k + 1) * 16 ≤ 140737488355328 := by omega
      have hne1 : wr.heap.size ≠ w1.heap.size := by omega
      have hne2 : gx ≠ w1.heap.size := by omega
      go_wp2_with fail
      refine wp_region_held_drew (S := fun u => u.cell? ⟨wr.heap.size, 0, none⟩ = some (.int .i64 x) ∧ u.cell? ⟨wr.heap.size, 1, none⟩ = some (.int .i64 y) ∧ u.cell? ⟨gx, ox + x, none⟩ = some (.int .i64 nx) ∧ u.cell? ⟨gx, ox + y, none⟩ = some (.int .i64 ny)) (by kernel_rfl) (by go_keep) (fun hS0 => ?_)
      refine wpAnyH_take (i := 0) (v := ?_) rfl (by kernel_rfl) (by kernel_rfl) (by kernel_rfl) (fun _ _ _ h => h) (Or.inl ⟨by rfl, ?_⟩) hS0 ?_
      rotate_left
      · intro u hu; (try dsimp only at hu); go_simp; try with_reducible rfl
      simp only [Act.put, List.setIfInBounds_toArray, List.set_cons_zero, List.set_cons_succ]
      refine wpAnyH_take (i := 2) (v := ?_) rfl (by kernel_rfl) (by kernel_rfl) (by kernel_rfl) (fun _ _ _ h => h) (Or.inl ⟨by rfl, ?_⟩) hS0 ?_
      rotate_left
      · intro u hu; (try dsimp only at hu); go_simp; try with_reducible rfl
      simp only [Act.put, List.setIfInBounds_toArray, List.set_cons_zero, List.set_cons_succ]
      refine wpAnyH_take (i := 3) (v := ?_) rfl (by kernel_rfl) (by kernel_rfl) (by kernel_rfl) (fun _ _ _ h => h) (Or.inl ⟨by rfl, ?_⟩) hS0 ?_
      rotate_left
      · intro u hu; (try dsimp only at hu); go_simp; try with_reducible rfl
      simp only [Act.put, List.setIfInBounds_toArray, List.set_cons_zero, List.set_cons_succ]
      refine wpAnyH_take (i := 4) (v := ?_) rfl (by kernel_rfl) (by kernel_rfl) (by kernel_rfl) (fun _ _ _ h => h) (Or.inl ⟨by rfl, ?_⟩) hS0 ?_
      rotate_left
      · intro u hu; (try dsimp only at hu); go_simp; try with_reducible rfl
      simp only [Act.put, List.setIfInBounds_toArray, List.set_cons_zero, List.set_cons_succ]
      refine wpAnyH_take (i := 5) (v := ?_) rfl (by kernel_rfl) (by kernel_rfl) (by kernel_rfl) (fun _ _ _ h => h) (Or.inl ⟨by rfl, ?_⟩) hS0 ?_
      rotate_left
      · intro u hu; (try dsimp only at hu); go_simp; try with_reducible rfl
      simp only [Act.put, List.setIfInBounds_toArray, List.set_cons_zero, List.set_cons_succ]
      refine wpAnyH_take (i := 6) (v := ?_) rfl (by kernel_rfl) (by kernel_rfl) (by kernel_rfl) (fun _ _ _ h => h) (Or.inl ⟨by rfl, ?_⟩) hS0 ?_
      rotate_left
      · intro u hu; (try dsimp only at hu); go_simp; try with_reducible rfl
      simp only [Act.put, List.setIfInBounds_toArray, List.set_cons_zero, List.set_cons_succ]
      refine wpAnyH_take (i := 7) (v := ?_) rfl (by kernel_rfl) (by kernel_rfl) (by kernel_rfl) (fun _ _ _ h => h) (Or.inl ⟨by rfl, ?_⟩) hS0 ?_
      rotate_left
      · intro u hu; (try dsimp only at hu); go_simp; try with_reducible rfl
      simp only [Act.put, List.setIfInBounds_toArray, List.set_cons_zero, List.set_cons_succ]
      refine wpAnyH_take (i := 8) (v := ?_) rfl (by kernel_rfl) (by kernel_rfl) (by kernel_rfl) (fun _ _ _ h => h) (Or.inl ⟨by rfl, ?_⟩) hS0 ?_
      rotate_left
      · intro u hu; (try dsimp only at hu); go_simp; try with_reducible rfl
      simp only [Act.put, List.setIfInBounds_toArray, List.set_cons_zero, List.set_cons_succ]
      refine wpAnyH_take (i := 9) (v := ?_) rfl (by kernel_rfl) (by kernel_rfl) (by kernel_rfl) (fun _ _ _ h => h) (Or.inl ⟨by rfl, ?_⟩) hS0 ?_
      rotate_left
      · intro u hu; (try dsimp only at hu); go_simp; try with_reducible rfl
      simp only [Act.put, List.setIfInBounds_toArray, List.set_cons_zero, List.set_cons_succ]
      refine wpAnyH_take (i := 10) (v := ?_) rfl (by kernel_rfl) (by kernel_rfl) (by kernel_rfl) (fun _ _ _ h => h) (Or.inl ⟨by rfl, ?_⟩) hS0 ?_
      rotate_left
      · intro u hu; (try dsimp only at hu); go_simp; try with_reducible rfl
      simp only [Act.put, List.setIfInBounds_toArray, List.set_cons_zero, List.set_cons_succ]
      refine wpAnyH_take (i := 11) (v := ?_) rfl (by kernel_rfl) (by kernel_rfl) (by kernel_rfl) (fun _ _ _ h => h) (Or.inl ⟨by rfl, ?_⟩) hS0 ?_
      rotate_left
      · intro u hu; (try dsimp only at hu); go_simp; try with_reducible rfl
      simp only [Act.put, List.setIfInBounds_toArray, List.set_cons_zero, List.set_cons_succ]
      refine wpAnyH_take (i := 12) (v := ?_) rfl (by kernel_rfl) (by kernel_rfl) (by kernel_rfl) (fun _ _ _ h => h) (Or.inl ⟨by rfl, ?_⟩) hS0 ?_
      rotate_left
      · intro u hu; (try dsimp only at hu); go_simp; try with_reducible rfl
      simp only [Act.put, List.setIfInBounds_toArray, List.set_cons_zero, List.set_cons_succ]
      refine wpAnyH_ready (rs := [1, 13]) (by kernel_rfl) (by simp) ?_
      refine AllReadyH.cons rfl (fun K hK => ?_) (AllReadyH.cons rfl (fun K hK => ?_) AllReadyH.nil)
      all_goals go_simp
      all_goals refine hK.out _ _ (by first | exact hS0 | go_keep) (fun hH => ?_)
      all_goals clear hK K hS0
      refine wpAnyH_ready (rs := [13]) (by kernel_rfl) (by simp) ?_
      rotate_left
      refine wpAnyH_ready (rs := [1]) (by kernel_rfl) (by simp) ?_
      all_goals
        refine AllReadyH.cons rfl (fun K hK => ?_) AllReadyH.nil
        go_simp
        refine hK.out _ _ (by first | exact hH | go_keep) (fun hS0 => ?_)
        clear hK K hH
        refine wpAnyH_ready (rs := [14]) (by kernel_rfl) (by simp) ?_
        refine AllReadyH.cons rfl (fun K hK => ?_) AllReadyH.nil
        refine step_append_lies _ rfl (.tmp 46) (.tmp 58) 22 rfl (w1.heap.size + 1) 54 i0 (.agg #[.int .i64 0, .int .i64 0]) 2 16 Try.underlying22 (unhide HI) (unhide HZ0) (unhide HZ1) (unhide HZ2) rfl (by decide) vv k cx rfl (unhide HOW) ⟨wr.heap.size + 1, 0, none⟩ 1 1 [.int .i64 nx, .int .i64 ny] rfl rfl (unhide HNW) (one_two nx ny) (by decide) hb63 hbby (unhide HBA) _ rfl ?_
        intro g2 cap2 w4 hown4 hg4 hat4 hlt4
        have HF := hide (RRel.facts (unhide HR) (unhide HBW) (by rw [unhide HCX]; exact hown4) hg4)
        obtain ⟨z1, z2, zb, ze, _⟩ := unhide HF
        have y0 := ze ⟨wr.heap.size, 0, none⟩ _ rfl (unhide HE0)
        have y1 := ze ⟨wr.heap.size, 1, none⟩ _ rfl (unhide HE1)
        have y2 : w4.cell? ⟨gx, ox + x, none⟩ = some (.int .i64 nx) := by rw [World.cell?_of_block (w := wr) (zb gx (by omega))]; exact nx1
        have y3 : w4.cell? ⟨gx, ox + y, none⟩ = some (.int .i64 ny) := by rw [World.cell?_of_block (w := wr) (zb gx (by omega))]; exact ny1
        clear zb ze
        refine hK.out _ _ ⟨y0, y1, y2, y3⟩ (fun hS1 => ?_)
        clear hK K hown4 hg4 hat4
        refine wpAnyH_take (i := 15) (v := ?_) rfl (by kernel_rfl) (by kernel_rfl) (by kernel_rfl) (fun _ _ _ h => h) (Or.inl ⟨by rfl, ?_⟩) hS1 ?_
        rotate_left
        · intro u hu; (try dsimp only at hu); go_simp; try with_reducible rfl
        simp only [Act.put, List.setIfInBounds_toArray, List.set_cons_zero, List.set_cons_succ]
        refine wpAnyH_ready (rs := [16]) (by kernel_rfl) (by simp) ?_
        refine AllReadyH.cons rfl (fun K hK => ?_) AllReadyH.nil
        go_simp
        refine hK.out _ _ ⟨by rw [cell_set_far _ _ _ _ hne1]; exact y0, by rw [cell_set_far _ _ _ _ hne1]; exact y1, by rw [cell_set_far _ _ _ _ hne2]; exact y2, by rw [cell_set_far _ _ _ _ hne2]; exact y3⟩ (fun hS2 => ?_)
        clear hK K hS1 hS2
        refine wpAnyH_done (by kernel_rfl) ?_ _
        have HR4 := hide (unhide HF).2.2.2.2
        have hold4 := (unhide HF).2.2.1
        have HOLD4 := hide (show ∀ i, i < w1.heap.size → (w4.setCell ⟨w1.heap.size, 1, none⟩ (.slice (some ⟨g2, 0, none⟩) (k + 1) cap2)).heap[i]? = w1.heap[i]? from fun i hi => by rw [heap_set_other _ _ _ (show i ≠ w1.heap.size by omega), hold4 i (by omega)]; exact unhide HOLD i hi)
        clear HF hS0 z1 z2 y0 y1 y2 y3 hold4
        go_wp2_with fail
        go_roundw
        case rel =>
          refine ⟨k + 1, .slice (some ⟨g2, 0, none⟩) (k + 1) cap2, by go_num, by omega, ?_, unhide HOLD4⟩
          rw [ren_take _ _ _ k (by rw [unhide HOL]; exact hlt)]
          have h4 := unhide HR4
          rw [unhide HNX] at h4
          exact h4
        case measure => simp [intOf]; omega
    · obtain rfl : k = n := by omega
      have q0 : wr.cell? ⟨w.heap.size + 1, 0, none⟩ = some (.int .i64 0) := by rw [World.cell?_of_block (w := w1) (hold (w.heap.size + 1) (by omega))]; simp [World.cell?, unhide HRB]
      have q2 : wr.cell? ⟨w.heap.size + 1, 1, none⟩ = some (.slice none 0 0) := by rw [World.cell?_of_block (w := w1) (hold (w.heap.size + 1) (by omega))]; simp [World.cell?, unhide HRB]
      have f0 : wr.frozen? ⟨w.heap.size + 1, 0, none⟩ = false := by rw [World.frozen?_of_block (w := w1) (hold (w.heap.size + 1) (by omega))]; simp [World.frozen?, unhide HRB]
      have f2 : wr.frozen? ⟨w.heap.size + 1, 1, none⟩ = false := by rw [World.frozen?_of_block (w := w1) (hold (w.heap.size + 1) (by omega))]; simp [World.frozen?, unhide HRB]
      have rv0 := hR.cells.1
      obtain ⟨va, vc, hvv, _⟩ := es_of_owns hR.own (by omega)
      subst hvv
      have HBR := hide hbr
      clear hR hold hbr
      go_wp2_with fail
      refine bodyPost_ret (v := .tuple #[.agg #[.int .i64 V, .slice va k vc], .int .i64 0]) (by simp [results, Try.results25, go_sem, q0, q2]) rfl ⟨⟨va, vc, rfl, ?_⟩, ?_⟩
      · have h1 := ownsRow_setCell_below (ownsRow_setCell_below (a := ⟨w.heap.size + 1, 0, none⟩) (unhide HR).own (by show w.heap.size + 1 < w1.heap.size + 1; omega) (.int .i64 V)) (a := ⟨w.heap.size + 1, 1, none⟩) (by show w.heap.size + 1 < w1.heap.size + 1; omega) (.slice va k vc)
        obtain ⟨_, _, hx, hE⟩ := es_of_owns h1 (by omega)
        obtain ⟨rfl, rfl⟩ : va = _ ∧ vc = _ := by simpa using hx
        rw [show os.take k = os by rw [← unhide HOL, List.take_length]] at hE
        exact hE.mono (by omega)
      · exact ((unhide HBR).setCell (p := ⟨w.heap.size + 1, 0, none⟩) (Nat.le_succ _) _).setCell (p := ⟨w.heap.size + 1, 1, none⟩) (Nat.le_succ _) _
end Go.Proofs.Ytgbdnpmpkilcoaa

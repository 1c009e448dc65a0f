/-
  The walk of the statement RotationSwaps. Conditions: the graph and the lists lie in memory as told; the table of math/bits lies where it should.
-/
import Derived.Test.YtmklngabfdnclaaDoorOa
import Derived.Test.YtmklngabfdnclaaDoorWr
namespace Go.Proofs.YtmklngabfdnclaaDoor
open Go.RowKit
set_option linter.unusedVariables false
set_option maxRecDepth 20000

set_option maxHeartbeats 8000000 in
theorem swaps_out (w : World) (V : Int) (a : Option Addr) (n cap : Nat) (es : List (Int × Int)) (h : 200 < n ∨ Es 0 w a n es) (ra : Option Addr) (m rc : Nat) (rs : List (List Int)) (hq : Rq w ra m rs) (x0 at0 : Int) (hg : GreatP n m rs ∨ ¬ IsRot V n es rs) :
    Calls Tryd.prog 5 #[.agg #[.int .i64 V, .slice a n cap], .slice ra m rc, .int .i64 x0, .int .i64 at0] w fun e w' => e = .returned (.bool true) ∧ Below w.heap.size w w' := by
  have HR := hide hq
  have HB0 := hide (Bg.start w (.int .i64 V) (.slice a n cap))
  by_cases hgr : GreatP n m rs
  · have HG := hide hgr
    clear hq hg h hgr
    go_enter Tryd.func5, Tryd.ntmps5
    go_wp2_with fail
    refine (speaks_any _).mono ?_
    rintro e w1 ⟨rfl, hb1⟩
    have HB1 := hide ((unhide HB0).step hb1)
    obtain ⟨g0, g1⟩ := (unhide HB1).cells
    clear hb1 HB0
    go_wp2_with fail
    refine (great_any w1 V a n cap ra m rc rs ((unhide HR).below (unhide HB1).bel)).mono ?_
    rintro e w2 ⟨⟨r, rfl, hr⟩, hb2⟩
    have hrt : r = true := hr.2 (unhide HG)
    subst hrt
    have HB2 := hide ((unhide HB1).step hb2)
    clear hb2 HB1 g0 g1 hr
    go_wp2_with fail
    go_ret
    exact ⟨rfl, (unhide HB2).bel⟩
  · have hno := hg.resolve_left hgr
    have hn60 : n ≤ 60 := Nat.le_of_not_lt fun h => hgr (.inl h)
    have hm70 : m ≤ 70 := Nat.le_of_not_lt fun h => hgr (.inr (.inl h))
    have hl200 : ∀ k, k < m → (rs.getD k []).length ≤ 200 := fun k hk => Nat.le_of_not_lt fun h => hgr (.inr (.inr ⟨k, hk, h⟩))
    have hr : Rr w ra m rs := hq.rr (by omega) fun k hk => by have := hl200 k hk; omega
    have hE := h.resolve_left (by omega)
    have C10 := hide (fun (u : World) (hu : Below w.heap.size w u) => refright_any u V a n cap es (hE.below hu) ra m rc rs (hr.below hu) (fun k hk => by have := hl200 k hk; omega) (by omega))
    have HG := hide hgr
    have HNO := hide hno
    clear hq hg h hgr hno hE hr hl200
    go_enter Tryd.func5, Tryd.ntmps5
    go_wp2_with fail
    refine (speaks_any _).mono ?_
    rintro e w1 ⟨rfl, hb1⟩
    have HB1 := hide ((unhide HB0).step hb1)
    obtain ⟨g0, g1⟩ := (unhide HB1).cells
    clear hb1 HB0
    go_wp2_with fail
    refine (great_any w1 V a n cap ra m rc rs ((unhide HR).below (unhide HB1).bel)).mono ?_
    rintro e w2 ⟨⟨r, rfl, hr⟩, hb2⟩
    have hrt : r = false := by
      cases r with
      | false => rfl
      | true => exact absurd (hr.1 rfl) (unhide HG)
    subst hrt
    have HB2 := hide ((unhide HB1).step hb2)
    clear hb2 HB1 g0 g1 hr
    obtain ⟨g0, g1⟩ := (unhide HB2).cells
    go_wp2_with fail
    refine (unhide C10 w2 (unhide HB2).bel).mono ?_
    rintro e w3 ⟨⟨r, rfl, hr⟩, hb3⟩
    have hrt : r = false := by
      cases r with
      | false => rfl
      | true => exact absurd (hr.1 rfl) (unhide HNO)
    subst hrt
    have HB3 := hide ((unhide HB2).step hb3)
    clear hb3 HB2 g0 g1 hr
    go_wp2_with fail
    go_ret
    exact ⟨rfl, (unhide HB3).bel⟩

theorem idx_any (z : Int) (m : Nat) (hm : 0 < m) : ∃ x : Nat, x < m ∧ (z % 65536).tmod (m : Int) = (x : Int) := by
  have h0 := Int.emod_nonneg z (show (65536 : Int) ≠ 0 by decide)
  refine ⟨(z % 65536).toNat % m, Nat.mod_lt _ hm, ?_⟩
  have : z % 65536 = (((z % 65536).toNat : Nat) : Int) := (Int.toNat_of_nonneg h0).symm
  rw [this, ← Int.ofNat_tmod]
  rfl
theorem idx_next (i m : Nat) (hi : i < m) (hm : 2 ≤ m) : ∃ k : Nat, k < m ∧ i ≠ k ∧ ((i : Int) + 1).tmod (m : Int) = (k : Int) := by
  refine ⟨(i + 1) % m, Nat.mod_lt _ (by omega), ?_, ?_⟩
  · by_cases e : i + 1 = m
    · rw [e, Nat.mod_self]; omega
    · rw [Nat.mod_eq_of_lt (by omega)]; omega
  · rw [show ((i : Int) + 1) = ((i + 1 : Nat) : Int) by omega, ← Int.ofNat_tmod]
/-- lists that are nil have no room -/
def Rz (w : World) (a : Option Addr) (n : Nat) : Prop := ∀ k, k < n → ∀ g off la ln lc, a = some ⟨g, off, none⟩ → w.cell? ⟨g, off + k, none⟩ = some (.slice la ln lc) → la = none → lc = 0

theorem toIs_range (l : List Nat) {n : Nat} (h : l.length = n) : toIs l = (List.range n).map fun t => ((l.getD t 0 : Nat) : Int) := by
  refine ext_getD (by simp [toIs, h]) fun i hi => ?_
  simp at hi
  rw [toIs_getD]
  simp [List.getD, hi]
/-- the copied lists in memory, two numbers of one of them changed -/
theorem Oa.swapped {u0 wr : World} {bv : Value} {R : Nat → Value} {q q' : List (List Nat)} {m x i k ln h1 h2 : Nat} {l : List Nat} (h : Oa u0 wr bv R q) (hm : q.length = m) (hm' : q'.length = m) (hm1 : m ≤ 1000) (hx : x < m) (hl : q.getD x [] = l) (hln : l.length = ln) (hl200 : ∀ y, y < m → ((rowsI q).getD y []).length ≤ 200) (hi : i < ln) (hk : k < ln) (hik : i ≠ k)
    (hsw : ∀ t, t < ln → (q'.getD x []).getD t 0 = if t = i then h2 else if t = k then h1 else l.getD t 0) (hlen' : (q'.getD x []).length = ln) (hot : ∀ y, y < m → y ≠ x → q'.getD y [] = q.getD y []) :
    ∃ gs cs gl lcx, bv = .slice (some ⟨gs, 0, none⟩) m cs ∧ gs < wr.heap.size ∧ gl < wr.heap.size ∧ u0.heap.size ≤ gl ∧ gs ≠ gl ∧ wr.cell? ⟨gs, x, none⟩ = some (.slice (some ⟨gl, 0, none⟩) ln lcx) ∧ RowZ wr gl ln (fun t => ((l.getD t 0 : Nat) : Int)) ∧
      ∀ W : World, W.heap.size = wr.heap.size → (∀ b, b ≠ gl → W.heap[b]? = wr.heap[b]?) → RowZ W gl ln (fun t => ((if t = i then h2 else if t = k then h1 else l.getD t 0 : Nat) : Int)) → Rr W (some ⟨gs, 0, none⟩) m (rowsI q') := by
  have hln2 : ln ≤ 200 := by have := hl200 x hx; rw [rowsI_getD, toIs_length, hl, hln] at this; exact this
  have hrowx := h.ol.rows x (by omega)
  rw [hl, hln, toIs_range l hln] at hrowx
  obtain ⟨gl, lcx, hRx, hgb, hrow⟩ := rowZ_of_owns hrowx (by omega)
  rcases h.ol.own.2 with ⟨_, hn⟩ | ⟨gs, cs, cur, hv, hb, hg, q1, q2, q3, q4⟩
  · omega
  have hcell : ∀ y, y < m → wr.cell? ⟨gs, y, none⟩ = some (R y) := fun y hy => by
    have : (cur.toList.take (q.length * 1))[y]? = ((List.range q.length).map R)[y]? := by rw [q4]
    rw [List.getElem?_take] at this
    simp [show y < q.length by omega] at this
    simp [World.cell?, hg, this]
  have hgsl : gs ≠ gl := by
    rintro rfl
    obtain ⟨c2, h2', _⟩ := hrow
    rw [hg] at h2'
    simp at h2'
  refine ⟨gs, cs, gl, lcx, by rw [hv, hm], (Array.getElem?_eq_some_iff.1 hg).1, hrow.lt, hgb, hgsl, by rw [hcell x hx, hRx], hrow, ?_⟩
  intro W hsz hfar hset
  refine ⟨by rw [rowsI_length, hm'], by omega, fun y hy => ?_⟩
  have hWc : W.cell? ⟨gs, y, none⟩ = some (R y) := (World.cell?_of_block (hfar gs hgsl)).trans (hcell y hy)
  by_cases hyx : y = x
  · subst hyx
    rw [rowsI_getD, toIs_length, hlen']
    rw [hRx] at hWc
    refine ⟨gs, 0, _, lcx, rfl, by rw [hsz]; exact (Array.getElem?_eq_some_iff.1 hg).1, by rw [Nat.zero_add]; exact hWc, ?_, by rw [toIs_length, hlen'], by omega, fun t ht => ⟨gl, 0, rfl, by rw [hsz]; exact hrow.lt, ?_⟩⟩
    · obtain ⟨a', c', he, hc', _⟩ := ns_of_owns hrowx (by omega)
      rw [hRx] at he
      cases he
      exact hc'
    · rw [Nat.zero_add, hset.cell ht, toIs_getD, hsw t ht]
  · have hrowy := h.ol.rows y (by omega)
    have hWy : W.ownsRow u0.heap.size 3 1 (R y) (q.getD y []).length (zcells (toIs (q.getD y []))) := owns_keep hrowy fun b hb => hfar b (by
      rintro rfl
      have hbx : (R x).ownBlock = some b := by rw [hRx]; rfl
      rcases Nat.lt_or_ge y x with hlt | hge
      · have := h.apart y x hlt (by omega) b b hbx hb
        omega
      · have := h.apart x y (by omega) (by omega) b b hb hbx
        omega)
    have hly := hl200 y hy
    rw [rowsI_getD, toIs_length] at hly
    obtain ⟨la, lc, hl', hlc, hns⟩ := ns_of_owns hWy (by omega)
    rw [rowsI_getD, toIs_length, hot y hy hyx]
    exact ⟨gs, 0, la, lc, rfl, by rw [hsz]; exact (Array.getElem?_eq_some_iff.1 hg).1, by rw [Nat.zero_add, hWc, hl'], hlc, hns⟩

set_option maxHeartbeats 16000000 in
theorem swaps_good (w : World) (hT : pt.Tab w) (V : Nat) (a : Option Addr) (n cap : Nat) (es : List (Nat × Nat)) (h : Es 0 w a n (toI es)) (hne : es.length = n) (hp : pt.Plain V es) (ra : Option Addr) (m rc : Nat) (q : List (List Nat)) (hq : Rq w ra m (rowsI q)) (hz : Rz w ra m) (hg : ¬ GreatP n m (rowsI q)) (hyes : IsRot V n (toI es) (rowsI q)) (ro : pt.Ro V es q) (x0 at0 : Int) :
    Calls Tryd.prog 5 #[.agg #[.int .i64 V, .slice a n cap], .slice ra m rc, .int .i64 x0, .int .i64 at0] w fun e w' => e = .returned (.bool true) ∧ Below w.heap.size w w' := by
  have hn60 : n ≤ 60 := Nat.le_of_not_lt fun h => hg (.inl h)
  have hm70 : m ≤ 70 := Nat.le_of_not_lt fun h => hg (.inr (.inl h))
  have hl200 : ∀ k, k < m → ((rowsI q).getD k []).length ≤ 200 := fun k hk => Nat.le_of_not_lt fun h => hg (.inr (.inr ⟨k, hk, h⟩))
  have hr : Rr w ra m (rowsI q) := hq.rr (by omega) fun k hk => by have := hl200 k hk; omega
  have hv64 := hp.v64
  have hv1 := hp.v1
  have hmV : m = V := by have := hr.1; rw [rowsI_length] at this; rw [← this, ro.len]
  have hlq : q.length = m := by rw [ro.len, hmV]
  have C10 := hide (fun (u : World) (hu : Below w.heap.size w u) => refright_any u V a n cap (toI es) (h.below hu) ra m rc _ (hr.below hu) (fun k hk => by have := hl200 k hk; omega) (by omega))
  have HR := hide hq
  have HG := hide hg
  have HYES := hide hyes
  have HRr := hide hr
  have HZ := hide hz
  have HB0 := hide (Bg.start w (.int .i64 V) (.slice a n cap))
  -- the vertex
  obtain ⟨x, hxm, hxT⟩ := idx_any x0 m (by omega)
  have HXA := hide (i64_and65535 x0)
  have HXT := hide hxT
  have hxW : IntKind.i64.wrap (x : Int) = (x : Int) := by rw [IntKind.wrap_i64]; omega
  have hxm2 : (x : Int) < (m : Int) := by omega
  have hm0 : ¬ m = 0 := by omega
  obtain ⟨l, hl⟩ : ∃ l, q.getD x [] = l := ⟨_, rfl⟩
  obtain ⟨ln, hln⟩ : ∃ ln, l.length = ln := ⟨_, rfl⟩
  obtain ⟨gr, or, la, lc, hra, hgr, c0, hlc, hls⟩ := hr.2.2 x hxm
  have hln200 := hl200 x hxm
  rw [rowsI_getD, toIs_length, hl, hln] at c0 hlc hls hln200
  subst hra
  have HC0 := hide c0
  clear c0 hls
  by_cases hl2 : ln < 2
  · have t5 : (ln : Int) < 2 := by omega
    clear h hp hr hq hz hg hyes ro hl hln hT hxT hmV hlq hl200
    go_enter Tryd.func5, Tryd.ntmps5
    go_wp2_with fail
    refine (speaks_any _).mono ?_
    rintro e w1 ⟨rfl, hb1⟩
    have HB1 := hide ((unhide HB0).step hb1)
    obtain ⟨g0, g1⟩ := (unhide HB1).cells
    clear hb1 HB0
    go_wp2_with fail
    refine (great_any w1 V a n cap (some ⟨gr, or, none⟩) m rc _ ((unhide HR).below (unhide HB1).bel)).mono ?_
    rintro e w2 ⟨⟨r, rfl, hr⟩, hb2⟩
    have hrt : r = false := by
      cases r with
      | false => rfl
      | true => exact absurd (hr.1 rfl) (unhide HG)
    subst hrt
    have HB2 := hide ((unhide HB1).step hb2)
    clear hb2 HB1 g0 g1 hr
    obtain ⟨g0, g1⟩ := (unhide HB2).cells
    go_wp2_with fail
    refine (unhide C10 w2 (unhide HB2).bel).mono ?_
    rintro e w3 ⟨⟨r, rfl, hr⟩, hb3⟩
    have hrt : r = true := hr.2 (unhide HYES)
    subst hrt
    have HB3 := hide ((unhide HB2).step hb3)
    clear hb3 HB2 g0 g1 hr
    go_upto_region 5 with fail
    have hxA := unhide HXA
    have hxT := unhide HXT
    go_upto_region 6 with fail
    clear hxA hxT
    have d0 : w3.cell? ⟨gr, or + x, none⟩ = some (.slice la ln lc) := by rw [(unhide HB3).bel.cell (p := ⟨gr, or + x, none⟩) hgr]; exact unhide HC0
    have hgr3 : gr < w3.heap.size := Nat.lt_of_lt_of_le hgr (unhide HB3).bel.size
    go_wp2_with fail
    go_ret
    exact ⟨rfl, (unhide HB3).bel⟩
  · have t5 : ¬ (ln : Int) < 2 := by omega
    have t5' : decide ((ln : Int) < 2) = false := decide_eq_false t5
    obtain ⟨i, hil, hiT⟩ := idx_any at0 ln (by omega)
    have HIA := hide (i64_and65535 at0)
    have HIT := hide hiT
    have hiW : IntKind.i64.wrap (i : Int) = (i : Int) := by rw [IntKind.wrap_i64]; omega
    have hl0 : ¬ ln = 0 := by omega
    obtain ⟨k, hkl, hik, hkT⟩ := idx_next i ln hil (by omega)
    have hkW1 : IntKind.i64.wrap ((i : Int) + 1) = (i : Int) + 1 := by rw [IntKind.wrap_i64]; omega
    have hkW : IntKind.i64.wrap (k : Int) = (k : Int) := by rw [IntKind.wrap_i64]; omega
    -- the two half edges
    obtain ⟨h1, hh1⟩ : ∃ h1, l.getD i 0 = h1 := ⟨_, rfl⟩
    obtain ⟨h2, hh2⟩ : ∃ h2, l.getD k 0 = h2 := ⟨_, rfl⟩
    have hxV : x < V := by omega
    have hnd := ro.one x hxV
    rw [hl] at hnd
    have m1 : h1 ∈ q.getD x [] := by rw [hl, ← hh1]; exact pt.getD_in (by omega)
    have m2 : h2 ∈ q.getD x [] := by rw [hl, ← hh2]; exact pt.getD_in (by omega)
    have hne12 : h1 ≠ h2 := fun e => hik (pt.getD_inj hnd (by omega) (by omega) (by rw [hh1, hh2, e]))
    have b1 := ro.lt x hxV h1 m1
    have b2 := ro.lt x hxV h2 m2
    have ro' := ro.swap hxV m1 m2
    obtain ⟨q', hq'⟩ : ∃ q', (q.map fun l => l.map (sw h1 h2)) = q' := ⟨_, rfl⟩
    have hswl : ∀ t, t < ln → (q'.getD x []).getD t 0 = if t = i then h2 else if t = k then h1 else l.getD t 0 := fun t ht => by
      rw [← hq', rows_map, hl, getD_map _ _ (by omega)]
      by_cases e1 : t = i
      · rw [if_pos e1, e1, hh1, sw_a]
      · rw [if_neg e1]
        by_cases e2 : t = k
        · rw [if_pos e2, e2, hh2, sw_b]
        · rw [if_neg e2]
          exact sw_o (fun e => e1 (pt.getD_inj hnd (by omega) (by omega) (e.trans hh1.symm))) (fun e => e2 (pt.getD_inj hnd (by omega) (by omega) (e.trans hh2.symm)))
    have hother : ∀ y, y < m → y ≠ x → q'.getD y [] = q.getD y [] := fun y hy hyx => by
      rw [← hq', rows_map]
      refine (List.map_congr_left ?_).trans (List.map_id _)
      intro z hz
      refine sw_o (fun e => hyx ?_) (fun e => hyx ?_)
      · exact (ro.st y (by omega) z hz).symm.trans (by rw [e]; exact ro.st x hxV h1 m1)
      · exact (ro.st y (by omega) z hz).symm.trans (by rw [e]; exact ro.st x hxV h2 m2)
    have hlen' : (q'.getD x []).length = ln := by rw [← hq', rows_map, List.length_map, hl, hln]
    have hemp : emp q' V = emp q V := by
      unfold emp
      congr 1
      refine List.filter_congr fun y _ => ?_
      rw [← hq']
      exact decide_eq_decide.2 (pt.map_emp q _ y)
    have hN := pt.nx_behind ro
    obtain ⟨N, hNe⟩ : ∃ N, pt.nxF es q = N := ⟨_, rfl⟩
    rw [hNe] at hN
    rw [hq'] at ro'
    have hM := pt.nx_behind ro'
    obtain ⟨M, hMe⟩ : ∃ M, pt.nxF es q' = M := ⟨_, rfl⟩
    rw [hMe] at hM
    have hpm : Pm N (2 * n) := by rw [← hne]; exact pt.nx_pm ro hN
    have hpm' : Pm M (2 * n) := by rw [← hne]; exact pt.nx_pm ro' hM
    have hyes' : IsRot V n (toI es) (rowsI q') := by rw [← hne]; exact ro'.rot hp
    have hlq' : q'.length = m := by rw [ro'.len, hmV]
    obtain ⟨c, hc⟩ := pt.cnt_ex V es
    obtain ⟨g, hgg⟩ := pt.euler ro hN (pt.nx_pm ro hN) hc
    obtain ⟨g', hgg'⟩ := pt.euler ro' hM (pt.nx_pm ro' hM) hc
    rw [hne] at hgg hgg'
    have hgg : 2 * c + n = V + cyc N (2 * n) + emp q V + 2 * g := hgg
    have hgg' : 2 * c + n = V + cyc M (2 * n) + emp q' V + 2 * g' := hgg'
    have hcyc := swap_cyc hpm (by rw [← hne]; exact b1) (by rw [← hne]; exact b2) hne12 (behind_map hN (by rw [hq']; exact hM) (by rw [← hne]; exact b1) (by rw [← hne]; exact b2) (fun j hj => oth_lt hj) (by rw [← hne]; exact ro.cov))
    have hF1 : cyc N (2 * n) ≤ 2 * n := by unfold cyc; exact Nat.le_trans (List.length_filter_le _ _) (by simp)
    have hF2 : cyc M (2 * n) ≤ 2 * n := by unfold cyc; exact Nat.le_trans (List.length_filter_le _ _) (by simp)
    have C9 := hide (fun (u : World) (hu : Below w.heap.size w u) => genus_good u (hT.below hu) V a n cap es (h.below hu) hne hp (some ⟨gr, or, none⟩) m rc q (hr.below hu) hyes ro N hN c g hc hgg)
    have C9s := hide (fun (u : World) (hu : Below w.heap.size w u) (sa : Option Addr) (sc : Nat) (hs : Rr u sa m (rowsI q')) => genus_good u (hT.below hu) V a n cap es (h.below hu) hne hp sa m sc q' hs hyes' ro' M hM c g' hc hgg')
    have C8 := hide (fun (u : World) (hu : Below w.heap.size w u) => show Calls Tryd.prog 8 #[.agg #[.int .i64 V, .slice a n cap], .slice (some ⟨gr, or, none⟩) m rc] u fun e w' => (∃ va vc, e = .returned (.slice va (cyc N (2 * n)) vc)) ∧ Below u.heap.size u w' from by
      refine (faces_good u V a n cap (toI es) (h.below hu) (some ⟨gr, or, none⟩) m rc q (hr.below hu) hyes N hN hpm (by rw [← hne]; exact ro.lt') (by rw [← hne]; exact ro.cov)).mono ?_
      rintro e w' ⟨⟨va, vc, rfl, _, _⟩, hb⟩
      rw [cyc_faces]
      exact ⟨⟨va, vc, rfl⟩, hb⟩)
    have C8s := hide (fun (u : World) (hu : Below w.heap.size w u) (sa : Option Addr) (sc : Nat) (hs : Rr u sa m (rowsI q')) => show Calls Tryd.prog 8 #[.agg #[.int .i64 V, .slice a n cap], .slice sa m sc] u fun e w' => (∃ va vc, e = .returned (.slice va (cyc M (2 * n)) vc)) ∧ Below u.heap.size u w' from by
      refine (faces_good u V a n cap (toI es) (h.below hu) sa m sc q' hs hyes' M hM hpm' (by rw [← hne]; exact ro'.lt') (by rw [← hne]; exact ro'.cov)).mono ?_
      rintro e w' ⟨⟨va, vc, rfl, _, _⟩, hb⟩
      rw [cyc_faces]
      exact ⟨⟨va, vc, rfl⟩, hb⟩)
    rw [hemp] at hgg'
    have hgb : g ≤ 1000 ∧ g' ≤ 1000 := by
      obtain ⟨r, _, rfl⟩ := hc
      have := Nat.le_trans (List.length_filter_le r (List.range V)) (Nat.le_of_eq List.length_range)
      omega
    have HSW := hide hswl
    have HOT := hide hother
    have HLE' := hide hlen'
    have HLQ := hide hlq
    have HLQ' := hide hlq'
    have HL := hide hl
    have HLN := hide hln
    have HH1 := hide hh1
    have HH2 := hide hh2
    have HL2 := hide hl200
    have hdif : (cyc N (2 * n) = cyc M (2 * n) ∧ g = g') ∨ (cyc M (2 * n) = cyc N (2 * n) + 2 ∧ g = g' + 1) ∨ (cyc N (2 * n) = cyc M (2 * n) + 2 ∧ g' = g + 1) := by omega
    generalize cyc N (2 * n) = F at *
    generalize cyc M (2 * n) = F' at *
    have HDIF := hide hdif
    clear h hp hr hq hz hg hyes ro hl hln hT hxT hiT hh1 hh2 hnd m1 m2 hne12 b1 b2 ro' hq' hswl hother hlen' hemp hN hNe hM hMe hpm hpm' hyes' hc hgg hgg' hcyc hdif hlq hlq' hl200 hmV hne
    go_enter Tryd.func5, Tryd.ntmps5
    go_wp2_with fail
    refine (speaks_any _).mono ?_
    rintro e w1 ⟨rfl, hb1⟩
    have HB1 := hide ((unhide HB0).step hb1)
    obtain ⟨g0, g1⟩ := (unhide HB1).cells
    clear hb1 HB0
    go_wp2_with fail
    refine (great_any w1 V a n cap (some ⟨gr, or, none⟩) m rc _ ((unhide HR).below (unhide HB1).bel)).mono ?_
    rintro e w2 ⟨⟨r, rfl, hr⟩, hb2⟩
    have hrt : r = false := by
      cases r with
      | false => rfl
      | true => exact absurd (hr.1 rfl) (unhide HG)
    subst hrt
    have HB2 := hide ((unhide HB1).step hb2)
    clear hb2 HB1 g0 g1 hr
    obtain ⟨g0, g1⟩ := (unhide HB2).cells
    go_wp2_with fail
    refine (unhide C10 w2 (unhide HB2).bel).mono ?_
    rintro e w3 ⟨⟨r, rfl, hr⟩, hb3⟩
    have hrt : r = true := hr.2 (unhide HYES)
    subst hrt
    have HB3 := hide ((unhide HB2).step hb3)
    clear hb3 HB2 g0 g1 hr
    go_upto_region 5 with fail
    have hxA := unhide HXA
    have hxT := unhide HXT
    go_upto_region 6 with fail
    clear hxA hxT
    have d0 : w3.cell? ⟨gr, or + x, none⟩ = some (.slice la ln lc) := by rw [(unhide HB3).bel.cell (p := ⟨gr, or + x, none⟩) hgr]; exact unhide HC0
    have hgr3 : gr < w3.heap.size := Nat.lt_of_lt_of_le hgr (unhide HB3).bel.size
    go_upto_region 9 with fail
    have hiA := unhide HIA
    have hiT := unhide HIT
    go_upto_region 11 with fail
    clear hiA hiT d0 hgr3
    obtain ⟨j0, hj0, hy0, hy1, hy2⟩ := info_parts info28
    have HJ := hide hj0
    have HY0 := hide hy0
    have HY1 := hide hy1
    have HY2 := hide hy2
    have HO0 := hide (Oa.start w3)
    clear hj0 hy0 hy1 hy2
    go_wp2_with fail
    go_loopw [12, 54] (fun v12 v54 wr => ∃ (t : Nat) (R : Nat → Value), v54 = .int .i64 t ∧ t ≤ m ∧ Hid (Oa w3 wr v12 R (q.take t))) (fun v12 v54 wr => m - (intOf v54).toNat)
    case atStart => exact ⟨0, _, rfl, by omega, HO0⟩
    case round =>
      clear HO0
      obtain ⟨t, R, rfl, ht, HO⟩ := hrel
      have HBr := hide ((unhide HB3).step (unhide HO).ol.bel)
      by_cases htm : t < m
      · have htm2 : (t : Int) < (m : Int) := by omega
        have htq : t < q.length := by rw [unhide HLQ]; exact htm
        obtain ⟨gt, ot, lt, lct, hgt, hgts, ct, hlct, hlt⟩ := (unhide HRr).2.2 t htm
        cases hgt
        rw [rowsI_getD, toIs_length] at ct hlt
        have hzt := unhide HZ t htm _ _ _ _ _ rfl ct
        have hl2t := unhide HL2 t htm
        rw [rowsI_getD, toIs_length] at hl2t
        have htl : (q.take t).length = t := by rw [List.length_take]; omega
        have hsn : q.take (t + 1) = q.take t ++ [q.getD t []] := by
          rw [List.take_succ_eq_append_getElem htq]
          congr 2
          simp [List.getD, htq]
        obtain ⟨lq, hlq⟩ : ∃ lq, q.getD t [] = lq := ⟨_, rfl⟩
        rw [hlq] at ct hlt hl2t hsn
        obtain ⟨nt, hnt⟩ : ∃ nt, lq.length = nt := ⟨_, rfl⟩
        rw [hnt] at ct hlt hl2t
        have dt : wr.cell? ⟨gr, or + t, none⟩ = some (.slice lt nt lct) := by rw [(unhide HBr).bel.cell (p := ⟨gr, or + t, none⟩) hgr]; exact ct
        have hgrr : gr < wr.heap.size := Nat.lt_of_lt_of_le hgr (unhide HBr).bel.size
        have HZT := hide (show lt = none → nt = 0 ∧ lct = 0 from fun e => by have := hzt e; rw [rowsI_getD, toIs_length, hlq, hnt] at hlct; omega)
        have HLT := hide (hlt.below (bto (unhide HBr).bel (b_al (.cells #[] 3))))
        have HOE := hide (show (wr.alloc (.cells #[] 3)).ownsRow wr.heap.size 3 1 (.slice (some ⟨wr.heap.size, 0, none⟩) 0 0) 0 (zcells []) from owns_lit_empty wr 3 1 _ (Nat.le_refl _))
        have HSN := hide hsn
        have HTL := hide htl
        have HNT := hide hnt
        have hol := (unhide HO).ol
        have HOL := hide hol
        clear ct hlt hzt hlct hsn htl hlq hnt hgts hol
        go_wp2_with (at_builtin; refine wpList_app_ints rfl (.tmp 59) (.tmp 60) rfl wr.heap.size _ 0 [] rfl (unhide HOE) lt nt lct (toIs lq) rfl (unhide HZT) (unhide HLT) (by omega) (by simp) ?_)
        intro v2 w7 ho7 hg7
        have hb7 : Below wr.heap.size wr w7 := (b_al (.cells #[] 3)).grown hg7 (by simp) fun b hb => ((unhide HOE).lt b hb).1
        obtain ⟨v2a, v2c, hv2⟩ := owns_slice ho7
        subst hv2
        have HB7 := hide hb7
        have HO7 := hide ho7
        have HOL7 := hide ((unhide HOL).step hb7)
        have hs7 := (unhide HOL7).bel.size
        have HOWN7 := hide (show w7.ownsRow w3.heap.size 36 1 u12 t ((List.range t).map R) by have := (unhide HOL7).own; rwa [unhide HTL] at this)
        clear hg7 hb7 ho7
        go_wp2_with (at_builtin; refine wpList_append_own _ rfl (.tmp 58) (.tmp 62) 37 rfl w3.heap.size 36 j0 (.slice none 0 0) 1 24 Tryd.underlying37 (unhide HJ) (unhide HY0) (unhide HY1) (unhide HY2) rfl (by decide) u12 t _ rfl ((unhide HOWN7).alloc _) ⟨w7.heap.size, 0, none⟩ 1 1 [.slice v2a nt v2c] rfl rfl (cell_one_new _ _ _) one_v ?a3 ?a4 ?a5 ?_)
        case a3 => unfold maxLen; omega
        case a4 => omega
        case a5 => simp; omega
        intro v9 w9 ho9 hg9 _
        have hp9 := (unhide HO).push (bto (unhide HB7) (b_al _)) (show (w7.alloc _).ownsRow wr.heap.size 3 1 (.slice v2a nt v2c) lq.length (zcells (toIs lq)) by rw [unhide HNT]; exact owns_below (unhide HO7) (b_al _)) (by rw [unhide HTL]; exact ho9) hg9
        rw [← unhide HSN] at hp9
        have HP9 := hide hp9
        clear hp9 ho9 hg9
        go_wp2_with fail
        go_roundw
        case rel => exact ⟨t + 1, _, by go_num, by omega, HP9⟩
        case measure => simp [intOf]; omega
      · have hte : m = t := by omega
        subst hte
        have HOq := hide (show Oa w3 wr u12 R q by have := unhide HO; rwa [show q.take m = q from List.take_of_length_le (by rw [unhide HLQ]; exact Nat.le_refl _)] at this)
        obtain ⟨gs, cs, gl, lcx, rfl, hgs, hgl, hglb, hgsl, dS, hrow, fin⟩ := (unhide HOq).swapped (unhide HLQ) (unhide HLQ') (by omega) hxm (unhide HL) (unhide HLN) (unhide HL2) hil hkl hik (unhide HSW) (unhide HLE') (unhide HOT)
        have hw3 := (unhide HB3).lt
        have hs3 := (unhide HOq).ol.bel.size
        have hi2 : (i : Int) < (ln : Int) := by omega
        have hk2 : (k : Int) < (ln : Int) := by omega
        have hend : ∀ (wd W : World), wd.heap = wr.heap → Bg w wd (.int .i64 (V : Int)) (.slice a n cap) → RowZ W gl ln (upd (upd (fun t => ((l.getD t 0 : Nat) : Int)) i ((h2 : Nat) : Int)) k ((h1 : Nat) : Int)) → W.heap.size = wd.heap.size → (∀ b, b ≠ gl → W.heap[b]? = wd.heap[b]?) → Below gl wd W → Hid (Rr W (some ⟨gs, 0, none⟩) m (rowsI q')) ∧ Hid (Bg w W (.int .i64 (V : Int)) (.slice a n cap)) := fun wd W hwd hbg hR hsz hfar hbl => by
          refine ⟨fin W (by rw [hsz, hwd]) (fun b hb => by rw [hfar b hb, hwd]) (Row.congr hR fun t ht => congrArg (Value.int .i64) ?_), hbg.stepB (B := gl) (by omega) hbl⟩
          unfold upd
          show (if t = k then ((h1 : Nat) : Int) else if t = i then ((h2 : Nat) : Int) else ((l.getD t 0 : Nat) : Int)) = ((if t = i then h2 else if t = k then h1 else l.getD t 0 : Nat) : Int)
          by_cases e1 : t = k
          · rw [if_pos e1, if_neg (by omega), if_pos e1]
          · rw [if_neg e1]
            by_cases e2 : t = i
            · rw [if_pos e2, if_pos e2]
            · rw [if_neg e2, if_neg e2, if_neg e1]
        clear HO HOq fin
        go_upto_region 17 with fail
        go_cut [12] from 65 to 91 (fun v12 wx => ∃ sa sc, v12 = .slice sa m sc ∧ Hid (Rr wx sa m (rowsI q')) ∧ Hid (Bg w wx (.int .i64 (V : Int)) (.slice a n cap)))
        case first =>
          have HEND := hide (fun W hR hsz hfar hbl => hend wr.drew W rfl ((unhide HBr).step b_dr) hR hsz hfar hbl)
          have HRW := hide (show RowZ wr.drew gl ln (fun t => ((l.getD t 0 : Nat) : Int)) from hrow.keep rfl)
          have e1 : wr.drew.cell? ⟨gl, i, none⟩ = some (.int .i64 (h1 : Nat)) := by have := (unhide HRW).cell hil; simp only [unhide HH1] at this; exact this
          have e2 : wr.drew.cell? ⟨gl, k, none⟩ = some (.int .i64 (h2 : Nat)) := by have := (unhide HRW).cell hkl; simp only [unhide HH2] at this; exact this
          have hgl2 : gl < wr.drew.heap.size := hgl
          have hgs2 : gs < wr.drew.heap.size := hgs
          clear hend hrow
          refine wp_region_held_drew (S := fun u => u.cell? ⟨gs, x, none⟩ = some (.slice (some ⟨gl, 0, none⟩) ln lcx)) (by kernel_rfl) dS (fun hS => ?_)
          generalize wr.drew = wd at HEND HRW e1 e2 hgl2 hgs2 hS ⊢
          clear dS hgs hgl
          refine wpAnyH_take (i := 0) (v := ?_) rfl (by kernel_rfl) (by kernel_rfl) (by kernel_rfl) (fun _ _ _ h => h) (Or.inl ⟨by rfl, ?_⟩) hS ?_
          rotate_left
          · intro u hu; (try dsimp only at hu); go_simp; try with_reducible rfl
          simp only [Act.put, List.getElem_toArray, List.getElem_cons_zero, List.setIfInBounds_toArray, List.set_cons_zero, List.set_cons_succ]
          refine wpAnyH_take (i := 1) (v := ?_) rfl (by kernel_rfl) (by kernel_rfl) (by kernel_rfl) (fun _ _ _ h => h) (Or.inl ⟨by rfl, ?_⟩) hS ?_
          rotate_left
          · intro u hu; (try dsimp only at hu); go_simp; try with_reducible rfl
          simp only [Act.put, List.getElem_toArray, List.getElem_cons_zero, List.getElem_cons_succ, List.setIfInBounds_toArray, List.set_cons_zero, List.set_cons_succ]
          refine wpAnyH_take (i := 2) (v := ?_) rfl (by kernel_rfl) (by kernel_rfl) (by kernel_rfl) (fun _ _ _ h => h) (Or.inl ⟨by rfl, ?_⟩) hS ?_
          rotate_left
          · intro u hu; (try dsimp only at hu); go_simp; try with_reducible rfl
          simp only [Act.put, List.getElem_toArray, List.getElem_cons_zero, List.getElem_cons_succ, List.setIfInBounds_toArray, List.set_cons_zero, List.set_cons_succ]
          refine wpAnyH_take (i := 3) (v := ?_) rfl (by kernel_rfl) (by kernel_rfl) (by kernel_rfl) (fun _ _ _ h => h) (Or.inl ⟨by rfl, ?_⟩) hS ?_
          rotate_left
          · intro u hu; (try dsimp only at hu); go_simp; try with_reducible rfl
          simp only [Act.put, List.getElem_toArray, List.getElem_cons_zero, List.getElem_cons_succ, List.setIfInBounds_toArray, List.set_cons_zero, List.set_cons_succ]
          refine wpAnyH_take (i := 4) (v := ?_) rfl (by kernel_rfl) (by kernel_rfl) (by kernel_rfl) (fun _ _ _ h => h) (Or.inl ⟨by rfl, ?_⟩) hS ?_
          rotate_left
          · intro u hu; (try dsimp only at hu); go_simp; try with_reducible rfl
          simp only [Act.put, List.getElem_toArray, List.getElem_cons_zero, List.getElem_cons_succ, List.setIfInBounds_toArray, List.set_cons_zero, List.set_cons_succ]
          refine wpAnyH_take (i := 5) (v := ?_) rfl (by kernel_rfl) (by kernel_rfl) (by kernel_rfl) (fun _ _ _ h => h) (Or.inl ⟨by rfl, ?_⟩) hS ?_
          rotate_left
          · intro u hu; (try dsimp only at hu); go_simp; try with_reducible rfl
          simp only [Act.put, List.getElem_toArray, List.getElem_cons_zero, List.getElem_cons_succ, List.setIfInBounds_toArray, List.set_cons_zero, List.set_cons_succ]
          refine wpAnyH_take (i := 6) (v := ?_) rfl (by kernel_rfl) (by kernel_rfl) (by kernel_rfl) (fun _ _ _ h => h) (Or.inl ⟨by rfl, ?_⟩) hS ?_
          rotate_left
          · intro u hu; (try dsimp only at hu); go_simp; try with_reducible rfl
          simp only [Act.put, List.getElem_toArray, List.getElem_cons_zero, List.getElem_cons_succ, List.setIfInBounds_toArray, List.set_cons_zero, List.set_cons_succ]
          refine wpAnyH_take (i := 7) (v := ?_) rfl (by kernel_rfl) (by kernel_rfl) (by kernel_rfl) (fun _ _ _ h => h) (Or.inl ⟨by rfl, ?_⟩) hS ?_
          rotate_left
          · intro u hu; (try dsimp only at hu); go_simp; try with_reducible rfl
          simp only [Act.put, List.getElem_toArray, List.getElem_cons_zero, List.getElem_cons_succ, List.setIfInBounds_toArray, List.set_cons_zero, List.set_cons_succ]
          refine wpAnyH_take (i := 8) (v := ?_) rfl (by kernel_rfl) (by kernel_rfl) (by kernel_rfl) (fun _ _ _ h => h) (Or.inl ⟨by rfl, ?_⟩) hS ?_
          rotate_left
          · intro u hu; (try dsimp only at hu); go_simp; try with_reducible rfl
          simp only [Act.put, List.getElem_toArray, List.getElem_cons_zero, List.getElem_cons_succ, List.setIfInBounds_toArray, List.set_cons_zero, List.set_cons_succ]
          refine wpAnyH_take (i := 9) (v := ?_) rfl (by kernel_rfl) (by kernel_rfl) (by kernel_rfl) (fun _ _ _ h => h) (Or.inl ⟨by rfl, ?_⟩) hS ?_
          rotate_left
          · intro u hu; (try dsimp only at hu); go_simp; try with_reducible rfl
          simp only [Act.put, List.getElem_toArray, List.getElem_cons_zero, List.getElem_cons_succ, List.setIfInBounds_toArray, List.set_cons_zero, List.set_cons_succ]
          refine wpAnyH_take (i := 10) (v := ?_) rfl (by kernel_rfl) (by kernel_rfl) (by kernel_rfl) (fun _ _ _ h => h) (Or.inl ⟨by rfl, ?_⟩) hS ?_
          rotate_left
          · intro u hu; (try dsimp only at hu); go_simp; try with_reducible rfl
          simp only [Act.put, List.getElem_toArray, List.getElem_cons_zero, List.getElem_cons_succ, List.setIfInBounds_toArray, List.set_cons_zero, List.set_cons_succ]
          refine wpAnyH_take (i := 11) (v := ?_) rfl (by kernel_rfl) (by kernel_rfl) (by kernel_rfl) (fun _ _ _ h => h) (Or.inl ⟨by rfl, ?_⟩) hS ?_
          rotate_left
          · intro u hu; (try dsimp only at hu); go_simp; try with_reducible rfl
          simp only [Act.put, List.getElem_toArray, List.getElem_cons_zero, List.getElem_cons_succ, List.setIfInBounds_toArray, List.set_cons_zero, List.set_cons_succ]
          refine wpAnyH_take (i := 12) (v := ?_) rfl (by kernel_rfl) (by kernel_rfl) (by kernel_rfl) (fun _ _ _ h => h) (Or.inl ⟨by rfl, ?_⟩) hS ?_
          rotate_left
          · intro u hu; (try dsimp only at hu); go_simp; try with_reducible rfl
          simp only [Act.put, List.getElem_toArray, List.getElem_cons_zero, List.getElem_cons_succ, List.setIfInBounds_toArray, List.set_cons_zero, List.set_cons_succ]
          refine wpAnyH_take (i := 13) (v := ?_) rfl (by kernel_rfl) (by kernel_rfl) (by kernel_rfl) (fun _ _ _ h => h) (Or.inl ⟨by rfl, ?_⟩) hS ?_
          rotate_left
          · intro u hu; (try dsimp only at hu); go_simp; try with_reducible rfl
          simp only [Act.put, List.getElem_toArray, List.getElem_cons_zero, List.getElem_cons_succ, List.setIfInBounds_toArray, List.set_cons_zero, List.set_cons_succ]
          refine wpAnyH_take (i := 14) (v := ?_) rfl (by kernel_rfl) (by kernel_rfl) (by kernel_rfl) (fun _ _ _ h => h) (Or.inl ⟨by rfl, ?_⟩) hS ?_
          rotate_left
          · intro u hu; (try dsimp only at hu); go_simp; try with_reducible rfl
          simp only [Act.put, List.getElem_toArray, List.getElem_cons_zero, List.getElem_cons_succ, List.setIfInBounds_toArray, List.set_cons_zero, List.set_cons_succ]
          refine wpAnyH_take (i := 15) (v := ?_) rfl (by kernel_rfl) (by kernel_rfl) (by kernel_rfl) (fun _ _ _ h => h) (Or.inl ⟨by rfl, ?_⟩) hS ?_
          rotate_left
          · intro u hu; (try dsimp only at hu); go_simp; try with_reducible rfl
          simp only [Act.put, List.getElem_toArray, List.getElem_cons_zero, List.getElem_cons_succ, List.setIfInBounds_toArray, List.set_cons_zero, List.set_cons_succ]
          refine wpAnyH_take (i := 17) (v := ?_) rfl (by kernel_rfl) (by kernel_rfl) (by kernel_rfl) (fun _ _ _ h => h) (Or.inl ⟨by rfl, ?_⟩) hS ?_
          rotate_left
          · intro u hu; (try dsimp only at hu); go_simp; try with_reducible rfl
          simp only [Act.put, List.getElem_toArray, List.getElem_cons_zero, List.getElem_cons_succ, List.setIfInBounds_toArray, List.set_cons_zero, List.set_cons_succ]
          refine wpAnyH_take (i := 18) (v := ?_) rfl (by kernel_rfl) (by kernel_rfl) (by kernel_rfl) (fun _ _ _ h => h) (Or.inl ⟨by rfl, ?_⟩) hS ?_
          rotate_left
          · intro u hu; (try dsimp only at hu); go_simp; try with_reducible rfl
          simp only [Act.put, List.getElem_toArray, List.getElem_cons_zero, List.getElem_cons_succ, List.setIfInBounds_toArray, List.set_cons_zero, List.set_cons_succ]
          refine wpAnyH_take (i := 19) (v := ?_) rfl (by kernel_rfl) (by kernel_rfl) (by kernel_rfl) (fun _ _ _ h => h) (Or.inl ⟨by rfl, ?_⟩) hS ?_
          rotate_left
          · intro u hu; (try dsimp only at hu); go_simp; try with_reducible rfl
          simp only [Act.put, List.getElem_toArray, List.getElem_cons_zero, List.getElem_cons_succ, List.setIfInBounds_toArray, List.set_cons_zero, List.set_cons_succ]
          refine wpAnyH_take (i := 20) (v := ?_) rfl (by kernel_rfl) (by kernel_rfl) (by kernel_rfl) (fun _ _ _ h => h) (Or.inl ⟨by rfl, ?_⟩) hS ?_
          rotate_left
          · intro u hu; (try dsimp only at hu); go_simp; try with_reducible rfl
          simp only [Act.put, List.getElem_toArray, List.getElem_cons_zero, List.getElem_cons_succ, List.setIfInBounds_toArray, List.set_cons_zero, List.set_cons_succ]
          refine wpAnyH_take (i := 21) (v := ?_) rfl (by kernel_rfl) (by kernel_rfl) (by kernel_rfl) (fun _ _ _ h => h) (Or.inl ⟨by rfl, ?_⟩) hS ?_
          rotate_left
          · intro u hu; (try dsimp only at hu); go_simp; try with_reducible rfl
          simp only [Act.put, List.getElem_toArray, List.getElem_cons_zero, List.getElem_cons_succ, List.setIfInBounds_toArray, List.set_cons_zero, List.set_cons_succ]
          refine wpAnyH_take (i := 22) (v := ?_) rfl (by kernel_rfl) (by kernel_rfl) (by kernel_rfl) (fun _ _ _ h => h) (Or.inl ⟨by rfl, ?_⟩) hS ?_
          rotate_left
          · intro u hu; (try dsimp only at hu); go_simp; try with_reducible rfl
          simp only [Act.put, List.getElem_toArray, List.getElem_cons_zero, List.getElem_cons_succ, List.setIfInBounds_toArray, List.set_cons_zero, List.set_cons_succ]
          refine wpAnyH_ready (rs := [16, 23]) (by kernel_rfl) (by simp) ?_
          refine AllReadyH.cons rfl (fun K hK => ?_) (AllReadyH.cons rfl (fun K hK => ?_) AllReadyH.nil)
          · go_simp
            refine hK.out _ _ hS (fun hS2 => ?_)
            clear hK K hS2
            refine wpAnyH_ready (rs := [23]) (by kernel_rfl) (by simp) ?_
            refine AllReadyH.cons rfl (fun K hK => ?_) AllReadyH.nil
            go_simp
            refine hK.out _ _ hS (fun hS2 => ?_)
            clear hK K hS2
            refine wpAnyH_take (i := 24) (v := ?_) rfl (by kernel_rfl) (by kernel_rfl) (by kernel_rfl) (fun _ _ _ h => h) (Or.inl ⟨by rfl, ?_⟩) hS ?_
            rotate_left
            · intro u hu; (try dsimp only at hu); go_simp; try with_reducible rfl
            simp only [Act.put, List.getElem_toArray, List.getElem_cons_zero, List.getElem_cons_succ, List.setIfInBounds_toArray, List.set_cons_zero, List.set_cons_succ]
            refine wpAnyH_ready (rs := [25]) (by kernel_rfl) (by simp) ?_
            refine AllReadyH.cons rfl (fun K hK => ?_) AllReadyH.nil
            have q0 := (unhide HRW).cell hil
            have q1 := (unhide HRW).fz i
            go_simp
            refine hK.out _ _ ((cell_set_ne (p := ⟨gs, x, none⟩) (show gs ≠ gl from hgsl)).trans hS) (fun hS4 => ?_)
            clear hK K q0 q1
            have HR1 := hide (RowZ.set (unhide HRW) i ((h2 : Nat) : Int))
            refine wpAnyH_take (i := 26) (v := ?_) rfl (by kernel_rfl) (by kernel_rfl) (by kernel_rfl) (fun _ _ _ h => h) (Or.inl ⟨by rfl, ?_⟩) hS4 ?_
            rotate_left
            · intro u hu; (try dsimp only at hu); go_simp; try with_reducible rfl
            simp only [Act.put, List.getElem_toArray, List.getElem_cons_zero, List.getElem_cons_succ, List.setIfInBounds_toArray, List.set_cons_zero, List.set_cons_succ]
            refine wpAnyH_ready (rs := [27]) (by kernel_rfl) (by simp) ?_
            refine AllReadyH.cons rfl (fun K hK => ?_) AllReadyH.nil
            have q0 := (unhide HR1).cell hkl
            have q1 := (unhide HR1).fz k
            go_simp
            refine hK.out _ _ ((cell_set_ne (p := ⟨gs, x, none⟩) (show gs ≠ gl from hgsl)).trans hS4) (fun hS5 => ?_)
            clear hK K q0 q1
            have HR2 := hide (RowZ.set (unhide HR1) k ((h1 : Nat) : Int))
            refine wpAnyH_done (by kernel_rfl) ?_ _
            go_wp2_with fail
            go_meet
            exact ⟨_, _, rfl, unhide HEND _ (unhide HR2) (by simp [World.setCell]) (fun b hb => (Below.heap_setCell _ _ _ _ hb).trans (Below.heap_setCell _ _ _ _ hb)) (((Below.refl _ _).setCell (p := ⟨gl, i, none⟩) (Nat.le_refl _) _).setCell (p := ⟨gl, k, none⟩) (Nat.le_refl _) _)⟩
          · go_simp
            refine hK.out _ _ hS (fun hS2 => ?_)
            clear hK K hS2
            refine wpAnyH_ready (rs := [16]) (by kernel_rfl) (by simp) ?_
            refine AllReadyH.cons rfl (fun K hK => ?_) AllReadyH.nil
            go_simp
            refine hK.out _ _ hS (fun hS2 => ?_)
            clear hK K hS2
            refine wpAnyH_take (i := 24) (v := ?_) rfl (by kernel_rfl) (by kernel_rfl) (by kernel_rfl) (fun _ _ _ h => h) (Or.inl ⟨by rfl, ?_⟩) hS ?_
            rotate_left
            · intro u hu; (try dsimp only at hu); go_simp; try with_reducible rfl
            simp only [Act.put, List.getElem_toArray, List.getElem_cons_zero, List.getElem_cons_succ, List.setIfInBounds_toArray, List.set_cons_zero, List.set_cons_succ]
            refine wpAnyH_ready (rs := [25]) (by kernel_rfl) (by simp) ?_
            refine AllReadyH.cons rfl (fun K hK => ?_) AllReadyH.nil
            have q0 := (unhide HRW).cell hil
            have q1 := (unhide HRW).fz i
            go_simp
            refine hK.out _ _ ((cell_set_ne (p := ⟨gs, x, none⟩) (show gs ≠ gl from hgsl)).trans hS) (fun hS4 => ?_)
            clear hK K q0 q1
            have HR1 := hide (RowZ.set (unhide HRW) i ((h2 : Nat) : Int))
            refine wpAnyH_take (i := 26) (v := ?_) rfl (by kernel_rfl) (by kernel_rfl) (by kernel_rfl) (fun _ _ _ h => h) (Or.inl ⟨by rfl, ?_⟩) hS4 ?_
            rotate_left
            · intro u hu; (try dsimp only at hu); go_simp; try with_reducible rfl
            simp only [Act.put, List.getElem_toArray, List.getElem_cons_zero, List.getElem_cons_succ, List.setIfInBounds_toArray, List.set_cons_zero, List.set_cons_succ]
            refine wpAnyH_ready (rs := [27]) (by kernel_rfl) (by simp) ?_
            refine AllReadyH.cons rfl (fun K hK => ?_) AllReadyH.nil
            have q0 := (unhide HR1).cell hkl
            have q1 := (unhide HR1).fz k
            go_simp
            refine hK.out _ _ ((cell_set_ne (p := ⟨gs, x, none⟩) (show gs ≠ gl from hgsl)).trans hS4) (fun hS5 => ?_)
            clear hK K q0 q1
            have HR2 := hide (RowZ.set (unhide HR1) k ((h1 : Nat) : Int))
            refine wpAnyH_done (by kernel_rfl) ?_ _
            go_wp2_with fail
            go_meet
            exact ⟨_, _, rfl, unhide HEND _ (unhide HR2) (by simp [World.setCell]) (fun b hb => (Below.heap_setCell _ _ _ _ hb).trans (Below.heap_setCell _ _ _ _ hb)) (((Below.refl _ _).setCell (p := ⟨gl, i, none⟩) (Nat.le_refl _) _).setCell (p := ⟨gl, k, none⟩) (Nat.le_refl _) _)⟩
        case rest =>
          clear hend hrow dS hgs hgl hgsl hglb
          obtain ⟨sa, sc, rfl, HRs, HBx⟩ := hcut
          obtain ⟨g0, g1⟩ := (unhide HBx).cells
          go_wp2_with fail
          refine (unhide C9 wc (unhide HBx).bel).mono ?_
          rintro e w20 ⟨rfl, hb20⟩
          have HB20 := hide ((unhide HBx).step hb20)
          have HR20 := hide ((unhide HRs).below hb20)
          clear hb20 HBx HRs g0 g1
          obtain ⟨g0, g1⟩ := (unhide HB20).cells
          go_wp2_with fail
          refine (unhide C9s w20 (unhide HB20).bel sa sc (unhide HR20)).mono ?_
          rintro e w21 ⟨rfl, hb21⟩
          have HB21 := hide ((unhide HB20).step hb21)
          have HR21 := hide ((unhide HR20).below hb21)
          clear hb21 HB20 HR20 g0 g1
          obtain ⟨g0, g1⟩ := (unhide HB21).cells
          have hS1 : Sg w w21 V a n cap w21 := Sg.start (unhide HB21)
          have hS0 : Sg w w21 V a n cap w21.drew := Sg.keep b_dr hS1
          have HC8 := hide (fun (u : World) (hu : Sg w w21 V a n cap u) => unhide C8 u hu.bel)
          have HC8s := hide (fun (u : World) (hu : Sg w w21 V a n cap u) => unhide C8s u hu.bel sa sc ((unhide HR21).below (unhide hu.2.2.2)))
          obtain ⟨D, hD⟩ : ∃ D, IntKind.i64.wrap ((F : Int) - (F' : Int)) = D := ⟨_, rfl⟩
          have hDG : (D = 0 ∧ (g : Int) - (g' : Int) = 0 ∧ (g' : Int) - (g : Int) = 0) ∨ (D = -2 ∧ (g : Int) - (g' : Int) = 1 ∧ (g' : Int) - (g : Int) = -1) ∨ (D = 2 ∧ (g : Int) - (g' : Int) = -1 ∧ (g' : Int) - (g : Int) = 1) := by
            have := unhide HDIF
            rw [IntKind.wrap_i64] at hD
            omega
          have HDG := hide hDG
          clear C8 C8s C9 C9s C10 hDG
          go_upto_region 20 with fail
          go_region_held3 (fun u => u.cell? ⟨w.heap.size, 0, none⟩ = some (.int .i64 (V : Int)) ∧ u.cell? ⟨w.heap.size, 1, none⟩ = some (.slice a n cap) ∧ Hid (Bg w u (.int .i64 (V : Int)) (.slice a n cap)) ∧ Hid (Below w21.heap.size w21 u)) (first | exact hS0 | exact hS1 | assumption | exact Sg.keep hb23 (by assumption) | exact Sg.keep hb22 (by assumption)) ((go_at_call 8; first | (with_reducible refine (unhide HC8 _ ?hs8).mono ?_; (case hs8 => first | assumption | exact hS0); rintro e w22 ⟨⟨pa, pc, rfl⟩, hb22⟩) | (with_reducible refine (unhide HC8s _ ?hs8).mono ?_; (case hs8 => first | assumption | exact hS0 | exact Sg.keep hb22 (by first | assumption | exact hS0)); rintro e w23 ⟨⟨qa, qc, rfl⟩, hb23⟩)))
          have hSE : Sg w w21 V a n cap w23 := by assumption
          have HBE := hide hSE.bel
          have y0 : IntKind.i64.wrap 0 = 0 := by decide
          have y1 : IntKind.i64.wrap 1 = 1 := by decide
          have y2 : IntKind.i64.wrap (-1) = -1 := by decide
          clear hSE hS0 hS1 HC8 HC8s
          rcases unhide HDG with ⟨rfl, z1, z2⟩ | ⟨rfl, z1, z2⟩ | ⟨rfl, z1, z2⟩
          · go_wp2_with fail
            go_ret
            exact ⟨by first | rfl | simp, unhide HBE⟩
          · go_wp2_with fail
            go_ret
            exact ⟨by first | rfl | simp, unhide HBE⟩
          · go_wp2_with fail
            go_ret
            exact ⟨by first | rfl | simp, unhide HBE⟩

theorem swaps_any (w : World) (hT : pt.Tab w) (V : Int) (a : Option Addr) (n cap : Nat) (zs : List (Int × Int)) (h : 200 < n ∨ Es 0 w a n zs) (ra : Option Addr) (m rc : Nat) (rs : List (List Int)) (hq : Rq w ra m rs) (hz : m ≤ 70 → Rz w ra m) (x0 at0 : Int) :
    Calls Tryd.prog 5 #[.agg #[.int .i64 V, .slice a n cap], .slice ra m rc, .int .i64 x0, .int .i64 at0] w fun e w' => e = .returned (.bool true) ∧ Below w.heap.size w w' := by
  by_cases hg : GreatP n m rs
  · exact swaps_out w V a n cap zs h ra m rc rs hq x0 at0 (.inl hg)
  have hn60 : n ≤ 60 := Nat.le_of_not_lt fun h => hg (.inl h)
  have hm70 : m ≤ 70 := Nat.le_of_not_lt fun h => hg (.inr (.inl h))
  have hE : Es 0 w a n zs := h.resolve_left (by omega)
  by_cases hrot : IsRot V n zs rs
  · obtain ⟨v, es, rfl, rfl, hne, hp⟩ := pt.plain_of_good hE.1 hrot.good
    subst hne
    obtain ⟨q, rfl, ro⟩ := pt.ro_of hp hrot
    exact swaps_good w hT v a es.length cap es hE rfl hp ra m rc q hq (hz hm70) hg hrot ro x0 at0
  · exact swaps_out w V a n cap zs h ra m rc rs hq x0 at0 (.inr hrot)
end Go.Proofs.YtmklngabfdnclaaDoor


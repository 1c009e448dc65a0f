/-
  The contract of the program's Faces. Conditions: the graph and the lists lie in memory as told.
-/
import Derived.Test.YtmklngabfdnclaaDoorRt
namespace Go.Proofs.YtmklngabfdnclaaDoor
open Go.RowKit
set_option linter.unusedVariables false
set_option maxRecDepth 20000

theorem owns_type {w : World} {base : Nat} {e : TypeId} {size : Nat} {v : Value} {n : Nat} {xs : List Value} (h : w.ownsRow base e size v n xs) {g : Nat} (hg : v.ownBlock = some g) : ∃ cur, w.heap[g]? = some (.cells cur e (0, 0)) := by
  rcases h.2 with ⟨rfl, _⟩ | ⟨g', cap, cur, rfl, hb, hh, _⟩
  · simp [Value.ownBlock] at hg
  · have : g' = g := by simpa [Value.ownBlock] using hg
    subst this
    exact ⟨cur, hh⟩
theorem one_v {a : Option Addr} {n c : Nat} : ∀ u ∈ [Value.slice a n c], u.oneCell' = true := by
  intro u hu
  simp only [List.mem_singleton] at hu
  subst hu
  rfl
/-- lists that are laid while block g is written: their row, and each of them -/
structure Fo (g : Nat) (u0 wr : World) (bv : Value) (R : Nat → Value) (Ls : List (List Nat)) : Prop where
  but : But g u0 wr
  own : wr.ownsRow u0.heap.size 36 1 bv Ls.length ((List.range Ls.length).map R)
  rows : ∀ j, j < Ls.length → wr.ownsRow u0.heap.size 3 1 (R j) (Ls.getD j []).length (zcells (toIs (Ls.getD j [])))
theorem Fo.start (g : Nat) (u0 : World) : Fo g u0 u0 (.slice none 0 0) (fun _ => .slice none 0 0) [] :=
  ⟨But.refl _ _, World.ownsRow_nil _ _ _ _, fun j hj => by simp at hj⟩
theorem owns_but {g : Nat} {w w' : World} {base : Nat} {e : TypeId} {size : Nat} {v : Value} {n : Nat} {xs : List Value} (h : w.ownsRow base e size v n xs) (hb : But g w w') (hg : g < base) : w'.ownsRow base e size v n xs :=
  owns_keep h fun b hbv => hb.far b (h.lt b hbv).2 (by have := (h.lt b hbv).1; omega)
theorem Fo.step {g : Nat} {u0 wr wr' : World} {bv : Value} {R : Nat → Value} {Ls : List (List Nat)} (h : Fo g u0 wr bv R Ls) (hb : But g wr wr') (hg : g < u0.heap.size) : Fo g u0 wr' bv R Ls :=
  ⟨h.but.trans hb, owns_but h.own hb hg, fun j hj => owns_but (h.rows j hj) hb hg⟩
theorem Fo.push {g : Nat} {u0 u u' : World} {o : Obj} {bv v' l : Value} {R : Nat → Value} {Ls : List (List Nat)} {x : List Nat} (h : Fo g u0 u bv R Ls) (hgl : g < u0.heap.size) (hl : u.ownsRow u0.heap.size 3 1 l x.length (zcells (toIs x)))
    (ho : u'.ownsRow u0.heap.size 36 1 v' (Ls.length + 1) ((List.range Ls.length).map R ++ [l])) (hg : (u.alloc o).grownBy u' bv.ownBlock) : Fo g u0 u' v' (upd R Ls.length l) (Ls ++ [x]) ∧ u'.heap[g]? = u.heap[g]? := by
  obtain ⟨hb, hgk⟩ := but_grown h.but hg (fun t ht => (h.own.lt t ht).1) hgl
  have hk : ∀ {v : Value} {n : Nat} {xs : List Value}, u.ownsRow u0.heap.size 3 1 v n xs → u'.ownsRow u0.heap.size 3 1 v n xs := fun {v n xs} hv => by
    have hv' := hv.alloc o
    refine owns_keep hv' fun g hgv => hg.block g (hv'.lt g hgv).2 fun e => ?_
    obtain ⟨c1, h1⟩ := owns_type hv hgv
    obtain ⟨c2, h2⟩ := owns_type h.own e.symm
    rw [h1] at h2
    simp at h2
  refine ⟨⟨hb, ?_, fun j hj => ?_⟩, hgk⟩
  · rw [List.length_append, show [x].length = 1 from rfl, List.range_succ, List.map_append]
    have e1 : (List.range Ls.length).map (upd R Ls.length l) = (List.range Ls.length).map R := List.map_congr_left fun t ht => upd_other _ _ (by have := List.mem_range.1 ht; omega)
    rw [e1]
    simpa [upd_same] using ho
  · rw [List.length_append, show [x].length = 1 from rfl] at hj
    by_cases hjl : j = Ls.length
    · subst hjl
      rw [upd_same, show (Ls ++ [x]).getD Ls.length [] = x by simp [List.getD]]
      exact hk hl
    · rw [upd_other _ _ hjl, show (Ls ++ [x]).getD j [] = Ls.getD j [] by simp only [List.getD]; rw [List.getElem?_append_left (by omega)]]
      exact hk (h.rows j (by omega))
theorem Fo.read {g : Nat} {u0 wr : World} {bv : Value} {R : Nat → Value} {Ls : List (List Nat)} (h : Fo g u0 wr bv R Ls) (hL : Ls.length ≤ 1000) (hm : ∀ j, j < Ls.length → (Ls.getD j []).length ≤ 1000) : ∃ ba bc, bv = .slice ba Ls.length bc ∧ Ls.length ≤ bc ∧ Rr wr ba Ls.length (rowsI Ls) := by
  rcases h.own.2 with ⟨hv, hn⟩ | ⟨gb, cap, cur, hv, hb, hg, h1, h2, h3, h4⟩
  · exact ⟨none, 0, by rw [hv, hn], by omega, by rw [rowsI_length], by omega, fun t ht => by omega⟩
  · refine ⟨_, cap, hv, h1, by rw [rowsI_length], by omega, fun t ht => ?_⟩
    have hb' := hm t ht
    obtain ⟨la, lc, hl, hlc, hn⟩ := ns_of_owns (h.rows t ht) (by omega)
    have : (cur.toList.take (Ls.length * 1))[t]? = ((List.range Ls.length).map R)[t]? := by rw [h4]
    rw [List.getElem?_take] at this
    simp [ht] at this
    rw [rowsI_getD, toIs_length]
    exact ⟨gb, 0, la, lc, rfl, (Array.getElem?_eq_some_iff.1 hg).1, by simp [World.cell?, hg, this, hl], hlc, hn⟩

theorem Pm.gn_closed {N : Nat → Nat} {H : Nat} (p : Pm N H) {k : Nat} (hk : k ≤ H) : ∀ j, j < H → (gn N H k (N j) ↔ gn N H k j) := by
  intro j hj
  have h1 : N j ∈ orb N H j := p.orb_it hj 1
  constructor
  · rintro ⟨h, hh, hm⟩
    exact ⟨h, hh, p.trans (by omega) hm (p.sym hj h1)⟩
  · rintro ⟨h, hh, hm⟩
    exact ⟨h, hh, p.trans (by omega) hm h1⟩
theorem gn_succ {N : Nat → Nat} {H k j : Nat} : gn N H (k + 1) j ↔ (gn N H k j ∨ j ∈ orb N H k) := by
  constructor
  · rintro ⟨h, hh, hm⟩
    by_cases hk : h = k
    · subst hk; exact .inr hm
    · exact .inl ⟨h, by omega, hm⟩
  · rintro (⟨h, hh, hm⟩ | hm)
    · exact ⟨h, by omega, hm⟩
    · exact ⟨k, by omega, hm⟩
theorem Pm.gn_stay {N : Nat → Nat} {H : Nat} (p : Pm N H) {k : Nat} (hk : k < H) (hg : gn N H k k) {j : Nat} : gn N H (k + 1) j ↔ gn N H k j := by
  rw [gn_succ]
  constructor
  · rintro (h | h)
    · exact h
    · obtain ⟨h0, hh, hm⟩ := hg
      exact ⟨h0, hh, p.trans (by omega) hm h⟩
  · exact .inl
theorem Pm.orb_len {N : Nat → Nat} {H : Nat} (p : Pm N H) {h : Nat} (hh : h < H) : (orb N H h).length ≤ H := nodup_le H _ (p.orb_nodup hh) (p.orb_lt hh)
theorem Pm.faces_len {N : Nat → Nat} {H : Nat} (p : Pm N H) {k : Nat} (hk : k ≤ H) : ∀ l ∈ facesF N H k, l.length ≤ H := by
  intro l hl
  unfold facesF at hl
  simp only [List.mem_map, List.mem_filter, List.mem_range] at hl
  obtain ⟨h, ⟨hh, _⟩, rfl⟩ := hl
  exact p.orb_len (by omega)

def gnB (N : Nat → Nat) (H k j : Nat) : Bool := (List.range k).any fun h => (orb N H h).contains j
theorem gnB_iff {N : Nat → Nat} {H k j : Nat} : gnB N H k j = true ↔ gn N H k j := by
  unfold gnB gn
  simp only [List.any_eq_true, List.mem_range, List.contains_iff_mem]

set_option maxHeartbeats 4000000 in
theorem faces_bad (w : World) (V : Int) (a : Option Addr) (n cap : Nat) (es : List (Int × Int)) {B : Nat} (h : Es B w a n es) (ra : Option Addr) (m rc : Nat) (rs : List (List Int)) (hr : Rr w ra m rs) (hno : ¬ IsRot V n es rs) :
    Calls Tryd.prog 8 #[.agg #[.int .i64 V, .slice a n cap], .slice ra m rc] w fun e w' => e = .returned (.slice none 0 0) ∧ Below w.heap.size w w' := by
  have HB0 := hide (Bg.start w (.int .i64 V) (.slice a n cap))
  have HC := hide (fun (u : World) (hu : Below w.heap.size w u) => right_any u V a n cap es (h.below hu) ra m rc rs (hr.below hu))
  have HNO := hide hno
  clear h hr hno
  obtain ⟨g0, g1⟩ := (unhide HB0).cells
  go_enter Tryd.func8, Tryd.ntmps8
  go_wp2_with fail
  refine (unhide HC _ (unhide HB0).bel).mono ?_
  rintro e w1 ⟨⟨r, rfl, hr⟩, hb1⟩
  have hrt : r = false := by
    cases r with
    | false => rfl
    | true => exact absurd (hr.1 rfl) (unhide HNO)
  subst hrt
  have HB1 := hide ((unhide HB0).step hb1)
  clear hb1 HB0 g0 g1 hr
  go_wp2_with fail
  go_ret
  exact ⟨rfl, (unhide HB1).bel⟩

set_option maxHeartbeats 8000000 in
theorem faces_good (w : World) (V : Int) (a : Option Addr) (n cap : Nat) (es : List (Int × Int)) {B : Nat} (h : Es B w a n es) (ra : Option Addr) (m rc : Nat) (q : List (List Nat)) (hr : Rr w ra m (rowsI q)) (hyes : IsRot V n es (rowsI q)) (N : Nat → Nat) (hN : Behind q N) (hp : Pm N (2 * n))
    (hlt : ∀ x, x < q.length → ∀ i, i < (q.getD x []).length → (q.getD x []).getD i 0 < 2 * n) (hcov : ∀ j, j < 2 * n → ∃ x i, x < q.length ∧ i < (q.getD x []).length ∧ oth ((q.getD x []).getD i 0) = j) :
    Calls Tryd.prog 8 #[.agg #[.int .i64 V, .slice a n cap], .slice ra m rc] w fun e w' => (∃ va vc, e = .returned (.slice va (facesF N (2 * n) (2 * n)).length vc) ∧ (facesF N (2 * n) (2 * n)).length ≤ vc ∧ Rr w' va (facesF N (2 * n) (2 * n)).length (rowsI (facesF N (2 * n) (2 * n)))) ∧ Below w.heap.size w w' := by
  have hn := hyes.good.2.2.1
  have HB0 := hide (Bg.start w (.int .i64 V) (.slice a n cap))
  have HC := hide (fun (u : World) (hu : Below w.heap.size w u) => right_any u V a n cap es (h.below hu) ra m rc _ (hr.below hu))
  have HA := hide (fun (u : World) (hu : Below w.heap.size w u) => along_any u ra m rc (2 * n) q (hr.below hu) (by omega) hlt (fun j hj => oth_lt hj) N hN hcov)
  have HYES := hide hyes
  have HP := hide hp
  obtain ⟨H, hH⟩ : ∃ H, 2 * n = H := ⟨_, rfl⟩
  rw [hH] at HA HP ⊢
  have hH256 : H ≤ 256 := by omega
  have hmul : IntKind.i64.wrap (2 * (n : Int)) = (H : Int) := by rw [IntKind.wrap_i64]; omega
  obtain ⟨j0, hj0, hy0, hy1, hy2⟩ := info_parts info28
  have HJ := hide hj0
  have HY0 := hide hy0
  have HY1 := hide hy1
  have HY2 := hide hy2
  clear hj0 hy0 hy1 hy2 h hr hyes hN hp hlt hcov
  obtain ⟨g0, g1⟩ := (unhide HB0).cells
  go_enter Tryd.func8, Tryd.ntmps8
  go_wp2_with fail
  refine (unhide HC _ (unhide HB0).bel).mono ?_
  rintro e w1 ⟨⟨r, rfl, hr⟩, hb1⟩
  have hrt : r = true := hr.2 (unhide HYES)
  subst hrt
  have HB1 := hide ((unhide HB0).step hb1)
  clear hb1 HB0 g0 g1 hr HC
  obtain ⟨g0, g1⟩ := (unhide HB1).cells
  go_wp2_with fail
  refine (unhide HA _ (unhide HB1).bel).mono ?_
  rintro e w2 ⟨⟨g, rfl, hg, hrow⟩, hb2⟩
  have HB2 := hide ((unhide HB1).step hb2)
  have hgl := hrow.lt
  have hgw : w.heap.size ≤ g := by have := (unhide HB1).bel.size; omega
  have HF0 := hide (Fo.start g w2)
  have HR0 := hide (show RowZ w2 g H (nz N (gnB N H 0)) from Row.congr hrow fun t ht => by rw [nz_here]; rw [gnB_iff]; rintro ⟨h, hh, _⟩; omega)
  clear hb2 HB1 g0 g1 hrow HA hg
  go_wp2_with fail
  go_loopw [6, 20] (fun v i wr => ∃ (k : Nat) (R : Nat → Value), i = .int .i64 k ∧ k ≤ H ∧ Hid (Fo g w2 wr v R (facesF N H k)) ∧ Hid (RowZ wr g H (nz N (gnB N H k)))) (fun v i wr => H - (intOf i).toNat)
  case atStart => exact ⟨0, _, rfl, by omega, HF0, HR0⟩
  case round =>
    clear HF0 HR0
    obtain ⟨k, R, rfl, hk, HF, HR⟩ := hrel
    by_cases hkH : k < H
    · have hkH2 : (k : Int) < (H : Int) := by omega
      have r0 := (unhide HR).cell hkH
      have hgr := (unhide HR).lt
      by_cases hgone : gn N H k k
      · rw [nz_gone (gnB_iff.2 hgone)] at r0
        have HF2 := hide (show Fo g w2 wr u6 R (facesF N H (k + 1)) by rw [facesF_succ, (unhide HP).gn_iff hkH |>.1 hgone]; simpa using unhide HF)
        have HR2 := hide (show RowZ wr g H (nz N (gnB N H (k + 1))) from Row.congr (unhide HR) fun t ht => congrArg (Value.int .i64) (nz_congr (by rw [gnB_iff, gnB_iff]; exact ((unhide HP).gn_stay hkH hgone).symm)))
        clear hgone
        go_wp2_with fail
        go_roundw
        case rel => exact ⟨k + 1, R, by go_num, by omega, HF2, HR2⟩
        case measure => simp [intOf]; omega
      · rw [nz_here (fun hc => hgone (gnB_iff.1 hc))] at r0
        have t1 : (((N k : Nat) : Int) == (-1 : Int)) = false := by rw [beq_eq_false_iff_ne]; omega
        have hlst : isLeast N H k = true := by
          cases hc : isLeast N H k with
          | true => rfl
          | false => exact absurd (((unhide HP).gn_iff hkH).2 hc) hgone
        have HLS := hide hlst
        have HT := hide (take_any wr g H H N (unhide HP) hH256 (gnB N H k) (unhide HR) (fun j hj => by rw [gnB_iff, gnB_iff]; exact (unhide HP).gn_closed hk j hj) k hkH (fun hc => hgone (gnB_iff.1 hc)))
        generalize N k = nk at *
        clear hgone hlst
        have hol := (unhide HP).orb_len hkH
        have hfl := facesF_len N H k
        go_wp2_with fail
        refine (unhide HT).mono ?_
        rintro e w3 ⟨⟨v, rfl, hown⟩, hrow3, hbut⟩
        obtain ⟨la, lc, rfl, hlc, hns⟩ := ns_of_owns hown (by omega)
        have HF3 := hide ((unhide HF).step hbut hgl)
        have HO3 := hide (owns_mono hown (unhide HF).but.size)
        have HR3 := hide (show RowZ w3 g H (nz N (gnB N H (k + 1))) from Row.congr hrow3 fun t ht => congrArg (Value.int .i64) (nz_congr (by rw [gnB_iff, gn_succ, gq_iff, gnB_iff])))
        have hs3 := (unhide HF3).but.size
        clear hown hrow3 hbut hns HF HR HT r0
        go_wp2_with (at_builtin; refine wpList_append_own _ rfl (.tmp 28) (.tmp 32) 25 rfl w2.heap.size 36 j0 (.slice none 0 0) 1 24 Tryd.underlying25 (unhide HJ) (unhide HY0) (unhide HY1) (unhide HY2) rfl (by decide) u6 (facesF N H k).length _ rfl ((unhide HF3).own.alloc _) ⟨w3.heap.size, 0, none⟩ 1 1 [.slice la (orb N H k).length lc] rfl rfl (cell_one_new _ _ _) one_v ?a3 ?a4 ?a5 ?_)
        case a3 => unfold maxLen; omega
        case a4 => omega
        case a5 => simp; omega
        intro v2 w7 hown7 hg7 _
        obtain ⟨hp7, hgk⟩ := (unhide HF3).push hgl (unhide HO3) hown7 hg7
        have HF7 := hide (show Fo g w2 w7 v2 (upd R (facesF N H k).length (.slice la (orb N H k).length lc)) (facesF N H (k + 1)) by rw [facesF_succ, unhide HLS]; exact hp7)
        have HR7 := hide ((unhide HR3).keep hgk)
        clear hp7 hgk hown7 hg7
        go_wp2_with fail
        go_roundw
        case rel => exact ⟨k + 1, _, by go_num, by omega, HF7, HR7⟩
        case measure => simp [intOf]; omega
    · obtain rfl : k = H := by omega
      have hfl := facesF_len N k k
      have hfe := (unhide HP).faces_len (Nat.le_refl k)
      obtain ⟨ba, bc, rfl, hbc, hrr⟩ := (unhide HF).read (by omega) (fun j hj => by have := hfe _ (show (facesF N k k).getD j [] ∈ facesF N k k by simp [List.getD, hj]); omega)
      have HRR := hide hrr
      have HBF := hide ((unhide HB2).bel.trans ((unhide HF).but.bel.mono hgw))
      clear hrr hfe
      go_wp2_with fail
      go_ret
      exact ⟨⟨ba, bc, rfl, hbc, unhide HRR⟩, unhide HBF⟩
end Go.Proofs.YtmklngabfdnclaaDoor


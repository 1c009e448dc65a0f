/-
  The contract of the document's Part: each vertex's part, by the least vertex of it; -1: it is without. Conditions: the graph lies in memory as told and may be; so do the marks of those without.
-/
import Derived.Test.YtbecmaandhadhaaRefGoW
namespace Go.Proofs.Ytbecmaandhadhaa.pt
open Go.RowKit
set_option linter.unusedVariables false
set_option maxRecDepth 20000

theorem bto {w u v : World} (h : Below w.heap.size w u) (k : Below u.heap.size u v) : Below w.heap.size w v := h.trans (k.mono h.size)
/-- which edges count -/
def cntE (es : List (Nat × Nat)) (wo : Nat → Bool) (t : Nat) : Bool := !wo (es.getD t (0, 0)).1 && !wo (es.getD t (0, 0)).2
theorem cs_bd (es : List (Nat × Nat)) (wo c : Nat → Bool) (hc : ∀ t, t < es.length → c t = cntE es wo t) (u v : Nat) : Cs es true c u v ↔ Bd es wo u v := by
  constructor
  · rintro ⟨t, ht, h1, h2⟩
    rw [hc t ht] at h1
    unfold cntE at h1
    simp at h1
    refine ⟨es.getD t (0, 0), getD_mem ht, h1.1, h1.2, ?_⟩
    rcases h2 with h2 | ⟨_, h2⟩
    · exact .inl h2
    · exact .inr h2
  · rintro ⟨e, he, h1, h2, h3⟩
    obtain ⟨t, ht, rfl⟩ := List.mem_iff_getElem.1 he
    have hg : es.getD t (0, 0) = es[t] := by simp [List.getD, ht]
    refine ⟨t, ht, ?_, ?_⟩
    · rw [hc t ht]
      unfold cntE
      rw [hg, h1, h2]
      rfl
    · rw [hg]
      rcases h3 with h3 | h3
      · exact .inl h3
      · exact .inr ⟨rfl, h3⟩
/-- each vertex's part, by its least vertex; -1: it is without -/
def IsL (V : Nat) (es : List (Nat × Nat)) (wo : Nat → Bool) (L : Nat → Int) : Prop := ∀ x, x < V → (wo x = true → L x = -1) ∧ (wo x = false → ∃ y : Nat, L x = (y : Int) ∧ y < V ∧ Star (Bd es wo) x y ∧ Rep es wo y)
theorem isL_ex (V : Nat) (es : List (Nat × Nat)) (wo : Nat → Bool) : ∃ L, IsL V es wo L := by
  classical
  refine ⟨fun x => if h : wo x = false then ((rep_ex es wo x h).choose : Int) else -1, fun x hx => ⟨fun h => ?_, fun h => ?_⟩⟩
  · have : ¬ wo x = false := by rw [h]; simp
    exact dif_neg this
  · simp only [h, dite_true]
    obtain ⟨h1, h2, h3⟩ := (rep_ex es wo x h).choose_spec
    exact ⟨_, rfl, by omega, h2, h3⟩
/-- the least of those from j on, or -1 -/
def IsLm (V : Nat) (f : Nat → Bool) (wx : Bool) (j : Nat) (z : Int) : Prop :=
  (wx = true → z = -1) ∧ (wx = false → (z = -1 ∧ ∀ t, j ≤ t → t < V → f t = false) ∨ ∃ y : Nat, z = (y : Int) ∧ j ≤ y ∧ y < V ∧ f y = true ∧ ∀ t, j ≤ t → t < y → f t = false)
theorem IsLm.start (V : Nat) (f : Nat → Bool) (wx : Bool) : IsLm V f wx V (-1) := ⟨fun _ => rfl, fun _ => .inl ⟨rfl, fun t h1 h2 => by omega⟩⟩
theorem IsLm.yes {V : Nat} {f : Nat → Bool} {wx : Bool} {j : Nat} {z : Int} (h : IsLm V f wx (j + 1) z) (hj : j < V) (hf : f j = true) (hw : wx = false) : IsLm V f wx j (j : Int) :=
  ⟨fun h => (by rw [hw] at h; cases h), fun _ => .inr ⟨j, rfl, Nat.le_refl _, hj, hf, fun t h1 h2 => by omega⟩⟩
theorem IsLm.no {V : Nat} {f : Nat → Bool} {wx : Bool} {j : Nat} {z : Int} (h : IsLm V f wx (j + 1) z) (hf : f j = false ∨ wx = true) : IsLm V f wx j z := by
  refine ⟨h.1, fun hw => ?_⟩
  have hfj : f j = false := by
    rcases hf with hf | hf
    · exact hf
    · rw [hw] at hf; cases hf
  rcases h.2 hw with ⟨h1, h2⟩ | ⟨y, h1, h2, h3, h4, h5⟩
  · refine .inl ⟨h1, fun t ht1 ht2 => ?_⟩
    by_cases htj : t = j
    · rw [htj]; exact hfj
    · exact h2 t (by omega) ht2
  · refine .inr ⟨y, h1, by omega, h3, h4, fun t ht1 ht2 => ?_⟩
    by_cases htj : t = j
    · rw [htj]; exact hfj
    · exact h5 t (by omega) ht2
theorem IsLm.done {V : Nat} {es : List (Nat × Nat)} (hp : Plain V es) {wo f : Nat → Bool} {x : Nat} (hx : x < V) {z : Int} (h : IsLm V f (wo x) 0 z) (hf : ∀ j, j < V → (f j = true ↔ Star (Bd es wo) x j)) {L : Nat → Int} (hL : IsL V es wo L) : z = L x := by
  cases hw : wo x with
  | true => rw [h.1 hw, (hL x hx).1 hw]
  | false =>
    rcases h.2 hw with ⟨h1, h2⟩ | ⟨y, h1, h2, h3, h4, h5⟩
    · have := h2 x (by omega) hx
      rw [(hf x hx).2 .refl] at this
      cases this
    · obtain ⟨y', e1, e2, e3, e4⟩ := (hL x hx).2 hw
      have hxy := (hf y h3).1 h4
      have hr : Rep es wo y := ⟨Conn.free hxy hw, fun t ht hs => by
        have h6 := h5 t (by omega) ht
        rw [(hf t (by omega)).2 (hxy.trans hs)] at h6
        cases h6⟩
      have : y = y' := hr.only e4 ((Conn.symm hxy).trans e3)
      rw [h1, e1, this]
theorem one_i (z : Int) : ∀ u ∈ [Value.int .i64 z], u.oneCell' = true := by
  intro u hu
  simp only [List.mem_singleton] at hu
  subst hu
  rfl
theorem mapL_snoc (L : Nat → Int) (k : Nat) : (List.range k).map L ++ [L k] = (List.range (k + 1)).map L := by
  rw [List.range_succ]
  simp

set_option maxHeartbeats 8000000 in
theorem refpart_any (w : World) (V : Nat) (a : Option Addr) (n cap : Nat) (es : List (Nat × Nat)) {B : Nat} (h : Es B w a n (toI es)) (hne : es.length = n) (hp : Plain V es) (wa : Option Addr) (wcap : Nat) (wo : Nat → Bool) (hW : Bs w wa V wo) (L : Nat → Int) (hL : IsL V es wo L) :
    Calls Try.prog 18 #[.agg #[.int .i64 V, .slice a n cap], .slice wa V wcap] w fun e w' => (∃ v, e = .returned v ∧ w'.ownsRow w.heap.size 3 1 v V (zcells ((List.range V).map L))) ∧ Below w.heap.size w w' := by
  have hv64 := hp.v64
  have hv1 := hp.v1
  have hn128 := hp.n128
  rw [hne] at hn128
  have HE := hide h
  have HP := hide hp
  have HN := hide hne
  have HW := hide hW
  have HL := hide hL
  have HB0 := hide (Bg.start w (.int .i64 V) (.slice a n cap))
  have HEV := hide (fun (u : World) => every_any u V a n cap (by omega))
  have HGO := hide (fun (u : World) (h : Es B u a n (toI es)) (x : Nat) (hx : x < V) (ca : Option Addr) (cc : Nat) (c : Nat → Bool) (hC : Bs u ca n c) => refgo_any u V a n cap es h hne hp x hx true ca cc c hC)
  obtain ⟨i0, hi0, hz0, hz1, hz2⟩ := info_parts info3
  have HI := hide hi0
  have HZ0 := hide hz0
  have HZ1 := hide hz1
  have HZ2 := hide hz2
  clear hi0 hz0 hz1 hz2 h hp hne hW hL
  go_enter Try.func18, Try.ntmps18
  go_wp2_with fail
  refine (unhide HEV _).mono ?_
  rintro e w1 ⟨⟨ge, rfl, hge, hre⟩, hb1⟩
  have HB1 := hide ((unhide HB0).step hb1)
  have HR1 := hide (show RowB w1 ge n (fun t => if t < 0 then cntE es wo t else true) from Row.congr hre fun t ht => by simp)
  have hgw : w.heap.size + 1 ≤ ge := by
    have : (w.alloc (.cells #[.int .i64 (V : Int), .slice a n cap] 24)).heap.size = w.heap.size + 1 := by simp
    omega
  clear hb1 hre HB0 HEV hge
  go_wp2_with fail
  go_loopw [6] (fun i wr => ∃ k : Nat, i = .int .i64 k ∧ k ≤ n ∧ Hid (RowB wr ge n (fun t => if t < k then cntE es wo t else true)) ∧ Hid (Bg w wr (.int .i64 V) (.slice a n cap))) (fun i wr => n - (intOf i).toNat)
  case atStart => exact ⟨0, rfl, by omega, HR1, HB1⟩
  case round =>
    clear HR1 HB1
    obtain ⟨k, rfl, hk, HR, HB⟩ := hrel
    obtain ⟨g0, g1⟩ := (unhide HB).cells
    by_cases hlt : k < n
    · obtain ⟨g, off, ha, hg, c0, c1⟩ := es_at (i := k) (by have := unhide HE; rw [← unhide HN] at this; exact this) (by rw [unhide HN]; exact hlt)
      subst ha
      have hends := plat (unhide HP) (i := k) (by rw [unhide HN]; exact hlt)
      have hcnt : ∀ p q, es.getD k (0, 0) = (p, q) → cntE es wo k = (!wo p && !wo q) := fun p q he => by unfold cntE; rw [he]
      obtain ⟨⟨p, q⟩, hpq⟩ : ∃ e, es.getD k (0, 0) = e := ⟨_, rfl⟩
      rw [hpq] at c0 c1 hends
      have HCN := hide (hcnt p q hpq)
      clear hcnt hpq
      obtain ⟨hpV, hqV⟩ := hends
      simp only at c0 c1 hpV hqV
      obtain ⟨gw, ow, hwa, hgwl, cw⟩ := (unhide HW).2 p hpV
      subst hwa
      obtain ⟨gw', ow', hwa', _, cw'⟩ := (unhide HW).2 q hqV
      cases hwa'
      have d0 : wr.cell? ⟨g, off + k * 2, none⟩ = some (.int .i64 (p : Nat)) := by rw [(unhide HB).bel.cell (p := ⟨g, off + k * 2, none⟩) hg]; exact c0
      have d1 : wr.cell? ⟨g, off + k * 2 + 1, none⟩ = some (.int .i64 (q : Nat)) := by rw [(unhide HB).bel.cell (p := ⟨g, off + k * 2 + 1, none⟩) hg]; exact c1
      have d2 : wr.cell? ⟨gw, ow + p, none⟩ = some (.bool (wo p)) := by rw [(unhide HB).bel.cell (p := ⟨gw, ow + p, none⟩) hgwl]; exact cw
      have d3 : wr.cell? ⟨gw, ow + q, none⟩ = some (.bool (wo q)) := by rw [(unhide HB).bel.cell (p := ⟨gw, ow + q, none⟩) hgwl]; exact cw'
      have r0 := (unhide HR).cell hlt
      have r1 := (unhide HR).fz k
      have hlt2 : (k : Int) < (n : Int) := by omega
      have hp2 : (p : Int) < (V : Int) := by omega
      have hq2 : (q : Int) < (V : Int) := by omega
      clear c0 c1 cw cw'
      have HSET := hide (fun (b : Bool) (hb : cntE es wo k = b) => show RowB (wr.setCell ⟨ge, k, none⟩ (.bool b)) ge n (fun t => if t < k + 1 then cntE es wo t else true) from by
        refine Row.congr (RowB.set (unhide HR) k b) fun t ht => ?_
        unfold upd
        by_cases h1 : t = k
        · subst h1; simp [hb]
        · rw [if_neg h1]
          dsimp only
          by_cases h2 : t < k
          · rw [if_pos h2, if_pos (by omega)]
          · rw [if_neg h2, if_neg (by omega)])
      have HBS := hide (fun (b : Bool) => (unhide HB).stepB (B := w.heap.size + 1) (wk' := wr.setCell ⟨ge, k, none⟩ (.bool b)) (by omega) ((Below.refl _ _).setCell (p := ⟨ge, k, none⟩) hgw _))
      cases hwp : wo p with
      | true =>
        rw [hwp] at d2
        have hcb : cntE es wo k = false := by rw [unhide HCN, hwp]; rfl
        have HC2 := hide hcb
        clear hcb hwp
        go_wp2_with fail
        go_roundw
        case rel => exact ⟨k + 1, by go_num, by omega, unhide HSET false (unhide HC2), unhide HBS false⟩
        case measure => simp [intOf]; omega
      | false =>
        rw [hwp] at d2
        have hcb : cntE es wo k = !wo q := by rw [unhide HCN, hwp]; rfl
        have HC2 := hide hcb
        clear hcb hwp
        go_wp2_with fail
        go_roundw
        case rel => exact ⟨k + 1, by go_num, by omega, unhide HSET _ (unhide HC2), unhide HBS _⟩
        case measure => simp [intOf]; omega
    · obtain rfl : k = n := by omega
      have HRF := hide (show RowB wr ge k (cntE es wo) from Row.congr (unhide HR) fun t ht => by simp [ht])
      clear HR
      go_wp2_with fail
      clear g0 g1
      obtain ⟨wo0, rfl⟩ : ∃ wo0, wo0 = wr := ⟨_, rfl⟩
      have hsz0 := (unhide HB).lt
      have HO1 := hide (owns_lit_empty wo0 3 1 wo0.heap.size (Nat.le_refl _))
      have HX1 := hide (b_al (w := wo0) (.cells #[] 3))
      go_loopw [7, 8] (fun v i wr => ∃ x : Nat, i = .int .i64 x ∧ x ≤ V ∧ Hid (wr.ownsRow wo0.heap.size 3 1 v x (zcells ((List.range x).map L))) ∧ Hid (Below wo0.heap.size wo0 wr)) (fun v i wr => V - (intOf i).toNat)
      case atStart => exact ⟨0, rfl, by omega, HO1, HX1⟩
      case round =>
        clear HO1 HX1
        obtain ⟨x, rfl, hx, HO, HX⟩ := hrel
        have HBX := hide ((unhide HB).step (unhide HX))
        obtain ⟨g0, g1⟩ := (unhide HBX).cells
        by_cases hxV : x < V
        · have hxV2 : (x : Int) < (V : Int) := by omega
          go_wp2_with fail
          refine (unhide HGO _ ((unhide HE).below (unhide HBX).bel) x hxV _ _ _ (RowB.read (Row.below (unhide HRF) (unhide HX)) (by omega))).mono ?_
          rintro e w5 ⟨⟨gf, f, rfl, hgf, hrf, hf⟩, hb5⟩
          have HX5 := hide (bto (unhide HX) hb5)
          have HB5 := hide ((unhide HBX).step hb5)
          have HO5 := hide (owns_below (unhide HO) hb5)
          have RF := hide hrf
          have HF := hide (fun j hj => (show f j = true ↔ Star (Bd es wo) x j by rw [hf j hj]; exact ⟨Star.mono fun u v => (cs_bd es wo _ (fun t ht => rfl) u v).1, Star.mono fun u v => (cs_bd es wo _ (fun t ht => rfl) u v).2⟩))
          clear hb5 hrf hf hgf g0 g1
          obtain ⟨g0, g1⟩ := (unhide HB5).cells
          obtain ⟨gw, ow, hwa, hgwl, cw⟩ := (unhide HW).2 x hxV
          subst hwa
          have d2 : w5.cell? ⟨gw, ow + x, none⟩ = some (.bool (wo x)) := by rw [(unhide HB5).bel.cell (p := ⟨gw, ow + x, none⟩) hgwl]; exact cw
          clear cw
          go_wp2_with fail
          clear g0 g1
          have HLM := hide (IsLm.start V f (wo x))
          go_loop [9, 11] (fun z i => ∃ (j : Nat) (zz : Int), i = .int .i64 ((j : Int) - 1) ∧ z = .int .i64 zz ∧ j ≤ V ∧ Hid (IsLm V f (wo x) j zz)) (fun z i => (intOf i + 1).toNat)
          case atStart => exact ⟨V, -1, rfl, rfl, Nat.le_refl _, HLM⟩
          case round =>
            clear HLM
            obtain ⟨j, zz, rfl, rfl, hj, HLM⟩ := hrel
            by_cases hj0 : j = 0
            · subst hj0
              have hz := (unhide HLM).done (unhide HP) hxV (unhide HF) (unhide HL)
              have hneg : ¬ (0 : Int) ≤ ((0 : Nat) : Int) - 1 := by omega
              subst hz
              go_wp2_with (at_builtin; refine wpList_append_own _ rfl (.tmp 76) (.tmp 78) 29 rfl wo0.heap.size 3 i0 (.int .i64 0) 1 8 Try.underlying29 (unhide HI) (unhide HZ0) (unhide HZ1) (unhide HZ2) rfl (by decide) u7 x (zcells ((List.range x).map L)) rfl ((unhide HO5).alloc _) ⟨w5.heap.size, 0, none⟩ 1 1 [.int .i64 (L x)] rfl rfl (cell_one_new _ _ _) (one_i (L x)) ?a3 ?a4 ?a5 ?_)
              case a3 => unfold maxLen; omega
              case a4 => omega
              case a5 => have := (unhide HX5).size; first | omega | (simp; omega)
              intro v2 w7 hown7 hg7 _
              rw [zcells_snoc, mapL_snoc] at hown7
              have HX7 := hide (((unhide HX5).alloc (unhide HX5).size _).grown hg7 (by have := (unhide HX5).size; simp; omega) fun t ht => ((unhide HO5).lt t ht).1)
              have HO7 := hide hown7
              clear hown7 hg7
              go_wp2_with fail
              go_roundw
              case rel => exact ⟨x + 1, by go_num, by omega, HO7, HX7⟩
              case measure => simp [intOf]; omega
            · obtain ⟨j1, rfl⟩ : ∃ j1, j = j1 + 1 := ⟨j - 1, by omega⟩
              have hji : ((j1 + 1 : Nat) : Int) - 1 = (j1 : Int) := by omega
              rw [hji]
              have hj1 : j1 < V := by omega
              have hj2 : (j1 : Int) < (V : Int) := by omega
              have hge0 : (0 : Int) ≤ (j1 : Int) := by omega
              have r0 := (unhide RF).cell hj1
              have hwj : IntKind.i64.wrap ((j1 : Int) - 1) = (j1 : Int) - 1 := by rw [IntKind.wrap_i64]; omega
              cases hfj : f j1 with
              | false =>
                rw [hfj] at r0
                have HL2 := hide ((unhide HLM).no (.inl hfj))
                clear hfj
                go_wp2_with fail
                refine ⟨⟨j1, zz, by go_num, rfl, by omega, HL2⟩, by simp [intOf] <;> omega⟩
              | true =>
                rw [hfj] at r0
                cases hwx : wo x with
                | true =>
                  have HL2 := hide ((unhide HLM).no (.inr hwx))
                  rw [hwx] at d2 HL2
                  clear hfj
                  go_wp2_with fail
                  refine ⟨⟨j1, zz, by go_num, rfl, by omega, HL2⟩, by simp [intOf] <;> omega⟩
                | false =>
                  have HL2 := hide ((unhide HLM).yes hj1 hfj hwx)
                  rw [hwx] at d2 HL2
                  clear hfj
                  go_wp2_with fail
                  refine ⟨⟨j1, (j1 : Int), by go_num, rfl, by omega, HL2⟩, by simp [intOf] <;> omega⟩
        · obtain rfl : x = V := by omega
          go_wp2_with fail
          go_ret
          exact ⟨⟨_, rfl, owns_mono (unhide HO) (by omega)⟩, (unhide HBX).bel⟩
end Go.Proofs.Ytbecmaandhadhaa.pt


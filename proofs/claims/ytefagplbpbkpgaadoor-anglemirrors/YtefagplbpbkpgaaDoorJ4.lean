/-
  The contract of the program's faceOfEach. Conditions: the graph and the lists lie in memory as told, and the lists are a rotation.
-/
import Derived.Test.YtefagplbpbkpgaaDoorJ3
namespace Go.Proofs.YtefagplbpbkpgaaDoor
open Go.RowKit
set_option linter.unusedVariables false
set_option maxRecDepth 20000
/-- up to the place i in the list x -/
def FcTo (L : List (List Nat)) (F f : Nat → Nat) (x i : Nat) : Prop :=
  ∀ y, y < L.length → ∀ j, j < (L.getD y []).length → (y < x ∨ y = x ∧ j < i) → f ((L.getD y []).getD j 0) = F ((L.getD y []).getD j 0)
set_option maxHeartbeats 4000000 in
theorem foe_any (w : World) (V : Int) (a : Option Addr) (n cap : Nat) (es : List (Int × Int)) {B : Nat} (h : Es B w a n es) (ra : Option Addr) (m rc : Nat) (q : List (List Nat)) (hr : Rr w ra m (rowsI q)) (hyes : IsRot V n es (rowsI q)) (N : Nat → Nat) (hN : Behind q N) (hp : Pm N (2 * n))
    (hlt : ∀ x, x < q.length → ∀ i, i < (q.getD x []).length → (q.getD x []).getD i 0 < 2 * n) (hcov : ∀ j, j < 2 * n → ∃ x i, x < q.length ∧ i < (q.getD x []).length ∧ oth ((q.getD x []).getD i 0) = j)
    (F : Nat → Nat) (hF : IsFc (facesF N (2 * n) (2 * n)) (2 * n) F) :
    Calls Tryd.prog 49 #[.agg #[.int .i64 V, .slice a n cap], .slice ra m rc] w fun e w' => (∃ g, e = .returned (.slice (some ⟨g, 0, none⟩) (2 * n) (2 * n)) ∧ w.heap.size < g ∧ RowN w' g (2 * n) F) ∧ Below w.heap.size w w' := by
  have hn := hyes.good.2.2.1
  have HB0 := hide (Bg.start w (.int .i64 V) (.slice a n cap))
  have HC := hide (fun (u : World) (hu : Below w.heap.size w u) => faces_fresh u V a n cap es (h.below hu) ra m rc q (hr.below hu) hyes N hN hp hlt hcov)
  have hLl := facesF_len N (2 * n) (2 * n)
  have hLr : ∀ y, y < (facesF N (2 * n) (2 * n)).length → ((facesF N (2 * n) (2 * n)).getD y []).length ≤ 2 * n := fun y hy => hp.faces_len (Nat.le_refl _) _ (by simp [List.getD, hy])
  obtain ⟨H, hH⟩ : ∃ H, 2 * n = H := ⟨_, rfl⟩
  rw [hH] at HC hF hLl hLr ⊢
  have hH256 : H ≤ 256 := by omega
  have hmul : IntKind.i64.wrap (2 * (n : Int)) = (H : Int) := by rw [IntKind.wrap_i64]; omega
  obtain ⟨L, hL⟩ : ∃ L, facesF N H H = L := ⟨_, rfl⟩
  rw [hL] at HC hF hLl hLr
  obtain ⟨m2, hm2⟩ : ∃ m2, L.length = m2 := ⟨_, rfl⟩
  rw [hm2] at HC hLl hLr
  have HM2 := hide hm2
  have HF := hide hF
  have HLR := hide hLr
  obtain ⟨i0, hi0, hz0, hz1, hz2⟩ := info_parts info3
  have HI := hide hi0
  have HZ0 := hide hz0
  have HZ1 := hide hz1
  have hzb : i0.bytes * H ≤ 281474976710656 := by rw [hz2]; omega
  clear hi0 hz0 hz1 hz2 h hr hyes hN hp hlt hcov hF hLr hL hm2
  obtain ⟨g0, g1⟩ := (unhide HB0).cells
  go_enter Tryd.func49, Tryd.ntmps49
  go_wp2_with (refine wpList_make_full _ rfl (.tmp 13) (.tmp 13) 37 rfl (w.heap.size + 1) 3 i0 (.int .i64 0) 1 Tryd.underlying37 (unhide HI) (unhide HZ0) (unhide HZ1) .i64 .i64 _ _ H rfl rfl rfl rfl hzb ?m1 ?m2 ?_)
  case m1 => unfold maxLen; omega
  case m2 => simp
  intro w1 hown1 hg1
  rw [toList_madeCells_one] at hown1
  have hb1 : Below (w.alloc (.cells #[.int .i64 V, .slice a n cap] 24)).heap.size (w.alloc (.cells #[.int .i64 V, .slice a n cap] 24)) w1 := ⟨hg1.os, hg1.tape, hg1.output, hg1.size, fun k hk => hg1.block k hk (by simp)⟩
  have HB1 := hide ((unhide HB0).step hb1)
  have hrow1 : RowN w1 (w.heap.size + 1) H (fun t => 0) := (Row.of_owns hown1).congr fun t ht => by simp
  obtain ⟨g, hg⟩ : ∃ g, w.heap.size + 1 = g := ⟨_, rfl⟩
  rw [hg] at hrow1 ⊢
  have hgw : w.heap.size < g := by omega
  have hgl := hrow1.lt
  have HR1 := hide hrow1
  clear hown1 hg1 hb1 hrow1 hg HB0 g0 g1
  obtain ⟨g0, g1⟩ := (unhide HB1).cells
  go_wp2_with fail
  refine (unhide HC _ (unhide HB1).bel).mono ?_
  rintro e w3 ⟨⟨va, vc, rfl, hvc, hru⟩, hb3⟩
  have HB3 := hide ((unhide HB1).step hb3).bel
  have HR3 := hide ((unhide HR1).below hb3)
  have HU := hide (fun (x : Nat) (hx : x < m2) => hru.2.2 x hx)
  have HK := hide (fun (u : World) (hu : But g w3 u) (b : Nat) (h1 : w1.heap.size ≤ b) (h2 : b < w3.heap.size) => hu.far b h2 (by omega))
  have HT0 := hide (show FcTo L F (fun t => 0) 0 0 from fun y hy j hj hh => by omega)
  have HBu := hide (But.refl g w3)
  clear hvc hru hb3 HB1 HR1 g0 g1 HC
  go_wp2_with fail
  go_loopw [19] (fun i wr => ∃ (x : Nat) (f : Nat → Nat), i = .int .i64 x ∧ x ≤ m2 ∧ Hid (RowN wr g H f) ∧ Hid (FcTo L F f x 0) ∧ Hid (But g w3 wr)) (fun i wr => m2 - (intOf i).toNat)
  case atStart => exact ⟨0, _, rfl, by omega, HR3, HT0, HBu⟩
  case round =>
    clear HR3 HT0 HBu
    obtain ⟨x, f, rfl, hx, HRow, HT, HB⟩ := hrel
    by_cases hxm : x < m2
    · have hxm2 : (x : Int) < (m2 : Int) := by omega
      obtain ⟨gr, or, la, lc, ha, hlc, hu⟩ := unhide HU x hxm
      subst ha
      rw [rowsI_getD, toIs_length] at hu
      obtain ⟨hgr, c0, _⟩ := hu wr (unhide HB).size (unhide HK wr (unhide HB))
      obtain ⟨l, hl⟩ : ∃ l, L.getD x [] = l := ⟨_, rfl⟩
      rw [hl] at c0 hu
      obtain ⟨len, hlen⟩ : ∃ len, l.length = len := ⟨_, rfl⟩
      rw [hlen] at c0 hu
      have HLS := hide (fun (u : World) (hb : But g w3 u) => (hu u hb.size (unhide HK u hb)).2.2)
      have hlnH : len ≤ H := by have := unhide HLR x hxm; rw [hl, hlen] at this; exact this
      have HLEN := hide hlen
      have HL := hide hl
      clear hu hlc hl hlen
      rename World => w6
      go_wp2_with fail
      go_loopw [26] (fun i wr => ∃ (k : Nat) (f : Nat → Nat), i = .int .i64 k ∧ k ≤ len ∧ Hid (RowN wr g H f) ∧ Hid (FcTo L F f x k) ∧ Hid (But g w3 wr)) (fun i wr => len - (intOf i).toNat)
      case atStart => exact ⟨0, _, rfl, by omega, HRow, HT, HB⟩
      case round =>
        clear c0 hgr HRow HT HB
        obtain ⟨k, f2, rfl, hk, HRow2, HT3, HB2⟩ := hrel
        by_cases hkl : k < len
        · have hkl2 : (k : Int) < (len : Int) := by omega
          obtain ⟨gl, ol, hla, hgl2, c1⟩ := (unhide HLS wr (unhide HB2)).2.2 k hkl
          subst hla
          rw [toIs_getD] at c1
          obtain ⟨hh, hhe⟩ : ∃ hh, l.getD k 0 = hh := ⟨_, rfl⟩
          rw [hhe] at c1
          obtain ⟨e1, e2⟩ := (unhide HF).el x (by rw [unhide HM2]; exact hxm) k (by rw [unhide HL, unhide HLEN]; exact hkl)
          rw [unhide HL, hhe] at e1 e2
          have e3 : (hh : Int) < (H : Int) := by omega
          have r0 := (unhide HRow2).cell e1
          have r1 := (unhide HRow2).fz hh
          have HTB := hide (show FcTo L F (upd f2 hh x) x (k + 1) from fun y' hy' j hj hh' => by
            by_cases heq : (L.getD y' []).getD j 0 = hh
            · rw [heq, upd_same, e2]
            · rw [upd_other _ _ heq]
              refine unhide HT3 y' hy' j hj ?_
              rcases hh' with h1 | ⟨h1, h2⟩
              · exact .inl h1
              · refine .inr ⟨h1, ?_⟩
                rcases Nat.lt_or_ge j k with h3 | h3
                · exact h3
                · obtain rfl : j = k := by omega
                  subst h1
                  rw [unhide HL, hhe] at heq
                  exact absurd rfl heq)
          have HB4 := hide ((unhide HB2).trans (But.set hh (.int .i64 (x : Nat))))
          have HRow4 := hide (show RowN (wr.setCell ⟨g, hh, none⟩ (.int .i64 (x : Nat))) g H (upd f2 hh x) from
            (Row.congr (Row.set (unhide HRow2) hh (.int .i64 (x : Nat))) fun t ht => by unfold upd; split <;> rfl))
          clear hhe e2
          go_wp2_with fail
          go_roundw
          case rel => exact ⟨k + 1, _, by go_num, by omega, HRow4, HTB, HB4⟩
          case measure => simp [intOf]; omega
        · obtain rfl : k = len := by omega
          have HT5 := hide (show FcTo L F f2 (x + 1) 0 from fun y hy j hj hh => unhide HT3 y hy j hj (by
            by_cases hyx : y = x
            · subst hyx
              right
              rw [unhide HL, unhide HLEN] at hj
              exact ⟨rfl, hj⟩
            · left; omega))
          go_wp2_with fail
          go_roundw
          case rel => exact ⟨x + 1, f2, by go_num, by omega, HRow2, HT5, HB2⟩
          case measure => simp [intOf]; omega
    · obtain rfl : x = m2 := by omega
      have HRF := hide (show RowN wr g H F from Row.congr (unhide HRow) fun t ht => by
        obtain ⟨h1, i, hi, e⟩ := (unhide HF).cov t ht
        have := unhide HT (F t) h1 i hi (.inl (by rw [← unhide HM2]; exact h1))
        rw [e] at this
        simp only [this])
      have HBF := hide ((unhide HB3).trans ((unhide HB).bel.mono (Nat.le_of_lt hgw)))
      go_wp2_with fail
      go_ret
      exact ⟨⟨_, rfl, hgw, unhide HRF⟩, unhide HBF⟩
end Go.Proofs.YtefagplbpbkpgaaDoor
/-
  The contract of the program's anglesOf. Conditions: the graph and the lists lie in memory as told, and the lists are a rotation.
-/
namespace Go.Proofs.YtefagplbpbkpgaaDoor
open Go.RowKit
set_option linter.unusedVariables false
set_option maxRecDepth 20000
theorem info35 : (Tryd.prog.info? 35).map (fun i => (i.zero, i.size, i.bytes)) = some (some (.agg #[.int .i64 0, .int .i64 0, .int .i64 0, .int .i64 0]), 4, 32) := by kernel_rfl
theorem Row.of_made {w : World} {base g n cap : Nat} {ty : TypeId} (h : w.ownsRow base ty 4 (.slice (some ⟨g, 0, none⟩) n cap) n (madeCells #[.int .i64 0, .int .i64 0, .int .i64 0, .int .i64 0] (n * 4)).toList) : Row w g ty (4 * n) (fun _ => .int .i64 0) := by
  rcases h.2 with ⟨hv, _⟩ | ⟨g', cap', cur, hv, hb, hg, h1, h2, h3, h4⟩
  · cases hv
  · cases hv
    refine ⟨cur, hg, fun t ht => ?_⟩
    have h5 : (cur.toList.take (n * 4))[t]? = (madeCells #[.int .i64 0, .int .i64 0, .int .i64 0, .int .i64 0] (n * 4)).toList[t]? := by rw [h4]
    rw [List.getElem?_take, if_pos (by omega)] at h5
    have h6 : (madeCells #[.int .i64 0, .int .i64 0, .int .i64 0, .int .i64 0] (n * 4)).toList[t]? = some (.int .i64 0) := by
      have : t < n * 4 := by omega
      simp only [madeCells, Array.toList_map, Array.toList_range, List.getElem?_map, List.getElem?_range this, Option.map_some]
      have h7 : t % 4 = 0 ∨ t % 4 = 1 ∨ t % 4 = 2 ∨ t % 4 = 3 := by omega
      rcases h7 with h7 | h7 | h7 | h7 <;> simp [h7]
    rw [h6] at h5
    simpa using h5
abbrev RowA (w : World) (g n : Nat) (f : Nat → Int) : Prop := Row w g 35 (4 * n) fun t => .int .i64 (f t)
theorem RowA.set {w : World} {g n : Nat} {f : Nat → Int} (h : RowA w g n f) (p : Nat) (v : Int) : RowA (w.setCell ⟨g, p, none⟩ (.int .i64 v)) g n (upd f p v) :=
  (Row.set h p (.int .i64 v)).congr fun t ht => by unfold upd; split <;> rfl
def upd4 (f : Nat → Int) (h : Nat) (a b c d : Int) : Nat → Int := upd (upd (upd (upd f (h * 4) a) (h * 4 + 1) b) (h * 4 + 2) c) (h * 4 + 3) d
theorem upd4_at {A : Nat → Int} (f : Nat → Int) (h : Nat) (a b c d : Int) (h0 : A 0 = a) (h1 : A 1 = b) (h2 : A 2 = c) (h3 : A 3 = d) {k : Nat} (hk : k < 4) : upd4 f h a b c d (4 * h + k) = A k := by
  unfold upd4 upd
  obtain rfl | rfl | rfl | rfl : k = 0 ∨ k = 1 ∨ k = 2 ∨ k = 3 := by omega
  · rw [if_neg (by omega), if_neg (by omega), if_neg (by omega), if_pos (by omega), h0]
  · rw [if_neg (by omega), if_neg (by omega), if_pos (by omega), h1]
  · rw [if_neg (by omega), if_pos (by omega), h2]
  · rw [if_pos (by omega), h3]
theorem upd4_ne (f : Nat → Int) {h t : Nat} (a b c d : Int) (ht : t ≠ h) {k : Nat} (hk : k < 4) : upd4 f h a b c d (4 * t + k) = f (4 * t + k) := by
  unfold upd4 upd
  rw [if_neg (by omega), if_neg (by omega), if_neg (by omega), if_neg (by omega)]
/-- the angles, cell by cell: the half edge, its vertex, its face, its kind -/
def angI (S F N : Nat → Nat) (t : Nat) (c : Nat) : Nat := if c = 0 then t else if c = 1 then S t else if c = 2 then F (oth t) else knd t (N (oth t))
/-- up to the place i in the list x -/
def AnTo (q : List (List Nat)) (A : Nat → Nat → Nat) (f : Nat → Int) (x i : Nat) : Prop :=
  ∀ y, y < q.length → ∀ j, j < (q.getD y []).length → (y < x ∨ y = x ∧ j < i) → ∀ c, c < 4 → f (4 * (q.getD y []).getD j 0 + c) = (A ((q.getD y []).getD j 0) c : Nat)
set_option maxHeartbeats 4000000 in
theorem anglesOf_any (w : World) (V : Int) (a : Option Addr) (n cap : Nat) (es : List (Int × Int)) {B : Nat} (h : Es B w a n es) (ra : Option Addr) (m rc : Nat) (q : List (List Nat)) (hr : Rr w ra m (rowsI q)) (hyes : IsRot V n es (rowsI q)) (N : Nat → Nat) (hN : Behind q N) (hp : Pm N (2 * n))
    (hlt : ∀ x, x < q.length → ∀ i, i < (q.getD x []).length → (q.getD x []).getD i 0 < 2 * n) (hcov : ∀ j, j < 2 * n → ∃ x i, x < q.length ∧ i < (q.getD x []).length ∧ oth ((q.getD x []).getD i 0) = j)
    (F : Nat → Nat) (hF : IsFc (facesF N (2 * n) (2 * n)) (2 * n) F) (S : Nat → Nat) (hS : ∀ x, x < q.length → ∀ i, i < (q.getD x []).length → S ((q.getD x []).getD i 0) = x) :
    Calls Tryd.prog 27 #[.agg #[.int .i64 V, .slice a n cap], .slice ra m rc] w fun e w' => (∃ g, e = .returned (.slice (some ⟨g, 0, none⟩) (2 * n) (2 * n)) ∧ w.heap.size ≤ g ∧ Row w' g 35 (4 * (2 * n)) (fun i => .int .i64 (angI S F N (i / 4) (i % 4) : Nat))) ∧ Below w.heap.size w w' := by
  have hn := hyes.good.2.2.1
  have hq : q.length = m := by have := hr.1; rwa [rowsI_length] at this
  have hm := hr.2.1
  have HB0 := hide (Bg.start w (.int .i64 V) (.slice a n cap))
  have HC := hide (fun (u : World) (hu : Below w.heap.size w u) => foe_any u V a n cap es (h.below hu) ra m rc q (hr.below hu) hyes N hN hp hlt hcov F hF)
  have HR := hide (fun (u : World) (hu : Below w.heap.size w u) => hr.below hu)
  have HLTN := hide hp.lt
  obtain ⟨H, hH⟩ : ∃ H, 2 * n = H := ⟨_, rfl⟩
  have HEV := hide (fun (j : Nat) (hj : j < H) => show oth j < H by rw [← hH] at hj ⊢; exact oth_lt hj)
  rw [hH] at HC hlt hcov HLTN ⊢
  have hH256 : H ≤ 256 := by omega
  have HLT := hide hlt
  have HN := hide hN
  have HCV := hide hcov
  have HQ := hide hq
  have HS := hide hS
  have HFL := hide (fun (j : Nat) (hj : j < H) => show F j < 256 by rw [hH] at hF; have := (hF.cov j hj).1; have := facesF_len N H H; omega)
  obtain ⟨i0, hi0, hz0, hz1, hz2⟩ := info_parts info35
  have HI := hide hi0
  have HZ0 := hide hz0
  have HZ1 := hide hz1
  have hzb : i0.bytes * H ≤ 281474976710656 := by rw [hz2]; omega
  clear hi0 hz0 hz1 hz2 h hr hyes hN hp hlt hcov hF hS hq
  obtain ⟨g0, g1⟩ := (unhide HB0).cells
  go_enter Tryd.func27, Tryd.ntmps27
  go_wp2_with fail
  refine (unhide HC _ (unhide HB0).bel).mono ?_
  rintro e w1 ⟨⟨gf, rfl, hg1, hrow1⟩, hb1⟩
  have HB1 := hide ((unhide HB0).step hb1).bel
  have HR1 := hide hrow1
  have hg1w : w.heap.size < gf := by have := (unhide HB0).bel.size; omega
  have hg1l := hrow1.lt
  clear hg1 hrow1 hb1 HB0 g0 g1 HC
  go_wp2_with (refine wpList_make_full _ rfl (.tmp 16) (.tmp 16) 30 rfl w1.heap.size 35 i0 (.agg #[.int .i64 0, .int .i64 0, .int .i64 0, .int .i64 0]) 4 Tryd.underlying30 (unhide HI) (unhide HZ0) (unhide HZ1) .i64 .i64 _ _ H rfl rfl rfl rfl hzb ?m1 ?m2 ?_)
  case m1 => unfold maxLen; omega
  case m2 => simp
  intro w2 hown2 hg2
  have hb2 : Below w1.heap.size w1 w2 := ⟨hg2.os, hg2.tape, hg2.output, hg2.size, fun k hk => hg2.block k hk (by simp)⟩
  have hra2 : RowA w2 w1.heap.size H (fun _ => 0) := Row.of_made hown2
  obtain ⟨g, hg⟩ : ∃ g, w1.heap.size = g := ⟨_, rfl⟩
  rw [hg] at hra2 hg1l ⊢
  have hgw : w.heap.size < g := by omega
  have hne : ¬ gf = g := by omega
  have HA2 := hide hra2
  have HR2 := hide ((unhide HR1).below hb2)
  have HB2 := hide ((unhide HB1).trans (hb2.mono (unhide HB1).size))
  have HT2 := hide (show AnTo q (angI S F N) (fun _ => 0) 0 0 from fun y hy j hj hh => by omega)
  have HBu := hide (But.refl g w2)
  clear hown2 hg2 hb2 hra2 hg HB1 HR1 hg1l
  go_wp2_with fail
  go_loopw [20] (fun i wr => ∃ (x : Nat) (f : Nat → Int), i = .int .i64 x ∧ x ≤ m ∧ Hid (RowA wr g H f) ∧ Hid (AnTo q (angI S F N) f x 0) ∧ Hid (But g w2 wr)) (fun i wr => m - (intOf i).toNat)
  case atStart => exact ⟨0, _, rfl, by omega, HA2, HT2, HBu⟩
  case round =>
    clear HA2 HT2 HBu
    obtain ⟨x, f, rfl, hx, HRow, HT, HB⟩ := hrel
    by_cases hxm : x < m
    · have hxm2 : (x : Int) < (m : Int) := by omega
      obtain ⟨gr, or, la, lc, ha, hgr, c0, hlc, hls⟩ := (unhide HR w (Below.refl _ _)).2.2 x hxm
      subst ha
      rw [rowsI_getD, toIs_length] at c0 hls
      obtain ⟨l, hl⟩ : ∃ l, q.getD x [] = l := ⟨_, rfl⟩
      rw [hl] at c0 hls
      obtain ⟨len, hlen⟩ : ∃ len, l.length = len := ⟨_, rfl⟩
      rw [hlen] at c0 hls
      have HLEN := hide hlen
      have HBW := hide (fun (u : World) (hu : But g w2 u) => (unhide HB2).trans (hu.bel.mono (Nat.le_of_lt hgw)))
      have d0 : wr.cell? ⟨gr, or + x, none⟩ = some (.slice la len lc) := by rw [(unhide HBW wr (unhide HB)).cell (p := ⟨gr, or + x, none⟩) hgr]; exact c0
      have hgr2 : gr < wr.heap.size := Nat.lt_of_lt_of_le hgr (unhide HBW wr (unhide HB)).size
      have HL := hide hl
      have HLS := hide hls
      have hln := hls.2.1
      clear hls hlc hl c0 hlen
      go_wp2_with fail
      go_loopw [27] (fun i wr => ∃ (k : Nat) (f : Nat → Int), i = .int .i64 k ∧ k ≤ len ∧ Hid (RowA wr g H f) ∧ Hid (AnTo q (angI S F N) f x k) ∧ Hid (But g w2 wr)) (fun i wr => len - (intOf i).toNat)
      case atStart => exact ⟨0, _, rfl, by omega, HRow, HT, HB⟩
      case round =>
        clear d0 hgr2 HRow HT HB
        obtain ⟨k, f2, rfl, hk, HRow2, HT3, HB2'⟩ := hrel
        by_cases hkl : k < len
        · have hkl2 : (k : Int) < (len : Int) := by omega
          have hp : (k + 1) % len < len := Nat.mod_lt _ (by omega)
          obtain ⟨gl, ol, hla, hgl, c1⟩ := (unhide HLS).2.2 k hkl
          obtain ⟨gl', ol', hla', _, c2⟩ := (unhide HLS).2.2 _ hp
          subst hla
          simp only [Option.some.injEq, Addr.mk.injEq] at hla'
          obtain ⟨rfl, rfl, _⟩ := hla'
          rw [toIs_getD] at c1 c2
          obtain ⟨hh, hhe⟩ : ∃ hh, l.getD k 0 = hh := ⟨_, rfl⟩
          obtain ⟨y, hye⟩ : ∃ y, l.getD ((k + 1) % len) 0 = y := ⟨_, rfl⟩
          rw [hhe] at c1
          rw [hye] at c2
          have hBW := unhide HBW wr (unhide HB2')
          have d1 : wr.cell? ⟨gl, ol + k, none⟩ = some (.int .i64 (hh : Nat)) := by rw [hBW.cell (p := ⟨gl, ol + k, none⟩) hgl]; exact c1
          have d2 : wr.cell? ⟨gl, ol + (k + 1) % len, none⟩ = some (.int .i64 (y : Nat)) := by rw [hBW.cell (p := ⟨gl, ol + (k + 1) % len, none⟩) hgl]; exact c2
          have hhH : hh < H := by have := unhide HLT x (by rw [unhide HQ]; exact hxm) k (by rw [unhide HL, unhide HLEN]; exact hkl); rw [unhide HL, hhe] at this; exact this
          have hyH : y < H := by have := unhide HLT x (by rw [unhide HQ]; exact hxm) ((k + 1) % len) (by rw [unhide HL, unhide HLEN]; exact hp); rw [unhide HL, hye] at this; exact this
          have hoH := unhide HEV hh hhH
          have hNy : N (oth hh) = y := by have := unhide HN x (by rw [unhide HQ]; exact hxm) k (by rw [unhide HL, unhide HLEN]; exact hkl); rw [unhide HL, unhide HLEN, hhe, hye] at this; exact this
          have hSx : S hh = x := by have := unhide HS x (by rw [unhide HQ]; exact hxm) k (by rw [unhide HL, unhide HLEN]; exact hkl); rw [unhide HL, hhe] at this; exact this
          have HRF := unhide HR2
          have hfar := (unhide HB2').far gf HRF.lt hne
          have d3 : wr.cell? ⟨gf, oth hh, none⟩ = some (.int .i64 (F (oth hh) : Nat)) := (Row.keep HRF hfar).cell hoH
          have HFar := hide hfar
          clear HRF hfar hBW
          have HO := hide (fun (u : World) => other2_any u hh (by omega))
          have HK := hide (fun (u : World) => kind_any u hh y (by omega) (by omega))
          have r1 := (unhide HRow2).fz (hh * 4)
          have r2 := (unhide HRow2).fz (0 + hh * 4)
          have r3 := (unhide HRow2).cell (t := hh * 4) (by omega)
          have hoH2 : ((oth hh : Nat) : Int) < (H : Int) := by omega
          have hhH2 : ((hh : Nat) : Int) < (H : Int) := by omega
          have hnl : ¬ gl = g := by omega
          have hW : IntKind.i64.wrap ((k : Int) + 1) = (k : Int) + 1 := by rw [IntKind.wrap_i64]; omega
          have hT : ((k : Int) + 1).tmod (len : Int) = (((k + 1) % len : Nat) : Int) := by rw [show ((k : Int) + 1) = ((k + 1 : Nat) : Int) by omega, Int.ofNat_tmod]
          have hW2 : IntKind.i64.wrap (((k + 1) % len : Nat) : Int) = (((k + 1) % len : Nat) : Int) := by rw [IntKind.wrap_i64]; omega
          have hN0 : ¬ len = 0 := by omega
          have hN1 : ((len : Int) == 0) = false := by rw [beq_eq_false_iff_ne]; omega
          have hp2 : (((k + 1) % len : Nat) : Int) < (len : Int) := by omega
          have hA0 : angI S F N hh 0 = hh := rfl
          have hA1 : angI S F N hh 1 = x := hSx
          have hA2 : angI S F N hh 2 = F (oth hh) := rfl
          have hA3 : angI S F N hh 3 = knd hh y := by rw [← hNy]; rfl
          have HTB := hide (show AnTo q (angI S F N) (upd4 f2 hh hh x (F (oth hh) : Nat) (knd hh y : Nat)) x (k + 1) from fun y' hy' j hj hh' c hc => by
            by_cases heq : (q.getD y' []).getD j 0 = hh
            · rw [heq]
              exact upd4_at (A := fun c => ((angI S F N hh c : Nat) : Int)) _ _ _ _ _ _ (by rw [hA0]) (by rw [hA1]) (by rw [hA2]) (by rw [hA3]) hc
            · rw [upd4_ne _ _ _ _ _ heq hc]
              refine unhide HT3 y' hy' j hj ?_ c hc
              rcases hh' with h1 | ⟨h1, h2⟩
              · exact .inl h1
              · refine .inr ⟨h1, ?_⟩
                rcases Nat.lt_or_ge j k with h3 | h3
                · exact h3
                · obtain rfl : j = k := by omega
                  subst h1
                  rw [unhide HL, hhe] at heq
                  exact absurd rfl heq)
          clear hA0 hA1 hA2 hA3 hhe
          generalize (k + 1) % len = pp at *
          generalize knd hh y = kk at *
          generalize F (oth hh) = ff at *
          generalize oth hh = oo at *
          clear hNy hye c1 c2 hSx
          go_wp2_with fail
          have XA := hide ((unhide HRow2).keep (w' := wr.drew) rfl)
          have XB := hide ((unhide HB2').trans (But.of (below_refl_draws wr 1) (by have := (unhide HRow2).lt; omega)))
          change Hid (But g w2 wr.drew) at XB
          refine wp_region_held_drew (S := fun u => u.cell? ⟨gf, oo, none⟩ = some (.int .i64 (ff : Nat))) (by kernel_rfl) d3 (fun hS => ?_)
          clear d1 d2 d3 r1 r2 r3
          generalize wr.drew = wd at XA XB hS ⊢
          refine wpAnyH_take (i := 0) (v := ?_) rfl (by kernel_rfl) (by kernel_rfl) (by kernel_rfl) (fun _ _ _ h => h) (Or.inl ⟨by rfl, ?_⟩) hS ?_
          rotate_left
          · intro u hu; (try dsimp only at hu); go_simp; try with_reducible rfl
          simp only [Act.put, List.getElem_toArray, List.getElem_cons_zero, List.setIfInBounds_toArray, List.set_cons_zero, List.set_cons_succ]
          refine wpAnyH_take (i := 1) (v := ?_) rfl (by kernel_rfl) (by kernel_rfl) (by kernel_rfl) (fun _ _ _ h => h) (Or.inl ⟨by rfl, ?_⟩) hS ?_
          rotate_left
          · intro u hu; (try dsimp only at hu); go_simp; try with_reducible rfl
          simp only [Act.put, List.getElem_toArray, List.getElem_cons_zero, List.getElem_cons_succ, List.setIfInBounds_toArray, List.set_cons_zero, List.set_cons_succ]
          refine wpAnyH_take (i := 2) (v := ?_) rfl (by kernel_rfl) (by kernel_rfl) (by kernel_rfl) (fun _ _ _ h => h) (Or.inl ⟨by rfl, ?_⟩) hS ?_
          rotate_left
          · intro u hu; (try dsimp only at hu); go_simp; try with_reducible rfl
          simp only [Act.put, List.getElem_toArray, List.getElem_cons_zero, List.getElem_cons_succ, List.setIfInBounds_toArray, List.set_cons_zero, List.set_cons_succ]
          refine wpAnyH_take (i := 3) (v := ?_) rfl (by kernel_rfl) (by kernel_rfl) (by kernel_rfl) (fun _ _ _ h => h) (Or.inl ⟨by rfl, ?_⟩) hS ?_
          rotate_left
          · intro u hu; (try dsimp only at hu); go_simp; try with_reducible rfl
          simp only [Act.put, List.getElem_toArray, List.getElem_cons_zero, List.getElem_cons_succ, List.setIfInBounds_toArray, List.set_cons_zero, List.set_cons_succ]
          refine wpAnyH_take (i := 4) (v := ?_) rfl (by kernel_rfl) (by kernel_rfl) (by kernel_rfl) (fun _ _ _ h => h) (Or.inl ⟨by rfl, ?_⟩) hS ?_
          rotate_left
          · intro u hu; (try dsimp only at hu); go_simp; try with_reducible rfl
          simp only [Act.put, List.getElem_toArray, List.getElem_cons_zero, List.getElem_cons_succ, List.setIfInBounds_toArray, List.set_cons_zero, List.set_cons_succ]
          refine wpAnyH_take (i := 5) (v := ?_) rfl (by kernel_rfl) (by kernel_rfl) (by kernel_rfl) (fun _ _ _ h => h) (Or.inl ⟨by rfl, ?_⟩) hS ?_
          rotate_left
          · intro u hu; (try dsimp only at hu); go_simp; try with_reducible rfl
          simp only [Act.put, List.getElem_toArray, List.getElem_cons_zero, List.getElem_cons_succ, List.setIfInBounds_toArray, List.set_cons_zero, List.set_cons_succ]
          refine wpAnyH_take (i := 9) (v := ?_) rfl (by kernel_rfl) (by kernel_rfl) (by kernel_rfl) (fun _ _ _ h => h) (Or.inl ⟨by rfl, ?_⟩) hS ?_
          rotate_left
          · intro u hu; (try dsimp only at hu); go_simp; try with_reducible rfl
          simp only [Act.put, List.getElem_toArray, List.getElem_cons_zero, List.getElem_cons_succ, List.setIfInBounds_toArray, List.set_cons_zero, List.set_cons_succ]
          refine wpAnyH_take (i := 10) (v := ?_) rfl (by kernel_rfl) (by kernel_rfl) (by kernel_rfl) (fun _ _ _ h => h) (Or.inl ⟨by rfl, ?_⟩) hS ?_
          rotate_left
          · intro u hu; (try dsimp only at hu); go_simp; try with_reducible rfl
          simp only [Act.put, List.getElem_toArray, List.getElem_cons_zero, List.getElem_cons_succ, List.setIfInBounds_toArray, List.set_cons_zero, List.set_cons_succ]
          refine wpAnyH_ready (rs := [6]) (by kernel_rfl) (by simp) ?_
          refine AllReadyH.cons rfl (fun K hK => ?_) AllReadyH.nil
          go_simp
          go_wp2_with (go_at_call 50; refine (unhide HO _).mono ?_; rintro e w1 ⟨rfl, hw1⟩; rw [hw1]; clear hw1 w1)
          refine hK.out _ _ hS (fun hS2 => ?_)
          clear hK K hS2
          refine wpAnyH_take (i := 7) (v := ?_) rfl (by kernel_rfl) (by kernel_rfl) (by kernel_rfl) (fun _ _ _ h => h) (Or.inl ⟨by rfl, ?_⟩) hS ?_
          rotate_left
          · intro u hu; (try dsimp only at hu); go_simp; try with_reducible rfl
          simp only [Act.put, List.getElem_toArray, List.getElem_cons_zero, List.getElem_cons_succ, List.setIfInBounds_toArray, List.set_cons_zero, List.set_cons_succ]
          refine wpAnyH_take (i := 8) (v := ?_) rfl (by kernel_rfl) (by kernel_rfl) (by kernel_rfl) (fun _ _ _ h => h) (Or.inl ⟨by rfl, ?_⟩) hS ?_
          rotate_left
          · intro u hu; (try dsimp only at hu); go_simp; try with_reducible rfl
          simp only [Act.put, List.getElem_toArray, List.getElem_cons_zero, List.getElem_cons_succ, List.setIfInBounds_toArray, List.set_cons_zero, List.set_cons_succ]
          refine wpAnyH_ready (rs := [11]) (by kernel_rfl) (by simp) ?_
          refine AllReadyH.cons rfl (fun K hK => ?_) AllReadyH.nil
          go_simp
          go_wp2_with (go_at_call 51; refine (unhide HK _).mono ?_; rintro e w1 ⟨rfl, hw1⟩; rw [hw1]; clear hw1 w1)
          refine hK.out _ _ hS (fun hS2 => ?_)
          clear hK K hS2
          refine wpAnyH_take (i := 12) (v := ?_) rfl (by kernel_rfl) (by kernel_rfl) (by kernel_rfl) (fun _ _ _ h => h) (Or.inl ⟨by rfl, ?_⟩) hS ?_
          rotate_left
          · intro u hu; (try dsimp only at hu); go_simp; try with_reducible rfl
          simp only [Act.put, List.getElem_toArray, List.getElem_cons_zero, List.getElem_cons_succ, List.setIfInBounds_toArray, List.set_cons_zero, List.set_cons_succ]
          refine wpAnyH_take (i := 13) (v := ?_) rfl (by kernel_rfl) (by kernel_rfl) (by kernel_rfl) (fun _ _ _ h => h) (Or.inl ⟨by rfl, ?_⟩) hS ?_
          rotate_left
          · intro u hu; (try dsimp only at hu); go_simp; try with_reducible rfl
          simp only [Act.put, List.getElem_toArray, List.getElem_cons_zero, List.getElem_cons_succ, List.setIfInBounds_toArray, List.set_cons_zero, List.set_cons_succ]
          refine wpAnyH_ready (rs := [14]) (by kernel_rfl) (by simp) ?_
          refine AllReadyH.cons rfl (fun K hK => ?_) AllReadyH.nil
          have f0 := (unhide XA).fz (hh * 4)
          have f1 := (unhide XA).fz (hh * 4 + 1)
          have f2' := (unhide XA).fz (hh * 4 + 2)
          have f3 := (unhide XA).fz (hh * 4 + 3)
          have c0 : wd.cell? ⟨g, hh * 4, none⟩ = some (.int .i64 (f2 (hh * 4))) := (unhide XA).cell (by omega)
          have c1 : wd.cell? ⟨g, hh * 4 + 1, none⟩ = some (.int .i64 (f2 (hh * 4 + 1))) := (unhide XA).cell (by omega)
          have c2 : wd.cell? ⟨g, hh * 4 + 2, none⟩ = some (.int .i64 (f2 (hh * 4 + 2))) := (unhide XA).cell (by omega)
          have c3 : wd.cell? ⟨g, hh * 4 + 3, none⟩ = some (.int .i64 (f2 (hh * 4 + 3))) := (unhide XA).cell (by omega)
          go_simp
          have XC := hide ((((unhide XB).trans (But.set (w := wd) (hh * 4) (.int .i64 (hh : Nat)))).trans (But.set (hh * 4 + 1) (.int .i64 (x : Nat)))).trans (But.set (hh * 4 + 2) (.int .i64 (ff : Nat))) |>.trans (But.set (hh * 4 + 3) (.int .i64 (kk : Nat))))
          have XD := hide (show RowA ((((wd.setCell ⟨g, hh * 4, none⟩ (.int .i64 (hh : Nat))).setCell ⟨g, hh * 4 + 1, none⟩ (.int .i64 (x : Nat))).setCell ⟨g, hh * 4 + 2, none⟩ (.int .i64 (ff : Nat))).setCell ⟨g, hh * 4 + 3, none⟩ (.int .i64 (kk : Nat))) g H (upd4 f2 hh hh x ff kk) from RowA.set (RowA.set (RowA.set (RowA.set (unhide XA) _ _) _ _) _ _) _ _)
          refine hK.out _ _ (by rw [cell_set_ne (show gf ≠ g from hne), cell_set_ne (show gf ≠ g from hne), cell_set_ne (show gf ≠ g from hne), cell_set_ne (show gf ≠ g from hne)]; exact hS) (fun hS2 => ?_)
          clear hK K hS2 f0 f1 f2' f3 c0 c1 c2 c3 hS
          refine wpAnyH_done (by kernel_rfl) ?_ _
          go_wp2_with fail
          go_roundw
          case rel => exact ⟨k + 1, _, by go_num, by omega, XD, HTB, XC⟩
          case measure => simp [intOf]; omega
        · obtain rfl : k = len := by omega
          have HT5 := hide (show AnTo q (angI S F N) f2 (x + 1) 0 from fun y hy j hj hh => unhide HT3 y hy j hj (by
            by_cases hyx : y = x
            · subst hyx
              right
              rw [unhide HL, unhide HLEN] at hj
              exact ⟨rfl, hj⟩
            · left; omega))
          go_wp2_with fail
          go_roundw
          case rel => exact ⟨x + 1, f2, by go_num, by omega, HRow2, HT5, HB2'⟩
          case measure => simp [intOf]; omega
    · obtain rfl : x = m := by omega
      have HRFF := hide (show Row wr g 35 (4 * H) (fun i => .int .i64 (angI S F N (i / 4) (i % 4) : Nat)) from Row.congr (unhide HRow) fun t ht => by
        obtain ⟨y, j, hy, hj, e⟩ := unhide HCV (oth (t / 4)) (unhide HEV _ (by omega))
        have e' : (q.getD y []).getD j 0 = t / 4 := by have := congrArg oth e; rwa [oth_oth, oth_oth] at this
        have := unhide HT y hy j hj (.inl (by rw [← unhide HQ]; exact hy)) (t % 4) (by omega)
        rw [e', show 4 * (t / 4) + t % 4 = t by omega] at this
        simp only [this])
      have HBF := hide ((unhide HB2).trans ((unhide HB).bel.mono (Nat.le_of_lt hgw)))
      go_wp2_with fail
      go_ret
      exact ⟨⟨_, rfl, Nat.le_of_lt hgw, unhide HRFF⟩, unhide HBF⟩
end Go.Proofs.YtefagplbpbkpgaaDoor
/-
  Angles in memory, and the contract of the program's fewPlain. Conditions: the angles lie in memory as told.
-/
namespace Go.Proofs.YtefagplbpbkpgaaDoor
open Go.RowKit
set_option linter.unusedVariables false
set_option maxRecDepth 20000
/-- a slice of angles that is read: its address, its length, its cells -/
def As (w : World) (a : Option Addr) (n : Nat) (A : Nat → Nat → Nat) : Prop :=
  n ≤ 256 ∧ ∀ t, t < n → ∃ g off, a = some ⟨g, off, none⟩ ∧ g < w.heap.size ∧ w.cell? ⟨g, off + t * 4, none⟩ = some (.int .i64 (A t 0 : Nat)) ∧ w.cell? ⟨g, off + t * 4 + 1, none⟩ = some (.int .i64 (A t 1 : Nat)) ∧ w.cell? ⟨g, off + t * 4 + 2, none⟩ = some (.int .i64 (A t 2 : Nat)) ∧ w.cell? ⟨g, off + t * 4 + 3, none⟩ = some (.int .i64 (A t 3 : Nat))
theorem As.below {w w' : World} {a : Option Addr} {n : Nat} {A : Nat → Nat → Nat} (h : As w a n A) (hb : Below w.heap.size w w') : As w' a n A := by
  refine ⟨h.1, fun t ht => ?_⟩
  obtain ⟨g, off, ha, hg, c0, c1, c2, c3⟩ := h.2 t ht
  exact ⟨g, off, ha, Nat.lt_of_lt_of_le hg hb.size, by rw [hb.cell (p := ⟨g, off + t * 4, none⟩) hg]; exact c0, by rw [hb.cell (p := ⟨g, off + t * 4 + 1, none⟩) hg]; exact c1, by rw [hb.cell (p := ⟨g, off + t * 4 + 2, none⟩) hg]; exact c2, by rw [hb.cell (p := ⟨g, off + t * 4 + 3, none⟩) hg]; exact c3⟩
theorem Row.as {w : World} {g n : Nat} {ty : TypeId} {A : Nat → Nat → Nat} (h : Row w g ty (4 * n) (fun i => .int .i64 (A (i / 4) (i % 4) : Nat))) (hn : n ≤ 256) : As w (some ⟨g, 0, none⟩) n A := by
  refine ⟨hn, fun t ht => ⟨g, 0, rfl, h.lt, ?_, ?_, ?_, ?_⟩⟩
  · have := h.cell (t := t * 4) (by omega)
    rw [show t * 4 / 4 = t by omega, show t * 4 % 4 = 0 by omega] at this
    rw [Nat.zero_add]; exact this
  · have := h.cell (t := t * 4 + 1) (by omega)
    rw [show (t * 4 + 1) / 4 = t by omega, show (t * 4 + 1) % 4 = 1 by omega] at this
    rw [Nat.zero_add]; exact this
  · have := h.cell (t := t * 4 + 2) (by omega)
    rw [show (t * 4 + 2) / 4 = t by omega, show (t * 4 + 2) % 4 = 2 by omega] at this
    rw [Nat.zero_add]; exact this
  · have := h.cell (t := t * 4 + 3) (by omega)
    rw [show (t * 4 + 3) / 4 = t by omega, show (t * 4 + 3) % 4 = 3 by omega] at this
    rw [Nat.zero_add]; exact this
/-- how many of the first k angles are plain, at a vertex -/
def pc (A : Nat → Nat → Nat) (k x : Nat) : Nat := ((List.range k).filter fun t => decide (A t 3 = 0 ∧ A t 1 = x)).length
theorem pc_succ (A : Nat → Nat → Nat) (k x : Nat) : pc A (k + 1) x = pc A k x + if A k 3 = 0 ∧ A k 1 = x then 1 else 0 := by
  unfold pc
  rw [List.range_succ, List.filter_append, List.length_append]
  congr 1
  by_cases h : A k 3 = 0 ∧ A k 1 = x
  · rw [if_pos h, List.filter_cons, if_pos (decide_eq_true h)]
    rfl
  · rw [if_neg h, List.filter_cons, if_neg (by rw [decide_eq_true_iff]; exact h)]
    rfl
theorem pc_le (A : Nat → Nat → Nat) (k x : Nat) : pc A k x ≤ k := Nat.le_trans (List.length_filter_le _ _) (by simp)
theorem pc_mono (A : Nat → Nat → Nat) (x : Nat) {k m : Nat} (h : k ≤ m) : pc A k x ≤ pc A m x := by
  induction m with
  | zero => obtain rfl : k = 0 := by omega
            exact Nat.le_refl _
  | succ m ih =>
    by_cases e : k = m + 1
    · subst e; exact Nat.le_refl _
    · have := ih (by omega)
      have := pc_succ A m x
      omega
/-- no vertex has more than two plain angles -/
def Bim (A : Nat → Nat → Nat) (H V : Nat) : Prop := ∀ x, x < V → pc A H x ≤ 2
theorem info35' : (Tryd.prog.info? 35).map (fun i => (i.zero, i.size, i.bytes)) = some (some (.agg #[.int .i64 0, .int .i64 0, .int .i64 0, .int .i64 0]), 4, 32) := info35

set_option maxHeartbeats 4000000 in
theorem few_any (w : World) (V : Nat) (a : Option Addr) (H cap : Nat) (A : Nat → Nat → Nat) (h : As w a H A) (hV : V ≤ 64) (hlt : ∀ t, t < H → A t 1 < V) (h3 : ∀ t, t < H → A t 3 < 3) :
    Calls Tryd.prog 26 #[.int .i64 (V : Nat), .slice a H cap] w fun e w' => Told (Bim A H V) e ∧ Below w.heap.size w w' := by
  have hH := h.1
  have HA := hide h
  have HLT := hide hlt
  have H3 := hide h3
  obtain ⟨i0, hi0, hz0, hz1, hz2⟩ := info_parts info3
  have HI := hide hi0
  have HZ0 := hide hz0
  have HZ1 := hide hz1
  have hzb : i0.bytes * V ≤ 281474976710656 := by rw [hz2]; omega
  clear hi0 hz0 hz1 hz2 h hlt h3
  go_enter Tryd.func26, Tryd.ntmps26
  go_wp2_with (refine wpList_make_full _ rfl (.tmp 8) (.tmp 8) 37 rfl w.heap.size 3 i0 (.int .i64 0) 1 Tryd.underlying37 (unhide HI) (unhide HZ0) (unhide HZ1) .i64 .i64 _ _ V rfl rfl rfl rfl hzb ?m1 ?m2 ?_)
  case m1 => unfold maxLen; omega
  case m2 => simp
  intro w1 hown1 hg1
  rw [toList_madeCells_one] at hown1
  have hb1 : Below w.heap.size w w1 := ⟨hg1.os, hg1.tape, hg1.output, hg1.size, fun k hk => hg1.block k hk (by simp)⟩
  have HB1 := hide hb1
  have hgs : w.heap.size < w1.heap.size := by
    have : RowN w1 w.heap.size V (fun t => 0) := (Row.of_owns hown1).congr fun t ht => by simp
    exact this.lt
  obtain ⟨g, hg⟩ : ∃ g, w.heap.size = g := ⟨_, rfl⟩
  have HR1 := hide (show RowN w1 g V (pc A 0) by rw [← hg]; exact (Row.of_owns hown1).congr fun t ht => by simp [pc])
  have HA1 := hide ((unhide HA).below hb1)
  rw [hg] at hgs ⊢
  have HBu := hide (But.refl g w1)
  have HS0 := hide (show ∀ x, x < V → pc A 0 x ≤ 2 from fun x _ => by simp [pc])
  have HFAR := hide (fun (u : World) (hu : But g w1 u) (t : Nat) (ht : t < H) => show ∃ g' off, a = some ⟨g', off, none⟩ ∧ g' < u.heap.size ∧ u.cell? ⟨g', off + t * 4, none⟩ = some (.int .i64 (A t 0 : Nat)) ∧ u.cell? ⟨g', off + t * 4 + 1, none⟩ = some (.int .i64 (A t 1 : Nat)) ∧ u.cell? ⟨g', off + t * 4 + 2, none⟩ = some (.int .i64 (A t 2 : Nat)) ∧ u.cell? ⟨g', off + t * 4 + 3, none⟩ = some (.int .i64 (A t 3 : Nat)) from by
    obtain ⟨g', off, ha, hg', c0, c1, c2, c3⟩ := (unhide HA).2 t ht
    have hb : Below w.heap.size w u := (unhide HB1).trans (by rw [hg]; exact hu.bel)
    exact ⟨g', off, ha, Nat.lt_of_lt_of_le hg' hb.size, by rw [hb.cell (p := ⟨g', off + t * 4, none⟩) hg']; exact c0, by rw [hb.cell (p := ⟨g', off + t * 4 + 1, none⟩) hg']; exact c1, by rw [hb.cell (p := ⟨g', off + t * 4 + 2, none⟩) hg']; exact c2, by rw [hb.cell (p := ⟨g', off + t * 4 + 3, none⟩) hg']; exact c3⟩)
  have HBF := hide (fun (u : World) (hu : But g w1 u) => show Below w.heap.size w u from (unhide HB1).trans (by rw [hg]; exact hu.bel))
  clear hown1 hg1 hb1 hg
  go_wp2_with fail
  go_loopw [12] (fun i wr => ∃ (k : Nat), i = .int .i64 k ∧ k ≤ H ∧ Hid (RowN wr g V (pc A k)) ∧ Hid (∀ x, x < V → pc A k x ≤ 2) ∧ Hid (But g w1 wr)) (fun i wr => H - (intOf i).toNat)
  case atStart => exact ⟨0, rfl, by omega, HR1, HS0, HBu⟩
  case round =>
    clear HR1 HS0 HBu
    obtain ⟨k, rfl, hk, HRow, HS, HB⟩ := hrel
    by_cases hkH : k < H
    · have hkH2 : (k : Int) < (H : Int) := by omega
      obtain ⟨ga, oa, ha, hga, c0, c1, c2, c3⟩ := unhide HFAR wr (unhide HB) k hkH
      subst ha
      have hx := unhide HLT k hkH
      have hx3 := unhide H3 k hkH
      have hpc := unhide HS _ hx
      have hps := pc_succ A k
      have hgw := (unhide HRow).lt
      have hne : ¬ g = wr.heap.size := by omega
      have HPS := hide hps
      obtain ⟨a0, ha0⟩ : ∃ z, A k 0 = z := ⟨_, rfl⟩
      obtain ⟨a1, ha1⟩ : ∃ z, A k 1 = z := ⟨_, rfl⟩
      obtain ⟨a2, ha2⟩ : ∃ z, A k 2 = z := ⟨_, rfl⟩
      obtain ⟨a3, ha3⟩ : ∃ z, A k 3 = z := ⟨_, rfl⟩
      rw [ha0] at c0
      rw [ha1] at c1 hx hpc
      rw [ha2] at c2
      rw [ha3] at c3 hx3
      have HA1' := hide ha1
      have HA3' := hide ha3
      clear ha0 ha1 ha2 ha3 hps
      have r0 := (unhide HRow).cell hx
      have r1 := (unhide HRow).fz a1
      have HBA := hide (fun (o : Obj) => show But g w1 (wr.alloc o) from (unhide HB).trans (But.of ((Below.refl _ _).alloc (Nat.le_refl _) _) (by omega)))
      have hcx : (pc A k a1 : Int) + 1 = ((pc A k a1 + 1 : Nat) : Int) := by omega
      obtain ⟨c, hc⟩ : ∃ c, pc A k a1 = c := ⟨_, rfl⟩
      rw [hc] at hpc r0 hcx
      have HC := hide hc
      have hW : IntKind.i64.wrap ((c : Int) + 1) = (c : Int) + 1 := by rw [IntKind.wrap_i64]; omega
      have HBA2 := hide (fun (o : Obj) => show But g w1 ((wr.setCell ⟨g, a1, none⟩ (.int .i64 ((c : Int) + 1))).alloc o) from ((unhide HB).trans (But.set a1 (.int .i64 ((c : Int) + 1)))).trans (But.of ((Below.refl _ _).alloc (Nat.le_refl _) _) (by simp; omega)))
      clear hc hcx
      by_cases h0 : a3 = 0
      · subst h0
        have HE := hide (show ∀ t, t < V → upd (fun t => Value.int .i64 (pc A k t : Nat)) a1 (.int .i64 ((c : Int) + 1)) t = .int .i64 (pc A (k + 1) t : Nat) from fun t ht => by
          rw [unhide HPS t, unhide HA1', unhide HA3']
          by_cases he : t = a1
          · subst he
            rw [upd_same, if_pos ⟨rfl, rfl⟩, unhide HC]
            congr 1
          · rw [upd_other _ _ he, if_neg (by rintro ⟨_, h⟩; exact he h.symm)]
            rfl)
        by_cases hc2 : c < 2
        · have hn2 : ¬ (2 : Int) < (c : Int) + 1 := by omega
          have HS2 := hide (show ∀ x, x < V → pc A (k + 1) x ≤ 2 from fun x hx => by
            have := unhide HPS x
            rw [unhide HA1', unhide HA3'] at this
            by_cases he : a1 = x
            · subst he
              rw [if_pos ⟨rfl, rfl⟩, unhide HC] at this
              omega
            · rw [if_neg (by rintro ⟨_, h⟩; exact he h)] at this
              rw [this]
              exact unhide HS x hx)
          have HRN := hide (fun (o : Obj) => show RowN ((wr.setCell ⟨g, a1, none⟩ (.int .i64 ((c : Int) + 1))).alloc o) g V (pc A (k + 1)) from (Row.congr (Row.set (unhide HRow) a1 (.int .i64 ((c : Int) + 1))) (unhide HE)).below ((Below.refl _ _).alloc (Nat.le_refl _) _))
          clear HBA HE HA HA1
          go_wp2_with fail
          go_roundw
          case rel => exact ⟨k + 1, by go_num, by omega, hide (unhide HRN _), HS2, hide (unhide HBA2 _)⟩
          case measure => simp [intOf]; omega
        · have hn2 : (2 : Int) < (c : Int) + 1 := by omega
          have HNO := hide (show ¬ Bim A H V from fun hb => by
            have h1 := hb a1 hx
            have h2 := pc_mono A a1 (show k + 1 ≤ H by omega)
            have h3 := unhide HPS a1
            rw [unhide HA1', unhide HA3', if_pos ⟨rfl, rfl⟩, unhide HC] at h3
            omega)
          have HF := hide (fun o => unhide HBF _ (unhide HBA2 o))
          clear HBA HE HA HA1
          go_wp2_with fail
          go_ret
          exact ⟨Told.no (unhide HNO), unhide HF _⟩
      · have h0' : ((a3 : Nat) : Int) ≠ 0 := by omega
        have HS2 := hide (show ∀ x, x < V → pc A (k + 1) x ≤ 2 from fun x hx => by
          have := unhide HPS x
          rw [unhide HA3', if_neg (by rintro ⟨h, _⟩; exact h0 h)] at this
          rw [this]
          exact unhide HS x hx)
        have HRN := hide (fun (o : Obj) => show RowN (wr.alloc o) g V (pc A (k + 1)) from (Row.congr (unhide HRow) (fun t ht => by
          have := unhide HPS t
          rw [unhide HA3', if_neg (by rintro ⟨h, _⟩; exact h0 h)] at this
          rw [this]; rfl)).below ((Below.refl _ _).alloc (Nat.le_refl _) _))
        clear HBA2 HA HA1
        go_wp2_with fail
        go_roundw
        case rel => exact ⟨k + 1, by go_num, by omega, hide (unhide HRN _), HS2, hide (unhide HBA _)⟩
        case measure => simp [intOf]; omega
    · obtain rfl : k = H := by omega
      have HF := hide (unhide HBF _ (unhide HB))
      go_wp2_with fail
      go_ret
      exact ⟨Told.yes (unhide HS), unhide HF⟩
end Go.Proofs.YtefagplbpbkpgaaDoor

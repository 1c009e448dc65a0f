/-
  The contract of the document's Right: whether lists are a rotation, by counts. Conditions: the graph and the lists lie in memory as told.
-/
import Derived.Test.YtmklngabfdnclaaDoorRa
namespace Go.Proofs.YtmklngabfdnclaaDoor
open Go.RowKit
set_option linter.unusedVariables false
set_option maxRecDepth 20000

/-- each number stands where it should, up to there -/
structure EkTo (n : Nat) (es : List (Int × Int)) (rs : List (List Int)) (x i : Nat) : Prop where
  each : ∀ y, y < x → ∀ h ∈ rs.getD y [], 0 ≤ h ∧ h < 2 * (n : Int) ∧ atI es h.toNat = (y : Int)
  here : ∀ h ∈ (rs.getD x []).take i, 0 ≤ h ∧ h < 2 * (n : Int) ∧ atI es h.toNat = (x : Int)
theorem EkTo.start (n : Nat) (es : List (Int × Int)) (rs : List (List Int)) : EkTo n es rs 0 0 := ⟨fun y hy => by omega, by simp⟩
theorem EkTo.next {n : Nat} {es : List (Int × Int)} {rs : List (List Int)} {x : Nat} (h : EkTo n es rs x (rs.getD x []).length) : EkTo n es rs (x + 1) 0 := by
  refine ⟨fun y hy => ?_, by simp⟩
  by_cases hyx : y = x
  · subst hyx
    have := h.here
    rwa [List.take_length] at this
  · exact h.each y (by omega)
theorem EkTo.step {n : Nat} {es : List (Int × Int)} {rs : List (List Int)} {x i : Nat} (h : EkTo n es rs x i) (hi : i < (rs.getD x []).length) {j : Nat} (hj : (rs.getD x []).getD i 0 = (j : Int)) (hj2 : j < 2 * n) (ha : atI es j = (x : Int)) : EkTo n es rs x (i + 1) := by
  refine ⟨h.each, fun z hz => ?_⟩
  rw [List.take_succ_eq_append_getElem hi, List.mem_append] at hz
  rcases hz with hz | hz
  · exact h.here z hz
  · rw [List.mem_singleton] at hz
    have : z = (j : Int) := by rw [hz, ← getD_eq hi, hj]
    subst this
    exact ⟨by omega, by omega, by simpa using ha⟩
theorem ek_len {rs : List (List Int)} {x i : Nat} : (upto rs x i).length ≤ (rs.map List.length).sum + i := by
  unfold upto
  rw [List.length_append, List.length_flatten, List.length_take]
  have : ∀ (l : List Nat) k, (l.take k).sum ≤ l.sum := by
    intro l
    induction l with
    | nil => intro k; simp
    | cons a t ih =>
      intro k
      cases k with
      | zero => simp
      | succ k => simp only [List.take_succ_cons, List.sum_cons]; have := ih k; omega
  have h1 := this (rs.map List.length) x
  rw [List.map_take]
  omega
theorem nodup_of_count {l : List Int} (h : ∀ z ∈ l, l.count z = 1) : l.Nodup := by
  rw [List.nodup_iff_count]
  intro z
  by_cases hz : z ∈ l
  · exact Nat.le_of_eq (h z hz)
  · rw [List.count_eq_zero_of_not_mem hz]
    omega
theorem EkTo.rot {V : Int} {n : Nat} {es : List (Int × Int)} {rs : List (List Int)} (h : EkTo n es rs rs.length 0) (hg : Good V n es) (hl : (rs.length : Int) = V) : IsRot V n es rs ↔ ∀ j, j < 2 * n → (upto rs rs.length 0).count (j : Int) = 1 := by
  rw [upto_all]
  have hb : ∀ z ∈ rs.flatten, 0 ≤ z ∧ z < 2 * (n : Int) := fun z hz => by
    rw [List.mem_flatten] at hz
    obtain ⟨l, hl, hm⟩ := hz
    obtain ⟨x, hx, rfl⟩ := List.mem_iff_getElem.1 hl
    have := h.each x hx z (by simpa [List.getD, hx] using hm)
    exact ⟨this.1, this.2.1⟩
  constructor
  · intro hr j hj
    have hle := List.nodup_iff_count.1 hr.nodup (j : Int)
    have hmem : (j : Int) ∈ rs.flatten := by
      refine Classical.byContradiction fun hno => ?_
      have := nodup_leI (H := 2 * n) (l := (j : Int) :: rs.flatten) (by rw [List.nodup_cons]; exact ⟨hno, hr.nodup⟩) (by
        intro z hz
        rcases List.mem_cons.1 hz with rfl | hz
        · omega
        · have := hb z hz
          omega)
      rw [List.length_cons, hr.all] at this
      omega
    have := List.count_pos_iff.2 hmem
    omega
  · intro hc
    have hn : rs.flatten.Nodup := nodup_of_count fun z hz => by
      have := hb z hz
      have h2 := hc z.toNat (by omega)
      rwa [show ((z.toNat : Nat) : Int) = z by omega] at h2
    refine ⟨hg, hl, fun x hx => h.each x hx, hn, Nat.le_antisymm (nodup_leI hn fun z hz => by have := hb z hz; omega) ?_⟩
    have h1 := pt.inj_len (R := fun v y => v = y) (List.range (2 * n)) (rs.flatten.map Int.toNat) List.nodup_range (fun v hv => by
      have hv := List.mem_range.1 hv
      have h2 := hc v hv
      have h3 : (v : Int) ∈ rs.flatten := List.count_pos_iff.1 (by omega)
      exact ⟨v, List.mem_map.2 ⟨_, h3, by simp⟩, rfl⟩) (fun v v' y _ _ e e' => e.trans e'.symm)
    rw [List.length_range, List.length_map] at h1
    exact h1

set_option maxHeartbeats 8000000 in
theorem refright_any (w : World) (V : Int) (a : Option Addr) (n cap : Nat) (es : List (Int × Int)) {B : Nat} (h : Es B w a n es) (ra : Option Addr) (m rc : Nat) (rs : List (List Int)) (hr : Rr w ra m rs) (hsm : ∀ k, k < m → (rs.getD k []).length ≤ 1000) (hm1 : m ≤ 1000) :
    Calls Tryd.prog 10 #[.agg #[.int .i64 V, .slice a n cap], .slice ra m rc] w fun e w' => Told (IsRot V n es rs) e ∧ Below w.heap.size w w' := by
  have hrl := hr.1
  have HE := hide h
  have HR := hide hr
  have HRL := hide hrl
  have HB0 := hide (Bg.start w (.int .i64 V) (.slice a n cap))
  have hsum : (rs.map List.length).sum ≤ 1000000 := by
    have : ∀ (l : List (List Int)), (∀ k, k < l.length → (l.getD k []).length ≤ 1000) → (l.map List.length).sum ≤ 1000 * l.length := by
      intro l
      induction l with
      | nil => intro _; simp
      | cons c t ih =>
        intro h
        have h1 := h 0 (by simp)
        have h2 := ih fun k hk => by simpa using h (k + 1) (by simpa using hk)
        simp only [List.map_cons, List.sum_cons, List.length_cons]
        simp at h1
        omega
    have := this rs (by rw [hrl]; exact hsm)
    rw [hrl] at this
    omega
  clear h hr hrl
  by_cases hg : Good V n es
  case neg =>
    have HG := hide hg
    clear hg
    obtain ⟨g0, g1⟩ := (unhide HB0).cells
    go_enter Tryd.func10, Tryd.ntmps10
    go_wp2_with fail
    refine (refMay_any _ V a n cap es ((unhide HE).below (unhide HB0).bel)).mono ?_
    rintro e w1 ⟨⟨r, rfl, hr⟩, hb1⟩
    have hrt : r = false := by
      cases r with
      | false => rfl
      | true => exact absurd (hr.1 rfl) (unhide HG)
    subst hrt
    have HB1 := hide ((unhide HB0).step hb1)
    clear hb1 HB0 g0 g1 hr
    go_wp2_with fail
    go_ret
    exact ⟨Told.no fun h => unhide HG h.good, (unhide HB1).bel⟩
  have hn := hg.2.2.1
  have HG := hide hg
  obtain ⟨g0, g1⟩ := (unhide HB0).cells
  by_cases hmV : (m : Int) = V
  case neg =>
    have t1 : ((m : Int) != V) = true := by simp [hmV]
    have HNV := hide (show ¬ IsRot V n es rs from fun h => hmV (by rw [← unhide HRL]; exact h.len))
    clear hg hmV
    go_enter Tryd.func10, Tryd.ntmps10
    go_wp2_with fail
    refine (refMay_any _ V a n cap es ((unhide HE).below (unhide HB0).bel)).mono ?_
    rintro e w1 ⟨⟨r, rfl, hr⟩, hb1⟩
    have hrt : r = true := hr.2 (unhide HG)
    subst hrt
    have HB1 := hide ((unhide HB0).step hb1)
    clear hb1 HB0 g0 g1 hr
    obtain ⟨g0, g1⟩ := (unhide HB1).cells
    go_wp2_with fail
    go_ret
    exact ⟨Told.no (unhide HNV), (unhide HB1).bel⟩
  have t1 : ((m : Int) != V) = false := by simp [hmV]
  have HMV := hide hmV
  have HAT := hide (fun (u : World) (hu : Below w.heap.size w u) (j : Nat) (hj : j < 2 * n) => at_any u V a n cap es ((unhide HE).below hu) j hj hn)
  obtain ⟨i0, hi0, hz0, hz1, hz2⟩ := info_parts info3
  have HI := hide hi0
  have HZ0 := hide hz0
  have HZ1 := hide hz1
  obtain ⟨H, hH⟩ : ∃ H, 2 * n = H := ⟨_, rfl⟩
  have hzb : i0.bytes * H ≤ 281474976710656 := by rw [hz2]; omega
  have hmul : IntKind.i64.wrap (2 * (n : Int)) = (H : Int) := by rw [IntKind.wrap_i64]; omega
  have HHN := hide hH
  have hH256 : H ≤ 256 := by omega
  clear hi0 hz0 hz1 hz2 hg hmV hH
  go_enter Tryd.func10, Tryd.ntmps10
  go_wp2_with fail
  refine (refMay_any _ V a n cap es ((unhide HE).below (unhide HB0).bel)).mono ?_
  rintro e w1 ⟨⟨r, rfl, hr⟩, hb1⟩
  have hrt : r = true := hr.2 (unhide HG)
  subst hrt
  have HB1 := hide ((unhide HB0).step hb1)
  clear hb1 HB0 g0 g1 hr HE
  obtain ⟨g0, g1⟩ := (unhide HB1).cells
  go_wp2_with (refine wpList_make_full _ rfl (.tmp 23) (.tmp 23) 36 rfl w1.heap.size 3 i0 (.int .i64 0) 1 Tryd.underlying36 (unhide HI) (unhide HZ0) (unhide HZ1) .i64 .i64 _ _ H rfl rfl rfl rfl hzb ?m1 ?m2 ?_)
  case m1 => unfold maxLen; omega
  case m2 => simp
  intro w2 hown2 hg2
  rw [toList_madeCells_one] at hown2
  have hb2 : Below w1.heap.size w1 w2 := ⟨hg2.os, hg2.tape, hg2.output, hg2.size, fun k hk => hg2.block k hk (by simp)⟩
  have HB2 := hide ((unhide HB1).step hb2)
  have hw1 := (unhide HB1).lt
  obtain ⟨gs, hgs⟩ : ∃ gs, w1.heap.size = gs := ⟨_, rfl⟩
  have HR2 := hide (show RowZ w2 gs H (fun j => ((upto rs 0 0).count (j : Int) : Nat)) from by rw [← hgs]; exact (Row.of_owns hown2).congr fun t ht => by rw [upto_zero]; rfl)
  have HK0 := hide (EkTo.start n es rs)
  have hgw : w.heap.size < gs := by omega
  clear hown2 hg2 hb2 HB1 g0 g1
  rw [hgs]
  clear hgs hw1
  go_wp2_with fail
  go_loopw [6] (fun i wr => ∃ x : Nat, i = .int .i64 x ∧ x ≤ m ∧ Hid (EkTo n es rs x 0) ∧ Hid (RowZ wr gs H (fun j => ((upto rs x 0).count (j : Int) : Nat))) ∧ Hid (Bg w wr (.int .i64 V) (.slice a n cap))) (fun i wr => m - (intOf i).toNat)
  case atStart => exact ⟨0, rfl, by omega, HK0, HR2, HB2⟩
  case round =>
    clear HK0 HR2 HB2
    obtain ⟨x, rfl, hx, HK, HRw, HB⟩ := hrel
    by_cases hxm : x < m
    · have hxm2 : (x : Int) < (m : Int) := by omega
      obtain ⟨gr, or, la, lc, ha, hgr, c0, hlc, hls⟩ := (unhide HR).2.2 x hxm
      subst ha
      have hlx := hsm x hxm
      obtain ⟨l, hl⟩ : ∃ l, rs.getD x [] = l := ⟨_, rfl⟩
      rw [hl] at c0 hls hlx
      obtain ⟨len, hlen⟩ : ∃ len, l.length = len := ⟨_, rfl⟩
      rw [hlen] at c0 hls hlx
      have HC0 := hide c0
      have HL := hide hl
      have HLEN := hide hlen
      have HLS := hide hls
      have hxr : x < rs.length := by rw [unhide HRL]; exact hxm
      clear hls hlc hl c0 hlen
      go_wp2_with fail
      go_loopw [7] (fun i wr => ∃ k : Nat, i = .int .i64 k ∧ k ≤ len ∧ Hid (EkTo n es rs x k) ∧ Hid (RowZ wr gs H (fun j => ((upto rs x k).count (j : Int) : Nat))) ∧ Hid (Bg w wr (.int .i64 V) (.slice a n cap))) (fun i wr => len - (intOf i).toNat)
      case atStart => exact ⟨0, rfl, by omega, HK, HRw, HB⟩
      case round =>
        clear HK HRw HB
        obtain ⟨k, rfl, hk, HK, HRw, HB⟩ := hrel
        have d0 : wr.cell? ⟨gr, or + x, none⟩ = some (.slice la len lc) := by rw [(unhide HB).bel.cell (p := ⟨gr, or + x, none⟩) hgr]; exact unhide HC0
        have hgr2 : gr < wr.heap.size := Nat.lt_of_lt_of_le hgr (unhide HB).bel.size
        by_cases hkl : k < len
        · have hkl2 : (k : Int) < (len : Int) := by omega
          have hi : k < (rs.getD x []).length := by rw [unhide HL, unhide HLEN]; exact hkl
          obtain ⟨gl, ol, hla, hgl, c1⟩ := (unhide HLS).2.2 k hkl
          subst hla
          obtain ⟨z, hz⟩ : ∃ z, l.getD k 0 = z := ⟨_, rfl⟩
          rw [hz] at c1
          have hzr : (rs.getD x []).getD k 0 = z := by rw [unhide HL, hz]
          have d1 : wr.cell? ⟨gl, ol + k, none⟩ = some (.int .i64 z) := by rw [(unhide HB).bel.cell (p := ⟨gl, ol + k, none⟩) hgl]; exact c1
          have hsz := (unhide HB).bel.size
          have hgl2 : gl < wr.heap.size := by omega
          have HZR := hide hzr
          have HX := hide hxr
          have HIX := hide hi
          obtain ⟨g0, g1⟩ := (unhide HB).cells
          clear c1 hz hzr hi
          by_cases hz0 : z < 0
          · have HNO := hide (show ¬ IsRot V n es rs from rot_bad (unhide HX) (unhide HIX) (by rw [unhide HZR]; omega))
            go_wp2_with fail
            go_ret
            exact ⟨Told.no (unhide HNO), (unhide HB).bel⟩
          have e0 : decide (z < 0) = false := decide_eq_false hz0
          obtain ⟨j, rfl⟩ : ∃ j : Nat, z = (j : Int) := ⟨z.toNat, by omega⟩
          by_cases hz1 : H ≤ j
          · have e1 : (H : Int) ≤ (j : Int) := by omega
            have HNO := hide (show ¬ IsRot V n es rs from rot_bad (unhide HX) (unhide HIX) (by rw [unhide HZR]; have := unhide HHN; omega))
            go_wp2_with fail
            go_ret
            exact ⟨Told.no (unhide HNO), (unhide HB).bel⟩
          have e1 : decide ((H : Int) ≤ (j : Int)) = false := decide_eq_false (by omega)
          have hjH : j < H := by omega
          have hjH2 : (j : Int) < (H : Int) := by omega
          have hz2 : ¬ (j : Int) < 0 := by omega
          have hz3 : ¬ (H : Int) ≤ (j : Int) := by omega
          have HCAT := hide (unhide HAT wr (unhide HB).bel j (by rw [unhide HHN]; exact hjH))
          clear hz0 hz1
          by_cases hax : atI es j = (x : Int)
          case neg =>
            have t2 : (atI es j != (x : Int)) = true := by simp [hax]
            have HNO := hide (show ¬ IsRot V n es rs from rot_bad (unhide HX) (unhide HIX) (by rw [unhide HZR]; intro hc; exact hax (by have := hc.2.2; simpa using this)))
            generalize atI es j = q at *
            clear hax
            go_wp2_with (go_at_call 22; refine (unhide HCAT).mono ?_; rintro e w5 ⟨rfl, hb5⟩; have HB5 := hide ((unhide HB).step hb5); clear hb5)
            go_ret
            exact ⟨Told.no (unhide HNO), (unhide HB5).bel⟩
          have t2 : ((x : Int) != (x : Int)) = false := by simp
          have hK2 := EkTo.step (unhide HK) (unhide HIX) (unhide HZR) (by rw [unhide HHN]; exact hjH) hax
          have hup : upto rs x (k + 1) = upto rs x k ++ [(j : Int)] := by rw [upto_step (unhide HIX), unhide HZR]
          have hcl : (upto rs x k).count (j : Int) ≤ 1001000 := by
            have h1 := List.count_le_length (a := (j : Int)) (l := upto rs x k)
            have h2 := ek_len (rs := rs) (x := x) (i := k)
            omega
          have HK2 := hide hK2
          have HUP := hide hup
          rw [hax] at HCAT
          clear hup hax hK2
          obtain ⟨cj, hcj⟩ : ∃ c, (upto rs x k).count (j : Int) = c := ⟨_, rfl⟩
          rw [hcj] at hcl
          have HCJ := hide hcj
          clear hcj
          go_wp2_with (go_at_call 22; refine (unhide HCAT).mono ?_; rintro e w5 ⟨rfl, hb5⟩; have HB5 := hide ((unhide HB).step hb5); have HR5 := hide (Row.below (unhide HRw) hb5); clear hb5; have r0 : w5.cell? ⟨gs, j, none⟩ = some (.int .i64 (cj : Nat)) := (by have := (unhide HR5).cell hjH; simp only [unhide HCJ] at this; exact this); have r1 := (unhide HR5).fz j; have hg5 := (unhide HR5).lt)
          have HR6 := hide (show RowZ (w5.setCell ⟨gs, j, none⟩ (.int .i64 ((cj : Int) + 1))) gs H (fun t => ((upto rs x (k + 1)).count (t : Int) : Nat)) from
            Row.congr (RowZ.set (unhide HR5) j ((cj : Int) + 1)) fun t ht => congrArg (Value.int .i64) (by
              unfold upd
              show (if t = j then (cj : Int) + 1 else (((upto rs x k).count (t : Int) : Nat) : Int)) = (((upto rs x (k + 1)).count (t : Int) : Nat) : Int)
              rw [unhide HUP, List.count_append]
              by_cases htj : t = j
              · subst htj
                rw [if_pos rfl, unhide HCJ]
                simp
              · rw [if_neg htj]
                have : List.count (t : Int) [(j : Int)] = 0 := by
                  rw [List.count_eq_zero]
                  simp
                  omega
                rw [this]
                simp))
          have HB6 := hide ((unhide HB5).stepB (B := gs) hgw ((Below.refl _ _).setCell (p := ⟨gs, j, none⟩) (Nat.le_refl _) (.int .i64 ((cj : Int) + 1))))
          go_roundw
          case rel => exact ⟨k + 1, by go_num, by omega, HK2, HR6, HB6⟩
          case measure => simp [intOf]; omega
        · obtain rfl : k = len := by omega
          have hln2 : (rs.getD x []).length = k := by rw [unhide HL, unhide HLEN]
          have hu := upto_next hxr
          rw [hln2] at hu
          have HK2 := hide (show EkTo n es rs (x + 1) 0 from EkTo.next (by rw [hln2]; exact unhide HK))
          have HR2 := hide (show RowZ wr gs H (fun j => ((upto rs (x + 1) 0).count (j : Int) : Nat)) by rw [hu]; exact unhide HRw)
          clear hu hln2
          go_wp2_with fail
          go_roundw
          case rel => exact ⟨x + 1, by go_num, by omega, HK2, HR2, HB⟩
          case measure => simp [intOf]; omega
    · obtain rfl : x = m := by omega
      have hfin := EkTo.rot (V := V) (by rw [unhide HRL]; exact unhide HK) (unhide HG) (by rw [unhide HRL]; exact unhide HMV)
      rw [unhide HRL, unhide HHN] at hfin
      have HF := hide hfin
      clear hfin
      go_wp2_with fail
      go_loopw [9] (fun i wr' => ∃ k : Nat, i = .int .i64 k ∧ k ≤ H ∧ wr' = wr ∧ Hid (∀ j, j < k → (upto rs x 0).count (j : Int) = 1)) (fun i wr' => H - (intOf i).toNat)
      case atStart => exact ⟨0, rfl, by omega, rfl, fun j hj => by omega⟩
      case round =>
        obtain ⟨k, rfl, hk, hwe, HS⟩ := hrel
        subst hwe
        by_cases hkH : k < H
        · have hkH2 : (k : Int) < (H : Int) := by omega
          obtain ⟨ck, hck⟩ : ∃ c, (upto rs x 0).count (k : Int) = c := ⟨_, rfl⟩
          have HCK := hide hck
          have r0 : wr.cell? ⟨gs, k, none⟩ = some (.int .i64 (ck : Nat)) := by have := (unhide HRw).cell hkH; simp only [hck] at this; exact this
          have hgs := (unhide HRw).lt
          clear hck
          by_cases h1 : ck = 1
          · have t3 : ((ck : Int) != 1) = false := by simp [h1]
            have HS2 := hide (show ∀ j, j < k + 1 → (upto rs x 0).count (j : Int) = 1 from fun j hj => by
              by_cases hjk : j = k
              · rw [hjk, unhide HCK, h1]
              · exact unhide HS j (by omega))
            clear h1
            go_wp2_with fail
            go_roundw
            case rel => exact ⟨k + 1, by go_num, by omega, (by first | rfl | trivial), HS2⟩
            case measure => simp [intOf]; omega
          · have t3 : ((ck : Int) != 1) = true := by simp; omega
            have HNO := hide (show ¬ IsRot V n es rs from fun hr => h1 (by rw [← unhide HCK]; exact (unhide HF).1 hr k hkH))
            clear h1
            go_wp2_with fail
            go_ret
            exact ⟨Told.no (unhide HNO), (unhide HB).bel⟩
        · obtain rfl : k = H := by omega
          go_wp2_with fail
          go_ret
          exact ⟨Told.yes ((unhide HF).2 (unhide HS)), (unhide HB).bel⟩
end Go.Proofs.YtmklngabfdnclaaDoor


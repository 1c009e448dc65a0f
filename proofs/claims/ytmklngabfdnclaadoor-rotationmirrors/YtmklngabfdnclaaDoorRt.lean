/-
  The contract of the program's Right: whether lists are a rotation of a graph. Conditions: the graph and the lists lie in memory as told.
-/
import Derived.Test.YtmklngabfdnclaaDoorRg
namespace Go.Proofs.YtmklngabfdnclaaDoor
open Go.RowKit
set_option linter.unusedVariables false
set_option maxRecDepth 20000

/-- lists that are a rotation of a graph -/
structure IsRot (V : Int) (n : Nat) (es : List (Int × Int)) (rs : List (List Int)) : Prop where
  good : Good V n es
  len : (rs.length : Int) = V
  each : ∀ x, x < rs.length → ∀ h ∈ rs.getD x [], 0 ≤ h ∧ h < 2 * (n : Int) ∧ atI es h.toNat = (x : Int)
  nodup : rs.flatten.Nodup
  all : rs.flatten.length = 2 * n
/-- the numbers of the first lists, and of the beginning of the next one -/
def upto (rs : List (List Int)) (x i : Nat) : List Int := (rs.take x).flatten ++ (rs.getD x []).take i
theorem upto_zero (rs : List (List Int)) : upto rs 0 0 = [] := by simp [upto]
theorem upto_next {rs : List (List Int)} {x : Nat} (hx : x < rs.length) : upto rs (x + 1) 0 = upto rs x (rs.getD x []).length := by
  unfold upto
  rw [List.take_succ_eq_append_getElem hx, List.flatten_append, List.take_length, List.take_zero, List.append_nil]
  congr 1
  simp [List.getD, hx]
theorem upto_step {rs : List (List Int)} {x i : Nat} (hi : i < (rs.getD x []).length) : upto rs x (i + 1) = upto rs x i ++ [(rs.getD x []).getD i 0] := by
  unfold upto
  rw [List.take_succ_eq_append_getElem hi, List.append_assoc, getD_eq hi]
theorem upto_all (rs : List (List Int)) : upto rs rs.length 0 = rs.flatten := by simp [upto]
theorem upto_sub {rs : List (List Int)} {x i : Nat} (hx : x < rs.length) : (upto rs x i).Sublist rs.flatten := by
  have h1 : rs.flatten = (rs.take x).flatten ++ (rs.drop x).flatten := by rw [← List.flatten_append, List.take_append_drop]
  have h2 : rs.drop x = rs.getD x [] :: rs.drop (x + 1) := by rw [List.drop_eq_getElem_cons hx]; simp [List.getD, hx]
  rw [h1, h2]
  unfold upto
  refine List.Sublist.append (List.Sublist.refl _) ?_
  rw [List.flatten_cons]
  exact (List.take_sublist _ _).trans (List.sublist_append_left _ _)
/-- all is as it should be, up to there -/
structure OkTo (n : Nat) (es : List (Int × Int)) (rs : List (List Int)) (x i : Nat) : Prop where
  each : ∀ y, y < x → ∀ h ∈ rs.getD y [], 0 ≤ h ∧ h < 2 * (n : Int) ∧ atI es h.toNat = (y : Int)
  here : ∀ h ∈ (rs.getD x []).take i, 0 ≤ h ∧ h < 2 * (n : Int) ∧ atI es h.toNat = (x : Int)
  nodup : (upto rs x i).Nodup
theorem OkTo.start (n : Nat) (es : List (Int × Int)) (rs : List (List Int)) : OkTo n es rs 0 0 := ⟨fun y hy => by omega, by simp, by simp [upto]⟩
theorem OkTo.next {n : Nat} {es : List (Int × Int)} {rs : List (List Int)} {x : Nat} (hx : x < rs.length) (h : OkTo n es rs x (rs.getD x []).length) : OkTo n es rs (x + 1) 0 := by
  refine ⟨fun y hy => ?_, by simp, by rw [upto_next hx]; exact h.nodup⟩
  by_cases hyx : y = x
  · subst hyx
    have := h.here
    rwa [List.take_length] at this
  · exact h.each y (by omega)
theorem mem_flat {rs : List (List Int)} {x : Nat} {l : List Int} : ∀ {h : Int}, h ∈ (rs.take x).flatten → ∃ y, y < x ∧ h ∈ rs.getD y [] := by
  intro h hh
  rw [List.mem_flatten] at hh
  obtain ⟨l, hl, hm⟩ := hh
  obtain ⟨y, hy, rfl⟩ := List.mem_iff_getElem.1 hl
  simp at hy
  refine ⟨y, by omega, ?_⟩
  have : (rs.take x)[y] = rs[y]'(by omega) := by simp
  rw [this] at hm
  simpa [List.getD, show y < rs.length by omega] using hm
theorem OkTo.mem {n : Nat} {es : List (Int × Int)} {rs : List (List Int)} {x i : Nat} (h : OkTo n es rs x i) : ∀ z ∈ upto rs x i, 0 ≤ z ∧ z < 2 * (n : Int) := by
  intro z hz
  unfold upto at hz
  rw [List.mem_append] at hz
  rcases hz with hz | hz
  · obtain ⟨y, hy, hm⟩ := mem_flat (l := []) hz
    exact ⟨(h.each y hy z hm).1, (h.each y hy z hm).2.1⟩
  · exact ⟨(h.here z hz).1, (h.here z hz).2.1⟩
theorem nodup_leI {H : Nat} {l : List Int} (h : l.Nodup) (hb : ∀ z ∈ l, 0 ≤ z ∧ z < (H : Int)) : l.length ≤ H := by
  have h1 : (l.map Int.toNat).Nodup := by
    rw [List.nodup_iff_pairwise_ne, List.pairwise_map]
    refine List.Pairwise.imp_of_mem ?_ h
    intro a b ha hb' hab e
    have := hb a ha
    have := hb b hb'
    omega
  have := nodup_le H _ h1 (by
    intro x hx
    obtain ⟨z, hz, rfl⟩ := List.mem_map.1 hx
    have := hb z hz
    omega)
  simpa using this
theorem OkTo.len {n : Nat} {es : List (Int × Int)} {rs : List (List Int)} {x i : Nat} (h : OkTo n es rs x i) : (upto rs x i).length ≤ 2 * n := nodup_leI h.nodup (fun z hz => by have := h.mem z hz; omega)
theorem OkTo.step {n : Nat} {es : List (Int × Int)} {rs : List (List Int)} {x i : Nat} (h : OkTo n es rs x i) (hi : i < (rs.getD x []).length) {j : Nat} (hj : (rs.getD x []).getD i 0 = (j : Int)) (hj2 : j < 2 * n) (ha : atI es j = (x : Int)) (hn : (j : Int) ∉ upto rs x i) : OkTo n es rs x (i + 1) := by
  refine ⟨h.each, fun z hz => ?_, ?_⟩
  · rw [List.take_succ_eq_append_getElem hi, List.mem_append] at hz
    rcases hz with hz | hz
    · exact h.here z hz
    · rw [List.mem_singleton] at hz
      have : z = (j : Int) := by rw [hz, ← getD_eq hi, hj]
      subst this
      exact ⟨by omega, by omega, by simpa using ha⟩
  · rw [upto_step hi, hj, List.nodup_append]
    refine ⟨h.nodup, by simp, ?_⟩
    intro a ha' b hb e
    simp at hb
    subst hb
    exact hn (e ▸ ha')
/-- a number that came before comes again: it is no rotation -/
theorem rot_dup {V : Int} {n : Nat} {es : List (Int × Int)} {rs : List (List Int)} {x i : Nat} (hx : x < rs.length) (hi : i < (rs.getD x []).length) (hm : (rs.getD x []).getD i 0 ∈ upto rs x i) : ¬ IsRot V n es rs := by
  intro h
  have hs := (upto_sub (rs := rs) (i := i + 1) hx)
  have hn := h.nodup.sublist hs
  rw [upto_step hi, List.nodup_append] at hn
  exact hn.2.2 _ hm _ (by simp) rfl
theorem rot_bad {V : Int} {n : Nat} {es : List (Int × Int)} {rs : List (List Int)} {x i : Nat} (hx : x < rs.length) (hi : i < (rs.getD x []).length) (hm : ¬ (0 ≤ (rs.getD x []).getD i 0 ∧ (rs.getD x []).getD i 0 < 2 * (n : Int) ∧ atI es ((rs.getD x []).getD i 0).toNat = (x : Int))) : ¬ IsRot V n es rs := by
  intro h
  refine hm (h.each x hx _ ?_)
  rw [getD_eq hi]
  exact List.getElem_mem hi
theorem OkTo.rot {V : Int} {n : Nat} {es : List (Int × Int)} {rs : List (List Int)} (h : OkTo n es rs rs.length 0) (hg : Good V n es) (hl : (rs.length : Int) = V) : IsRot V n es rs ↔ (upto rs rs.length 0).length = 2 * n := by
  rw [upto_all]
  constructor
  · exact fun h => h.all
  · intro ha
    refine ⟨hg, hl, fun x hx => h.each x hx, ?_, ha⟩
    have := h.nodup
    rwa [upto_all] at this
/-- the row of where half edges stand, without those that were met -/
def sz (es : List (Int × Int)) (F : List Int) (j : Nat) : Int := if (j : Int) ∈ F then -1 else atI es j
theorem sz_gone {es : List (Int × Int)} {F : List Int} {j : Nat} (h : (j : Int) ∈ F) : sz es F j = -1 := if_pos h
theorem sz_here {es : List (Int × Int)} {F : List Int} {j : Nat} (h : (j : Int) ∉ F) : sz es F j = atI es j := if_neg h

set_option maxHeartbeats 8000000 in
theorem right_any (w : World) (V : Int) (a : Option Addr) (n cap : Nat) (es : List (Int × Int)) {B : Nat} (h : Es B w a n es) (ra : Option Addr) (m rc : Nat) (rs : List (List Int)) (hr : Rr w ra m rs) :
    Calls Tryd.prog 11 #[.agg #[.int .i64 V, .slice a n cap], .slice ra m rc] w fun e w' => Told (IsRot V n es rs) e ∧ Below w.heap.size w w' := by
  have hrl := hr.1
  have hm47 := hr.2.1
  have HE := hide h
  have HR := hide hr
  have HRL := hide hrl
  have HB0 := hide (Bg.start w (.int .i64 V) (.slice a n cap))
  clear h hr hrl
  by_cases hg : Good V n es
  case neg =>
    have HG := hide hg
    clear hg
    obtain ⟨g0, g1⟩ := (unhide HB0).cells
    go_enter Tryd.func11, Tryd.ntmps11
    go_wp2_with fail
    refine (may_any _ V a n cap es ((unhide HE).below (unhide HB0).bel)).mono ?_
    rintro e w1 ⟨⟨r, rfl, hr⟩, hb1⟩
    have hrt : r = false := by
      cases r with
      | false => rfl
      | true => exact absurd (hr.1 rfl) (unhide HG)
    subst hrt
    have HB1 := hide ((unhide HB0).step hb1)
    clear hb1 HB0 g0 g1 hr
    go_wp2_with fail
    go_ret
    exact ⟨Told.no fun h => unhide HG h.good, (unhide HB1).bel⟩
  have hn := hg.2.2.1
  have HG := hide hg
  obtain ⟨g0, g1⟩ := (unhide HB0).cells
  by_cases hmV : (m : Int) = V
  case neg =>
    have t1 : ((m : Int) != V) = true := by simp [hmV]
    have HNV := hide (show ¬ IsRot V n es rs from fun h => hmV (by rw [← unhide HRL]; exact h.len))
    clear hg hmV
    go_enter Tryd.func11, Tryd.ntmps11
    go_wp2_with fail
    refine (may_any _ V a n cap es ((unhide HE).below (unhide HB0).bel)).mono ?_
    rintro e w1 ⟨⟨r, rfl, hr⟩, hb1⟩
    have hrt : r = true := hr.2 (unhide HG)
    subst hrt
    have HB1 := hide ((unhide HB0).step hb1)
    clear hb1 HB0 g0 g1 hr
    obtain ⟨g0, g1⟩ := (unhide HB1).cells
    go_wp2_with fail
    go_ret
    exact ⟨Told.no (unhide HNV), (unhide HB1).bel⟩
  have t1 : ((m : Int) != V) = false := by simp [hmV]
  have hm64 : m ≤ 64 := by have := hg.2.1; omega
  have HMV := hide hmV
  clear hg hmV
  go_enter Tryd.func11, Tryd.ntmps11
  go_wp2_with fail
  refine (may_any _ V a n cap es ((unhide HE).below (unhide HB0).bel)).mono ?_
  rintro e w1 ⟨⟨r, rfl, hr⟩, hb1⟩
  have hrt : r = true := hr.2 (unhide HG)
  subst hrt
  have HB1 := hide ((unhide HB0).step hb1)
  clear hb1 HB0 g0 g1 hr
  obtain ⟨g0, g1⟩ := (unhide HB1).cells
  go_wp2_with fail
  refine (standing_any _ V a n cap es ((unhide HE).below (unhide HB1).bel) hn).mono ?_
  rintro e w2 ⟨⟨v, rfl, hown⟩, hb2⟩
  have HB2 := hide ((unhide HB1).step hb2)
  have hs1 := (unhide HB1).lt
  clear HB1 g0 g1 hb2
  rw [stL_map es (unhide HE).1] at hown
  obtain ⟨H, hH⟩ : ∃ H, 2 * n = H := ⟨_, rfl⟩
  rw [hH] at hown
  have hv : ∃ sa sc gs, v = .slice sa H sc ∧ (0 < H → sa = some ⟨gs, 0, none⟩ ∧ w.heap.size < gs ∧ RowZ w2 gs H (sz es (upto rs 0 0))) := by
    by_cases h0 : 0 < H
    · obtain ⟨g, c, hv, hb, hrow⟩ := rowZ_of_owns hown h0
      exact ⟨_, c, g, hv, fun _ => ⟨rfl, by omega, Row.congr hrow fun t ht => by rw [upto_zero, sz_here (by simp)]⟩⟩
    · have : H = 0 := by omega
      subst this
      rcases hown.2 with ⟨hv, _⟩ | ⟨g, c, cur, hv, _⟩
      · exact ⟨none, 0, 0, hv, fun h => by omega⟩
      · exact ⟨_, c, g, hv, fun h => by omega⟩
  obtain ⟨sa, sc, gs, rfl, hsa⟩ := hv
  have HSA := hide (fun h0 => (hsa h0).1)
  have HGS := hide (fun h0 => (hsa h0).2.1)
  have HR2 := hide (fun h0 => (hsa h0).2.2)
  have HK0 := hide (OkTo.start n es rs)
  have HHN := hide hH
  have hH256 : H ≤ 256 := by omega
  have HB3 := hide (unhide HB2).bel
  clear hsa hown HB2 hH hs1
  go_wp2_with fail
  go_loopw [6, 25] (fun v6 i wr => ∃ x : Nat, i = .int .i64 x ∧ x ≤ m ∧ v6 = .int .i64 ((upto rs x 0).length : Nat) ∧ Hid (OkTo n es rs x 0) ∧ Hid (0 < H → RowZ wr gs H (sz es (upto rs x 0))) ∧ Hid (Below w.heap.size w wr)) (fun v6 i wr => m - (intOf i).toNat)
  case atStart => exact ⟨0, rfl, by omega, by rw [upto_zero]; rfl, HK0, HR2, HB3⟩
  case round =>
    clear HK0 HR2 HB3
    obtain ⟨x, rfl, hx, rfl, HK, HRw, HB⟩ := hrel
    by_cases hxm : x < m
    · have hxm2 : (x : Int) < (m : Int) := by omega
      obtain ⟨gr, or, la, lc, ha, hgr, c0, hlc, hls⟩ := (unhide HR).2.2 x hxm
      subst ha
      obtain ⟨l, hl⟩ : ∃ l, rs.getD x [] = l := ⟨_, rfl⟩
      rw [hl] at c0 hls
      obtain ⟨len, hlen⟩ : ∃ len, l.length = len := ⟨_, rfl⟩
      rw [hlen] at c0 hls
      have d0 : wr.cell? ⟨gr, or + x, none⟩ = some (.slice la len lc) := by rw [(unhide HB).cell (p := ⟨gr, or + x, none⟩) hgr]; exact c0
      have hgr2 : gr < wr.heap.size := Nat.lt_of_lt_of_le hgr (unhide HB).size
      have HL := hide hl
      have HLEN := hide hlen
      have HLS := hide hls
      have hln := hls.2.1
      have hxr : x < rs.length := by rw [unhide HRL]; exact hxm
      clear hls hlc hl c0 hlen
      go_wp2_with fail
      go_loopw [6, 32] (fun v6 i wr => ∃ k : Nat, i = .int .i64 k ∧ k ≤ len ∧ v6 = .int .i64 ((upto rs x k).length : Nat) ∧ Hid (OkTo n es rs x k) ∧ Hid (0 < H → RowZ wr gs H (sz es (upto rs x k))) ∧ Hid (Below w.heap.size w wr)) (fun v6 i wr => len - (intOf i).toNat)
      case atStart => exact ⟨0, rfl, by omega, rfl, HK, HRw, HB⟩
      case round =>
        clear d0 hgr2 HK HRw HB
        obtain ⟨k, rfl, hk, rfl, HK, HRw, HB⟩ := hrel
        by_cases hkl : k < len
        · have hkl2 : (k : Int) < (len : Int) := by omega
          have hi : k < (rs.getD x []).length := by rw [unhide HL, unhide HLEN]; exact hkl
          obtain ⟨gl, ol, hla, hgl, c1⟩ := (unhide HLS).2.2 k hkl
          subst hla
          obtain ⟨z, hz⟩ : ∃ z, l.getD k 0 = z := ⟨_, rfl⟩
          rw [hz] at c1
          have hzr : (rs.getD x []).getD k 0 = z := by rw [unhide HL, hz]
          have d1 : wr.cell? ⟨gl, ol + k, none⟩ = some (.int .i64 z) := by rw [(unhide HB).cell (p := ⟨gl, ol + k, none⟩) hgl]; exact c1
          have hsz := (unhide HB).size
          have hgl2 : gl < wr.heap.size := by omega
          have HZR := hide hzr
          have HX := hide hxr
          have HIX := hide hi
          clear c1 hz hzr hi
          by_cases hz0 : z < 0
          · have HNO := hide (show ¬ IsRot V n es rs from rot_bad (unhide HX) (unhide HIX) (by rw [unhide HZR]; omega))
            go_wp2_with fail
            go_ret
            exact ⟨Told.no (unhide HNO), unhide HB⟩
          have e0 : decide (z < 0) = false := decide_eq_false hz0
          obtain ⟨j, rfl⟩ : ∃ j : Nat, z = (j : Int) := ⟨z.toNat, by omega⟩
          by_cases hz1 : H ≤ j
          · have e1 : (H : Int) ≤ (j : Int) := by omega
            have HNO := hide (show ¬ IsRot V n es rs from rot_bad (unhide HX) (unhide HIX) (by rw [unhide HZR]; have := unhide HHN; omega))
            go_wp2_with fail
            go_ret
            exact ⟨Told.no (unhide HNO), unhide HB⟩
          have e1 : decide ((H : Int) ≤ (j : Int)) = false := decide_eq_false (by omega)
          have hjH : j < H := by omega
          have hjH2 : (j : Int) < (H : Int) := by omega
          have hH0 : 0 < H := by omega
          have hse := unhide HSA hH0
          subst hse
          have HRj := hide (unhide HRw hH0)
          have hgs := unhide HGS hH0
          have r0 := (unhide HRj).cell hjH
          have r1 := (unhide HRj).fz j
          have hgsr := (unhide HRj).lt
          have hz2 : ¬ (j : Int) < 0 := by omega
          have hz3 : ¬ (H : Int) ≤ (j : Int) := by omega
          clear hz0 hz1
          by_cases hin : (j : Int) ∈ upto rs x k
          · rw [sz_gone hin] at r0
            have t2 : ((-1 : Int) != (x : Int)) = true := by simp
            have HNO := hide (show ¬ IsRot V n es rs from rot_dup (unhide HX) (unhide HIX) (by rw [unhide HZR]; exact hin))
            clear hin
            go_wp2_with fail
            go_ret
            exact ⟨Told.no (unhide HNO), unhide HB⟩
          rw [sz_here hin] at r0
          by_cases hax : atI es j = (x : Int)
          case neg =>
            have t2 : (atI es j != (x : Int)) = true := by simp [hax]
            have HNO := hide (show ¬ IsRot V n es rs from rot_bad (unhide HX) (unhide HIX) (by rw [unhide HZR]; intro hc; exact hax (by have := hc.2.2; simpa using this)))
            generalize atI es j = q at *
            clear hin hax
            go_wp2_with fail
            go_ret
            exact ⟨Told.no (unhide HNO), unhide HB⟩
          have t2 : ((x : Int) != (x : Int)) = false := by simp
          rw [hax] at r0
          have hK2 := OkTo.step (unhide HK) (unhide HIX) (unhide HZR) (by rw [unhide HHN]; exact hjH) hax hin
          have hup : upto rs x (k + 1) = upto rs x k ++ [(j : Int)] := by rw [upto_step (unhide HIX), unhide HZR]
          have hlk := (unhide HK).len
          have HK2 := hide hK2
          have HR2 := hide (fun (_ : 0 < H) => show RowZ (wr.setCell ⟨gs, j, none⟩ (.int .i64 (-1))) gs H (sz es (upto rs x (k + 1))) from
            Row.congr (RowZ.set (unhide HRj) j (-1)) fun t ht => congrArg (Value.int .i64) (by
              unfold upd
              rw [hup]
              by_cases htj : t = j
              · rw [if_pos htj, sz_gone (by simp [htj])]
              · rw [if_neg htj]
                unfold sz
                have : ((t : Int) ∈ upto rs x k ++ [(j : Int)]) ↔ (t : Int) ∈ upto rs x k := by
                  simp
                  intro e
                  omega
                simp only [this]))
          have HB2 := hide ((unhide HB).setCell (p := ⟨gs, j, none⟩) (Nat.le_of_lt hgs) (.int .i64 (-1)))
          have hupl : (upto rs x (k + 1)).length = (upto rs x k).length + 1 := by rw [hup]; simp
          have HUP := hide hupl
          have hbl : (upto rs x k).length ≤ 256 := by have := unhide HHN; omega
          generalize (upto rs x k).length = ml at *
          clear hup hin hax hK2 hupl hlk
          go_wp2_with fail
          go_roundw
          case rel => exact ⟨k + 1, by go_num, by omega, by rw [unhide HUP]; go_num, HK2, HR2, HB2⟩
          case measure => simp [intOf]; omega
        · obtain rfl : k = len := by omega
          have hln2 : (rs.getD x []).length = k := by rw [unhide HL, unhide HLEN]
          have hu := upto_next hxr
          rw [hln2] at hu
          have HK2 := hide (show OkTo n es rs (x + 1) 0 from OkTo.next hxr (by rw [hln2]; exact unhide HK))
          have HR2 := hide (show 0 < H → RowZ wr gs H (sz es (upto rs (x + 1) 0)) by rw [hu]; exact unhide HRw)
          have HU := hide hu
          clear hu hln2
          go_wp2_with fail
          go_roundw
          case rel => exact ⟨x + 1, by go_num, by omega, by rw [unhide HU], HK2, HR2, HB⟩
          case measure => simp [intOf]; omega
    · obtain rfl : x = m := by omega
      have hfin := OkTo.rot (V := V) (by rw [unhide HRL]; exact unhide HK) (unhide HG) (by rw [unhide HRL]; exact unhide HMV)
      rw [unhide HRL, unhide HHN] at hfin
      have HF := hide hfin
      generalize (upto rs x 0).length = ml at *
      by_cases hml : ml = H
      · have t3 : ((ml : Int) == (H : Int)) = true := by simp [hml]
        have HY := hide (hfin.2 hml)
        clear hml hfin
        go_wp2_with fail
        go_ret
        exact ⟨Told.yes (unhide HY), unhide HB⟩
      · have t3 : ((ml : Int) == (H : Int)) = false := by rw [beq_eq_false_iff_ne]; omega
        have HY := hide (fun h => hml (hfin.1 h))
        clear hml hfin
        go_wp2_with fail
        go_ret
        exact ⟨Told.no (unhide HY), unhide HB⟩
end Go.Proofs.YtmklngabfdnclaaDoor


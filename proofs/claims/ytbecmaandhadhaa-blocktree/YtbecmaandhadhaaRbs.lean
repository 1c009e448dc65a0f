/-
  The contract of the document's Blocks: the edges of each block, by least edges. Conditions: the graph lies in memory as told, may be, and has no loops.
-/
import Derived.Test.YtbecmaandhadhaaRk
namespace Go.Proofs.Ytbecmaandhadhaa.pt
open Go.RowKit
set_option linter.unusedVariables false
set_option maxRecDepth 20000

/-- a list of lists that is being laid behind u0 -/
structure Ol (u0 wr : World) (bv : Value) (R : Nat → Value) (Ls : List (List Nat)) : Prop where
  bel : Below u0.heap.size u0 wr
  own : wr.ownsRow u0.heap.size 29 1 bv Ls.length ((List.range Ls.length).map R)
  rows : ∀ j, j < Ls.length → wr.ownsRow u0.heap.size 3 1 (R j) (Ls.getD j []).length (zcells (toIs (Ls.getD j [])))
theorem Ol.start (u0 : World) : Ol u0 (u0.alloc (.cells #[] 29)) (.slice (some ⟨u0.heap.size, 0, none⟩) 0 0) (fun _ => .slice none 0 0) [] :=
  ⟨b_al _, owns_lit_empty u0 29 1 _ (Nat.le_refl _), fun j hj => by simp at hj⟩
theorem Ol.step {u0 wr wr' : World} {bv : Value} {R : Nat → Value} {Ls : List (List Nat)} (h : Ol u0 wr bv R Ls) (hb : Below wr.heap.size wr wr') : Ol u0 wr' bv R Ls :=
  ⟨bto h.bel hb, owns_below h.own hb, fun j hj => owns_below (h.rows j hj) hb⟩
theorem Ol.push {u0 u u' : World} {bv v' l : Value} {R : Nat → Value} {Ls : List (List Nat)} {x : List Nat} (h : Ol u0 u bv R Ls) (hl : u.ownsRow u0.heap.size 3 1 l x.length (zcells (toIs x)))
    (ho : u'.ownsRow u0.heap.size 29 1 v' (Ls.length + 1) ((List.range Ls.length).map R ++ [l])) (hg : u.grownBy u' bv.ownBlock) : Ol u0 u' v' (upd R Ls.length l) (Ls ++ [x]) := by
  have hk : ∀ {v : Value} {n : Nat} {xs : List Value}, u.ownsRow u0.heap.size 3 1 v n xs → u'.ownsRow u0.heap.size 3 1 v n xs := fun {v n xs} hv => by
    refine owns_keep hv fun g hgv => hg.block g (hv.lt g hgv).2 fun e => ?_
    obtain ⟨c1, h1⟩ := owns_type hv hgv
    obtain ⟨c2, h2⟩ := owns_type h.own e.symm
    rw [h1] at h2
    simp at h2
  refine ⟨h.bel.grown hg h.bel.size fun k hk' => (h.own.lt k hk').1, ?_, fun j hj => ?_⟩
  · rw [List.length_append, show [x].length = 1 from rfl, List.range_succ, List.map_append]
    have e1 : (List.range Ls.length).map (upd R Ls.length l) = (List.range Ls.length).map R := List.map_congr_left fun t ht => upd_other _ _ (by have := List.mem_range.1 ht; omega)
    rw [e1]
    simpa [upd_same] using ho
  · rw [List.length_append, show [x].length = 1 from rfl] at hj
    by_cases hjl : j = Ls.length
    · subst hjl
      rw [upd_same, show (Ls ++ [x]).getD Ls.length [] = x by simp [List.getD]]
      exact hk hl
    · rw [upd_other _ _ hjl, show (Ls ++ [x]).getD j [] = Ls.getD j [] by simp only [List.getD]; rw [List.getElem?_append_left (by omega)]]
      exact hk (h.rows j (by omega))
/-- on the way: the least edges below i, the edges below k of one block -/
def leK (s : Nat → Nat) (i : Nat) : List Nat := (List.range i).filter fun t => s t == t
def clK (s : Nat → Nat) (i k : Nat) : List Nat := (List.range k).filter fun t => s t == i
theorem leK_no {s : Nat → Nat} {i : Nat} (h : s i ≠ i) : leK s (i + 1) = leK s i := by simp [leK, List.range_succ, List.filter_append, h]
theorem leK_yes {s : Nat → Nat} {i : Nat} (h : s i = i) : leK s (i + 1) = leK s i ++ [i] := by simp [leK, List.range_succ, List.filter_append, h]
theorem clK_no {s : Nat → Nat} {i k : Nat} (h : s k ≠ i) : clK s i (k + 1) = clK s i k := by simp [clK, List.range_succ, List.filter_append, h]
theorem clK_yes {s : Nat → Nat} {i k : Nat} (h : s k = i) : clK s i (k + 1) = clK s i k ++ [k] := by simp [clK, List.range_succ, List.filter_append, h]
theorem clK_len (s : Nat → Nat) (i k : Nat) : (clK s i k).length ≤ k := by
  have := List.length_filter_le (fun t => s t == i) (List.range k)
  simpa [clK] using this
theorem leK_len (s : Nat → Nat) (i : Nat) : (leK s i).length ≤ i := by
  have := List.length_filter_le (fun t => s t == t) (List.range i)
  simpa [leK] using this
theorem one_v {a : Option Addr} {n c : Nat} : ∀ u ∈ [Value.slice a n c], u.oneCell' = true := by
  intro u hu
  simp only [List.mem_singleton] at hu
  subst hu
  rfl

set_option maxHeartbeats 8000000 in
theorem refblocks_any (w : World) (V : Nat) (a : Option Addr) (n cap : Nat) (es : List (Nat × Nat)) {B : Nat} (h : Es B w a n (toI es)) (hne : es.length = n) (hp : Plain V es) (hnl : Df.NoLoop es) :
    Calls Try.prog 13 #[.agg #[.int .i64 V, .slice a n cap]] w fun e w' => (∃ s v R, Df.IsLs es s ∧ e = .returned v ∧ ∃ u0, w.heap.size ≤ u0.heap.size ∧ Ol u0 w' v R (blF n s)) ∧ Below w.heap.size w w' := by
  have hn128 := hp.n128
  rw [hne] at hn128
  have HB0 := hide (Bg.start w (.int .i64 V) (.slice a n cap))
  have HRB := hide (fun (u : World) (hu : Es B u a n (toI es)) => refblock_any u V a n cap es hu hne hp hnl)
  have HE := hide h
  obtain ⟨i0, hi0, hz0, hz1, hz2⟩ := info_parts info3
  have HI := hide hi0
  have HZ0 := hide hz0
  have HZ1 := hide hz1
  have HZ2 := hide hz2
  obtain ⟨j0, hj0, hy0, hy1, hy2⟩ := info_parts info28
  have HJ := hide hj0
  have HY0 := hide hy0
  have HY1 := hide hy1
  have HY2 := hide hy2
  clear hi0 hz0 hz1 hz2 hj0 hy0 hy1 hy2 h hne hp hnl
  obtain ⟨g0, g1⟩ := (unhide HB0).cells
  go_enter Try.func13, Try.ntmps13
  go_wp2_with fail
  refine (unhide HRB _ ((unhide HE).below (unhide HB0).bel)).mono ?_
  rintro e w1 ⟨⟨gs, s, rfl, hgs, hrs, hls⟩, hb1⟩
  have HB1 := hide ((unhide HB0).step hb1)
  have HS := hide hrs
  have HLS := hide hls
  clear hb1 hrs hls hgs g0 g1 HB0 HRB HE
  go_wp2_with fail
  have HO0 := hide (Ol.start w1)
  generalize w1.alloc (.cells #[] 29) = w2 at HO0 ⊢
  generalize (Value.slice (some ⟨w1.heap.size, 0, none⟩) 0 0) = bv0 at HO0 ⊢
  go_loopw [4, 5] (fun bv i wr => ∃ (k : Nat) (R : Nat → Value), i = .int .i64 k ∧ k ≤ n ∧ Hid (Ol w1 wr bv R ((leK s k).map (clF n s)))) (fun bv i wr => n - (intOf i).toNat)
  case atStart => exact ⟨0, _, rfl, by omega, HO0⟩
  case round =>
    clear HO0
    obtain ⟨i, R, rfl, hi, HO⟩ := hrel
    have HSR := hide (Row.below (unhide HS) (unhide HO).bel)
    by_cases hlt : i < n
    · have hlt2 : (i : Int) < (n : Int) := by omega
      have r0 := (unhide HSR).cell hlt
      by_cases hsi : s i = i
      · have t1 : (((s i : Nat) : Int) != (i : Int)) = false := by simp [hsi]
        have HSI := hide hsi
        clear hsi
        go_wp2_with fail
        obtain ⟨wo, rfl⟩ : ∃ wo, wo = wr := ⟨_, rfl⟩
        have HL0 := hide (owns_lit_empty wo 3 1 wo.heap.size (Nat.le_refl _))
        have HX0 := hide (b_al (w := wo) (.cells #[] 3))
        go_loopw [6, 7] (fun v j wr => ∃ k : Nat, j = .int .i64 k ∧ k ≤ n ∧ Hid (wr.ownsRow wo.heap.size 3 1 v (clK s i k).length (zcells (toIs (clK s i k)))) ∧ Hid (Below wo.heap.size wo wr)) (fun v j wr => n - (intOf j).toNat)
        case atStart => exact ⟨0, rfl, by omega, HL0, HX0⟩
        case round =>
          clear HL0 HX0 r0
          obtain ⟨k, rfl, hk, HL, HX⟩ := hrel
          by_cases hkn : k < n
          · have hkn2 : (k : Int) < (n : Int) := by omega
            have r0 := (Row.below (unhide HSR) (unhide HX)).cell hkn
            have hlen := clK_len s i k
            by_cases hsk : s k = i
            · have t2 : (((s k : Nat) : Int) == (i : Int)) = true := by simp [hsk]
              have HSK := hide hsk
              clear hsk
              go_wp2_with (at_builtin; refine wpList_append_own _ rfl (.tmp 36) (.tmp 38) 29 rfl wo.heap.size 3 i0 (.int .i64 0) 1 8 Try.underlying29 (unhide HI) (unhide HZ0) (unhide HZ1) (unhide HZ2) rfl (by decide) u6 (clK s i k).length (zcells (toIs (clK s i k))) rfl ((unhide HL).alloc _) ⟨wr.heap.size, 0, none⟩ 1 1 [.int .i64 (k : Int)] rfl rfl (cell_one_new _ _ _) (one_i (k : Int)) ?a3 ?a4 ?a5 ?_)
              case a3 => unfold maxLen; omega
              case a4 => omega
              case a5 => have := (unhide HX).size; first | omega | (simp; omega)
              intro v2 w7 hown7 hg7 _
              rw [zcells_snoc, toIs_snoc, ← clK_yes (unhide HSK)] at hown7
              have hl7 : (clK s i k).length + 1 = (clK s i (k + 1)).length := by rw [clK_yes (unhide HSK)]; simp
              rw [hl7] at hown7
              have HX7 := hide (((unhide HX).alloc (unhide HX).size _).grown hg7 (by have := (unhide HX).size; simp; omega) fun t ht => ((unhide HL).lt t ht).1)
              have HO7 := hide hown7
              clear hown7 hg7 hl7
              go_wp2_with fail
              go_roundw
              case rel => exact ⟨k + 1, by go_num, by omega, HO7, HX7⟩
              case measure => simp [intOf]; omega
            · have t2 : (((s k : Nat) : Int) == (i : Int)) = false := by rw [beq_eq_false_iff_ne]; omega
              have HL2 := hide (show wr.ownsRow wo.heap.size 3 1 u6 (clK s i (k + 1)).length (zcells (toIs (clK s i (k + 1)))) by rw [clK_no hsk]; exact unhide HL)
              clear hsk
              go_wp2_with fail
              go_roundw
              case rel => exact ⟨k + 1, by go_num, by omega, HL2, HX⟩
              case measure => simp [intOf]; omega
          · obtain rfl : k = n := by omega
            have HOX := hide ((unhide HO).step (unhide HX))
            have HLX := hide (owns_mono (unhide HL) (unhide HO).bel.size)
            have hll : ((leK s i).map (clF k s)).length ≤ i := by rw [List.length_map]; exact leK_len s i
            obtain ⟨la, lc, hlv, _, _⟩ := ns_of_owns (unhide HL) (by have := clK_len s i k; omega)
            subst hlv
            go_wp2_with (at_builtin; refine wpList_append_own _ rfl (.tmp 40) (.tmp 42) 27 rfl w1.heap.size 29 j0 (.slice none 0 0) 1 24 Try.underlying27 (unhide HJ) (unhide HY0) (unhide HY1) (unhide HY2) rfl (by decide) u4 ((leK s i).map (clF k s)).length _ rfl ((unhide HOX).own.alloc _) ⟨wr.heap.size, 0, none⟩ 1 1 [.slice la (clK s i k).length lc] rfl rfl (cell_one_new _ _ _) one_v ?a3 ?a4 ?a5 ?_)
            case a3 => unfold maxLen; omega
            case a4 => omega
            case a5 => have := (unhide HOX).bel.size; first | omega | (simp; omega)
            intro v2 w7 hown7 hg7 _
            have hp7 := Ol.push ((unhide HOX).step (b_al _)) (owns_below (unhide HLX) (b_al _)) (by rw [List.length_map]; exact hown7) hg7
            rw [show (leK s i).map (clF k s) ++ [clK s i k] = (leK s (i + 1)).map (clF k s) by rw [leK_yes (unhide HSI), List.map_append]; rfl] at hp7
            have HP7 := hide hp7
            clear hp7 hown7 hg7
            go_wp2_with fail
            go_roundw
            case rel => exact ⟨i + 1, _, by go_num, by omega, HP7⟩
            case measure => simp [intOf]; omega
      · have t1 : (((s i : Nat) : Int) != (i : Int)) = true := by simp; omega
        have HO2 := hide (show Ol w1 wr u4 R ((leK s (i + 1)).map (clF n s)) by rw [leK_no hsi]; exact unhide HO)
        clear hsi
        go_wp2_with fail
        go_roundw
        case rel => exact ⟨i + 1, R, by go_num, by omega, HO2⟩
        case measure => simp [intOf]; omega
    · obtain rfl : i = n := by omega
      have HBF := hide ((unhide HB1).step (unhide HO).bel)
      have hs1 := (unhide HB1).bel.size
      go_wp2_with fail
      go_ret
      exact ⟨⟨s, _, R, unhide HLS, rfl, w1, hs1, unhide HO⟩, (unhide HBF).bel⟩
end Go.Proofs.Ytbecmaandhadhaa.pt


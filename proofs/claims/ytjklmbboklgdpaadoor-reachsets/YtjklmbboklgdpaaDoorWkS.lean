/-
  The walk of the statement ReachSets. Conditions: both lists lie in memory as told; the table of math/bits holds what its initialiser lays.
-/
import Derived.Test.YtjklmbboklgdpaaDoorSpk
import Derived.Test.YtjklmbboklgdpaaDoorAll
import Derived.Test.YtjklmbboklgdpaaDoorArr
import Derived.Test.YtjklmbboklgdpaaDoorCc
namespace Go.Proofs.YtjklmbboklgdpaaDoor
open Go.RowKit
set_option linter.unusedVariables false

theorem ofS_allS {s : Nat} (hs : s < 18446744073709551616) : ofS (toIs (allS s)) = s := by
  refine set_ext (ofS_lt _) hs fun j hj => ?_
  rw [testBit_ofS, Bool.eq_iff_iff]
  simp only [decide_eq_true_eq, toIs, List.mem_map]
  constructor
  · rintro ⟨_, i, h1, h2⟩
    have : i = j := by omega
    subst this
    exact ((lowS_mem s 64 i).1 h1).2
  · intro h
    exact ⟨hj, j, (lowS_mem s 64 j).2 ⟨hj, h⟩, rfl⟩

set_option maxHeartbeats 4000000 in
theorem sets_walk (w : World) (hT : Tab w) (a b : Option Addr) (n c m d : Nat) (xs ys : List Int) (hx : Ns w a n xs) (hy : Ns w b m ys) (hn : n ≤ 200) (hm : m ≤ 100) :
    Calls Tryd.prog 3 #[.slice a n c, .slice b m d] w fun e w' => e = .returned (.bool true) ∧ Below w.heap.size w w' := by
  obtain ⟨i0, hi0, hz0, hz1, hz2⟩ := info_parts info3
  have HI := hide hi0
  have HZ0 := hide hz0
  have HZ1 := hide hz1
  have HZ2 := hide hz2
  clear hi0 hz0 hz1 hz2
  have HT := hide hT
  have HX := hide hx
  have HY := hide hy
  clear hT hx hy
  have hn' : (n : Int) ≤ 200 := by omega
  have hm' : (m : Int) ≤ 100 := by omega
  go_enter Tryd.func3, Tryd.ntmps3
  go_wp2_with fail
  refine (speaks_any w (unhide HT)).mono ?_
  rintro e w1 ⟨rfl, hb1⟩
  have HB1 := hide hb1
  clear hb1
  go_wp2_with fail
  refine (of_any _ _ n c xs ((unhide HX).below (unhide HB1))).mono ?_
  rintro e w2 ⟨rfl, hw2⟩
  obtain rfl := hw2.symm
  clear hw2
  have hsl := ofS_lt xs
  obtain ⟨s, hs⟩ : ∃ s, ofS xs = s := ⟨_, rfl⟩
  rw [hs] at hsl ⊢
  have HS := hide hs
  clear hs
  have hss := (unhide HB1).size
  go_wp2_with (first | refine wpList_build27 rfl rfl ?_ | refine wpList_alloc27 rfl rfl ?_ | (refine wpList_store27 rfl (.tmp 6) (.tmp 26) rfl rfl rfl ?_; intro w3 hr3 hb3; have HR3 := hide hr3; have HB3 := hide hb3; clear hr3 hb3))
  go_loopw [29] (fun i wr => ∃ k : Nat, i = .int .i64 k ∧ k ≤ n ∧ Hid (Row wr w1.heap.size 27 64 (fun j => .bool ((ofS (xs.take k)).testBit j))) ∧ Hid (Below w1.heap.size w1 wr)) (fun i wr => n - (intOf i).toNat)
  case atStart => exact ⟨0, rfl, by omega, Row.congr (unhide HR3) (fun t ht => by simp [ofS]), HB3⟩
  case round =>
    obtain ⟨k, rfl, hk, HR, HB⟩ := hrel
    have hsz := (unhide HR).lt
    by_cases hlt : k < n
    · obtain ⟨g, off, ha, hg, c0⟩ := (unhide HX).2.2 k hlt
      subst ha
      have d0 : wr.cell? ⟨g, off + k, none⟩ = some (.int .i64 (xs.getD k 0)) := by rw [(unhide HB).cell (p := ⟨g, off + k, none⟩) (by show g < w1.heap.size; omega), (unhide HB1).cell (p := ⟨g, off + k, none⟩) hg]; exact c0
      clear c0
      have HST := hide (show ofS (xs.take (k + 1)) = ofS (xs.take k) ||| bitI (xs.getD k 0) by rw [take_succ_getD xs k (by rw [(unhide HX).1]; exact hlt), ofS_snoc])
      generalize xs.getD k 0 = x at *
      have hlt2 : (k : Int) < (n : Int) := by omega
      by_cases h0 : 0 ≤ x
      · have h0' : (x ≥ 0) := h0
        by_cases h1 : x < 64
        · have r1 := (unhide HR).fz x.toNat
          have r0 := (unhide HR).cell (t := x.toNat) (by omega)
          go_wp2_with fail
          go_roundw
          case rel =>
            refine ⟨k + 1, by go_num, by omega, ?_, ?_⟩
            · refine (Row.set (unhide HR) x.toNat (.bool true)).congr fun t ht => ?_
              unfold upd
              rw [unhide HST, Nat.testBit_or, testBit_bitI]
              by_cases ht1 : t = x.toNat
              · subst ht1
                have : (x.toNat : Int) = x := by omega
                simp [this]
                omega
              · rw [if_neg ht1]
                have : ¬ (t : Int) = x := by omega
                simp [this]
            · exact (unhide HB).setCell (p := ⟨w1.heap.size, x.toNat, none⟩) (Nat.le_refl _) _
          case measure => simp [intOf]; omega
        · have h1' : 64 ≤ x := by omega
          go_wp2_with fail
          go_roundw
          case rel =>
            refine ⟨k + 1, by go_num, by omega, ?_, unhide HB⟩
            rw [unhide HST, bitI_out (by omega), Nat.or_zero]
            exact HR
          case measure => simp [intOf]; omega
      · have d1 : decide (0 ≤ x) = false := decide_eq_false h0
        go_wp2_with fail
        go_roundw
        case rel =>
          refine ⟨k + 1, by go_num, by omega, ?_, unhide HB⟩
          rw [unhide HST, bitI_out (by omega), Nat.or_zero]
          exact HR
        case measure => simp [intOf]; omega
    · obtain rfl : k = n := by omega
      have ht : xs.take k = xs := by rw [← (unhide HX).1, List.take_length]
      rw [ht, unhide HS] at HR
      clear ht
      go_wp2_with (refine wpList_load27 rfl (.tmp 6) rfl _ rfl (fun j => .bool (s.testBit j)) ((unhide HR).below (b_al _)) ?_)
      obtain ⟨wo, rfl⟩ : ∃ wo, wo = wr := ⟨_, rfl⟩
      have HR4 := hide ((unhide HR).below (b_al (.cells #[] 3)))
      have HB4 := hide ((unhide HB).alloc (Nat.le_of_lt hsz) (.cells #[] 3))
      have HO4 := hide (owns_lit_empty wo 3 1 (w1.heap.size + 1) hsz)
      have hfc := fun k (h : k < 64) => fcells_at (fun j => .bool (s.testBit j)) 64 k h
      generalize hfg : (fcells (fun j => .bool (s.testBit j)) 64).toArray = fc at hfc ⊢
      have HFC := hide hfc
      clear hfc hfg HR3 HB3 HX
      go_loopw [9, 44] (fun v i wr => ∃ j : Nat, i = .int .i64 j ∧ j ≤ 64 ∧ Hid (wr.ownsRow (w1.heap.size + 1) 3 1 v (lowS s j).length (zcells (toIs (lowS s j)))) ∧ Hid (Row wr w1.heap.size 27 64 (fun j => .bool (s.testBit j))) ∧ Hid (Below w1.heap.size w1 wr)) (fun v i wr => 64 - (intOf i).toNat)
      case atStart => exact ⟨0, rfl, by omega, HO4, HR4, HB4⟩
      case round =>
        obtain ⟨j, rfl, hj, HO5, HR5, HB5⟩ := hrel
        have hs5 := (unhide HR5).lt
        by_cases hlt : j < 64
        · have hlt2 : (j : Int) < 64 := by omega
          have hix := fun w => run_index27 w fc j _ hlt (unhide HFC j hlt)
          have HHAS := hide (fun (u : World) => show Calls Tryd.prog 9 #[.int .u64 s, .int .i64 j] u fun e w' => e = .returned (.bool (s.testBit j)) ∧ Below u.heap.size u w' from by
            refine (has_any u s hsl j).mono ?_
            rintro e w' ⟨rfl, hb⟩
            exact ⟨ret_b (hasI_nat hsl j), hb⟩)
          have hlow : lowS s (j + 1) = if s.testBit j = true then lowS s j ++ [j] else lowS s j := by
            split
            · rename_i h; exact lowS_step s j j (Nat.le_refl _) (fun i h1 h2 => by omega) h
            · rename_i h
              refine lowS_gap s j (j + 1) (by omega) fun i h1 h2 => ?_
              obtain rfl : i = j := by omega
              simpa using h
          have HLOW := hide hlow
          clear hlow
          generalize s.testBit j = r at hix HHAS HLOW ⊢
          go_wp2_with fail
          refine (unhide HHAS wr).mono ?_
          rintro e w5 ⟨rfl, hb5⟩
          have HB6 := hide ((unhide HB5).trans (hb5.mono (Nat.le_of_lt hs5)))
          have HR6 := hide ((unhide HR5).below hb5)
          have HO6 := hide (owns_below (unhide HO5) hb5)
          have hs6 := (unhide HR6).lt
          have hll := lowS_len s j
          clear hb5 HB5 HR5 HO5 HHAS
          cases r with
          | false =>
            go_wp2_with fail
            go_roundw
            case rel =>
              refine ⟨j + 1, by go_num, by omega, ?_, HR6, HB6⟩
              rw [unhide HLOW]
              exact HO6
            case measure => simp [intOf]; omega
          | true =>
            go_wp2_with (at_builtin; refine wpList_append_own _ rfl (.tmp 54) (.tmp 56) 22 rfl (w1.heap.size + 1) 3 i0 (.int .i64 0) 1 8 Tryd.underlying22 (unhide HI) (unhide HZ0) (unhide HZ1) (unhide HZ2) rfl (by decide) u9 (lowS s j).length (zcells (toIs (lowS s j))) rfl ((unhide HO6).alloc _) ⟨w5.heap.size, 0, none⟩ 1 1 [.int .i64 j] rfl rfl (cell_one_new _ _ _) (one_int j) ?a3 ?a4 ?a5 ?_)
            case a3 => unfold maxLen; omega
            case a4 => omega
            case a5 => first | omega | (simp; omega)
            intro v2 w7 hown7 hg7 _
            rw [zcells_snoc, toIs_snoc] at hown7
            have hbb : Below (w1.heap.size + 1) w5 w7 := ((Below.refl _ _).alloc hs6 _).grown hg7 (by simp; omega) fun t ht => ((unhide HO6).lt t ht).1
            have HB7 := hide ((unhide HB6).trans (hbb.mono (by omega)))
            have HR7 := hide ((unhide HR6).keep (hbb.block _ (by omega)))
            have HO7 := hide hown7
            clear hown7 hg7 hbb
            go_wp2_with fail
            go_roundw
            case rel =>
              refine ⟨j + 1, by go_num, by omega, ?_, HR7, HB7⟩
              rw [unhide HLOW, if_true, List.length_append]
              exact HO7
            case measure => simp [intOf]; omega
        · obtain rfl : j = 64 := by omega
          rw [show lowS s 64 = allS s from rfl] at HO5
          go_wp2_with fail
          rw [show ((64 : Nat) : Int) = 64 from rfl]
          obtain ⟨wp, rfl⟩ : ∃ wp, wp = wr := ⟨_, rfl⟩
          go_loopw [61] (fun i wr => ∃ j : Nat, i = .int .i64 j ∧ j ≤ m ∧ Hid (Row wr w1.heap.size 27 64 (fun j => .bool (s.testBit j))) ∧ Hid (Below wp.heap.size wp wr)) (fun i wr => m - (intOf i).toNat)
          case atStart => exact ⟨0, rfl, by omega, HR5, Below.refl _ _⟩
          case round =>
            obtain ⟨q, rfl, hq, HR6, HB6⟩ := hrel
            have hs6 := (unhide HR6).lt
            have hs6' := (unhide HB6).size
            by_cases hlt : q < m
            · obtain ⟨g, off, ha, hg, c0⟩ := (unhide HY).2.2 q hlt
              subst ha
              have d0 : wr.cell? ⟨g, off + q, none⟩ = some (.int .i64 (ys.getD q 0)) := by rw [(unhide HB6).cell (p := ⟨g, off + q, none⟩) (by show g < wp.heap.size; omega), (unhide HB5).cell (p := ⟨g, off + q, none⟩) (by show g < w1.heap.size; omega), (unhide HB1).cell (p := ⟨g, off + q, none⟩) hg]; exact c0
              clear c0
              generalize ys.getD q 0 = x at *
              have hlt2 : (q : Int) < (m : Int) := by omega
              go_wp2_with fail
              refine (has_any wr s hsl x).mono ?_
              rintro e w7 ⟨rfl, hb7⟩
              have HB7 := hide ((unhide HB6).trans (hb7.mono hs6'))
              have HR7 := hide ((unhide HR6).below hb7)
              have HH := hide (hasI_iff s x)
              clear hb7 HR6 HB6
              have hs7 := (unhide HR7).lt
              have h63 := i64_and63 x
              by_cases h0 : 0 ≤ x
              · by_cases h1 : x < 64
                · have hx63 : x % 64 = x := by omega
                  rw [hx63] at h63
                  have r0 := (unhide HR7).cell (t := x.toNat) (by omega)
                  have hr : hasI s x = s.testBit x.toNat := by
                    rw [Bool.eq_iff_iff, unhide HH]
                    exact ⟨fun h => h.2.2, fun h => ⟨h0, h1, h⟩⟩
                  rw [hr]
                  clear hr
                  generalize s.testBit x.toNat = r at *
                  go_wp2_with fail
                  go_roundw
                  case rel => exact ⟨q + 1, by go_num, by omega, HR7, HB7⟩
                  case measure => simp [intOf]; omega
                · have hr : hasI s x = false := by
                    cases h : hasI s x with
                    | false => rfl
                    | true => exact absurd ((unhide HH).1 h).2.1 h1
                  rw [hr]
                  have h1' : decide (x < 64) = false := decide_eq_false h1
                  go_wp2_with fail
                  go_roundw
                  case rel => exact ⟨q + 1, by go_num, by omega, HR7, HB7⟩
                  case measure => simp [intOf]; omega
              · have hr : hasI s x = false := by
                  cases h : hasI s x with
                  | false => rfl
                  | true => exact absurd ((unhide HH).1 h).1 h0
                rw [hr]
                have d1 : decide (0 ≤ x) = false := decide_eq_false h0
                go_wp2_with fail
                go_roundw
                case rel => exact ⟨q + 1, by go_num, by omega, HR7, HB7⟩
                case measure => simp [intOf]; omega
            · obtain rfl : q = m := by omega
              have hal : (allS s).length ≤ 64 := lowS_len s 64
              obtain ⟨a9, c9, rfl, _, hn9⟩ := ns_of_owns (unhide HO5) (by omega)
              have N9 := hide (hn9.below (unhide HB6))
              have HBW := hide (bto (unhide HB1) (bto (unhide HB5) (unhide HB6)))
              clear hn9
              go_wp2_with fail
              refine (all_any wr ((unhide HT).below (unhide HBW)) s hsl).mono ?_
              rintro e w8 ⟨⟨v8, rfl, ho8⟩, hb8⟩
              obtain ⟨a8, c8, rfl, _, hn8⟩ := ns_of_owns ho8 (by omega)
              have N8 := hide hn8
              have N9' := hide ((unhide N9).below hb8)
              have HB8 := hide (bto (unhide HBW) hb8)
              clear hn8 ho8 hb8
              go_wp2_with fail
              refine (same_yes w8 a8 a9 _ c8 c9 _ (unhide N8) (unhide N9')).mono ?_
              rintro e w9 ⟨rfl, mm, hw9⟩
              have HB9 := hide (bto (unhide HB8) (show Below w8.heap.size w8 w9 by rw [hw9]; exact below_refl_draws _ _))
              clear hw9 N8 N9' N9
              go_wp2_with fail
              refine (all_any w9 ((unhide HT).below (unhide HB9)) s hsl).mono ?_
              rintro e w10 ⟨⟨v10, rfl, ho10⟩, hb10⟩
              obtain ⟨a10, c10, rfl, _, hn10⟩ := ns_of_owns ho10 (by omega)
              have N10 := hide hn10
              have HB10 := hide (bto (unhide HB9) hb10)
              clear hn10 ho10 hb10
              go_wp2_with fail
              refine (of_any w10 a10 _ c10 _ (unhide N10)).mono ?_
              rintro e w11 ⟨rfl, hw11⟩
              obtain rfl := hw11.symm
              clear hw11
              rw [ofS_allS hsl]
              go_wp2_with fail
              go_ret
              exact ⟨rfl, unhide HB10⟩

set_option maxHeartbeats 1000000 in
theorem sets_big (w : World) (hT : Tab w) (a b : Option Addr) (n c m d : Nat) (h : 200 < n ∨ 100 < m) :
    Calls Tryd.prog 3 #[.slice a n c, .slice b m d] w fun e w' => e = .returned (.bool true) ∧ Below w.heap.size w w' := by
  have HT := hide hT
  clear hT
  by_cases hn : 200 < n
  · have hn' : (200 : Int) < (n : Int) := by omega
    have hd : decide ((200 : Int) < (n : Int)) = true := decide_eq_true hn'
    go_enter Tryd.func3, Tryd.ntmps3
    go_wp2_with fail
    refine (speaks_any w (unhide HT)).mono ?_
    rintro e w1 ⟨rfl, hb1⟩
    have HB1 := hide hb1
    clear hb1
    go_wp2_with fail
    go_ret
    exact ⟨rfl, unhide HB1⟩
  · have hn' : ¬ (200 : Int) < (n : Int) := by omega
    have hm' : (100 : Int) < (m : Int) := by omega
    have hd : decide ((200 : Int) < (n : Int)) = false := decide_eq_false hn'
    have hd2 : decide ((100 : Int) < (m : Int)) = true := decide_eq_true hm'
    go_enter Tryd.func3, Tryd.ntmps3
    go_wp2_with fail
    refine (speaks_any w (unhide HT)).mono ?_
    rintro e w1 ⟨rfl, hb1⟩
    have HB1 := hide hb1
    clear hb1
    go_wp2_with fail
    go_ret
    exact ⟨rfl, unhide HB1⟩
end Go.Proofs.YtjklmbboklgdpaaDoor


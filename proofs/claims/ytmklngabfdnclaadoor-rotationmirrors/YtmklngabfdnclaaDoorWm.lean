/-
  The walk of the statement RotationMirrors. Conditions: the graph and the lists lie in memory as told; the table of math/bits lies where it should.
-/
import Derived.Test.YtmklngabfdnclaaDoorMm
namespace Go.Proofs.YtmklngabfdnclaaDoor
open Go.RowKit Go.Maps
set_option linter.unusedVariables false
set_option maxRecDepth 20000

theorem mod_at (s k ln : Nat) (hk : k < ln) : ∃ x : Nat, x < ln ∧ (k + s) % ln = x ∧ ((k : Int) + (s : Int)).tmod (ln : Int) = (x : Int) := by
  refine ⟨(k + s) % ln, Nat.mod_lt _ (by omega), rfl, ?_⟩
  rw [show (k : Int) + (s : Int) = ((k + s : Nat) : Int) by omega, ← Int.ofNat_tmod]

/-- append onto an own row, where its guard is met -/
theorem wpList_append_own_g {Pr : Program} (w : World) {ops : Array Oper} {rest : List Oper} {o : Oper} {a : Act} {Q : Exit → Act → World → Prop} (hgd : Region.wanted o (yielded ops a.tmps) = true) (s x : Operand) (t : TypeId)
    (ho : o.op = .call { callee := .builtin .append, args := #[s, x], argTypes := #[t, t] })
    (base : Nat) (e : TypeId) (i : TypeInfo) (z : Value) (size bytes : Nat) (ht : Pr.underlying t = some (.slice e)) (hi : Pr.info? e = some i) (hz : i.zero = some z)
    (hsize : i.size = size) (hby : i.bytes = bytes) (hzs : z.cells.size = size) (hsz : 0 < size)
    (v : Value) (n : Nat) (xs : List Value) (hs : a.eval s = v) (hown : w.ownsRow base e size v n xs)
    (ad : Addr) (m c : Nat) (news : List Value) (hx : a.eval x = .slice (some ad) m c) (hl : news.length = m * size) (hnews : ∀ j u, news[j]? = some u → w.cell? (ad.add j) = some u) (h1 : ∀ u ∈ news, u.oneCell' = true)
    (h63 : n + m ≤ maxLen) (hbytes : (n + m) * bytes ≤ 140737488355328) (hbase : base ≤ w.heap.size)
    (h : ∀ v' w', w'.ownsRow base e size v' (n + m) (xs ++ news) → w.grownBy w' v.ownBlock → (v' = .slice none 0 0 ↔ v = .slice none 0 0 ∧ m = 0) → wpList Pr ops Q rest (a.put o.dst v') w') : wpList Pr ops Q (o :: rest) a w :=
  wpList_step fun K hK => by
    rw [if_pos hgd]
    exact wp_append_own w s x t ho base e i z size bytes ht hi hz hsize hby hzs hsz v n xs hs hown ad m c news hx hl hnews h1 h63 hbytes hbase fun v' w' h2 h3 h4 => hK _ _ (h v' w' h2 h3 h4)

set_option maxHeartbeats 16000000 in
theorem mirrors_walk (w : World) (V : Int) (a : Option Addr) (n cap : Nat) (ra : Option Addr) (m rc : Nat) (rs : List (List Int)) (hq : Rq w ra m rs) (hg : ¬ GreatP n m rs) (turn : Int) (P : Prop)
    (h10 : ∀ u, Below w.heap.size w u → Calls Tryd.prog 10 #[.agg #[.int .i64 V, .slice a n cap], .slice ra m rc] u fun e w' => Told P e ∧ Below u.heap.size u w')
    (hP : P → ∃ Fa Fb F g, MirD w V a n cap ra m rc rs Fa Fb F g) :
    Calls Tryd.prog 4 #[.agg #[.int .i64 V, .slice a n cap], .slice ra m rc, .int .i64 turn] w fun e w' => e = .returned (.bool true) ∧ Below w.heap.size w w' := by
  have hn60 : n ≤ 60 := Nat.le_of_not_lt fun h => hg (.inl h)
  have hm70 : m ≤ 70 := Nat.le_of_not_lt fun h => hg (.inr (.inl h))
  have hl200 : ∀ k, k < m → (rs.getD k []).length ≤ 200 := fun k hk => Nat.le_of_not_lt fun h => hg (.inr (.inr ⟨k, hk, h⟩))
  have hr : Rr w ra m rs := hq.rr (by omega) fun k hk => by have := hl200 k hk; omega
  have hlr : rs.length = m := hr.1
  obtain ⟨ms, hms⟩ : ∃ ms, rs.map List.reverse = ms := ⟨_, rfl⟩
  have hmsl : ms.length = m := by rw [← hms, List.length_map, hlr]
  have hmsg : ∀ t, ms.getD t [] = (rs.getD t []).reverse := fun t => by rw [← hms, revs_getD]
  have hmm : ms.map List.reverse = rs := by rw [← hms, revs_revs]
  obtain ⟨s, hs⟩ : ∃ s : Nat, turn % 256 = (s : Int) := ⟨(turn % 256).toNat, (Int.toNat_of_nonneg (Int.emod_nonneg _ (by decide))).symm⟩
  have hs256 : s < 256 := by have := Int.emod_lt_of_pos turn (show (0 : Int) < 256 by decide); omega
  have HAND := hide (show bits .and .i64 turn 255 = (s : Int) by rw [i64_and255, hs])
  obtain ⟨os, hos⟩ : ∃ os, rs.map (rotS s) = os := ⟨_, rfl⟩
  have hosl : os.length = m := by rw [← hos, List.length_map, hlr]
  have hosg : ∀ t, os.getD t [] = rotS s (rs.getD t []) := fun t => by rw [← hos]; exact maps_getD (rotS s) rfl rs t
  have hsam : sameB rs os = true := sameB_yes (by rw [← hos]; exact sameR_rots s rs)
  have hsam0 : sameB rs rs = true := sameB_yes (sameR_refl rs)
  have hsam1 : ∀ x, sameB rs (os ++ [x]) = false := fun x => sameB_no fun h => by have := h.1; rw [List.length_append, hosl, hlr] at this; simp at this
  have C15 := hide (fun (u : World) (hu : Below w.heap.size w u) => mirror_any u ra m rc rs (hr.below hu) (by omega) (fun k hk => by have := hl200 k hk; omega))
  have C15s := hide (fun (u : World) (sa : Option Addr) (sc : Nat) (hs : Rr u sa m ms) => mirror_any u sa m sc ms hs (by omega) (fun k hk => by have := hl200 k hk; rw [hmsg, List.length_reverse]; omega))
  rw [hms] at C15
  rw [hmm] at C15s
  have C10 := hide h10
  have HR := hide hq
  have HG := hide hg
  have HRr := hide hr
  have HPD := hide hP
  have HL2 := hide hl200
  have HLR := hide hlr
  have HMS := hide hms
  have HML := hide hmsl
  have HMG := hide hmsg
  have HOL := hide hosl
  have HOG := hide hosg
  have HB0 := hide (Bg.start w (.int .i64 V) (.slice a n cap))
  clear hq hg h10 hP hl200 hr hlr hms hmsl hmsg hmm hs hos hosl hosg
  go_enter Tryd.func4, Tryd.ntmps4
  go_wp2_with fail
  refine (speaks_any _).mono ?_
  rintro e w1 ⟨rfl, hb1⟩
  have HB1 := hide ((unhide HB0).step hb1)
  obtain ⟨g0, g1⟩ := (unhide HB1).cells
  clear hb1 HB0
  go_wp2_with fail
  refine (great_any w1 V a n cap ra m rc rs ((unhide HR).below (unhide HB1).bel)).mono ?_
  rintro e w2 ⟨⟨r, rfl, hr⟩, hb2⟩
  have hrt : r = false := by
    cases r with
    | false => rfl
    | true => exact absurd (hr.1 rfl) (unhide HG)
  subst hrt
  have HB2 := hide ((unhide HB1).step hb2)
  clear hb2 HB1 g0 g1 hr
  go_wp2_with fail
  refine (unhide C15 w2 (unhide HB2).bel).mono ?_
  rintro e w3 ⟨⟨sa, sc, rfl, hs3⟩, hb3⟩
  have HB3 := hide ((unhide HB2).step hb3)
  have HS3 := hide hs3
  have C15t := hide (unhide C15s w3 sa sc hs3)
  have t1 : ((m : Int) != (m : Int)) = false := by simp
  clear hb3 HB2 hs3 C15 C15s
  go_wp2_with fail
  refine (unhide C15t).mono ?_
  rintro e w4 ⟨⟨ta, tc, rfl, ht4⟩, hb4⟩
  have HB4 := hide ((unhide HB3).step hb4)
  have HS4 := hide ((unhide HS3).below hb4)
  have C16 := hide (same_any w4 ta ra m m tc rc rs rs (fun _ => ht4) (fun _ => (unhide HRr).below (unhide HB4).bel) (unhide HLR) (unhide HLR))
  rw [hsam0] at C16
  clear hb4 HB3 HS3 ht4 C15t
  go_wp2_with fail
  refine (unhide C16).mono ?_
  rintro e w5 ⟨rfl, hw5⟩
  have hb5 : Below w4.heap.size w4 w5 := by obtain ⟨mm, rfl⟩ := hw5; exact below_refl_draws _ _
  have HB5 := hide ((unhide HB4).step hb5)
  have HS5 := hide ((unhide HS4).below hb5)
  have HR5 := hide ((unhide HRr).below (unhide HB5).bel)
  clear hb5 HB4 HS4 hw5 C16
  have HO0 := hide (Oz.start w5)
  obtain ⟨j0, hj0, hy0, hy1, hy2⟩ := info_parts info28
  have HJ := hide hj0
  have HY0 := hide hy0
  have HY1 := hide hy1
  have HY2 := hide hy2
  obtain ⟨i0, hi0, hz0, hz1, hz2⟩ := info_parts info3
  have HI := hide hi0
  have HZ0 := hide hz0
  have HZ1 := hide hz1
  have HZ2 := hide hz2
  clear hj0 hy0 hy1 hy2 hi0 hz0 hz1 hz2
  go_wp2_with fail
  go_loopw [8, 46] (fun v8 v46 wr => ∃ (t : Nat) (R : Nat → Value), v46 = .int .i64 t ∧ t ≤ m ∧ Hid (Oz w5 wr v8 R (os.take t))) (fun v8 v46 wr => m - (intOf v46).toNat)
  case atStart => exact ⟨0, _, rfl, by omega, HO0⟩
  case round =>
    clear HO0
    rename World => w6
    obtain ⟨t, R, rfl, ht, HO⟩ := hrel
    have HBr := hide ((unhide HB5).step (unhide HO).bel)
    by_cases htm : t < m
    · have htm2 : (t : Int) < (m : Int) := by omega
      obtain ⟨gr, or, la, lc, hra, hgr, cr, hlc, hla⟩ := ((unhide HR5).below (unhide HO).bel).2.2 t htm
      obtain ⟨gs, og, lb, lbc, hsa, hgs, cs, hlbc, hlb⟩ := ((unhide HS5).below (unhide HO).bel).2.2 t htm
      subst hra
      subst hsa
      have hl2 := unhide HL2 t htm
      have hmg := unhide HMG t
      have hog := unhide HOG t
      rw [hmg, List.length_reverse] at cs hlb
      have htl : (os.take t).length = t := by rw [List.length_take, unhide HOL]; omega
      have hsn := take_snoc (rs := os) (t := t) (by rw [unhide HOL]; exact htm)
      rw [hog] at hsn
      have HTL := hide htl
      have HSN := hide hsn
      clear htl hsn hmg hog hlc hlbc
      generalize rs.getD t [] = lq at *
      obtain ⟨ln, hln⟩ : ∃ ln, lq.length = ln := ⟨_, rfl⟩
      rw [hln] at cr cs hla hlb hl2
      have HLN := hide hln
      have HLA := hide hla
      have HLB := hide hlb
      have t2 : ((ln : Int) != (ln : Int)) = false := by simp
      have HX0 := hide (Below.refl w6.heap.size w6)
      clear hln hla hlb
      go_wp2_with fail
      go_loopw [61] (fun v61 wx => ∃ k : Nat, v61 = .int .i64 k ∧ k ≤ ln ∧ Hid (Below w6.heap.size w6 wx)) (fun v61 wx => ln - (intOf v61).toNat)
      case atStart => exact ⟨0, rfl, by omega, HX0⟩
      case round =>
        clear HX0
        obtain ⟨k, rfl, hk, HX⟩ := hrel
        by_cases hkl : k < ln
        · have hkl2 : (k : Int) < (ln : Int) := by omega
          obtain ⟨j, hj⟩ : ∃ j : Nat, k + j + 1 = ln := ⟨ln - 1 - k, by omega⟩
          have hj1 : (ln : Int) - 1 - (k : Int) = (j : Int) := by omega
          have hj2 : (j : Int) < (ln : Int) := by omega
          have hw1 : IntKind.i64.wrap ((ln : Int) - 1) = (ln : Int) - 1 := by rw [IntKind.wrap_i64]; omega
          have hw2 : IntKind.i64.wrap ((j : Int)) = (j : Int) := by rw [IntKind.wrap_i64]; omega
          obtain ⟨gl, ol, hla', hgl, cl⟩ := ((unhide HLA).below (unhide HX)).2.2 j (by omega)
          obtain ⟨gb, ob, hlb', hgb, cb⟩ := ((unhide HLB).below (unhide HX)).2.2 k hkl
          subst hla'
          subst hlb'
          have e0 : wr.cell? ⟨gs, og + t, none⟩ = some (.slice (some ⟨gb, ob, none⟩) ln lbc) := ((unhide HX).cell (p := ⟨gs, og + t, none⟩) hgs).trans cs
          rw [rev_getD _ (by rw [unhide HLN]; exact hkl), unhide HLN, show ln - 1 - k = j by omega] at cb
          have hgs2 : gs < wr.heap.size := Nat.lt_of_lt_of_le hgs (unhide HX).size
          generalize lq.getD j 0 = z at cl cb
          have t3 : ((z : Int) != z) = false := by simp
          have HJ' := hide hj
          clear hj
          go_wp2_with fail
          go_quiet (fail)
          go_wp2_with fail
          go_roundw
          case rel => exact ⟨k + 1, by go_num, by omega, below_draws (unhide HX) _⟩
          case measure => simp [intOf]; omega
        · obtain rfl : ln = k := by omega
          rename World => w7
          have HO7 := hide ((unhide HO).step (unhide HX))
          have HLA7 := hide ((unhide HLA).below (unhide HX))
          have HOE := hide (show (w7.alloc (.cells #[] 3)).ownsRow w7.heap.size 3 1 (.slice (some ⟨w7.heap.size, 0, none⟩) 0 0) 0 (zcells ((rotS s lq).take 0)) from owns_lit_empty w7 3 1 _ (Nat.le_refl _))
          have HBE := hide (b_al (w := w7) (.cells #[] 3))
          clear HO HX HLA HLB cs cr hgs hgr
          go_wp2_with fail
          go_loopw [12, 84] (fun v12 v84 wx => ∃ k : Nat, v84 = .int .i64 k ∧ k ≤ ln ∧ Hid (wx.ownsRow w7.heap.size 3 1 v12 k (zcells ((rotS s lq).take k))) ∧ Hid (Below w7.heap.size w7 wx)) (fun v12 v84 wx => ln - (intOf v84).toNat)
          case atStart => exact ⟨0, rfl, by omega, HOE, HBE⟩
          case round =>
            clear HOE HBE
            obtain ⟨k, rfl, hk, HK, HX⟩ := hrel
            have hs8 := (unhide HX).size
            by_cases hkl : k < ln
            · have hkl2 : (k : Int) < (ln : Int) := by omega
              obtain ⟨x, hxl, hxe, hxT⟩ := mod_at s k ln hkl
              have HXT := hide hxT
              have hx2 : (x : Int) < (ln : Int) := by omega
              have hxW : IntKind.i64.wrap (x : Int) = (x : Int) := by rw [IntKind.wrap_i64]; omega
              have hksW : IntKind.i64.wrap ((k : Int) + (s : Int)) = (k : Int) + (s : Int) := by rw [IntKind.wrap_i64]; omega
              have hln0 : ¬ ln = 0 := by omega
              obtain ⟨gl, ol, hla', hgl, cl⟩ := ((unhide HLA7).below (unhide HX)).2.2 x hxl
              subst hla'
              have hsn2 : (rotS s lq).take (k + 1) = (rotS s lq).take k ++ [lq.getD x 0] := by
                have hkr : k < (rotS s lq).length := by rw [rotS_length, unhide HLN]; exact hkl
                rw [List.take_succ_eq_append_getElem hkr]
                congr 2
                rw [← getD_eq hkr, rotS_getD s lq (by rw [unhide HLN]; exact hkl), unhide HLN, hxe]
              have HSN2 := hide hsn2
              generalize lq.getD x 0 = z at cl HSN2
              clear hsn2 hxe hxT
              have hAnd := unhide HAND
              have hxT := unhide HXT
              go_wp2_with (at_builtin; refine wpList_append_own _ rfl (.tmp 87) (.tmp 98) 36 rfl w7.heap.size 3 i0 (.int .i64 0) 1 8 Tryd.underlying36 (unhide HI) (unhide HZ0) (unhide HZ1) (unhide HZ2) rfl (by decide) u12 k _ rfl ((unhide HK).alloc _) ⟨wr.heap.size, 0, none⟩ 1 1 [.int .i64 z] rfl rfl (cell_one_new _ _ _) (one_i _) ?a3 ?a4 ?a5 ?_)
              case a3 => unfold maxLen; omega
              case a4 => omega
              case a5 => simp; omega
              intro v9 w9 ho9 hg9 _
              have HK9 := hide (show w9.ownsRow w7.heap.size 3 1 v9 (k + 1) (zcells ((rotS s lq).take (k + 1))) by rw [unhide HSN2, ← zcells_snoc]; exact ho9)
              have HX9 := hide (((unhide HX).trans ((b_al (w := wr) (.cells #[.int .i64 z] 3)).mono hs8)).grown hg9 (by simp; omega) fun b hb => ((unhide HK).lt b hb).1)
              clear ho9 hg9 HK HX hAnd hxT
              go_wp2_with fail
              go_roundw
              case rel => exact ⟨k + 1, by go_num, by omega, HK9, HX9⟩
              case measure => simp [intOf]; omega
            · obtain rfl : ln = k := by omega
              rename World => w8
              have HK8 := hide (show w8.ownsRow w7.heap.size 3 1 u12 ln (zcells (rotS s lq)) by have := unhide HK; rwa [show (rotS s lq).take ln = rotS s lq from List.take_of_length_le (by rw [rotS_length, unhide HLN]; exact Nat.le_refl _)] at this)
              obtain ⟨xa, xc, rfl⟩ := owns_slice (unhide HK8)
              have HBO := hide (unhide HO7).bel.size
              have HOL8 := hide ((unhide HO7).step (unhide HX))
              have hs85 := (unhide HOL8).bel.size
              have HOWN := hide (show w8.ownsRow w5.heap.size 36 1 u8 t ((List.range t).map R) by have := (unhide HOL8).own; rwa [unhide HTL] at this)
              clear HK HX HO7 HLA7 hs8
              go_wp2_with (at_builtin; refine wpList_append_own _ rfl (.tmp 101) (.tmp 103) 37 rfl w5.heap.size 36 j0 (.slice none 0 0) 1 24 Tryd.underlying37 (unhide HJ) (unhide HY0) (unhide HY1) (unhide HY2) rfl (by decide) u8 t _ rfl ((unhide HOWN).alloc _) ⟨w8.heap.size, 0, none⟩ 1 1 [.slice xa ln xc] rfl rfl (cell_one_new _ _ _) (one_s _ _ _) ?a3 ?a4 ?a5 ?_)
              case a3 => unfold maxLen; omega
              case a4 => omega
              case a5 => simp; omega
              intro v9 w9 ho9 hg9 _
              have hp9 := ((unhide HOL8).step (b_al (.cells #[.slice xa ln xc] 36))).push (x := rotS s lq) (show (w8.alloc _).ownsRow w5.heap.size 3 1 (.slice xa ln xc) (rotS s lq).length (zcells (rotS s lq)) by rw [rotS_length, unhide HLN]; exact owns_mono (owns_below (unhide HK8) (b_al _)) (unhide HBO)) (by rw [unhide HTL]; exact ho9) hg9
              rw [← unhide HSN] at hp9
              have HP9 := hide hp9
              clear hp9 ho9 hg9
              go_wp2_with fail
              go_roundw
              case rel => exact ⟨t + 1, _, by go_num, by omega, HP9⟩
              case measure => simp [intOf]; omega
    · obtain rfl : m = t := by omega
      have HOq := hide (show Oz w5 w6 u8 R os by have := unhide HO; rwa [show os.take m = os from List.take_of_length_le (by rw [unhide HOL]; exact Nat.le_refl _)] at this)
      have hrd := (unhide HOq).read (by rw [unhide HOL]; omega) (fun j hj => by
        rw [unhide HOL] at hj
        rw [unhide HOG, rotS_length]
        have := unhide HL2 j hj
        omega)
      rw [unhide HOL] at hrd
      obtain ⟨ba, bc, rfl, hbc, hrd⟩ := hrd
      have HS6 := hide ((unhide HS5).below (unhide HOq).bel)
      have C16 := hide (same_any w6 ra ba m m rc bc rs os (fun _ => (unhide HR5).below (unhide HOq).bel) (fun _ => hrd) (unhide HLR) (unhide HOL))
      rw [hsam] at C16
      have HOWN := hide (show w6.ownsRow w5.heap.size 36 1 (.slice ba m bc) m ((List.range m).map R) by have := (unhide HOq).own; rwa [unhide HOL] at this)
      have h56 := (unhide HOq).bel.size
      clear HO hrd hbc
      go_wp2_with fail
      refine (unhide C16).mono ?_
      rintro e w7 ⟨rfl, hw7⟩
      have hb7 : Below w6.heap.size w6 w7 := by obtain ⟨mm, rfl⟩ := hw7; exact below_refl_draws _ _
      have HB7 := hide ((unhide HBr).step hb7)
      have HS7 := hide ((unhide HS6).below hb7)
      have HR7 := hide ((unhide HRr).below (unhide HB7).bel)
      have HOWN7 := hide (owns_below (unhide HOWN) hb7)
      have h57 := Nat.le_trans h56 hb7.size
      have H57 := hide (show Below w5.heap.size w5 w7 from (unhide HOq).bel.trans (hb7.mono h56))
      clear hb7 HBr HS6 hw7 C16 HOWN HOq
      go_wp2_with (at_builtin; refine wpList_append_own_g _ (by rfl) (.tmp 112) (.tmp 114) 37 rfl w5.heap.size 36 j0 (.slice none 0 0) 1 24 Tryd.underlying37 (unhide HJ) (unhide HY0) (unhide HY1) (unhide HY2) rfl (by decide) (.slice ba m bc) m _ rfl (((unhide HOWN7).alloc _).alloc _) ⟨w7.heap.size + 1, 0, none⟩ 1 1 [.slice (some ⟨w7.heap.size, 0, none⟩) 1 1] rfl rfl (by have := cell_one_new (w7.alloc (.cells #[.int .i64 1] 3)) (.slice (some ⟨w7.heap.size, 0, none⟩) 1 1) 36; simpa using this) (one_s _ _ _) ?a3 ?a4 ?a5 ?_)
      case a3 => unfold maxLen; omega
      case a4 => omega
      case a5 => simp; omega
      intro v8 w8 ho8 hg8 _
      have hb8 : Below w5.heap.size w7 w8 := (((Below.refl w5.heap.size w7).alloc h57 _).alloc (by simp; omega) _).grown hg8 (by simp; omega) fun b hb => ((unhide HOWN7).lt b hb).1
      obtain ⟨oa, oc, rfl⟩ := owns_slice ho8
      have HB8 := hide ((unhide HB7).stepB (unhide HB5).lt hb8)
      have HS8 := hide ((unhide HS5).below ((unhide H57).trans hb8))
      have C16 := hide (same_any w8 ra oa m (m + 1) rc oc rs (os ++ [[1]]) (fun h => absurd h (by omega)) (fun h => absurd h (by omega)) (unhide HLR) (by rw [List.length_append, unhide HOL]; rfl))
      rw [hsam1] at C16
      clear ho8 hg8 hb8 HB7 HS7 HR7 H57 HOWN7 HB5 HS5 HR5 hsam hsam0 hsam1
      go_wp2_with fail
      refine (unhide C16).mono ?_
      rintro e w9 ⟨rfl, hw9⟩
      have hb9 : Below w8.heap.size w8 w9 := by obtain ⟨mm, rfl⟩ := hw9; exact below_refl_draws _ _
      have HB9 := hide ((unhide HB8).step hb9)
      have HS9 := hide ((unhide HS8).below hb9)
      clear hb9 hw9 HB8 HS8 C16
      obtain ⟨g0, g1⟩ := (unhide HB9).cells
      go_wp2_with fail
      refine (unhide C10 w9 (unhide HB9).bel).mono ?_
      rintro e w10 ⟨⟨r, rfl, hr⟩, hb10⟩
      have HB10 := hide ((unhide HB9).step hb10)
      have HS10 := hide ((unhide HS9).below hb10)
      clear hb10 HB9 HS9 C10 g0 g1
      cases r with
      | false =>
        go_wp2_with fail
        go_ret
        exact ⟨rfl, (unhide HB10).bel⟩
      | true =>
        obtain ⟨Fa, Fb, F, g, hD⟩ := unhide HPD (hr.1 rfl)
        have HD := hide hD
        clear hr HPD
        have hS1 : Sg w w10 V a n cap w10 := Sg.start (unhide HB10)
        have hS0 : Sg w w10 V a n cap w10.drew := Sg.keep b_dr hS1
        have HC8 := hide (fun (u : World) (hu : Sg w w10 V a n cap u) => show Calls Tryd.prog 8 #[.agg #[.int .i64 V, .slice a n cap], .slice ra m rc] u fun e w' => (∃ va vc, e = .returned (.slice va F vc) ∧ Hid (Rr w' va F Fa)) ∧ Below u.heap.size u w' from hD.f u hu.bel)
        have HC8s := hide (fun (u : World) (hu : Sg w w10 V a n cap u) => show Calls Tryd.prog 8 #[.agg #[.int .i64 V, .slice a n cap], .slice sa m sc] u fun e w' => (∃ va vc, e = .returned (.slice va F vc) ∧ Hid (Rr w' va F Fb)) ∧ Below u.heap.size u w' from hD.fs u sa sc hu.bel (by rw [unhide HMS]; exact (unhide HS10).below (unhide hu.2.2.2)))
        clear hD
        go_upto_region 32 with fail
        go_region_held3 (fun u => u.cell? ⟨w.heap.size, 0, none⟩ = some (.int .i64 (V : Int)) ∧ u.cell? ⟨w.heap.size, 1, none⟩ = some (.slice a n cap) ∧ Hid (Bg w u (.int .i64 (V : Int)) (.slice a n cap)) ∧ Hid (Below w10.heap.size w10 u)) (first | exact hS0 | exact hS1 | assumption | exact Sg.keep hb23 (by assumption) | exact Sg.keep hb22 (by assumption)) ((go_at_call 8; first | (with_reducible refine (unhide HC8 _ ?hs8).mono ?_; (case hs8 => first | assumption | exact hS0); rintro e w22 ⟨⟨pa, pc, rfl, HP22⟩, hb22⟩) | (with_reducible refine (unhide HC8s _ ?hs8).mono ?_; (case hs8 => first | assumption | exact hS0 | exact Sg.keep hb22 (by first | assumption | exact hS0)); rintro e w23 ⟨⟨qa, qc, rfl, HQ23⟩, hb23⟩)))
        have hSE : Sg w w10 V a n cap w23 := by assumption
        have HP23 : Hid (Rr w23 pa F Fa) := (unhide HP22).below hb23
        have HS23 : Hid (Rr w23 sa m ms) := (unhide HS10).below (unhide hSE.2.2.2)
        have HB23 : Hid (Bg w w23 (.int .i64 V) (.slice a n cap)) := hSE.2.2.1
        clear hSE hS0 hS1 HC8 HC8s HP22 hb22 hb23 HB10 HS10
        obtain ⟨g0, g1⟩ := (unhide HB23).cells
        go_wp2_with fail
        refine ((unhide HD).h w23 (unhide HB23).bel).mono ?_
        rintro e w24 ⟨rfl, hb24⟩
        have HB24 := hide ((unhide HB23).step hb24)
        have HP24 := hide ((unhide HP23).below hb24)
        have HQ24 := hide ((unhide HQ23).below hb24)
        have HS24 := hide ((unhide HS23).below hb24)
        clear hb24 HB23 HP23 HQ23 HS23 g0 g1
        obtain ⟨g0, g1⟩ := (unhide HB24).cells
        go_wp2_with fail
        refine ((unhide HD).hs w24 sa sc (unhide HB24).bel (by rw [unhide HMS]; exact unhide HS24)).mono ?_
        rintro e w25 ⟨rfl, hb25⟩
        have HB25 := hide ((unhide HB24).step hb25).bel
        have HP25 := hide ((unhide HP24).below hb25)
        have HQ25 := hide ((unhide HQ24).below hb25)
        have hF := (unhide HD).le
        have HLAB := hide (And.intro (unhide HD).la (unhide HD).lb)
        have HEND := hide (dif2_end (unhide HD).la (unhide HD).lb (unhide HD).cnt)
        have t5 : ((F : Int) != (F : Int)) = false := by simp
        have t6 : ((g : Int) != (g : Int)) = false := by simp
        have hmk := @run_makeMap Tryd.prog
        have HZ0' := hide (show ∃ D, Sz (w25.alloc (.map #[] 0)) w25.heap.size (2 * 0) (dif2 Fa Fb 0) D from ⟨_, (Sz.start w25).congr fun z => by simp [dif2, cntL]⟩)
        have HX0 := hide (b_al (w := w25) (.map #[] 0))
        clear hb25 HB24 HP24 HQ24 HS24 HD g0 g1 HMS HML HMG HOL HOG HAND HL2 HLR HRr HG HR
        go_wp2_with fail
        go_loopw [161] (fun v161 wr => ∃ k : Nat, v161 = .int .i64 k ∧ k ≤ F ∧ Hid (∃ D, Sz wr w25.heap.size (2 * k) (dif2 Fa Fb k) D) ∧ Hid (Below w25.heap.size w25 wr)) (fun v161 wr => F - (intOf v161).toNat)
        case atStart => exact ⟨0, rfl, by omega, HZ0', HX0⟩
        case round =>
          clear HZ0' HX0 hmk
          obtain ⟨k, rfl, hk, HZ, HX⟩ := hrel
          obtain ⟨D, hz⟩ := unhide HZ
          have HZ := hide hz
          by_cases hkF : k < F
          · have hkF2 : (k : Int) < (F : Int) := by omega
            obtain ⟨ga, oa, xa, xc, hpa, hga, ca, _, hxa⟩ := (unhide HP25).2.2 k hkF
            obtain ⟨gb, ob, ya, yc, hqa, hgb, cb, _, hyb⟩ := (unhide HQ25).2.2 k hkF
            subst hpa
            subst hqa
            have hna := hxa.2.1
            have hnb := hyb.2.1
            have hstep := fun (na nb : Nat) (h1 : (Fa.getD k []).length = na) (h2 : (Fb.getD k []).length = nb) => dif2_step (Fa := Fa) (Fb := Fb) (k := k) (by rw [(unhide HLAB).1]; exact hkF) (by rw [(unhide HLAB).2]; exact hkF) h1 h2
            have hstep := hstep _ _ rfl rfl
            clear hxa hyb
            generalize (Fa.getD k []).length = na at ca hna hstep
            generalize (Fb.getD k []).length = nb at cb hnb hstep
            have HSTEP := hide hstep
            have da : wr.cell? ⟨ga, oa + k, none⟩ = some (.slice xa na xc) := ((unhide HX).cell (p := ⟨ga, oa + k, none⟩) hga).trans ca
            have hga2 : ga < wr.heap.size := Nat.lt_of_lt_of_le hga (unhide HX).size
            have hkey : keyOf Tryd.prog 3 (.int .i64 (na : Int)) = some (.int .i64 (na : Int)) := keyOf_int_mk Tryd.underlying3 (WalkArith.wf_i64 (by omega))
            have HKEY := hide hkey
            have HKEY2 := hide (show keyOf Tryd.prog 3 (.int .i64 (nb : Int)) = some (.int .i64 (nb : Int)) from keyOf_int_mk Tryd.underlying3 (WalkArith.wf_i64 (by omega)))
            have hbd1 := dif2_bd Fa Fb k (by omega) na
            have hbd2 := dif2_bd Fa Fb k (by omega) nb
            clear ca hstep hz hkey
            go_wp2_with (at_lookup; refine wpList_lookup_own_int _ rfl _ _ 40 rfl 3 3 .i64 law3 Tryd.underlying40 Tryd.underlying3 (zero3 _) w25.heap.size (2 * k) D rfl (unhide HZ).1 _ _ rfl (unhide HKEY) ?_)
            intro c hat hwc
            have hc := (unhide HZ).at hat
            have HC := hide hc
            have hcb : -1000 ≤ c ∧ c ≤ 1000 := by rw [hc]; exact hbd1
            have hcw : IntKind.i64.wrap (c + 1) = c + 1 := by rw [IntKind.wrap_i64]; omega
            clear hat hwc hc
            go_wp2_with (at_mapUpdate; refine wpList_mapUpdate_own _ rfl _ _ _ 40 rfl 3 3 law3 Tryd.underlying40 _ w25.heap.size (2 * k) D rfl (unhide HZ).1 (by unfold maxLen; omega) _ _ _ rfl rfl (unhide HKEY) _ [] (plainElem_int Tryd.underlying3 (WalkArith.wf_i64 (by omega))) ?_)
            intro w26 hown26 hg26
            have HZ26 := hide ((unhide HZ).put (na : Int) _ hown26)
            have HX26 := hide ((unhide HX).grown hg26 (unhide HX).size (fun j hj => by cases hj; exact Nat.le_refl _))
            have db : w26.cell? ⟨gb, ob + k, none⟩ = some (.slice ya nb yc) := ((unhide HX26).cell (p := ⟨gb, ob + k, none⟩) hgb).trans cb
            have hgb2 : gb < w26.heap.size := Nat.lt_of_lt_of_le hgb (unhide HX26).size
            clear hown26 hg26 HZ HX da hga2 cb hcw
            go_wp2_with (at_lookup; refine wpList_lookup_own_int _ rfl _ _ 40 rfl 3 3 .i64 law3 Tryd.underlying40 Tryd.underlying3 (zero3 _) w25.heap.size (2 * k + 1) _ rfl (unhide HZ26).1 _ _ rfl (unhide HKEY2) ?_)
            intro c2 hat hwc
            have hc2 := (unhide HZ26).at hat
            have hc2b : -1001 ≤ c2 ∧ c2 ≤ 1001 := by
              split at hc2 <;> omega
            have HC2 := hide hc2
            have hcw2 : IntKind.i64.wrap (c2 - 1) = c2 - 1 := by rw [IntKind.wrap_i64]; omega
            clear hat hwc hc2
            go_wp2_with (at_mapUpdate; refine wpList_mapUpdate_own _ rfl _ _ _ 40 rfl 3 3 law3 Tryd.underlying40 _ w25.heap.size (2 * k + 1) _ rfl (unhide HZ26).1 (by unfold maxLen; omega) _ _ _ rfl rfl (unhide HKEY2) _ [] (plainElem_int Tryd.underlying3 (WalkArith.wf_i64 (by omega))) ?_)
            intro w27 hown27 hg27
            have HZ27 := hide (show ∃ D, Sz w27 w25.heap.size (2 * (k + 1)) (dif2 Fa Fb (k + 1)) D from ⟨_, ((unhide HZ26).put (nb : Int) _ hown27).congr fun z => by
              rw [← unhide HSTEP z]
              have e1 := unhide HC
              have e2 := unhide HC2
              rw [e2, e1]⟩)
            have HX27 := hide ((unhide HX26).grown hg27 (unhide HX26).size (fun j hj => by cases hj; exact Nat.le_refl _))
            clear hown27 hg27 HZ26 HX26 db hgb2 hcw2 HC HC2 HSTEP
            go_wp2_with fail
            go_roundw
            case rel => exact ⟨k + 1, by go_num, by omega, HZ27, HX27⟩
            case measure => simp [intOf]; omega
          · obtain rfl : F = k := by omega
            rename World => w26
            clear hz
            go_wp2_with (at_range; refine wpList_range_own _ rfl _ 40 rfl 3 3 law3 Tryd.underlying40 _ w25.heap.size (2 * F) D rfl (unhide HZ).1 ?_)
            intro w0 hrg0 hg0 hs0
            have HRG0 := hide hrg0
            have HX0 := hide ((unhide HX).grown hg0 (unhide HX).size (fun j hj => by cases hj))
            have hBr := (unhide HX).size
            clear hrg0 hg0 hs0
            go_wp2_with fail
            go_loopw [23] (fun _ wr => ∃ (left : Lit → Bool) (cnt : Nat), Hid (wr.ranges Tryd.prog 3 (plainElem Tryd.prog 3) w25.heap.size w26.heap.size (2 * F) D left cnt) ∧ Hid (Below w25.heap.size w25 wr)) (fun _ wr => wr.rangeLeft w25.heap.size w26.heap.size)
            case atStart => exact ⟨_, _, HRG0, HX0⟩
            case round =>
              clear HRG0 HX0
              obtain ⟨left, cnt, HRG, HXr⟩ := hrel
              go_wp2_with (at_next; refine wpList_next_ranges_ii _ rfl _ rfl 3 3 .i64 .i64 law3 Tryd.underlying3 Tryd.underlying3 w25.heap.size w26.heap.size (2 * F) D _ _ rfl (unhide HRG) ?_ ?_)
              · intro _ hl0
                clear hl0
                go_wp2_with fail
                go_ret
                exact ⟨rfl, (unhide HB25).trans ((unhide HXr).mono (unhide HB25).size)⟩
              · intro x c w1' cnt1 hwx hwc hlx hat hrg1 hlt hg1 hs1 hen
                have hc0 : c = 0 := ((unhide HZ).at (hat _)).trans (unhide HEND x)
                subst hc0
                have HRG1 := hide hrg1
                have HXr1 := hide ((unhide HXr).grown hg1 (unhide HXr).size (fun j hj => by cases hj; exact hBr))
                have HLT := hide hlt
                clear hat hrg1 hg1 hs1 hlx hwx hwc hlt
                go_wp2_with fail
                go_roundw
                case rel => exact ⟨_, _, HRG1, HXr1⟩
                case measure => rw [(unhide HRG1).left_eq, (unhide HRG).left_eq]; exact unhide HLT
theorem mirrors_out (w : World) (V : Int) (a : Option Addr) (n cap : Nat) (ra : Option Addr) (m rc : Nat) (rs : List (List Int)) (hq : Rq w ra m rs) (hg : GreatP n m rs) (turn : Int) :
    Calls Tryd.prog 4 #[.agg #[.int .i64 V, .slice a n cap], .slice ra m rc, .int .i64 turn] w fun e w' => e = .returned (.bool true) ∧ Below w.heap.size w w' := by
  have HR := hide hq
  have HB0 := hide (Bg.start w (.int .i64 V) (.slice a n cap))
  have HG := hide hg
  clear hq hg
  go_enter Tryd.func4, Tryd.ntmps4
  go_wp2_with fail
  refine (speaks_any _).mono ?_
  rintro e w1 ⟨rfl, hb1⟩
  have HB1 := hide ((unhide HB0).step hb1)
  obtain ⟨g0, g1⟩ := (unhide HB1).cells
  clear hb1 HB0
  go_wp2_with fail
  refine (great_any w1 V a n cap ra m rc rs ((unhide HR).below (unhide HB1).bel)).mono ?_
  rintro e w2 ⟨⟨r, rfl, hr⟩, hb2⟩
  have hrt : r = true := hr.2 (unhide HG)
  subst hrt
  have HB2 := hide ((unhide HB1).step hb2)
  clear hb2 HB1 g0 g1 hr
  go_wp2_with fail
  go_ret
  exact ⟨rfl, (unhide HB2).bel⟩

theorem mirrors_any (w : World) (hT : pt.Tab w) (V : Int) (a : Option Addr) (n cap : Nat) (zs : List (Int × Int)) (h : 200 < n ∨ Es 0 w a n zs) (ra : Option Addr) (m rc : Nat) (rs : List (List Int)) (hq : Rq w ra m rs) (turn : Int) :
    Calls Tryd.prog 4 #[.agg #[.int .i64 V, .slice a n cap], .slice ra m rc, .int .i64 turn] w fun e w' => e = .returned (.bool true) ∧ Below w.heap.size w w' := by
  by_cases hg : GreatP n m rs
  · exact mirrors_out w V a n cap ra m rc rs hq hg turn
  have hn60 : n ≤ 60 := Nat.le_of_not_lt fun h => hg (.inl h)
  have hm70 : m ≤ 70 := Nat.le_of_not_lt fun h => hg (.inr (.inl h))
  have hl200 : ∀ k, k < m → (rs.getD k []).length ≤ 200 := fun k hk => Nat.le_of_not_lt fun h => hg (.inr (.inr ⟨k, hk, h⟩))
  have hE : Es 0 w a n zs := h.resolve_left (by omega)
  have hr : Rr w ra m rs := hq.rr (by omega) fun k hk => by have := hl200 k hk; omega
  exact mirrors_walk w V a n cap ra m rc rs hq hg turn (IsRot V n zs rs)
    (fun u hu => refright_any u V a n cap zs (hE.below hu) ra m rc rs (hr.below hu) (fun k hk => by have := hl200 k hk; omega) (by omega))
    (fun hrot => mir_data w hT V a n cap zs hE hn60 ra m rc rs hr hrot)
end Go.Proofs.YtmklngabfdnclaaDoor


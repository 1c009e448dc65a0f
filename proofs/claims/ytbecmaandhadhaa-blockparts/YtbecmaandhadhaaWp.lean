/-
  The walk of the statement BlockParts. Conditions: the graph lies in memory as told.
-/
import Derived.Test.YtbecmaandhadhaaBq
import Derived.Deep.RegionHeld3
namespace Go.Proofs.Ytbecmaandhadhaa.pt
open Go.RowKit
set_option linter.unusedVariables false
set_option maxRecDepth 20000

set_option maxHeartbeats 4000000 in
theorem parts_loose (w : World) (V : Int) (a : Option Addr) (n cap : Nat) (zs : List (Int × Int)) (h : 200 < n ∨ Es 0 w a n zs) (hl : LooseP V n zs) :
    Calls Try.prog 5 #[.agg #[.int .i64 V, .slice a n cap]] w fun e w' => e = .returned (.bool true) ∧ Below w.heap.size w w' := by
  have HE := hide h
  have HL := hide hl
  have HB0 := hide (Bg.start w (.int .i64 V) (.slice a n cap))
  clear h hl
  go_enter Try.func5, Try.ntmps5
  go_wp2_with fail
  refine (speaks_any _).mono ?_
  rintro e w1 ⟨rfl, hb1⟩
  have HB1 := hide ((unhide HB0).step hb1)
  obtain ⟨g0, g1⟩ := (unhide HB1).cells
  clear hb1 HB0
  go_wp2_with fail
  refine (loose_any w1 V a n cap zs (B := 0) ((unhide HE).imp id fun h => h.below (unhide HB1).bel)).mono ?_
  rintro e w2 ⟨⟨r, rfl, hr⟩, hb2⟩
  have hrt : r = true := hr.2 (unhide HL)
  subst hrt
  have HB2 := hide ((unhide HB1).step hb2)
  clear hb2 HB1 g0 g1 hr
  go_wp2_with fail
  go_ret
  exact ⟨rfl, (unhide HB2).bel⟩

theorem newbox (u : World) (c : Array Value) : (u.alloc (.cells c 24)).heap[u.heap.size]? = some (.cells c 24 (0, 0)) ∧ Below u.heap.size u (u.alloc (.cells c 24)) ∧ (u.alloc (.cells c 24)).heap.size = u.heap.size + 1 :=
  ⟨(MapKept.heap_alloc u _).1, b_al _, by simp⟩

set_option maxHeartbeats 16000000 in
theorem parts_good (w : World) (V : Nat) (a : Option Addr) (n cap : Nat) (es : List (Nat × Nat)) (h : Es 0 w a n (toI es)) (hne : es.length = n) (hno : a = none → n = 0 ∧ cap = 0) (hp : Plain V es) (hnl : Df.NoLoop es) (L : List (List Nat)) (hL : IsBl es L) (hl : ¬ LooseP V n (toI es)) (hn : n ≤ 40) :
    Calls Try.prog 5 #[.agg #[.int .i64 V, .slice a n cap]] w fun e w' => e = .returned (.bool true) ∧ Below w.heap.size w w' := by
  have hv64 := hp.v64
  have hv1 := hp.v1
  obtain ⟨nL, hnL⟩ : ∃ nL, L.length = nL := ⟨_, rfl⟩
  have hnLn : nL ≤ n := by rw [← hnL, ← hne]; exact hL.len
  have hea := hL.each (by rw [hne]; omega)
  have C9 := hide (fun (u : World) (hu : Below w.heap.size w u) => blocks_good u V a cap es (B := 0) (by rw [hne]; exact h.below hu) (by rw [hne]; exact hno) hp hnl L hL)
  simp only [hne] at C9
  have HE := hide h
  have HP := hide hp
  have HNL := hide hnl
  have HL := hide hL
  have HNE := hide hne
  have HLL := hide hnL
  have HEA := hide hea
  have HLO := hide hl
  have HB0 := hide (Bg.start w (.int .i64 V) (.slice a n cap))
  obtain ⟨j0, hj0, hy0, hy1, hy2⟩ := info_parts info4
  have HJ := hide hj0
  have HY0 := hide hy0
  have HY1 := hide hy1
  have hyb : j0.bytes * V ≤ 281474976710656 := by rw [hy2]; omega
  have hybn : j0.bytes * n ≤ 281474976710656 := by rw [hy2]; omega
  clear h hp hnl hL hne hnL hea hl hno hj0 hy0 hy1 hy2
  go_enter Try.func5, Try.ntmps5
  go_wp2_with fail
  refine (speaks_any _).mono ?_
  rintro e w1 ⟨rfl, hb1⟩
  have HB1 := hide ((unhide HB0).step hb1)
  obtain ⟨g0, g1⟩ := (unhide HB1).cells
  clear hb1 HB0
  go_wp2_with fail
  refine (loose_any w1 V a n cap (toI es) (B := 0) (.inr ((unhide HE).below (unhide HB1).bel))).mono ?_
  rintro e w2 ⟨⟨r, rfl, hr⟩, hb2⟩
  have hrt : r = false := by
    cases r with
    | false => rfl
    | true => exact absurd (hr.1 rfl) (unhide HLO)
  subst hrt
  have HB2 := hide ((unhide HB1).step hb2)
  clear hb2 HB1 g0 g1 hr HLO
  obtain ⟨g0, g1⟩ := (unhide HB2).cells
  go_wp2_with (refine wpList_make_full _ rfl (.tmp 24) (.tmp 24) 38 rfl w2.heap.size 4 j0 (.bool false) 1 Try.underlying38 (unhide HJ) (unhide HY0) (unhide HY1) .i64 .i64 _ _ n rfl rfl rfl rfl hybn ?m1 ?m2 ?_)
  case m1 => unfold maxLen; omega
  case m2 => simp
  intro w3 hown3 hg3
  rw [toList_madeCells_one] at hown3
  have hb3 : Below w2.heap.size w2 w3 := ⟨hg3.os, hg3.tape, hg3.output, hg3.size, fun k hk => hg3.block k hk (by simp)⟩
  have HO3 := hide (show RowB w3 w2.heap.size n (fun _ => false) from Row.of_owns hown3)
  have HB3 := hide ((unhide HB2).step hb3)
  have hgs := (unhide HB2).lt
  have hgs3 := (unhide HO3).lt
  clear hown3 hg3 hb3 g0 g1 HB2
  obtain ⟨g0, g1⟩ := (unhide HB3).cells
  go_wp2_with fail
  refine (unhide C9 w3 (unhide HB3).bel).mono ?_
  rintro e w4 ⟨⟨la, lc, rfl, _, _, AK, CK, hls⟩, hb4⟩
  have HLS := hide hls
  have HB4 := hide ((unhide HB3).step hb4)
  have HO4 := hide (show RowB w4 w2.heap.size n (seenF L 0 0) from Row.congr (Row.below (unhide HO3) hb4) fun t ht => by rw [seenF_start])
  have h34 := hb4.size
  clear hls hb4 g0 g1 HB3 HO3 C9
  rw [unhide HLL] at HLS ⊢
  generalize hgsE : w2.heap.size = gs at *
  have HU0 := hide (Bu.refl gs w4)
  go_wp2_with fail
  go_loopw [29] (fun v29 wr => ∃ k : Nat, v29 = .int .i64 k ∧ k ≤ nL ∧ Hid (RowB wr gs n (seenF L k 0)) ∧ Hid (Bu gs w4 wr)) (fun v29 wr => nL - (intOf v29).toNat)
  case atStart => exact ⟨0, rfl, by omega, HO4, HU0⟩
  case round =>
    clear HU0 HO4
    obtain ⟨k, rfl, hk, HO5, HU5⟩ := hrel
    rename World => w5
    have HB5 := hide ((unhide HB4).stepB hgs (unhide HU5).bel)
    have hs5 := (unhide HU5).bel.size
    by_cases hkL : k < nL
    · have hkL2 : (k : Int) < (nL : Int) := by omega
      have hmem : L.getD k [] ∈ L := by
        have : k < L.length := by rw [unhide HLL]; exact hkL
        simp [List.getD, this]
      obtain ⟨hBne, hB128, hBm⟩ := unhide HEA _ hmem
      rw [unhide HNE] at hBm
      have hrow : ∀ W, Bu gs w4 W → ∃ g off, la = some ⟨g, off, none⟩ ∧ g < W.heap.size ∧ W.cell? ⟨g, off + k, none⟩ = some (.slice (AK k) (L.getD k []).length (CK k)) ∧ Ns W (AK k) (L.getD k []).length (toIs (L.getD k [])) := fun W hW => by
        obtain ⟨g, off, h1, h2, h3, _, _, h6⟩ := unhide HLS W hW.bel.size (hW.kp hgs3) k hkL
        exact ⟨g, off, h1, h2, h3, h6⟩
      have HNS := hide (fun W hW => show Ns W (AK k) (L.getD k []).length (toIs (L.getD k [])) by obtain ⟨_, _, _, _, _, h6⟩ := hrow W hW; exact h6)
      obtain ⟨gl, ol, hla, hgl, cl, _⟩ := hrow w5 (unhide HU5)
      subst hla
      have HNEW := hide (fun (t : Nat) (ht : t < (L.getD k []).length) => seenF_new (unhide HL).cls.nd (k := k) (by rw [unhide HLL]; exact hkL) ht)
      have HSTP := hide (fun (t : Nat) (ht : t < (L.getD k []).length) => seenF_step (L := L) (k := k) ht)
      have HNXT := hide (seenF_next (L := L) (k := k) (by rw [unhide HLL]; exact hkL))
      have HPO := hide (fun (gone : Int) (Lf : Nat → Int) h v v' hv hv' h1 h2 => parts_one (unhide HP) (unhide HNL) (unhide HL) hmem gone (Lf := Lf) h (v := v) (v' := v') hv hv' h1 h2)
      have HPL := hide (esOf_plain (unhide HP) (B := L.getD k []) (by rw [unhide HNE]; exact hBm) hB128)
      clear hrow hmem hBne
      generalize AK k = ak at cl HNS
      generalize CK k = ck at cl
      generalize L.getD k [] = B at cl HNS HNEW HSTP HNXT HPO HPL hBm hB128
      obtain ⟨nb, hnb⟩ : ∃ nb, B.length = nb := ⟨_, rfl⟩
      simp only [hnb] at cl HNS HNEW HSTP HNXT hB128
      have HNB := hide hnb
      have HBM := hide hBm
      clear hnb hBm
      obtain ⟨g0, g1⟩ := (unhide HB5).cells
      have hlt5 : gs < w5.heap.size := (unhide HO5).lt
      go_upto_region 10 with fail
      obtain ⟨nb0, nb1, nb2⟩ := newbox w5 #[.int .i64 V, .slice none 0 0]
      generalize w5.alloc (.cells #[.int .i64 V, .slice none 0 0] 24) = w6 at nb0 nb1 nb2 ⊢
      have HB6 := hide ((unhide HB5).step nb1)
      clear g0 g1 cl
      obtain ⟨g0, g1⟩ := (unhide HB6).cells
      go_wp2_with (refine wpList_make_full _ rfl (.tmp 37) (.tmp 37) 38 rfl w6.heap.size 4 j0 (.bool false) 1 Try.underlying38 (unhide HJ) (unhide HY0) (unhide HY1) .i64 .i64 _ _ V rfl rfl rfl rfl hyb ?m1 ?m2 ?_)
      case m1 => unfold maxLen; omega
      case m2 => simp
      intro w7 hown7 hg7
      rw [toList_madeCells_one] at hown7
      have hb7 : Below w6.heap.size w6 w7 := ⟨hg7.os, hg7.tape, hg7.output, hg7.size, fun k hk => hg7.block k hk (by simp)⟩
      have hrow7 : RowB w7 (w5.heap.size + 1) V (fun _ => false) := Row.of_owns hown7
      have HIN0 := hide (show In gs w5 w7 n V (seenF L k 0) (inF es (B.take 0)) (esOf es (B.take 0)) (.slice none 0 0) (.slice none 0 0) from
        ⟨hlt5, (Bu.of hlt5 nb1).trans (Bu.of (by omega) hb7), Row.below (Row.below (unhide HO5) nb1) hb7, (hb7.block _ (by omega)).trans nb0, Row.congr hrow7 fun t ht => by simp [inF], World.ownsRow_nil _ _ _ _, by have := hrow7.lt; omega⟩)
      clear hown7 hg7 hb7 hrow7 nb0 nb1 nb2 HB6 g0 g1
      go_wp2_with fail
      go_loopw [41] (fun v41 wr => ∃ (t : Nat) (ev : Value), v41 = .int .i64 t ∧ t ≤ nb ∧ Hid (In gs w5 wr n V (seenF L k t) (inF es (B.take t)) (esOf es (B.take t)) ev ev)) (fun v41 wr => nb - (intOf v41).toNat)
      case atStart => exact ⟨0, _, rfl, by omega, HIN0⟩
      case round =>
        clear HIN0
        obtain ⟨t, ev, rfl, ht, HIN⟩ := hrel
        have HB := hide ((unhide HB5).stepB hgs ((unhide HIN).bu.bel))
        by_cases htn : t < nb
        · have htn2 : (t : Int) < (nb : Int) := by omega
          obtain ⟨gb, ob, hak, hgb, cb⟩ := (unhide HNS wr ((unhide HU5).trans (unhide HIN).bu)).2.2 t htn
          subst hak
          rw [toIs_getD] at cb
          have hi : B.getD t 0 < n := unhide HBM _ (by have : t < B.length := by rw [unhide HNB]; exact htn
                                                       simp [List.getD, this])
          have hnew := unhide HNEW t htn
          have hstp := unhide HSTP t htn
          have hsn := take_snocN (B := B) (t := t) (by rw [unhide HNB]; exact htn)
          generalize B.getD t 0 = i at cb hi hnew hstp hsn
          have HSN := hide hsn
          have HST := hide hstp
          have hi2 : (i : Int) < (n : Int) := by omega
          have hi0 : decide ((i : Int) < 0) = false := decide_eq_false (by omega)
          have hi3 : decide (n ≤ i) = false := decide_eq_false (by omega)
          obtain ⟨ge, oe, ha, _, hge, _, _⟩ := (unhide HE).2.2 i hi
          subst ha
          obtain ⟨⟨p, q⟩, hpq⟩ : ∃ pq, es.getD i (0, 0) = pq := ⟨_, rfl⟩
          have hpV : p < V ∧ q < V := by have := (unhide HP).at (i := i) (by rw [unhide HNE]; exact hi); rw [show Pl.at' es i = (p, q) from hpq] at this; exact this
          have HED := hide (fun (W : World) (hW : Below w.heap.size w W) => show ge < W.heap.size ∧ W.cell? ⟨ge, oe + i * 2, none⟩ = some (.int .i64 (p : Int)) ∧ W.cell? ⟨ge, oe + i * 2 + 1, none⟩ = some (.int .i64 (q : Int)) by
            obtain ⟨g', o', h1, _, h2, h3, h4⟩ := ((unhide HE).below hW).2.2 i hi
            cases h1
            rw [toI_getD, hpq] at h3 h4
            exact ⟨h2, h3, h4⟩)
          have HPQ := hide hpq
          have r0 : wr.cell? ⟨gs, i, none⟩ = some (.bool false) := by rw [(unhide HIN).seen.cell hi, hnew]
          have r1 := (unhide HIN).seen.fz i
          obtain ⟨g0, g1⟩ := (unhide HB).cells
          clear hsn hstp hnew hpq
          go_upto_region 17 with fail
          have HI1 := hide ((unhide HIN).setSeen i)
          clear r0 r1 cb hgb g0 g1 HB HIN
          generalize wr.setCell ⟨gs, i, none⟩ (.bool true) = wa at HI1 ⊢
          have hB1 := (unhide HB5).stepB hgs ((unhide HI1).step b_dr).bu.bel
          have HS := hide (fun (W : World) (hW : Bu gs w5 W) => show W.cell? ⟨w.heap.size, 1, none⟩ = some (.slice (some ⟨ge, oe, none⟩) n cap) ∧ W.cell? ⟨ge, oe + i * 2, none⟩ = some (.int .i64 (p : Int)) ∧ W.cell? ⟨ge, oe + i * 2 + 1, none⟩ = some (.int .i64 (q : Int)) from by
            have hb := (unhide HB5).stepB hgs hW.bel
            exact ⟨hb.cells.2, (unhide HED W hb.bel).2⟩)
          have hs1 := unhide HS _ (unhide HI1).bu
          have HI2 := hide ((unhide HI1).step b_dr)
          have hlen := unhide HNB
          have htl : (esOf es (B.take t)).length = t := by simp [esOf]; omega
          clear hB1
          go_cut [9] from 63 to 73 (fun v9 wx => v9 = .int .i64 (i : Int) ∧ ∃ e', Hid (In gs w5 wx n V (upd (seenF L k t) i true) (inF es (B.take t)) (esOf es (B.take t) ++ [(p, q)]) e' e'))
          case first =>
            refine wp_region_held_drew (S := fun u => u.cell? ⟨w.heap.size, 1, none⟩ = some (.slice (some ⟨ge, oe, none⟩) n cap) ∧ u.cell? ⟨ge, oe + i * 2, none⟩ = some (.int .i64 (p : Int)) ∧ u.cell? ⟨ge, oe + i * 2 + 1, none⟩ = some (.int .i64 (q : Int))) (by kernel_rfl) hs1 (fun hS => ?_)
            generalize wa.drew = wd at HI2 hS ⊢
            clear HI1 hs1
            have c1 := (unhide HI2).cells.2.1
            refine wpAnyH_take (i := 0) (v := ?_) rfl (by kernel_rfl) (by kernel_rfl) (by kernel_rfl) (fun _ _ _ h => h) (Or.inl ⟨by rfl, ?_⟩) hS ?_
            rotate_left
            · intro u hu; (try dsimp only at hu); go_simp; try with_reducible rfl
            simp only [Act.put, List.getElem_toArray, List.getElem_cons_zero, List.setIfInBounds_toArray, List.set_cons_zero, List.set_cons_succ]
            refine wpAnyH_take (i := 2) (v := ?_) rfl (by kernel_rfl) (by kernel_rfl) (by kernel_rfl) (fun _ _ _ h => h) (Or.inl ⟨by rfl, ?_⟩) hS ?_
            rotate_left
            · intro u hu; (try dsimp only at hu); go_simp; try with_reducible rfl
            simp only [Act.put, List.getElem_toArray, List.getElem_cons_zero, List.getElem_cons_succ, List.setIfInBounds_toArray, List.set_cons_zero, List.set_cons_succ]
            refine wpAnyH_take (i := 3) (v := ?_) rfl (by kernel_rfl) (by kernel_rfl) (by kernel_rfl) (fun _ _ _ h => h) (Or.inl ⟨by rfl, ?_⟩) hS ?_
            rotate_left
            · intro u hu; (try dsimp only at hu); go_simp; try with_reducible rfl
            simp only [Act.put, List.getElem_toArray, List.getElem_cons_zero, List.getElem_cons_succ, List.setIfInBounds_toArray, List.set_cons_zero, List.set_cons_succ]
            refine wpAnyH_take (i := 4) (v := ?_) rfl (by kernel_rfl) (by kernel_rfl) (by kernel_rfl) (fun _ _ _ h => h) (Or.inl ⟨by rfl, ?_⟩) hS ?_
            rotate_left
            · intro u hu; (try dsimp only at hu); go_simp; try with_reducible rfl
            simp only [Act.put, List.getElem_toArray, List.getElem_cons_zero, List.getElem_cons_succ, List.setIfInBounds_toArray, List.set_cons_zero, List.set_cons_succ]
            refine wpAnyH_take (i := 5) (v := ?_) rfl (by kernel_rfl) (by kernel_rfl) (by kernel_rfl) (fun _ _ _ h => h) (Or.inl ⟨by rfl, ?_⟩) hS ?_
            rotate_left
            · intro u hu; (try dsimp only at hu); go_simp; try with_reducible rfl
            simp only [Act.put, List.getElem_toArray, List.getElem_cons_zero, List.getElem_cons_succ, List.setIfInBounds_toArray, List.set_cons_zero, List.set_cons_succ]
            refine wpAnyH_take (i := 6) (v := ?_) rfl (by kernel_rfl) (by kernel_rfl) (by kernel_rfl) (fun _ _ _ h => h) (Or.inl ⟨by rfl, ?_⟩) hS ?_
            rotate_left
            · intro u hu; (try dsimp only at hu); go_simp; try with_reducible rfl
            simp only [Act.put, List.getElem_toArray, List.getElem_cons_zero, List.getElem_cons_succ, List.setIfInBounds_toArray, List.set_cons_zero, List.set_cons_succ]
            refine wpAnyH_ready (rs := [1, 7]) (by kernel_rfl) (by simp) ?_
            refine AllReadyH.cons rfl (fun K hK => ?_) (AllReadyH.cons rfl (fun K hK => ?_) AllReadyH.nil)
            · go_simp
              refine hK.out _ _ hS (fun hS2 => ?_)
              clear hK K hS2
              refine wpAnyH_ready (rs := [7]) (by kernel_rfl) (by simp) ?_
              refine AllReadyH.cons rfl (fun K hK => ?_) AllReadyH.nil
              go_simp
              have HI3 := hide ((unhide HI2).step (b_al (.cells #[.int .i64 (p : Int), .int .i64 (q : Int)] 40)))
              have hbx : (wd.alloc (.cells #[.int .i64 (p : Int), .int .i64 (q : Int)] 40)).heap[wd.heap.size]? = some (.cells #[.int .i64 (p : Int), .int .i64 (q : Int)] 40 (0, 0)) := (MapKept.heap_alloc wd _).1
              refine hK.out _ _ (unhide HS _ (unhide HI3).bu) (fun hS2 => ?_)
              have HBX := hide hbx
              clear hK K hS HI2 hbx c1
              have hS := hS2
              clear hS2
              generalize wd.alloc (.cells #[.int .i64 (p : Int), .int .i64 (q : Int)] 40) = we at HI3 HBX hS ⊢
              generalize wd.heap.size = be at HBX ⊢
              have c1 := (unhide HI3).cells.2.1
              refine wpAnyH_ready (rs := [8]) (by kernel_rfl) (by simp) ?_
              refine AllReadyH.cons rfl (fun K hK => ?_) AllReadyH.nil
              rw [if_pos (by rfl)]
              refine In.app (unhide HI3) (unhide HBX) (.tmp 64) (.tmp 70) rfl rfl 1 rfl (by omega) ?_
              intro v' wf hi4 hbf
              have HI4 := hide hi4
              refine hK.out _ _ (unhide HS _ hi4.bu) (fun hS2 => ?_)
              clear hK K hS HI3 hi4 hbf HBX c1
              have hS := hS2
              clear hS2
              simp only [Act.put, List.getElem_toArray, List.getElem_cons_zero, List.getElem_cons_succ, List.setIfInBounds_toArray, List.set_cons_zero, List.set_cons_succ]
              obtain ⟨xa', xc', hxv⟩ := owns_slice (unhide HI4).own
              rw [List.length_append, htl, show [(p, q)].length = 1 from rfl] at hxv
              subst hxv
              refine wpAnyH_take (i := 9) (v := ?_) rfl (by kernel_rfl) (by kernel_rfl) (by kernel_rfl) (fun _ _ _ h => h) (Or.inl ⟨by rfl, ?_⟩) hS ?_
              rotate_left
              · intro u hu; (try dsimp only at hu); go_simp; try with_reducible rfl
              simp only [Act.put, List.getElem_toArray, List.getElem_cons_zero, List.getElem_cons_succ, List.setIfInBounds_toArray, List.set_cons_zero, List.set_cons_succ]
              refine wpAnyH_ready (rs := [10]) (by kernel_rfl) (by simp) ?_
              refine AllReadyH.cons rfl (fun K hK => ?_) AllReadyH.nil
              have q0 := (unhide HI4).cells.2.1
              have q1 := (unhide HI4).cells.2.2
              go_simp
              have HI5 := hide ((unhide HI4).store)
              refine hK.out _ _ (unhide HS _ (unhide HI5).bu) (fun hS2 => ?_)
              clear hK K hS HI4 q0 q1
              refine wpAnyH_done (by kernel_rfl) ?_ _
              go_wp2_with fail
              go_meet
              exact ⟨rfl, _, HI5⟩
            · go_simp
              have HI3 := hide ((unhide HI2).step (b_al (.cells #[.int .i64 (p : Int), .int .i64 (q : Int)] 40)))
              have hbx : (wd.alloc (.cells #[.int .i64 (p : Int), .int .i64 (q : Int)] 40)).heap[wd.heap.size]? = some (.cells #[.int .i64 (p : Int), .int .i64 (q : Int)] 40 (0, 0)) := (MapKept.heap_alloc wd _).1
              refine hK.out _ _ (unhide HS _ (unhide HI3).bu) (fun hS2 => ?_)
              have HBX := hide hbx
              clear hK K hS HI2 hbx c1
              have hS := hS2
              clear hS2
              generalize wd.alloc (.cells #[.int .i64 (p : Int), .int .i64 (q : Int)] 40) = we at HI3 HBX hS ⊢
              generalize wd.heap.size = be at HBX ⊢
              have c1 := (unhide HI3).cells.2.1
              refine wpAnyH_ready (rs := [1]) (by kernel_rfl) (by simp) ?_
              refine AllReadyH.cons rfl (fun K hK => ?_) AllReadyH.nil
              go_simp
              refine hK.out _ _ hS (fun hS2 => ?_)
              clear hK K hS2
              refine wpAnyH_ready (rs := [8]) (by kernel_rfl) (by simp) ?_
              refine AllReadyH.cons rfl (fun K hK => ?_) AllReadyH.nil
              rw [if_pos (by rfl)]
              refine In.app (unhide HI3) (unhide HBX) (.tmp 64) (.tmp 70) rfl rfl 1 rfl (by omega) ?_
              intro v' wf hi4 hbf
              have HI4 := hide hi4
              refine hK.out _ _ (unhide HS _ hi4.bu) (fun hS2 => ?_)
              clear hK K hS HI3 hi4 hbf HBX c1
              have hS := hS2
              clear hS2
              simp only [Act.put, List.getElem_toArray, List.getElem_cons_zero, List.getElem_cons_succ, List.setIfInBounds_toArray, List.set_cons_zero, List.set_cons_succ]
              obtain ⟨xa', xc', hxv⟩ := owns_slice (unhide HI4).own
              rw [List.length_append, htl, show [(p, q)].length = 1 from rfl] at hxv
              subst hxv
              refine wpAnyH_take (i := 9) (v := ?_) rfl (by kernel_rfl) (by kernel_rfl) (by kernel_rfl) (fun _ _ _ h => h) (Or.inl ⟨by rfl, ?_⟩) hS ?_
              rotate_left
              · intro u hu; (try dsimp only at hu); go_simp; try with_reducible rfl
              simp only [Act.put, List.getElem_toArray, List.getElem_cons_zero, List.getElem_cons_succ, List.setIfInBounds_toArray, List.set_cons_zero, List.set_cons_succ]
              refine wpAnyH_ready (rs := [10]) (by kernel_rfl) (by simp) ?_
              refine AllReadyH.cons rfl (fun K hK => ?_) AllReadyH.nil
              have q0 := (unhide HI4).cells.2.1
              have q1 := (unhide HI4).cells.2.2
              go_simp
              have HI5 := hide ((unhide HI4).store)
              refine hK.out _ _ (unhide HS _ (unhide HI5).bu) (fun hS2 => ?_)
              clear hK K hS HI4 q0 q1
              refine wpAnyH_done (by kernel_rfl) ?_ _
              go_wp2_with fail
              go_meet
              exact ⟨rfl, _, HI5⟩
          case rest =>
            clear HI1 HI2 hs1
            obtain ⟨rfl, e', HI5⟩ := hcut
            rename World => wg
            have hs1 := unhide HS _ (unhide HI5).bu
            have HI6 := hide ((unhide HI5).step b_dr)
            have hp2 : (p : Int) < (V : Int) := by omega
            have hq2 : (q : Int) < (V : Int) := by omega
            go_upto_region 18 with fail
            refine wp_region_held_drew (S := fun u => u.cell? ⟨w.heap.size, 1, none⟩ = some (.slice (some ⟨ge, oe, none⟩) n cap) ∧ u.cell? ⟨ge, oe + i * 2, none⟩ = some (.int .i64 (p : Int)) ∧ u.cell? ⟨ge, oe + i * 2 + 1, none⟩ = some (.int .i64 (q : Int))) (by kernel_rfl) hs1 (fun hS => ?_)
            generalize wg.drew = wd at HI6 hS ⊢
            clear HI5 hs1
            refine wpAnyH_take (i := 0) (v := ?_) rfl (by kernel_rfl) (by kernel_rfl) (by kernel_rfl) (fun _ _ _ h => h) (Or.inl ⟨by rfl, ?_⟩) hS ?_
            rotate_left
            · intro u hu; (try dsimp only at hu); go_simp; try with_reducible rfl
            simp only [Act.put, List.getElem_toArray, List.getElem_cons_zero, List.setIfInBounds_toArray, List.set_cons_zero, List.set_cons_succ]
            refine wpAnyH_take (i := 1) (v := ?_) rfl (by kernel_rfl) (by kernel_rfl) (by kernel_rfl) (fun _ _ _ h => h) (Or.inl ⟨by rfl, ?_⟩) hS ?_
            rotate_left
            · intro u hu; (try dsimp only at hu); go_simp; try with_reducible rfl
            simp only [Act.put, List.getElem_toArray, List.getElem_cons_zero, List.getElem_cons_succ, List.setIfInBounds_toArray, List.set_cons_zero, List.set_cons_succ]
            refine wpAnyH_take (i := 2) (v := ?_) rfl (by kernel_rfl) (by kernel_rfl) (by kernel_rfl) (fun _ _ _ h => h) (Or.inl ⟨by rfl, ?_⟩) hS ?_
            rotate_left
            · intro u hu; (try dsimp only at hu); go_simp; try with_reducible rfl
            simp only [Act.put, List.getElem_toArray, List.getElem_cons_zero, List.getElem_cons_succ, List.setIfInBounds_toArray, List.set_cons_zero, List.set_cons_succ]
            refine wpAnyH_take (i := 3) (v := ?_) rfl (by kernel_rfl) (by kernel_rfl) (by kernel_rfl) (fun _ _ _ h => h) (Or.inl ⟨by rfl, ?_⟩) hS ?_
            rotate_left
            · intro u hu; (try dsimp only at hu); go_simp; try with_reducible rfl
            simp only [Act.put, List.getElem_toArray, List.getElem_cons_zero, List.getElem_cons_succ, List.setIfInBounds_toArray, List.set_cons_zero, List.set_cons_succ]
            refine wpAnyH_take (i := 4) (v := ?_) rfl (by kernel_rfl) (by kernel_rfl) (by kernel_rfl) (fun _ _ _ h => h) (Or.inl ⟨by rfl, ?_⟩) hS ?_
            rotate_left
            · intro u hu; (try dsimp only at hu); go_simp; try with_reducible rfl
            simp only [Act.put, List.getElem_toArray, List.getElem_cons_zero, List.getElem_cons_succ, List.setIfInBounds_toArray, List.set_cons_zero, List.set_cons_succ]
            refine wpAnyH_take (i := 5) (v := ?_) rfl (by kernel_rfl) (by kernel_rfl) (by kernel_rfl) (fun _ _ _ h => h) (Or.inl ⟨by rfl, ?_⟩) hS ?_
            rotate_left
            · intro u hu; (try dsimp only at hu); go_simp; try with_reducible rfl
            simp only [Act.put, List.getElem_toArray, List.getElem_cons_zero, List.getElem_cons_succ, List.setIfInBounds_toArray, List.set_cons_zero, List.set_cons_succ]
            refine wpAnyH_take (i := 6) (v := ?_) rfl (by kernel_rfl) (by kernel_rfl) (by kernel_rfl) (fun _ _ _ h => h) (Or.inl ⟨by rfl, ?_⟩) hS ?_
            rotate_left
            · intro u hu; (try dsimp only at hu); go_simp; try with_reducible rfl
            simp only [Act.put, List.getElem_toArray, List.getElem_cons_zero, List.getElem_cons_succ, List.setIfInBounds_toArray, List.set_cons_zero, List.set_cons_succ]
            refine wpAnyH_take (i := 7) (v := ?_) rfl (by kernel_rfl) (by kernel_rfl) (by kernel_rfl) (fun _ _ _ h => h) (Or.inl ⟨by rfl, ?_⟩) hS ?_
            rotate_left
            · intro u hu; (try dsimp only at hu); go_simp; try with_reducible rfl
            simp only [Act.put, List.getElem_toArray, List.getElem_cons_zero, List.getElem_cons_succ, List.setIfInBounds_toArray, List.set_cons_zero, List.set_cons_succ]
            refine wpAnyH_take (i := 8) (v := ?_) rfl (by kernel_rfl) (by kernel_rfl) (by kernel_rfl) (fun _ _ _ h => h) (Or.inl ⟨by rfl, ?_⟩) hS ?_
            rotate_left
            · intro u hu; (try dsimp only at hu); go_simp; try with_reducible rfl
            simp only [Act.put, List.getElem_toArray, List.getElem_cons_zero, List.getElem_cons_succ, List.setIfInBounds_toArray, List.set_cons_zero, List.set_cons_succ]
            refine wpAnyH_take (i := 9) (v := ?_) rfl (by kernel_rfl) (by kernel_rfl) (by kernel_rfl) (fun _ _ _ h => h) (Or.inl ⟨by rfl, ?_⟩) hS ?_
            rotate_left
            · intro u hu; (try dsimp only at hu); go_simp; try with_reducible rfl
            simp only [Act.put, List.getElem_toArray, List.getElem_cons_zero, List.getElem_cons_succ, List.setIfInBounds_toArray, List.set_cons_zero, List.set_cons_succ]
            refine wpAnyH_take (i := 10) (v := ?_) rfl (by kernel_rfl) (by kernel_rfl) (by kernel_rfl) (fun _ _ _ h => h) (Or.inl ⟨by rfl, ?_⟩) hS ?_
            rotate_left
            · intro u hu; (try dsimp only at hu); go_simp; try with_reducible rfl
            simp only [Act.put, List.getElem_toArray, List.getElem_cons_zero, List.getElem_cons_succ, List.setIfInBounds_toArray, List.set_cons_zero, List.set_cons_succ]
            refine wpAnyH_take (i := 11) (v := ?_) rfl (by kernel_rfl) (by kernel_rfl) (by kernel_rfl) (fun _ _ _ h => h) (Or.inl ⟨by rfl, ?_⟩) hS ?_
            rotate_left
            · intro u hu; (try dsimp only at hu); go_simp; try with_reducible rfl
            simp only [Act.put, List.getElem_toArray, List.getElem_cons_zero, List.getElem_cons_succ, List.setIfInBounds_toArray, List.set_cons_zero, List.set_cons_succ]
            refine wpAnyH_take (i := 12) (v := ?_) rfl (by kernel_rfl) (by kernel_rfl) (by kernel_rfl) (fun _ _ _ h => h) (Or.inl ⟨by rfl, ?_⟩) hS ?_
            rotate_left
            · intro u hu; (try dsimp only at hu); go_simp; try with_reducible rfl
            simp only [Act.put, List.getElem_toArray, List.getElem_cons_zero, List.getElem_cons_succ, List.setIfInBounds_toArray, List.set_cons_zero, List.set_cons_succ]
            refine wpAnyH_take (i := 13) (v := ?_) rfl (by kernel_rfl) (by kernel_rfl) (by kernel_rfl) (fun _ _ _ h => h) (Or.inl ⟨by rfl, ?_⟩) hS ?_
            rotate_left
            · intro u hu; (try dsimp only at hu); go_simp; try with_reducible rfl
            simp only [Act.put, List.getElem_toArray, List.getElem_cons_zero, List.getElem_cons_succ, List.setIfInBounds_toArray, List.set_cons_zero, List.set_cons_succ]
            refine wpAnyH_take (i := 14) (v := ?_) rfl (by kernel_rfl) (by kernel_rfl) (by kernel_rfl) (fun _ _ _ h => h) (Or.inl ⟨by rfl, ?_⟩) hS ?_
            rotate_left
            · intro u hu; (try dsimp only at hu); go_simp; try with_reducible rfl
            simp only [Act.put, List.getElem_toArray, List.getElem_cons_zero, List.getElem_cons_succ, List.setIfInBounds_toArray, List.set_cons_zero, List.set_cons_succ]
            refine wpAnyH_ready (rs := [15]) (by kernel_rfl) (by simp) ?_
            refine AllReadyH.cons rfl (fun K hK => ?_) AllReadyH.nil
            have q0 := (unhide HI6).inn.cell hpV.1
            have q1 := (unhide HI6).inn.fz p
            go_simp
            have HI7 := hide ((unhide HI6).setIn p)
            refine hK.out _ _ (unhide HS _ (unhide HI7).bu) (fun hS2 => ?_)
            clear hK K hS HI6 q0 q1
            have hS := hS2
            clear hS2
            generalize wd.setCell ⟨w5.heap.size + 1, p, none⟩ (.bool true) = wh at HI7 hS ⊢
            refine wpAnyH_take (i := 16) (v := ?_) rfl (by kernel_rfl) (by kernel_rfl) (by kernel_rfl) (fun _ _ _ h => h) (Or.inl ⟨by rfl, ?_⟩) hS ?_
            rotate_left
            · intro u hu; (try dsimp only at hu); go_simp; try with_reducible rfl
            simp only [Act.put, List.getElem_toArray, List.getElem_cons_zero, List.getElem_cons_succ, List.setIfInBounds_toArray, List.set_cons_zero, List.set_cons_succ]
            refine wpAnyH_ready (rs := [17]) (by kernel_rfl) (by simp) ?_
            refine AllReadyH.cons rfl (fun K hK => ?_) AllReadyH.nil
            have q0 := (unhide HI7).inn.cell hpV.2
            have q1 := (unhide HI7).inn.fz q
            go_simp
            have HI8 := hide ((unhide HI7).setIn q)
            refine hK.out _ _ (unhide HS _ (unhide HI8).bu) (fun hS2 => ?_)
            clear hK K hS HI7 q0 q1 hS2
            refine wpAnyH_done (by kernel_rfl) ?_ _
            go_wp2_with fail
            go_roundw
            case rel =>
              refine ⟨t + 1, e', by go_num, by omega, (unhide HI8).congr (fun j => ?_) (fun j => ?_) ?_⟩
              · rw [unhide HST j]
                rfl
              · rw [unhide HSN, inF_snoc, unhide HPQ]
                unfold upd
                by_cases h1 : j = q
                · simp [h1]
                · by_cases h2 : j = p
                  · simp [h2]
                  · simp [h1, h2]
              · rw [unhide HSN, esOf_snoc, unhide HPQ]
            case measure => simp [intOf]; omega
        · obtain rfl : nb = t := by omega
          rename World => w8
          have htk : B.take nb = B := List.take_of_length_le (by rw [unhide HNB]; exact Nat.le_refl _)
          have HI := hide (show In gs w5 w8 n V (seenF L k nb) (inF es B) (esOf es B) ev ev by have := unhide HIN; rwa [htk] at this)
          obtain ⟨xa, xc, hxv⟩ := owns_slice (unhide HI).own
          have hel : (esOf es B).length = nb := by rw [esOf, List.length_map, unhide HNB]
          rw [hel] at hxv
          subst hxv
          have HES := hide (show Es 0 w8 xa nb (toI (esOf es B)) by
            have ho := (unhide HI).own
            rw [hel] at ho
            obtain ⟨a', c', h1, h2⟩ := es_of_owns ho (by omega)
            cases h1
            exact h2.mono (Nat.zero_le _))
          have HSQ := hide (show RowB w8 gs n (seenF L (k + 1) 0) from Row.congr (unhide HI).seen fun j hj => by rw [unhide HNXT j])
          have HNN := hide (unhide HI).inn
          have HBC := hide (And.intro (unhide HI).cells.1 (unhide HI).cells.2.1)
          have HU8 := hide ((unhide HU5).trans (unhide HI).bu)
          have h52 := (unhide HI).sz
          have HEL := hide hel
          have HX0 := hide (Below.refl w8.heap.size w8)
          clear HIN HI htk hel HNS HNEW HSTP HNXT HBM
          go_wp2_with fail
          go_loopw [10] (fun v10 wr => ∃ gi : Int, v10 = .int .i64 gi ∧ -1 ≤ gi ∧ gi ≤ (V : Int) ∧ Hid (Below w8.heap.size w8 wr)) (fun v10 wr => ((V : Int) - intOf v10).toNat)
          case atStart => exact ⟨-1, rfl, by omega, by omega, HX0⟩
          case round =>
            clear HX0
            obtain ⟨gi, rfl, hg1, hg2, HX⟩ := hrel
            rename World => w9
            have HB9 := hide ((unhide HB).step (unhide HX))
            obtain ⟨g0, g1⟩ := (unhide HB9).cells
            have HN9 := hide (show RowB w9 (w5.heap.size + 1) V (inF es B) from Row.below (unhide HNN) (unhide HX))
            by_cases hgV : gi < (V : Int)
            · obtain ⟨c, hc⟩ : ∃ c : Bool, c = (decide (0 ≤ gi) && !inF es B gi.toNat) := ⟨_, rfl⟩
              have HC := hide hc
              have hgw : IntKind.i64.wrap (gi + 1) = gi + 1 := by rw [IntKind.wrap_i64]; omega
              clear hc
              go_upto_region 23 with fail
              go_cut [104] from 96 to 104 (fun v104 wx => v104 = .bool c ∧ wx = w9)
              case first =>
                by_cases hgn : gi < 0
                · have hge : gi = -1 := by omega
                  have hc : c = false := by have := unhide HC; rw [hge] at this; simpa using this
                  subst hc
                  subst hge
                  go_wp2_with fail
                  go_meet
                  exact ⟨rfl, rfl⟩
                · obtain ⟨j, hj⟩ : ∃ j : Nat, gi = (j : Int) := ⟨gi.toNat, by omega⟩
                  have hc : c = !inF es B j := by have := unhide HC; rw [hj] at this; simpa using this
                  subst hj
                  have hjV : j < V := by omega
                  have q0 : w9.cell? ⟨w5.heap.size + 1, j, none⟩ = some (.bool (inF es B j)) := (unhide HN9).cell hjV
                  have HC' := hide hc
                  clear HC hc
                  cases hb : inF es B j with
                  | true =>
                    rw [hb] at q0
                    have HB' := hide hb
                    clear hb
                    go_wp2_with fail
                    go_meet
                    exact ⟨by rw [unhide HC', unhide HB']; rfl, rfl⟩
                  | false =>
                    rw [hb] at q0
                    have HB' := hide hb
                    clear hb
                    go_wp2_with fail
                    go_meet
                    exact ⟨by rw [unhide HC', unhide HB']; rfl, rfl⟩
              case rest =>
                obtain ⟨rfl, rfl⟩ := hcut
                rename World => w9
                cases c with
                | true =>
                  clear HC
                  go_wp2_with fail
                  go_roundw
                  case rel => exact ⟨gi + 1, rfl, by omega, by omega, HX⟩
                  case measure => simp only [intOf]; omega
                | false =>
                  clear HC
                  go_wp2_with (refine wpList_make_full _ rfl (.tmp 106) (.tmp 106) 38 rfl w9.heap.size 4 j0 (.bool false) 1 Try.underlying38 (unhide HJ) (unhide HY0) (unhide HY1) .i64 .i64 _ _ V rfl rfl rfl rfl hyb ?m1 ?m2 ?_)
                  case m1 => unfold maxLen; omega
                  case m2 => simp
                  intro w10 hown10 hg10
                  rw [toList_madeCells_one] at hown10
                  have HX10 := hide (show Below w9.heap.size w9 w10 from ⟨hg10.os, hg10.tape, hg10.output, hg10.size, fun k hk => hg10.block k hk (by simp)⟩)
                  have HO10 := hide (show RowB w10 w9.heap.size V (fun u => if u < 0 then woF es B gi u else false) from Row.congr (show RowB w10 w9.heap.size V (fun _ => false) from Row.of_owns hown10) fun t ht => by simp)
                  have h89 := (unhide HX).size
                  clear hown10 hg10 g0 g1
                  go_wp2_with fail
                  go_loopw [110] (fun v110 wr => ∃ v : Nat, v110 = .int .i64 v ∧ v ≤ V ∧ Hid (RowB wr w9.heap.size V (fun u => if u < v then woF es B gi u else false)) ∧ Hid (Below w9.heap.size w9 wr)) (fun v110 wr => V - (intOf v110).toNat)
                  case atStart => exact ⟨0, rfl, by omega, HO10, HX10⟩
                  case round =>
                    clear HO10 HX10
                    obtain ⟨v, rfl, hv, HO, HXv⟩ := hrel
                    by_cases hvV : v < V
                    · have hvV2 : (v : Int) < (V : Int) := by omega
                      have q0 : wr.cell? ⟨w5.heap.size + 1, v, none⟩ = some (.bool (inF es B v)) := (Row.keep (unhide HN9) ((unhide HXv).block _ (by omega))).cell hvV
                      have r0 := (unhide HO).cell hvV
                      have r1 := (unhide HO).fz v
                      have HSET := hide (fun (b : Bool) (hb : woF es B gi v = b) => show RowB (wr.setCell ⟨w9.heap.size, v, none⟩ (.bool b)) w9.heap.size V (fun u => if u < v + 1 then woF es B gi u else false) ∧ Below w9.heap.size w9 (wr.setCell ⟨w9.heap.size, v, none⟩ (.bool b)) from ⟨Row.congr (RowB.set (unhide HO) v b) fun u hu => by
                        unfold upd
                        by_cases h1 : u = v
                        · subst h1
                          simp [hb]
                        · by_cases h2 : u < v
                          · simp [h1, h2, show u < v + 1 by omega]
                          · simp [h1, h2, show ¬ u < v + 1 by omega], (unhide HXv).setCell (p := ⟨w9.heap.size, v, none⟩) (Nat.le_refl _) _⟩)
                      have HW := hide (show woF es B gi v = (!inF es B v || decide ((v : Int) = gi)) from rfl)
                      cases hb : inF es B v with
                      | false =>
                        rw [hb] at q0 HW
                        clear hb
                        have HS1 := hide (unhide HSET true (by rw [unhide HW]; rfl))
                        go_wp2_with fail
                        go_roundw
                        case rel => exact ⟨v + 1, by go_num, by omega, (unhide HS1).1, (unhide HS1).2⟩
                        case measure => simp [intOf]; omega
                      | true =>
                        rw [hb] at q0 HW
                        clear hb
                        by_cases hvg : (v : Int) = gi
                        · have HS1 := hide (unhide HSET true (by rw [unhide HW, hvg]; simp))
                          have t7 : ((v : Int) == gi) = true := by simp [hvg]
                          have HVG := hide hvg
                          clear hvg
                          go_wp2_with fail
                          go_roundw
                          case rel => exact ⟨v + 1, by go_num, by omega, (unhide HS1).1, (unhide HS1).2⟩
                          case measure => simp [intOf]; omega
                        · have HS1 := hide (unhide HSET false (by rw [unhide HW]; simp [hvg]))
                          have t7 : ((v : Int) == gi) = false := by simp [hvg]
                          have HVG := hide hvg
                          clear hvg
                          go_wp2_with fail
                          go_roundw
                          case rel => exact ⟨v + 1, by go_num, by omega, (unhide HS1).1, (unhide HS1).2⟩
                          case measure => simp [intOf]; omega
                    · obtain rfl : V = v := by omega
                      rename World => w11
                      have HO11 := hide (show RowB w11 w9.heap.size V (woF es B gi) from Row.congr (unhide HO) fun u hu => by simp [hu])
                      have h811 := Nat.le_trans h89 (unhide HXv).size
                      have HX11 := hide (show Below w8.heap.size w8 w11 from (unhide HX).trans ((unhide HXv).mono h89))
                      have c0 := ((unhide HX11).cell (p := ⟨w5.heap.size, 0, none⟩) (by show w5.heap.size < _; omega)).trans (unhide HBC).1
                      have c1 := ((unhide HX11).cell (p := ⟨w5.heap.size, 1, none⟩) (by show w5.heap.size < _; omega)).trans (unhide HBC).2
                      obtain ⟨Lf, hLf⟩ := isL_ex V (esOf es B) (woF es B gi)
                      obtain ⟨cv, hcv0, hcv⟩ : ∃ cv : Int, 0 ≤ cv ∧ ∀ u, u < V → woF es B gi u = false → Lf u = cv := by
                        by_cases hex : ∃ u, u < V ∧ woF es B gi u = false
                        · obtain ⟨u, hu, hw⟩ := hex
                          refine ⟨Lf u, ?_, fun u' hu' hw' => unhide HPO gi Lf hLf u' u hu' hu hw' hw⟩
                          obtain ⟨y, hy, _⟩ := (hLf u hu).2 hw
                          rw [hy]
                          omega
                        · exact ⟨0, by omega, fun u hu hw => absurd ⟨u, hu, hw⟩ hex⟩
                      have HCV := hide hcv
                      have C18 := hide (refpart_any w11 V xa nb xc (esOf es B) (B := 0) ((unhide HES).below (unhide HX11)) (unhide HEL) (unhide HPL) (some ⟨w9.heap.size, 0, none⟩) V (woF es B gi) (RowB.read (unhide HO11) (by omega)) Lf hLf)
                      clear hLf hcv HO HXv
                      go_wp2_with fail
                      refine (unhide C18).mono ?_
                      rintro e w12 ⟨⟨pv, rfl, hpo⟩, hb12⟩
                      obtain ⟨gp, pc, rfl, hgp, hpr⟩ := rowZ_of_owns hpo (by omega)
                      have HO12 := hide (Row.below (unhide HO11) hb12)
                      have HPR := hide hpr
                      have HX12 := hide (show Below w8.heap.size w8 w12 from (unhide HX11).trans (hb12.mono h811))
                      have HY0 := hide (Below.refl w12.heap.size w12)
                      clear hpo hpr hb12 hgp HO11 c0 c1 C18 HX11
                      go_wp2_with fail
                      go_loopw [14, 132] (fun v14 v132 wr => ∃ (v : Nat) (f : Int), v132 = .int .i64 v ∧ v14 = .int .i64 f ∧ v ≤ V ∧ (f = -1 ∨ f = cv) ∧ Hid (Below w12.heap.size w12 wr)) (fun v14 v132 wr => V - (intOf v132).toNat)
                      case atStart => exact ⟨0, -1, rfl, rfl, by omega, .inl rfl, HY0⟩
                      case round =>
                        clear HY0
                        obtain ⟨v, f, rfl, rfl, hv2, hf, HY⟩ := hrel
                        by_cases hvV3 : v < V
                        · have hvV4 : (v : Int) < (V : Int) := by omega
                          have q0 : wr.cell? ⟨w9.heap.size, v, none⟩ = some (.bool (woF es B gi v)) := (Row.below (unhide HO12) (unhide HY)).cell hvV3
                          have q1 : wr.cell? ⟨gp, v, none⟩ = some (.int .i64 (Lf v)) := (Row.below (unhide HPR) (unhide HY)).cell hvV3
                          have hcw := unhide HCV v hvV3
                          cases hb : woF es B gi v with
                          | true =>
                            rw [hb] at q0
                            clear hb hcw q1
                            have HF := hide hf
                            clear hf
                            go_wp2_with fail
                            go_roundw
                            case rel => exact ⟨v + 1, f, by go_num, rfl, by omega, unhide HF, HY⟩
                            case measure => simp [intOf]; omega
                          | false =>
                            rw [hb] at q0
                            have hlv := hcw hb
                            rw [hlv] at q1
                            clear hb hcw hlv
                            have t8 : ((cv : Int) != cv) = false := by simp
                            rcases hf with hf | hf
                            · subst hf
                              go_wp2_with fail
                              go_roundw
                              case rel => exact ⟨v + 1, cv, by go_num, rfl, by omega, .inr rfl, HY⟩
                              case measure => simp [intOf]; omega
                            · subst hf
                              have t9 : decide (f < 0) = false := decide_eq_false (by omega)
                              have t10 : ¬ f < 0 := by omega
                              go_wp2_with fail
                              go_roundw
                              case rel => exact ⟨v + 1, f, by go_num, rfl, by omega, .inr rfl, HY⟩
                              case measure => simp [intOf]; omega
                        · obtain rfl : V = v := by omega
                          have HXE := hide ((unhide HX12).trans ((unhide HY).mono (unhide HX12).size))
                          clear HY hf
                          go_wp2_with fail
                          go_roundw
                          case rel => exact ⟨gi + 1, rfl, by omega, by omega, HXE⟩
                          case measure => simp only [intOf]; omega
            · obtain rfl : gi = (V : Int) := by omega
              have HS9 := hide (show RowB w9 gs n (seenF L (k + 1) 0) from Row.below (unhide HSQ) (unhide HX))
              have HU9 := hide ((unhide HU8).trans (Bu.of (by have := (unhide HSQ).lt; exact this) (unhide HX)))
              go_wp2_with fail
              go_roundw
              case rel => exact ⟨k + 1, by go_num, by omega, HS9, HU9⟩
              case measure => simp [intOf]; omega
    · obtain rfl : nL = k := by omega
      have HALL := hide (fun (i : Nat) (hi : i < n) => show seenF L nL 0 i = true by
        rw [← unhide HLL]
        exact seenF_all (((unhide HL).cls.mem i).2 (by rw [unhide HNE]; exact hi)))
      go_wp2_with fail
      go_loopw [155] (fun v155 wr => ∃ i : Nat, v155 = .int .i64 i ∧ i ≤ n ∧ wr = w5) (fun v155 wr => n - (intOf v155).toNat)
      case atStart => exact ⟨0, rfl, by omega, by first | rfl | trivial⟩
      case round =>
        obtain ⟨i, rfl, hi, rfl⟩ := hrel
        by_cases hin : i < n
        · have hin2 : (i : Int) < (n : Int) := by omega
          have q0 := (unhide HO5).cell hin
          rw [unhide HALL i hin] at q0
          go_wp2_with fail
          go_roundw
          case rel => exact ⟨i + 1, by go_num, by omega, by first | rfl | trivial⟩
          case measure => simp [intOf]; omega
        · obtain rfl : n = i := by omega
          go_wp2_with fail
          go_ret
          exact ⟨rfl, (unhide HB5).bel⟩
end Go.Proofs.Ytbecmaandhadhaa.pt


/-
  The contracts of Placed, Done, Ready, Clone. Conditions: the front lies in memory as told.
-/
import Derived.Test.YtdkchihomllokaaPo9
namespace Go.Proofs.Ytdkchihomllokaa
open Go.RowKit
set_option linter.unusedVariables false
set_option maxRecDepth 20000

theorem cell_new2 (w : World) (o : Obj) (x : Value) (t : TypeId) : ∀ j u, [x][j]? = some u → ((w.alloc o).alloc (.cells #[x] t)).cell? ((⟨w.heap.size + 1, 0, none⟩ : Addr).add j) = some u := by
  have h : (w.alloc o).heap.size = w.heap.size + 1 := by simp
  have := cell_one_new (w.alloc o) x t
  rw [h] at this
  exact this
theorem one_z (z : Int) : ∀ u ∈ [Value.int .i64 z], u.oneCell' = true := by
  intro u hu
  simp only [List.mem_singleton] at hu
  subst hu
  rfl
set_option maxHeartbeats 1000000 in
theorem placed_any (w : World) (N b V : Nat) (s : Fs) (ra : Option Addr) (rc : Nat) (row : List It) (pv : Value) (pl : List Nat) (hF : Fb N w b V s ra rc row pv pl) :
    Calls Try.prog 12 #[.pointer (some ⟨b, 0, none⟩)] w fun e w' => (∃ v, e = .returned v ∧ w'.ownsRow w.heap.size 3 1 v pl.length (zcells (toIs pl))) ∧ Below w.heap.size w w' := by
  obtain ⟨pa, pc, hpv⟩ := own_shape hF.own
  obtain ⟨_, _, _, c3⟩ := hF.cells
  have hsm := hF.small
  have ho := hF.own
  rw [hpv] at c3 ho
  obtain ⟨a', cap', hv', _, hN⟩ := ns_of_owns ho (by omega)
  cases hv'
  have hno : pa = none → pl.length = 0 ∧ pc = 0 := by
    intro h
    rcases ho.2 with ⟨hv, h0⟩ | ⟨g, cap, cur, hv, _⟩
    · simp only [Value.slice.injEq] at hv; exact ⟨hv.2.1, hv.2.2⟩
    · rw [h] at hv; cases hv
  have C := hide (clone_any w pa pl.length pc (toIs pl) hN hno (by omega))
  obtain ⟨n, hn⟩ : ∃ n, pl.length = n := ⟨_, rfl⟩
  rw [hn] at c3 C ⊢
  clear hF ho hN hno hpv hn
  go_enter Try.func12, Try.ntmps12
  go_wp2_with fail
  refine (unhide C).mono ?_
  rintro e w1 ⟨⟨v, rfl, ho⟩, hb⟩
  have HO := hide ho
  have HB := hide hb
  clear ho hb
  go_wp2_with fail
  go_ret
  exact ⟨⟨v, rfl, unhide HO⟩, unhide HB⟩

set_option maxHeartbeats 1000000 in
theorem done_any (w : World) (N b V : Nat) (s : Fs) (ra : Option Addr) (rc : Nat) (row : List It) (pv : Value) (pl : List Nat) (hF : Fb N w b V s ra rc row pv pl) :
    Calls Try.prog 17 #[.pointer (some ⟨b, 0, none⟩)] w fun e w' => e = .returned (.bool (decide (pl.length = V))) ∧ Below w.heap.size w w' := by
  obtain ⟨pa, pc, hpv⟩ := own_shape hF.own
  obtain ⟨_, _, c2, c3⟩ := hF.cells
  rw [hpv] at c3
  obtain ⟨n, hn⟩ : ∃ n, pl.length = n := ⟨_, rfl⟩
  rw [hn] at c3 ⊢
  have hdec : ((n : Int) == (V : Int)) = decide (n = V) := by
    rw [Bool.eq_iff_iff, beq_iff_eq, decide_eq_true_eq]; omega
  have HD := hide hdec
  clear hF hpv hn hdec
  go_enter Try.func17, Try.ntmps17
  go_wp2_with fail
  go_quiet (fail)
  go_wp2_with fail
  go_ret
  refine ⟨?_, below_draws (Below.refl _ _) _⟩
  exact ret_b (unhide HD)

set_option maxHeartbeats 4000000 in
theorem ready_any (w : World) (N b V : Nat) (es : List (Nat × Nat)) (s : Fs) (ra : Option Addr) (rc : Nat) (row : List It) (pv : Value) (pl : List Nat) (hF : Fb N w b V s ra rc row pv pl) (hD : Sd w V es s) (hp : Plain V es) (src : Nat) (hsrc : bare (Pl.ins es) V = [src]) (hR : RowOk V row) :
    Calls Try.prog 19 #[.pointer (some ⟨b, 0, none⟩)] w fun e w' => (∃ v, e = .returned v ∧ w'.ownsRow w.heap.size 3 1 v ((wholeF V es src row pl).map Bn.head).length (zcells (srtZ ((wholeF V es src row pl).map Bn.head)))) ∧ Below w.heap.size w w' := by
  have C := hide (whole_any w N b V es s ra rc row pv pl hF hD hp src hsrc hR (hD.ilt hp.v1))
  have hll : (wholeF V es src row pl).length ≤ 500 := by have := wholeF_len V es src row pl; have := hF.small.1; omega
  generalize wholeF V es src row pl = l at C hll ⊢
  obtain ⟨i0, hi0, hz0, hz1, hz2⟩ := info_parts info3
  have HI := hide hi0
  have HZ0 := hide hz0
  have HZ1 := hide hz1
  have HZ2 := hide hz2
  obtain ⟨hl, hhl⟩ : ∃ hl, l.map Bn.head = hl := ⟨_, rfl⟩
  rw [hhl]
  have HHL := hide hhl
  clear hF hD hi0 hz0 hz1 hz2 hhl
  go_enter Try.func19, Try.ntmps19
  go_wp2_with fail
  refine (unhide C).mono ?_
  rintro e w1 ⟨⟨a, c, rfl, hB1, _⟩, hb1⟩
  have HBS := hide hB1
  have HB1 := hide hb1
  obtain ⟨n, hn⟩ : ∃ n, l.length = n := ⟨_, rfl⟩
  have HN := hide hn
  rw [hn] at hll ⊢
  clear C hB1 hb1 hn
  go_wp2_with fail
  go_loopw [3, 9] (fun v i wr => ∃ k : Nat, i = .int .i64 k ∧ k ≤ n ∧ Hid (wr.ownsRow w1.heap.size 3 1 v k (zcells (hl.take k))) ∧ Hid (Below w1.heap.size w1 wr)) (fun v i wr => n - (intOf i).toNat)
  case atStart => exact ⟨0, rfl, by omega, World.ownsRow_nil _ _ _ _, Below.refl _ _⟩
  case round =>
    obtain ⟨k, rfl, hk, HOW, HB⟩ := hrel
    have hsz := (unhide HB).size
    by_cases hlt : k < n
    · obtain ⟨g, off, ha, hg, c0, c1, c2, c3⟩ := ((unhide HBS).below (unhide HB)).at (show k < l.length by rw [unhide HN]; exact hlt)
      have HTK := hide (show hl.take (k + 1) = hl.take k ++ [(l.getD k b0).head] by rw [← unhide HHL, List.take_add_one, List.getElem?_map, List.getElem?_eq_getElem (show k < l.length by rw [unhide HN]; exact hlt), List.getD_eq_getElem?_getD, List.getElem?_eq_getElem (show k < l.length by rw [unhide HN]; exact hlt)]; rfl)
      generalize l.getD k b0 = bb at c0 c1 c2 c3 HTK
      obtain ⟨bh, bc, bl, bi⟩ := bb
      simp only at c0 c1 c2 c3
      have hkn : (k : Int) < (n : Int) := by omega
      have hwk : IntKind.i64.wrap ((k : Int) + 1) = (k : Int) + 1 := by rw [IntKind.wrap_i64]; omega
      subst ha
      go_wp2_with (at_builtin; refine wpList_append_own _ rfl (.tmp 13) (.tmp 16) 34 rfl w1.heap.size 3 i0 (.int .i64 0) 1 8 Try.underlying34 (unhide HI) (unhide HZ0) (unhide HZ1) (unhide HZ2) rfl (by decide) _ k _ rfl (((unhide HOW).alloc _).alloc _) ⟨wr.heap.size + 1, 0, none⟩ 1 1 [.int .i64 bh] rfl rfl (cell_new2 wr _ _ _) (one_z _) ?a3 ?a4 ?a5 ?_)
      case a3 => unfold maxLen; omega
      case a4 => omega
      case a5 => first | omega | (simp; omega)
      intro v2 w4 hown4 hg4 _
      rw [zcells_snoc] at hown4
      have HO4 := hide hown4
      have HB4 := hide ((((unhide HB).alloc hsz _).alloc (by simp; omega) _).grown hg4 (by simp; omega) fun j hj => ((unhide HOW).lt j hj).1)
      clear hown4 hg4
      go_wp2_with fail
      go_roundw
      case rel => exact ⟨k + 1, by go_num, by omega, by rw [unhide HTK]; exact HO4, HB4⟩
      case measure => simp [intOf]; omega
    · obtain rfl : k = n := by omega
      have hlen : hl.length = k := by rw [← unhide HHL, List.length_map]; exact unhide HN
      have hown : wr.ownsRow w1.heap.size 3 1 u3 hl.length (zcells hl) := by
        have := unhide HOW
        rw [show hl.take k = hl by rw [← hlen]; exact List.take_length] at this
        rw [hlen]; exact this
      have HB2 := hide ((unhide HB1).trans ((unhide HB).mono (unhide HB1).size))
      have C2 := hide (sortZ_any wr w1.heap.size u3 hl hown (by omega) hsz)
      have HBL := hide (unhide HB1).size
      clear hown hlen
      go_wp2_with fail
      refine (unhide C2).mono ?_
      rintro e w5 ⟨rfl, ho5, hb5⟩
      have HO5 := hide ho5
      have HB5 := hide ((unhide HB2).trans (hb5.mono (unhide HBL)))
      clear ho5 hb5 C2
      go_wp2_with fail
      go_ret
      exact ⟨⟨_, rfl, owns_mono (unhide HO5) (unhide HBL)⟩, unhide HB5⟩

theorem cloneI_any' (w : World) (a : Option Addr) (n c : Nat) (cs : List Value) (h : Cr 3 w a n cs) (h1 : ∀ u ∈ cs, u.oneCell' = true) (hno : a = none → n = 0 ∧ c = 0) (hn : n ≤ 1000000) :
    Calls Try.prog 30 #[.slice a n c] w fun e w' => (∃ v, e = .returned v ∧ w'.ownsRow w.heap.size 72 3 v n cs ∧ (a = none → v = .slice none n 0)) ∧ Below w.heap.size w w' := by
  cases a with
  | none =>
    obtain ⟨rfl, rfl⟩ := hno rfl
    have hx : cs = [] := List.eq_nil_of_length_eq_zero (by simpa using h.1)
    subst hx
    refine (cloneI_nil w).mono ?_
    rintro e w' ⟨rfl, rfl⟩
    exact ⟨⟨_, rfl, World.ownsRow_nil _ _ _ _, fun _ => rfl⟩, Below.refl _ _⟩
  | some p =>
    refine (cloneI_some w p n c cs h h1 hn).mono ?_
    rintro e w' ⟨⟨v, rfl, ho, _⟩, hb⟩
    exact ⟨⟨v, rfl, ho, fun h => by cases h⟩, hb⟩
/-- a front that goes on by itself -/
def CloneTold (N V : Nat) (s : Fs) (row : List It) (pl : List Nat) (w w' : World) (e : Ending) : Prop :=
  ∃ ra' rc' pv', e = .returned (.pointer (some ⟨w.heap.size, 0, none⟩)) ∧ Fb N w' w.heap.size V s ra' rc' row pv' pl ∧ (row = [] → ra' = none) ∧ (∀ g off, ra' = some ⟨g, off, none⟩ → w.heap.size ≤ g) ∧ (∀ g, pv'.ownBlock = some g → w.heap.size ≤ g)

set_option maxHeartbeats 4000000 in
theorem fclone_any (w : World) (N b V : Nat) (s : Fs) (ra : Option Addr) (rc : Nat) (row : List It) (pv : Value) (pl : List Nat) (hF : Fb N w b V s ra rc row pv pl) (hN : N ≤ w.heap.size) (hrr : row = [] → ra = none) :
    Calls Try.prog 10 #[.pointer (some ⟨b, 0, none⟩)] w fun e w' => CloneTold N V s row pl w w' e ∧ Below w.heap.size w w' := by
  obtain ⟨pa, pc, hpv⟩ := own_shape hF.own
  obtain ⟨c0, c1, c2, c3⟩ := hF.cells
  have hsm := hF.small
  have hbl := hF.lt
  obtain ⟨n, hn⟩ : ∃ n, row.length = n := ⟨_, rfl⟩
  obtain ⟨m, hm⟩ : ∃ m, pl.length = m := ⟨_, rfl⟩
  have hpno : pa = none → m = 0 ∧ pc = 0 := by
    have ho := hF.own
    rw [hpv] at ho
    intro h
    rcases ho.2 with ⟨hv, h0⟩ | ⟨g, cap, cur, hv, _⟩
    · simp only [Value.slice.injEq] at hv; exact ⟨by omega, hv.2.2⟩
    · rw [h] at hv; cases hv
  have hpN : Ns w pa m (toIs pl) := by
    have ho := hF.own
    rw [hpv, hm] at ho
    obtain ⟨a', cap', hv', _, hN'⟩ := ns_of_owns ho (by omega)
    cases hv'
    exact hN'
  have HRNO := hide hF.rno
  have HI := hide hF.items
  have HPN := hide hpN
  have HPNO := hide hpno
  rw [hpv, hm] at c3
  rw [hn] at c0
  have HN := hide hn
  have HM := hide hm
  have HSM := hide hsm
  clear hF hpv hpno hpN
  rw [hn] at HRNO
  clear hn hm
  go_enter Try.func10, Try.ntmps10
  go_wp2_with fail
  obtain ⟨W, hW⟩ : ∃ W, w.alloc (.cells #[.slice ra n rc, .pointer (some ⟨s.vb, 0, none⟩), .slice s.ia V s.ic, .slice pa m pc] 45) = W := ⟨_, rfl⟩
  have hbW : Below w.heap.size w W := by subst hW; exact b_al _
  have hWs : W.heap.size = w.heap.size + 1 := by subst hW; simp
  have hWb : W.heap[w.heap.size]? = some (.cells #[.slice ra n rc, .pointer (some ⟨s.vb, 0, none⟩), .slice s.ia V s.ic, .slice pa m pc] 45 (0, 0)) := by subst hW; exact (MapKept.heap_alloc _ _).1
  try rw [hW]
  have hIW : Cr 3 W ra n (icells row) := by have := (unhide HI).below hbW; unfold Is at this; rw [unhide HN] at this; exact this
  have C := hide (cloneI_any' W ra n rc (icells row) hIW (icells_one _) (unhide HRNO) (by have := (unhide HSM).1; have := unhide HN; omega))
  have HBW := hide hbW
  have HWS := hide hWs
  have HWB := hide hWb
  clear hbW hWs hWb hIW hW
  refine (unhide C).mono ?_
  rintro e w2 ⟨⟨v, rfl, ho, hvn⟩, hb2⟩
  rw [unhide HWS] at ho
  obtain ⟨a1, k1, hv, hk1, hno1, hI1, hlo1⟩ := cr_of_owns ho (by have := (unhide HSM).1; have := unhide HN; omega)
  subst hv
  have hbx2 : w2.heap[w.heap.size]? = some (.cells #[.slice ra n rc, .pointer (some ⟨s.vb, 0, none⟩), .slice s.ia V s.ic, .slice pa m pc] 45 (0, 0)) := by rw [hb2.block _ (by rw [unhide HWS]; omega)]; exact unhide HWB
  have hB2 : Below w.heap.size w w2 := (unhide HBW).trans (hb2.mono (by rw [unhide HWS]; omega))
  have hs2 : w.heap.size + 1 ≤ w2.heap.size := by have := hb2.size; rw [unhide HWS] at this; exact this
  have e0 : w2.cell? ⟨w.heap.size, 0, none⟩ = some (.slice ra n rc) := by simp [World.cell?, hbx2]
  have f0 : w2.frozen? ⟨w.heap.size, 0, none⟩ = false := by simp [World.frozen?, hbx2]
  have c3' : (w2.setCell ⟨w.heap.size, 0, none⟩ (.slice a1 n k1)).cell? ⟨b, 3, none⟩ = some (.slice pa m pc) := by
    rw [cell_set_far _ _ _ _ (show b ≠ w.heap.size by omega), hB2.cell (p := ⟨b, 3, none⟩) hbl]; exact c3
  have hbx3 := box_set (v := .slice a1 n k1) hbx2
  have hN3 : Ns (w2.setCell ⟨w.heap.size, 0, none⟩ (.slice a1 n k1)) pa m (toIs pl) := by
    obtain ⟨o1, o2, o3⟩ := unhide HPN
    refine ⟨o1, o2, fun k hk => ?_⟩
    obtain ⟨g, off, ha, hg, d0⟩ := o3 k hk
    exact ⟨g, off, ha, by simp [World.setCell]; omega, by rw [cell_set_far _ _ _ _ (show g ≠ w.heap.size by omega), hB2.cell (p := ⟨g, off + k, none⟩) hg]; exact d0⟩
  have hI3 : Cr 3 (w2.setCell ⟨w.heap.size, 0, none⟩ (.slice a1 n k1)) a1 n (icells row) := Cr.keep hI1 (by simp [World.setCell]) (fun g off he hg => Below.heap_setCell _ _ _ _ (by have := (hlo1 g off he).1; show g ≠ w.heap.size; omega))
  have hB3 : Below w.heap.size w (w2.setCell ⟨w.heap.size, 0, none⟩ (.slice a1 n k1)) := hB2.setCell (p := ⟨w.heap.size, 0, none⟩) (Nat.le_refl _) _
  have C3 := hide (clone_any _ pa m pc (toIs pl) hN3 (unhide HPNO) (by have := (unhide HSM).2; have := unhide HM; omega))
  have hs3 : (w2.setCell ⟨w.heap.size, 0, none⟩ (.slice a1 n k1)).heap.size = w2.heap.size := by simp [World.setCell]
  have HS3 := hide hs3
  have HBX3 := hide hbx3
  have HI3 := hide hI3
  have HB3 := hide hB3
  have HLO1 := hide hlo1
  have HNO1 := hide hno1
  have HVN := hide hvn
  have HI1' := hide hI1
  have HK1 := hide hk1
  clear ho hb2 hbx2 hbx3 hI1 hlo1 hno1 hI3 hN3 hB3 hB2 C c3 hs3 hvn hk1
  go_wp2_with fail
  refine (unhide C3).mono ?_
  rintro e w4 ⟨⟨v4, rfl, ho4⟩, hb4⟩
  rw [unhide HS3] at ho4
  obtain ⟨a4, k4, rfl⟩ := own_shape ho4
  have hs4 : w.heap.size + 1 ≤ w4.heap.size := by have := hb4.size; rw [unhide HS3] at this; omega
  have hbx4 : w4.heap[w.heap.size]? = some (.cells #[.slice a1 n k1, .pointer (some ⟨s.vb, 0, none⟩), .slice s.ia V s.ic, .slice pa m pc] 45 (0, 0)) := by rw [hb4.block _ (by rw [unhide HS3]; omega)]; exact unhide HBX3
  have e3 : w4.cell? ⟨w.heap.size, 3, none⟩ = some (.slice pa m pc) := by simp [World.cell?, hbx4]
  have f3 : w4.frozen? ⟨w.heap.size, 3, none⟩ = false := by simp [World.frozen?, hbx4]
  have HO4 := hide ho4
  have HB4 := hide ((unhide HB3).trans (hb4.mono (by rw [unhide HS3]; omega)))
  have HI4 := hide ((unhide HI3).below hb4)
  have HBX4 := hide hbx4
  clear ho4 hb4 hbx4 C3 c3' e0 f0 HI3 HBX3 HB3
  go_wp2_with fail
  go_ret
  have hw5 : ∀ i, i ≠ w.heap.size → (w4.setCell ⟨w.heap.size, 3, none⟩ (.slice a4 m k4)).heap[i]? = w4.heap[i]? := fun i hi => Below.heap_setCell _ _ _ _ hi
  have ho := unhide HO4
  refine ⟨⟨a1, k1, .slice a4 m k4, rfl, ⟨?_, ?_, ?_, ?_, ?_, ?_, ?_, ?_, unhide HSM⟩, ?_, ?_, ?_⟩, (unhide HB4).setCell (p := ⟨w.heap.size, 3, none⟩) (Nat.le_refl _) _⟩
  · rw [unhide HN]; exact box_set3 (unhide HBX4)
  · rw [unhide HN]; exact unhide HNO1
  · rw [unhide HN]; exact unhide HK1
  · intro g off he; have := unhide HLO1 g off he; exact ⟨by omega, this.2⟩
  · intro g off he
    have := (unhide HLO1 g off he).1
    refine ⟨by omega, fun h => ?_⟩
    have h4 := (ho.lt g h).1
    by_cases hr : row = []
    · have hn0 := unhide HRNO (hrr hr)
      have := unhide HVN (hrr hr)
      cases this
      cases he
    · obtain ⟨g', off', he', hg', _⟩ := (unhide HI1').2.2 0 (by have := List.length_pos_iff.2 hr; have := unhide HN; omega)
      rw [he] at he'
      cases he'
      omega
  · unfold Is
    rw [unhide HN]
    exact Cr.keep (unhide HI4) (by simp [World.setCell]) (fun g off he hg => hw5 g (by have := (unhide HLO1 g off he).1; omega))
  · rw [unhide HM]
    exact owns_keep (owns_mono ho (by omega)) (fun g hg => hw5 g (by have := (ho.lt g hg).1; omega))
  · intro h; have := (ho.lt _ h).1; omega
  · intro hr
    have := unhide HVN (hrr hr)
    cases this
    rfl
  · intro g off he; have := (unhide HLO1 g off he).1; omega
  · intro g hg; have := (ho.lt g hg).1; omega
end Go.Proofs.Ytdkchihomllokaa


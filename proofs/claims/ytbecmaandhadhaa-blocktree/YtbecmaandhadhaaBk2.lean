/-
  The contract of block.Blocks at graphs that may be and have no loops, up to its sorts. Conditions: the graph's edges lie in memory as told.
-/
import Derived.Test.YtbecmaandhadhaaBk1
import Derived.Test.YtbecmaandhadhaaBr
namespace Go.Proofs.Ytbecmaandhadhaa
open Go.RowKit
set_option linter.unusedVariables false
set_option maxRecDepth 20000

theorem step_make_full {P : Program} {w : World} {ops : Array Oper} {o : Oper} {a : Act} {K : Act → World → Prop} {Q : Exit → Act → World → Prop} {E : Prop} (hgd : o.guard = none) (l c : Operand) (t : TypeId) (hop : o.op = Op.makeSlice t l c)
    (base : Nat) (e : TypeId) (i : TypeInfo) (z : Value) (size : Nat) (h1 : P.underlying t = some (.slice e)) (h2 : P.info? e = some i) (h3 : i.zero = some z) (h4 : i.size = size)
    (kl kc : IntKind) (L C : Int) (n : Nat) (hl : a.eval l = .int kl L) (hc : a.eval c = .int kc C) (hL : L = (n : Int)) (hC : C = (n : Int)) (b2 : i.bytes * n ≤ 281474976710656) (b3 : n ≤ maxLen) (b4 : base ≤ w.heap.size)
    (hK : ∀ w', w'.ownsRow base e size (.slice (some ⟨w.heap.size, 0, none⟩) n n) n (madeCells z.cells (n * size)).toList → w.grownBy w' none → K (a.put o.dst (.slice (some ⟨w.heap.size, 0, none⟩) n n)) w') :
    if Region.wanted o (yielded ops a.tmps) = true then Oper.wp P o a w K Q else E := by
  have hw : Region.wanted o (yielded ops a.tmps) = true := by simp [Region.wanted, hgd]
  rw [if_pos hw]
  obtain ⟨w', hrun, r1, r2⟩ := run_make_full (P := P) w base t e i z size h1 h2 h3 h4 kl kc n b2 b3 b4
  subst hL
  subst hC
  unfold Oper.wp
  simp [execOp, hop, hl, hc, hrun, Result.andThen]
  exact hK w' r1 r2

theorem row_made {u : World} {base g V : Nat} (h : u.ownsRow base 3 1 (.slice (some ⟨g, 0, none⟩) V V) V (List.replicate V (.int .i64 0))) : RowAt u g 0 V (fun _ => ((0 : Nat) : Int)) := by
  rcases h.2 with ⟨hv, _⟩ | ⟨g', cap, cur, hv, hb, hg, h1, h2, h3, h4⟩
  · cases hv
  · cases hv
    refine ⟨cur, hg, fun t ht => ?_⟩
    have : (cur.toList.take (V * 1))[t]? = (List.replicate V (Value.int .i64 0))[t]? := by rw [h4]
    rw [List.getElem?_take] at this
    simpa [ht] using this
/-- the box of a walk is laid -/
def laid (u : World) (q vb gc V : Nat) : World := ((((u.setCell ⟨q, 0, none⟩ (.pointer (some ⟨vb, 0, none⟩))).setCell ⟨q, 1, none⟩ (.int .i64 0)).setCell ⟨q, 2, none⟩ (.slice (some ⟨gc, 0, none⟩) V V)).setCell ⟨q, 3, none⟩ (.slice none 0 0)).setCell ⟨q, 4, none⟩ (.slice none 0 0)
theorem laid_size (u : World) (q vb gc V : Nat) : (laid u q vb gc V).heap.size = u.heap.size := by simp [laid, World.setCell]
theorem laid_far (u : World) (q vb gc V : Nat) {i : Nat} (h : i ≠ q) : (laid u q vb gc V).heap[i]? = u.heap[i]? := by
  unfold laid
  rw [heap_set_other _ _ _ h, heap_set_other _ _ _ h, heap_set_other _ _ _ h, heap_set_other _ _ _ h, heap_set_other _ _ _ h]
theorem wk_start {A V q gc : Nat} {u wv : World} (hb : u.heap[q]? = some (.cells #[.pointer none, .int .i64 0, .slice none 0 0, .slice none 0 0, .slice none 0 0] 48 (0, 0))) (hc : RowAt u gc 0 V (fun _ => ((0 : Nat) : Int))) (hq : q < A ∨ wv.heap.size ≤ q) (hgc : gc < A ∨ wv.heap.size ≤ gc) (hz : wv.heap.size ≤ u.heap.size) (vb : Nat) :
    Wk A wv.heap.size (laid u q vb gc V) q gc vb V Df.St0 (fun _ => .slice none 0 0) (.slice none 0 0) := by
  have hne : gc ≠ q := by
    intro e
    obtain ⟨cur, h1, _⟩ := hc
    rw [e, hb] at h1
    simp at h1
  have hbox : (laid u q vb gc V).heap[q]? = some (.cells #[.pointer (some ⟨vb, 0, none⟩), .int .i64 ((0 : Nat) : Int), .slice (some ⟨gc, 0, none⟩) V V, .slice none 0 0, .slice none 0 0] 48 (0, 0)) := by
    simp [laid, World.setCell, Array.getElem?_modify, hb]
  have hcm : RowAt (laid u q vb gc V) gc 0 V (fun _ => ((0 : Nat) : Int)) := hc.keep (laid_far u q vb gc V hne)
  have hsz : wv.heap.size ≤ (laid u q vb gc V).heap.size := by rw [laid_size]; exact hz
  generalize laid u q vb gc V = l at hbox hcm hsz
  have hrow : l.ownsRow wv.heap.size 3 1 (.slice none 0 0) 0 [] := World.ownsRow_nil _ _ _ _
  have hbk : l.ownsRow wv.heap.size 29 1 (.slice none 0 0) 0 [] := World.ownsRow_nil _ _ _ _
  refine ⟨hbox, hq, hgc, hsz, hcm, hbk, ⟨fun j hj => ?_, fun i j hi hj hij => ?_⟩, fun j hj => by simp [Value.ownBlock]⟩
  · have : j = 0 := by simp [Df.St0] at hj; omega
    subst this
    exact hrow
  · simp [Df.St0] at hi hj
    omega
theorem kp_start {A q : Nat} {u wv : World} (h : Kp A wv u) (hq : q < A ∨ wv.heap.size ≤ q) (vb gc V : Nat) : Kp A wv (laid u q vb gc V) := fun i h1 h2 => by rw [laid_far _ _ _ _ _ (show i ≠ q by omega)]; exact h i h1 h2
theorem low_start {w2 u : World} {q : Nat} (h : Below w2.heap.size w2 u) (hq : w2.heap.size ≤ q) (vb gc V : Nat) : Below w2.heap.size w2 (laid u q vb gc V) := by
  unfold laid
  exact ((((h.setCell (p := ⟨q, 0, none⟩) hq _).setCell (p := ⟨q, 1, none⟩) hq _).setCell (p := ⟨q, 2, none⟩) hq _).setCell (p := ⟨q, 3, none⟩) hq _).setCell (p := ⟨q, 4, none⟩) hq _
theorem set_start {u : World} {q b : Nat} {x y : Value} (h0 : u.cell? ⟨b, 0, none⟩ = some x) (h1 : u.cell? ⟨b, 1, none⟩ = some y) (hb : b ≠ q) (vb gc V : Nat) : (laid u q vb gc V).cell? ⟨b, 0, none⟩ = some x ∧ (laid u q vb gc V).cell? ⟨b, 1, none⟩ = some y :=
  ⟨by rw [World.cell?_of_block (w := u) (laid_far u q vb gc V hb)]; exact h0, by rw [World.cell?_of_block (w := u) (laid_far u q vb gc V hb)]; exact h1⟩

/-- what the blocks come to, sorted -/
theorem blocks_end {A B n A0 : Nat} {w w' : World} {q gc vb V : Nat} {es : List (Nat × Nat)} {S : Df.St} {R : Nat → Value} {bv : Value} {L : List (List Nat)} (h : Wk A B w q gc vb V { S with bks := S.bks.map srt } R bv) (hn : S.bks.length = n) (hcl : Df.Cls es.length (Df.Bk es) S.bks) (hL : IsBl es L) (hm : es.length ≤ 128) {p : List Nat} (hp : p.Perm (List.range n)) (ho : w'.ownsRow B 29 1 bv n (p.map fun j => R (j + 1))) (hg : w.grownBy w' bv.ownBlock)
    (hs : p.Pairwise fun i j => ((S.bks.map srt).getD i []).getD 0 0 ≤ ((S.bks.map srt).getD j []).getD 0 0) (hA0 : A0 ≤ B) : ListsTold A0 w' L (.returned bv) := by
  have hlen : (S.bks.map srt).length = n := by simp [hn]
  have hnd := List.pairwise_flatten.1 hcl.nd
  have hbl : ∀ C ∈ S.bks.map srt, C.length ≤ 1000 := by
    intro C hC
    obtain ⟨D, hD, rfl⟩ := List.mem_map.1 hC
    rw [(srt_perm D).length_eq]
    have := Pl.nodup_le es.length D (hnd.1 D hD) fun x hx => (hcl.mem x).1 (List.mem_flatten.2 ⟨D, hD, hx⟩)
    omega
  have hn1 : n ≤ 1000 := by
    have h1 := Df.len_flat S.bks hcl.ne
    have h2 := Pl.nodup_le es.length _ hcl.nd fun x hx => (hcl.mem x).1 hx
    omega
  have hp' : p.Perm (List.range ({ S with bks := S.bks.map srt } : Df.St).bks.length) := by
    show p.Perm (List.range (S.bks.map srt).length)
    rw [hlen]; exact hp
  obtain ⟨a, c, h1, h2, h3, AK, CK, h4⟩ := h.lists hp' (by show World.ownsRow _ _ _ _ _ (S.bks.map srt).length _; rw [hlen]; exact ho) hg (by show (S.bks.map srt).length ≤ 1000; omega) hbl
  have hperm : (p.map fun j => (S.bks.map srt).getD j []).Perm (S.bks.map srt) := by
    refine (hp.map _).trans ?_
    rw [← hlen]
    have : (List.range (S.bks.map srt).length).map (fun j => (S.bks.map srt).getD j []) = S.bks.map srt := by
      apply List.ext_getElem
      · simp
      · intro i h5 h6
        simp [List.getD]
        simp at h6
        simp [h6]
    rw [this]
  have hL' : IsBl es (p.map fun j => (S.bks.map srt).getD j []) := isBl_of_perm hcl hperm (by rw [List.pairwise_map]; exact hs)
  have hLL := hL.one hL'
  have hLn : L.length = n := by rw [hLL, List.length_map, hp.length_eq]; simp
  refine ⟨a, c, by rw [h1]; show _ = Ending.returned (.slice a L.length c); rw [hLn, ← hlen], ?_, ?_, AK, CK, ?_⟩
  · intro ha; rw [hLn, ← hlen]; exact h2 ha
  · rw [hLn, ← hlen]; exact h3
  · intro W hW hK
    rw [hLn, ← hlen, hLL]
    exact h4 W hW fun i h5 h6 => hK i (by omega) h6
theorem hr_of {A B n : Nat} {w : World} {q gc vb V gb bc : Nat} {es : List (Nat × Nat)} {S : Df.St} {R : Nat → Value} {bv : Value} (h : Wk A B w q gc vb V { S with bks := S.bks.map srt } R bv) (hn : S.bks.length = n) (hcl : Df.Cls es.length (Df.Bk es) S.bks) (hm : es.length ≤ 128) (hb : bv = .slice (some ⟨gb, 0, none⟩) n bc) :
    Hr w gb n (fun j => R (j + 1)) (fun j => (S.bks.map srt).getD j []) := by
  refine ⟨fun j hj => ?_⟩
  have hjb : j < S.bks.length := by omega
  have hrow := h.rows.own (j + 1) (by show j + 1 < (S.bks.map srt).length + 1; simp; omega)
  rw [rowsOf_succ] at hrow
  change World.ownsRow _ _ _ _ _ ((S.bks.map srt).getD j []).length (zcells (toIs ((S.bks.map srt).getD j []))) at hrow
  have hmem : S.bks.getD j [] ∈ S.bks := by simp [List.getD, hjb]
  have hget : (S.bks.map srt).getD j [] = srt (S.bks.getD j []) := by simp [List.getD, hjb]
  have hne : srt (S.bks.getD j []) ≠ [] := by
    intro e
    have := (srt_perm (S.bks.getD j [])).length_eq
    rw [e] at this
    exact hcl.ne _ hmem (List.length_eq_zero_iff.1 this.symm)
  have hpos : 0 < (srt (S.bks.getD j [])).length := List.length_pos_iff.2 hne
  rw [hget] at hrow ⊢
  obtain ⟨g, c, hv, hB, hlt⟩ := hrow.form hpos
  refine ⟨g, c, hv, ?_, hlt, hne, ?_, ?_⟩
  · intro e
    subst e
    exact h.row_bv (j := j + 1) (by show j + 1 < (S.bks.map srt).length + 1; simp; omega) (by rw [hv]; rfl) (by rw [hb]; rfl)
  · intro x hx
    have hx2 := (srt_perm _).mem_iff.1 hx
    have := (hcl.mem x).1 (List.mem_flatten.2 ⟨_, hmem, hx2⟩)
    omega
  · rw [hv] at hrow
    have := hrow.cellAt 0 (by omega)
    rw [this]
    obtain ⟨x, t, hxt⟩ : ∃ x t, srt (S.bks.getD j []) = x :: t := List.exists_cons_of_ne_nil hne
    rw [hxt]
    simp [zcells, toIs]

set_option maxHeartbeats 16000000 in
theorem blocks_good0 (hSort : SortC) (hSF : SortFuncC) (hS0 : SortFuncN) (w : World) (V : Nat) (a : Option Addr) (cap : Nat) (es : List (Nat × Nat)) {B : Nat} (h : Es B w a es.length (toI es)) (hno : a = none → es.length = 0 ∧ cap = 0) (hp : Plain V es) (hnl : Df.NoLoop es) (L : List (List Nat)) (hL : IsBl es L) :
    Calls Try.prog 9 #[.agg #[.int .i64 V, .slice a es.length cap]] w fun e w' => ListsTold w.heap.size w' L e ∧ Below w.heap.size w w' := by
  have hv1 := hp.v1
  have hv64 := hp.v64
  have hn128 := hp.n128
  have HNL := hide hnl
  have HIL := hide hL
  have HSO := hide hSort
  have HSF := hide hSF
  have HS0 := hide hS0
  have HE0 := hide h
  have HNO := hide hno
  have HPL := hide hp
  have HG := hide (show Df.Gr V es from ⟨hnl, fun i hi => hp.at hi⟩)
  have HB0 := hide (show Below w.heap.size w (w.alloc (.cells #[.int .i64 V, .slice a es.length cap] 24)) from (Below.refl _ _).alloc (Nat.le_refl _) _)
  obtain ⟨i0, hi0, hz0, hz1, hz2⟩ := info_parts info3
  have HI := hide hi0
  have HZ0 := hide hz0
  have HZ1 := hide hz1
  have hzb : i0.bytes * V ≤ 281474976710656 := by rw [hz2]; omega
  have hml : V ≤ maxLen := by unfold maxLen; omega
  clear h hnl hL hSort hSF hS0 hno hp hi0 hz0 hz1 hz2
  go_enter Try.func9, Try.ntmps9
  go_wp2_with fail
  refine (may_any _ V a es.length cap (toI es) ((unhide HE0).below (unhide HB0))).mono ?_
  rintro e w1 ⟨⟨r, rfl, hr⟩, hb1⟩
  have hrt : r = true := hr.2 (good_of_plain (unhide HPL))
  subst hrt
  have d0 : w1.cell? ⟨w.heap.size, 0, none⟩ = some (.int .i64 V) := by rw [hb1.cell (p := ⟨w.heap.size, 0, none⟩) (by simp)]; simp
  have d1 : w1.cell? ⟨w.heap.size, 1, none⟩ = some (.slice a es.length cap) := by rw [hb1.cell (p := ⟨w.heap.size, 1, none⟩) (by simp)]; simp
  have hl1 : w.heap.size < w1.heap.size := by have := hb1.size; simp at this; omega
  have HB1 := hide ((unhide HB0).trans (hb1.mono (by simp)))
  clear hb1 hr
  go_wp2_with fail
  refine (containsLoop_any _ a es.length cap (toI es) ((unhide HE0).below (unhide HB1))).mono ?_
  rintro e w2 ⟨⟨r2, rfl, hr2⟩, hb2⟩
  have hr2f : r2 = false := by
    cases r2 with
    | false => rfl
    | true =>
      exfalso
      obtain ⟨j, hj, he⟩ := hr2.1 rfl
      rw [toI_getD] at he
      simp only at he
      exact unhide HNL j hj (by unfold Pl.at'; omega)
  subst hr2f
  have c0 := cell_q d0 hb2
  have c1 := cell_q d1 hb2
  have HB2 := hide ((unhide HB1).trans (hb2.mono (unhide HB1).size))
  have hl2 : w.heap.size < w2.heap.size := by have := hb2.size; omega
  have HE := hide ((unhide HE0).below (unhide HB2))
  clear hb2 hr2 d0 d1 HB1 HB0 HE0
  go_upto_region 3 with fail
  go_cut [3] from 15 to 20 (fun s3 wx => ∃ (q gc vb A : Nat) (wv : World) (ea : Option Addr) (ec : Nat) (oa : Option Addr) (oc : Nat) (ia : Option Addr) (ic : Nat) (ra : Option Addr) (rc : Nat), s3 = .pointer (some ⟨q, 0, none⟩) ∧ Hid (VwS A wv vb V es ea ec oa oc ia ic ra rc (Pl.order V es)) ∧ Hid (Wk A wv.heap.size wx q gc vb V Df.St0 (fun _ => .slice none 0 0) (.slice none 0 0)) ∧ Hid (Kp A wv wx) ∧ Hid (Below w2.heap.size w2 wx) ∧ Hid (w2.heap.size ≤ wv.heap.size) ∧ Hid (w2.heap.size ≤ A) ∧ Hid (w2.heap.size ≤ q) ∧ Hid (w2.heap.size ≤ gc))
  case first =>
    have HLO := hide (show Below w2.heap.size w2 w2.drew from (Below.refl _ _).drew)
    refine wp_region_held_drew (S := fun u => u.cell? ⟨w.heap.size, 0, none⟩ = some (.int .i64 V) ∧ u.cell? ⟨w.heap.size, 1, none⟩ = some (.slice a es.length cap)) (by kernel_rfl) ⟨c0, c1⟩ (fun hS => ?_)
    clear c0 c1
    generalize w2.drew = wd at HLO hS ⊢
    refine wpAnyH_take (i := 0) (v := ?_) rfl (by kernel_rfl) (by kernel_rfl) (by kernel_rfl) (fun _ _ _ h => h) (Or.inl ⟨by rfl, ?_⟩) hS ?_
    rotate_left
    · intro u hu; (try dsimp only at hu); go_simp; try with_reducible rfl
    simp only [Act.put, List.getElem_toArray, List.getElem_cons_zero, List.setIfInBounds_toArray, List.set_cons_zero, List.set_cons_succ]
    refine wpAnyH_take (i := 2) (v := ?_) rfl (by kernel_rfl) (by kernel_rfl) (by kernel_rfl) (fun _ _ _ h => h) (Or.inl ⟨by rfl, ?_⟩) hS ?_
    rotate_left
    · intro u hu; (try dsimp only at hu); go_simp; try with_reducible rfl
    simp only [Act.put, List.getElem_toArray, List.getElem_cons_zero, List.getElem_cons_succ, List.setIfInBounds_toArray, List.set_cons_zero, List.set_cons_succ]
    refine wpAnyH_take (i := 3) (v := ?_) rfl (by kernel_rfl) (by kernel_rfl) (by kernel_rfl) (fun _ _ _ h => h) (Or.inl ⟨by rfl, ?_⟩) hS ?_
    rotate_left
    · intro u hu; (try dsimp only at hu); go_simp; try with_reducible rfl
    simp only [Act.put, List.getElem_toArray, List.getElem_cons_zero, List.getElem_cons_succ, List.setIfInBounds_toArray, List.set_cons_zero, List.set_cons_succ]
    refine wpAnyH_ready (rs := [1, 4, 6]) (by kernel_rfl) (by simp) ?_
    refine AllReadyH.cons rfl (fun K hK => ?_) (AllReadyH.cons rfl (fun K hK => ?_) (AllReadyH.cons rfl (fun K hK => ?_) AllReadyH.nil))
    · have HLOA := hide (unhide HLO)
      go_simp
      go_wp2_with (go_at_call 23; refine (of_good _ V a cap es ((unhide HE).below (unhide HLO)) (unhide HNO) (unhide HPL)).mono ?_; rintro en uv1 ⟨⟨vb, ea, ec, oa, oc, ia, ic, ra, rc, rfl, hvb, hvs⟩, hbv⟩; have HBV := hide hbv; have HVS := hide hvs; clear hbv hvs)
      have HLO2 := hide ((unhide HLO).trans ((unhide HBV).mono (unhide HLO).size))
      clear HLO
      have HLO := HLO2
      clear HLO2
      have hS2 : _ ∧ _ := ⟨cell_q hS.1 (unhide HBV), cell_q hS.2 (unhide HBV)⟩
      have HKP := hide (show Kp wd.heap.size uv1 uv1 from fun _ _ _ => rfl)
      have HVZ := hide (Nat.le_refl uv1.heap.size)
      refine hK.out _ _ hS2 (fun hS3 => ?_)
      clear hK K hS3 hS HBV
      have hS := hS2
      clear hS2
      obtain ⟨A, hA⟩ : ∃ A, wd.heap.size = A := ⟨_, rfl⟩
      have HAL := hide (show w2.heap.size ≤ A by rw [← hA]; exact (unhide HLOA).size)
      rw [hA] at HVS HKP
      clear hA HLOA
      obtain ⟨wv, hwv⟩ : ∃ wv, wv = uv1 := ⟨_, rfl⟩
      rw [← hwv] at HVS
      have HKP2 := hide (show Kp A wv uv1 by rw [hwv]; exact unhide HKP)
      clear HKP
      have HKP := HKP2
      clear HKP2
      have HVZ2 := hide (show wv.heap.size ≤ uv1.heap.size by rw [hwv]; exact Nat.le_refl _)
      clear HVZ
      have HVZ := HVZ2
      clear HVZ2
      have HWL := hide (show w2.heap.size ≤ wv.heap.size by rw [hwv]; exact (unhide HLO).size)
      clear hwv
      refine wpAnyH_ready (rs := [4, 6]) (by kernel_rfl) (by simp) ?_
      refine AllReadyH.cons rfl (fun K hK => ?_) (AllReadyH.cons rfl (fun K hK => ?_) AllReadyH.nil)
      · have HLO0 := hide (unhide HLO)
        have HVZ0 := hide (unhide HVZ)
        refine step_make_full (P := Try.prog) rfl (.tmp 18) (.tmp 18) 29 rfl w2.heap.size 3 i0 (.int .i64 0) 1 Try.underlying29 (unhide HI) (unhide HZ0) (unhide HZ1) .i64 .i64 _ _ V rfl rfl rfl rfl hzb hml (unhide HLO).size ?_
        intro uc2 hown hgr
        change World.ownsRow _ _ _ _ _ _ (madeCells #[Value.int .i64 0] (V * 1)).toList at hown
        rw [toList_madeCells_one, Nat.mul_one] at hown
        have HBM := hide (show Below uv1.heap.size uv1 uc2 from ⟨hgr.os, hgr.tape, hgr.output, hgr.size, fun k hk => hgr.block k hk (by simp)⟩)
        have HKP2 := hide ((unhide HKP).more (unhide HVZ) (unhide HBM))
        clear HKP
        have HKP := HKP2
        clear HKP2
        have HVZ2 := hide (Nat.le_trans (unhide HVZ) (unhide HBM).size)
        clear HVZ
        have HVZ := HVZ2
        clear HVZ2
        have HLO2 := hide ((unhide HLO).trans ((unhide HBM).mono (unhide HLO).size))
        clear HLO
        have HLO := HLO2
        clear HLO2
        have hS2 : _ ∧ _ := ⟨cell_q hS.1 (unhide HBM), cell_q hS.2 (unhide HBM)⟩
        have HCM := hide (show RowAt uc2 uv1.heap.size 0 V (fun _ => ((0 : Nat) : Int)) from row_made hown)
        have HCA := hide (show uv1.heap.size < A ∨ wv.heap.size ≤ uv1.heap.size from .inr (unhide HVZ0))
        have HCW := hide (show w2.heap.size ≤ uv1.heap.size from (unhide HLO0).size)
        refine hK.out _ _ hS2 (fun hS3 => ?_)
        clear hK K hS3 hS HBM hown hgr
        have hS := hS2
        clear hS2
        obtain ⟨gc, hgc⟩ : ∃ gc, uv1.heap.size = gc := ⟨_, rfl⟩
        rw [hgc] at HCM HCW HCA ⊢
        clear hgc HLO0 HVZ0
        have HCL := hide (unhide HCM).lt
        refine wpAnyH_take (i := 5) (v := ?_) rfl (by kernel_rfl) (by kernel_rfl) (by kernel_rfl) (fun _ _ _ h => h) (Or.inl ⟨by rfl, ?_⟩) hS ?_
        rotate_left
        · intro u hu; (try dsimp only at hu); go_simp; try with_reducible rfl
        simp only [Act.put, List.getElem_toArray, List.getElem_cons_zero, List.getElem_cons_succ, List.setIfInBounds_toArray, List.set_cons_zero, List.set_cons_succ]
        refine wpAnyH_ready (rs := [6]) (by kernel_rfl) (by simp) ?_
        refine AllReadyH.cons rfl (fun K hK => ?_) AllReadyH.nil
        have HLO0 := hide (unhide HLO)
        have HVZ0 := hide (unhide HVZ)
        go_simp
        have HBA := hide (show Below uc2.heap.size uc2 (uc2.alloc (.cells #[.pointer none, .int .i64 0, .slice none 0 0, .slice none 0 0, .slice none 0 0] 48)) from (Below.refl _ _).alloc (Nat.le_refl _) _)
        have HBX0 := hide (show (uc2.alloc (.cells #[.pointer none, .int .i64 0, .slice none 0 0, .slice none 0 0, .slice none 0 0] 48)).heap[uc2.heap.size]? = some (.cells #[.pointer none, .int .i64 0, .slice none 0 0, .slice none 0 0, .slice none 0 0] 48 (0, 0)) from (MapKept.heap_alloc uc2 _).1)
        have HKP2 := hide ((unhide HKP).more (unhide HVZ) (unhide HBA))
        clear HKP
        have HKP := HKP2
        clear HKP2
        have HVZ2 := hide (Nat.le_trans (unhide HVZ) (unhide HBA).size)
        clear HVZ
        have HVZ := HVZ2
        clear HVZ2
        have HCM2 := hide ((unhide HCM).keep ((unhide HBA).block _ (unhide HCM).lt))
        clear HCM
        have HCM := HCM2
        clear HCM2
        have HLO2 := hide ((unhide HLO).trans ((unhide HBA).mono (unhide HLO).size))
        clear HLO
        have HLO := HLO2
        clear HLO2
        have hS2 : _ ∧ _ := ⟨cell_q hS.1 (unhide HBA), cell_q hS.2 (unhide HBA)⟩
        have HBX := HBX0
        clear HBX0
        have HQA := hide (show uc2.heap.size < A ∨ wv.heap.size ≤ uc2.heap.size from .inr (unhide HVZ0))
        have HQW := hide (show w2.heap.size ≤ uc2.heap.size from (unhide HLO0).size)
        refine hK.out _ _ hS2 (fun hS3 => ?_)
        clear hK K hS3 hS
        have hS := hS2
        clear hS2 HBA
        generalize (uc2.alloc (.cells #[.pointer none, .int .i64 0, .slice none 0 0, .slice none 0 0, .slice none 0 0] 48)) = ub3 at HKP HVZ HCM HBX HLO hS ⊢
        obtain ⟨q, hq⟩ : ∃ q, uc2.heap.size = q := ⟨_, rfl⟩
        rw [hq] at HBX HQW HQA ⊢
        clear hq HLO0 HVZ0
        have HQL := hide (heap_lt (unhide HBX))
        refine wpAnyH_ready (rs := [7]) (by kernel_rfl) (by simp) ?_
        refine AllReadyH.cons rfl (fun K hK => ?_) AllReadyH.nil
        have b0 : ub3.cell? ⟨q, 0, none⟩ = some (.pointer none) := by simp [World.cell?, unhide HBX]
        have b1 : ub3.cell? ⟨q, 1, none⟩ = some (.int .i64 0) := by simp [World.cell?, unhide HBX]
        have b2 : ub3.cell? ⟨q, 2, none⟩ = some (.slice none 0 0) := by simp [World.cell?, unhide HBX]
        have b3 : ub3.cell? ⟨q, 3, none⟩ = some (.slice none 0 0) := by simp [World.cell?, unhide HBX]
        have b4 : ub3.cell? ⟨q, 4, none⟩ = some (.slice none 0 0) := by simp [World.cell?, unhide HBX]
        have f0 : ub3.frozen? ⟨q, 0, none⟩ = false := by simp [World.frozen?, unhide HBX]
        have f1 : ub3.frozen? ⟨q, 1, none⟩ = false := by simp [World.frozen?, unhide HBX]
        have f2 : ub3.frozen? ⟨q, 2, none⟩ = false := by simp [World.frozen?, unhide HBX]
        have f3 : ub3.frozen? ⟨q, 3, none⟩ = false := by simp [World.frozen?, unhide HBX]
        have f4 : ub3.frozen? ⟨q, 4, none⟩ = false := by simp [World.frozen?, unhide HBX]
        go_simp
        have HWK := hide (wk_start (unhide HBX) (unhide HCM) (unhide HQA) (unhide HCA) (unhide HVZ) vb)
        have HKS := hide (kp_start (unhide HKP) (unhide HQA) vb gc V)
        have HLS := hide (low_start (unhide HLO) (unhide HQW) vb gc V)
        have hS5 := set_start hS.1 hS.2 (show w.heap.size ≠ q by have := unhide HQW; omega) vb gc V
        refine hK.out _ _ hS5 (fun hS6 => ?_)
        clear hK K hS hS6 b0 b1 b2 b3 b4 f0 f1 f2 f3 f4
        refine wpAnyH_done (by kernel_rfl) ?_ _
        go_wp2_with fail
        go_meet
        case rel => exact ⟨q, gc, vb, A, wv, ea, ec, oa, oc, ia, ic, ra, rc, rfl, HVS, HWK, HKS, HLS, HWL, HAL, HQW, HCW⟩
      · have HLO0 := hide (unhide HLO)
        have HVZ0 := hide (unhide HVZ)
        go_simp
        have HBA := hide (show Below uv1.heap.size uv1 (uv1.alloc (.cells #[.pointer none, .int .i64 0, .slice none 0 0, .slice none 0 0, .slice none 0 0] 48)) from (Below.refl _ _).alloc (Nat.le_refl _) _)
        have HBX0 := hide (show (uv1.alloc (.cells #[.pointer none, .int .i64 0, .slice none 0 0, .slice none 0 0, .slice none 0 0] 48)).heap[uv1.heap.size]? = some (.cells #[.pointer none, .int .i64 0, .slice none 0 0, .slice none 0 0, .slice none 0 0] 48 (0, 0)) from (MapKept.heap_alloc uv1 _).1)
        have HKP2 := hide ((unhide HKP).more (unhide HVZ) (unhide HBA))
        clear HKP
        have HKP := HKP2
        clear HKP2
        have HVZ2 := hide (Nat.le_trans (unhide HVZ) (unhide HBA).size)
        clear HVZ
        have HVZ := HVZ2
        clear HVZ2
        have HLO2 := hide ((unhide HLO).trans ((unhide HBA).mono (unhide HLO).size))
        clear HLO
        have HLO := HLO2
        clear HLO2
        have hS2 : _ ∧ _ := ⟨cell_q hS.1 (unhide HBA), cell_q hS.2 (unhide HBA)⟩
        have HBX := HBX0
        clear HBX0
        have HQA := hide (show uv1.heap.size < A ∨ wv.heap.size ≤ uv1.heap.size from .inr (unhide HVZ0))
        have HQW := hide (show w2.heap.size ≤ uv1.heap.size from (unhide HLO0).size)
        refine hK.out _ _ hS2 (fun hS3 => ?_)
        clear hK K hS3 hS
        have hS := hS2
        clear hS2 HBA
        generalize (uv1.alloc (.cells #[.pointer none, .int .i64 0, .slice none 0 0, .slice none 0 0, .slice none 0 0] 48)) = ub4 at HKP HVZ HBX HLO hS ⊢
        obtain ⟨q, hq⟩ : ∃ q, uv1.heap.size = q := ⟨_, rfl⟩
        rw [hq] at HBX HQW HQA ⊢
        clear hq HLO0 HVZ0
        have HQL := hide (heap_lt (unhide HBX))
        refine wpAnyH_ready (rs := [4]) (by kernel_rfl) (by simp) ?_
        refine AllReadyH.cons rfl (fun K hK => ?_) AllReadyH.nil
        have HLO0 := hide (unhide HLO)
        have HVZ0 := hide (unhide HVZ)
        refine step_make_full (P := Try.prog) rfl (.tmp 18) (.tmp 18) 29 rfl w2.heap.size 3 i0 (.int .i64 0) 1 Try.underlying29 (unhide HI) (unhide HZ0) (unhide HZ1) .i64 .i64 _ _ V rfl rfl rfl rfl hzb hml (unhide HLO).size ?_
        intro uc5 hown hgr
        change World.ownsRow _ _ _ _ _ _ (madeCells #[Value.int .i64 0] (V * 1)).toList at hown
        rw [toList_madeCells_one, Nat.mul_one] at hown
        have HBM := hide (show Below ub4.heap.size ub4 uc5 from ⟨hgr.os, hgr.tape, hgr.output, hgr.size, fun k hk => hgr.block k hk (by simp)⟩)
        have HKP2 := hide ((unhide HKP).more (unhide HVZ) (unhide HBM))
        clear HKP
        have HKP := HKP2
        clear HKP2
        have HVZ2 := hide (Nat.le_trans (unhide HVZ) (unhide HBM).size)
        clear HVZ
        have HVZ := HVZ2
        clear HVZ2
        have HBX2 := hide (((unhide HBM).block _ (heap_lt (unhide HBX))).trans (unhide HBX))
        clear HBX
        have HBX := HBX2
        clear HBX2
        have HLO2 := hide ((unhide HLO).trans ((unhide HBM).mono (unhide HLO).size))
        clear HLO
        have HLO := HLO2
        clear HLO2
        have hS2 : _ ∧ _ := ⟨cell_q hS.1 (unhide HBM), cell_q hS.2 (unhide HBM)⟩
        have HCM := hide (show RowAt uc5 ub4.heap.size 0 V (fun _ => ((0 : Nat) : Int)) from row_made hown)
        have HCA := hide (show ub4.heap.size < A ∨ wv.heap.size ≤ ub4.heap.size from .inr (unhide HVZ0))
        have HCW := hide (show w2.heap.size ≤ ub4.heap.size from (unhide HLO0).size)
        refine hK.out _ _ hS2 (fun hS3 => ?_)
        clear hK K hS3 hS HBM hown hgr
        have hS := hS2
        clear hS2
        obtain ⟨gc, hgc⟩ : ∃ gc, ub4.heap.size = gc := ⟨_, rfl⟩
        rw [hgc] at HCM HCW HCA ⊢
        clear hgc HLO0 HVZ0
        have HCL := hide (unhide HCM).lt
        refine wpAnyH_take (i := 5) (v := ?_) rfl (by kernel_rfl) (by kernel_rfl) (by kernel_rfl) (fun _ _ _ h => h) (Or.inl ⟨by rfl, ?_⟩) hS ?_
        rotate_left
        · intro u hu; (try dsimp only at hu); go_simp; try with_reducible rfl
        simp only [Act.put, List.getElem_toArray, List.getElem_cons_zero, List.getElem_cons_succ, List.setIfInBounds_toArray, List.set_cons_zero, List.set_cons_succ]
        refine wpAnyH_ready (rs := [7]) (by kernel_rfl) (by simp) ?_
        refine AllReadyH.cons rfl (fun K hK => ?_) AllReadyH.nil
        have b0 : uc5.cell? ⟨q, 0, none⟩ = some (.pointer none) := by simp [World.cell?, unhide HBX]
        have b1 : uc5.cell? ⟨q, 1, none⟩ = some (.int .i64 0) := by simp [World.cell?, unhide HBX]
        have b2 : uc5.cell? ⟨q, 2, none⟩ = some (.slice none 0 0) := by simp [World.cell?, unhide HBX]
        have b3 : uc5.cell? ⟨q, 3, none⟩ = some (.slice none 0 0) := by simp [World.cell?, unhide HBX]
        have b4 : uc5.cell? ⟨q, 4, none⟩ = some (.slice none 0 0) := by simp [World.cell?, unhide HBX]
        have f0 : uc5.frozen? ⟨q, 0, none⟩ = false := by simp [World.frozen?, unhide HBX]
        have f1 : uc5.frozen? ⟨q, 1, none⟩ = false := by simp [World.frozen?, unhide HBX]
        have f2 : uc5.frozen? ⟨q, 2, none⟩ = false := by simp [World.frozen?, unhide HBX]
        have f3 : uc5.frozen? ⟨q, 3, none⟩ = false := by simp [World.frozen?, unhide HBX]
        have f4 : uc5.frozen? ⟨q, 4, none⟩ = false := by simp [World.frozen?, unhide HBX]
        go_simp
        have HWK := hide (wk_start (unhide HBX) (unhide HCM) (unhide HQA) (unhide HCA) (unhide HVZ) vb)
        have HKS := hide (kp_start (unhide HKP) (unhide HQA) vb gc V)
        have HLS := hide (low_start (unhide HLO) (unhide HQW) vb gc V)
        have hS5 := set_start hS.1 hS.2 (show w.heap.size ≠ q by have := unhide HQW; omega) vb gc V
        refine hK.out _ _ hS5 (fun hS6 => ?_)
        clear hK K hS hS6 b0 b1 b2 b3 b4 f0 f1 f2 f3 f4
        refine wpAnyH_done (by kernel_rfl) ?_ _
        go_wp2_with fail
        go_meet
        case rel => exact ⟨q, gc, vb, A, wv, ea, ec, oa, oc, ia, ic, ra, rc, rfl, HVS, HWK, HKS, HLS, HWL, HAL, HQW, HCW⟩
    · have HLO0 := hide (unhide HLO)
      refine step_make_full (P := Try.prog) rfl (.tmp 18) (.tmp 18) 29 rfl w2.heap.size 3 i0 (.int .i64 0) 1 Try.underlying29 (unhide HI) (unhide HZ0) (unhide HZ1) .i64 .i64 _ _ V rfl rfl rfl rfl hzb hml (unhide HLO).size ?_
      intro uc6 hown hgr
      change World.ownsRow _ _ _ _ _ _ (madeCells #[Value.int .i64 0] (V * 1)).toList at hown
      rw [toList_madeCells_one, Nat.mul_one] at hown
      have HBM := hide (show Below wd.heap.size wd uc6 from ⟨hgr.os, hgr.tape, hgr.output, hgr.size, fun k hk => hgr.block k hk (by simp)⟩)
      have HLO2 := hide ((unhide HLO).trans ((unhide HBM).mono (unhide HLO).size))
      clear HLO
      have HLO := HLO2
      clear HLO2
      have hS2 : _ ∧ _ := ⟨cell_q hS.1 (unhide HBM), cell_q hS.2 (unhide HBM)⟩
      have HCM := hide (show RowAt uc6 wd.heap.size 0 V (fun _ => ((0 : Nat) : Int)) from row_made hown)
      have HCW := hide (show w2.heap.size ≤ wd.heap.size from (unhide HLO0).size)
      refine hK.out _ _ hS2 (fun hS3 => ?_)
      clear hK K hS3 hS HBM hown hgr
      have hS := hS2
      clear hS2
      obtain ⟨gc, hgc⟩ : ∃ gc, wd.heap.size = gc := ⟨_, rfl⟩
      rw [hgc] at HCM HCW ⊢
      clear hgc HLO0
      have HCL := hide (unhide HCM).lt
      refine wpAnyH_ready (rs := [1, 6]) (by kernel_rfl) (by simp) ?_
      refine AllReadyH.cons rfl (fun K hK => ?_) (AllReadyH.cons rfl (fun K hK => ?_) AllReadyH.nil)
      · have HLOA := hide (unhide HLO)
        clear HCL
        have HCL := hide (unhide HCM).lt
        go_simp
        go_wp2_with (go_at_call 23; refine (of_good _ V a cap es ((unhide HE).below (unhide HLO)) (unhide HNO) (unhide HPL)).mono ?_; rintro en uv7 ⟨⟨vb, ea, ec, oa, oc, ia, ic, ra, rc, rfl, hvb, hvs⟩, hbv⟩; have HBV := hide hbv; have HVS := hide hvs; clear hbv hvs)
        have HCM2 := hide ((unhide HCM).keep ((unhide HBV).block _ (unhide HCM).lt))
        clear HCM
        have HCM := HCM2
        clear HCM2
        have HLO2 := hide ((unhide HLO).trans ((unhide HBV).mono (unhide HLO).size))
        clear HLO
        have HLO := HLO2
        clear HLO2
        have hS2 : _ ∧ _ := ⟨cell_q hS.1 (unhide HBV), cell_q hS.2 (unhide HBV)⟩
        have HKP := hide (show Kp uc6.heap.size uv7 uv7 from fun _ _ _ => rfl)
        have HVZ := hide (Nat.le_refl uv7.heap.size)
        have HCA := hide (show gc < uc6.heap.size ∨ uv7.heap.size ≤ gc from .inl (unhide HCL))
        refine hK.out _ _ hS2 (fun hS3 => ?_)
        clear hK K hS3 hS HBV
        have hS := hS2
        clear hS2
        obtain ⟨A, hA⟩ : ∃ A, uc6.heap.size = A := ⟨_, rfl⟩
        have HAL := hide (show w2.heap.size ≤ A by rw [← hA]; exact (unhide HLOA).size)
        rw [hA] at HVS HKP HCA
        clear hA HLOA
        obtain ⟨wv, hwv⟩ : ∃ wv, wv = uv7 := ⟨_, rfl⟩
        rw [← hwv] at HVS
        have HKP2 := hide (show Kp A wv uv7 by rw [hwv]; exact unhide HKP)
        clear HKP
        have HKP := HKP2
        clear HKP2
        have HVZ2 := hide (show wv.heap.size ≤ uv7.heap.size by rw [hwv]; exact Nat.le_refl _)
        clear HVZ
        have HVZ := HVZ2
        clear HVZ2
        have HCA2 := hide (show gc < A ∨ wv.heap.size ≤ gc by rw [hwv]; exact unhide HCA)
        clear HCA
        have HCA := HCA2
        clear HCA2
        have HWL := hide (show w2.heap.size ≤ wv.heap.size by rw [hwv]; exact (unhide HLO).size)
        clear hwv
        refine wpAnyH_take (i := 5) (v := ?_) rfl (by kernel_rfl) (by kernel_rfl) (by kernel_rfl) (fun _ _ _ h => h) (Or.inl ⟨by rfl, ?_⟩) hS ?_
        rotate_left
        · intro u hu; (try dsimp only at hu); go_simp; try with_reducible rfl
        simp only [Act.put, List.getElem_toArray, List.getElem_cons_zero, List.getElem_cons_succ, List.setIfInBounds_toArray, List.set_cons_zero, List.set_cons_succ]
        refine wpAnyH_ready (rs := [6]) (by kernel_rfl) (by simp) ?_
        refine AllReadyH.cons rfl (fun K hK => ?_) AllReadyH.nil
        have HLO0 := hide (unhide HLO)
        have HVZ0 := hide (unhide HVZ)
        go_simp
        have HBA := hide (show Below uv7.heap.size uv7 (uv7.alloc (.cells #[.pointer none, .int .i64 0, .slice none 0 0, .slice none 0 0, .slice none 0 0] 48)) from (Below.refl _ _).alloc (Nat.le_refl _) _)
        have HBX0 := hide (show (uv7.alloc (.cells #[.pointer none, .int .i64 0, .slice none 0 0, .slice none 0 0, .slice none 0 0] 48)).heap[uv7.heap.size]? = some (.cells #[.pointer none, .int .i64 0, .slice none 0 0, .slice none 0 0, .slice none 0 0] 48 (0, 0)) from (MapKept.heap_alloc uv7 _).1)
        have HKP2 := hide ((unhide HKP).more (unhide HVZ) (unhide HBA))
        clear HKP
        have HKP := HKP2
        clear HKP2
        have HVZ2 := hide (Nat.le_trans (unhide HVZ) (unhide HBA).size)
        clear HVZ
        have HVZ := HVZ2
        clear HVZ2
        have HCM2 := hide ((unhide HCM).keep ((unhide HBA).block _ (unhide HCM).lt))
        clear HCM
        have HCM := HCM2
        clear HCM2
        have HLO2 := hide ((unhide HLO).trans ((unhide HBA).mono (unhide HLO).size))
        clear HLO
        have HLO := HLO2
        clear HLO2
        have hS2 : _ ∧ _ := ⟨cell_q hS.1 (unhide HBA), cell_q hS.2 (unhide HBA)⟩
        have HBX := HBX0
        clear HBX0
        have HQA := hide (show uv7.heap.size < A ∨ wv.heap.size ≤ uv7.heap.size from .inr (unhide HVZ0))
        have HQW := hide (show w2.heap.size ≤ uv7.heap.size from (unhide HLO0).size)
        refine hK.out _ _ hS2 (fun hS3 => ?_)
        clear hK K hS3 hS
        have hS := hS2
        clear hS2 HBA
        generalize (uv7.alloc (.cells #[.pointer none, .int .i64 0, .slice none 0 0, .slice none 0 0, .slice none 0 0] 48)) = ub8 at HKP HVZ HCM HBX HLO hS ⊢
        obtain ⟨q, hq⟩ : ∃ q, uv7.heap.size = q := ⟨_, rfl⟩
        rw [hq] at HBX HQW HQA ⊢
        clear hq HLO0 HVZ0
        have HQL := hide (heap_lt (unhide HBX))
        refine wpAnyH_ready (rs := [7]) (by kernel_rfl) (by simp) ?_
        refine AllReadyH.cons rfl (fun K hK => ?_) AllReadyH.nil
        have b0 : ub8.cell? ⟨q, 0, none⟩ = some (.pointer none) := by simp [World.cell?, unhide HBX]
        have b1 : ub8.cell? ⟨q, 1, none⟩ = some (.int .i64 0) := by simp [World.cell?, unhide HBX]
        have b2 : ub8.cell? ⟨q, 2, none⟩ = some (.slice none 0 0) := by simp [World.cell?, unhide HBX]
        have b3 : ub8.cell? ⟨q, 3, none⟩ = some (.slice none 0 0) := by simp [World.cell?, unhide HBX]
        have b4 : ub8.cell? ⟨q, 4, none⟩ = some (.slice none 0 0) := by simp [World.cell?, unhide HBX]
        have f0 : ub8.frozen? ⟨q, 0, none⟩ = false := by simp [World.frozen?, unhide HBX]
        have f1 : ub8.frozen? ⟨q, 1, none⟩ = false := by simp [World.frozen?, unhide HBX]
        have f2 : ub8.frozen? ⟨q, 2, none⟩ = false := by simp [World.frozen?, unhide HBX]
        have f3 : ub8.frozen? ⟨q, 3, none⟩ = false := by simp [World.frozen?, unhide HBX]
        have f4 : ub8.frozen? ⟨q, 4, none⟩ = false := by simp [World.frozen?, unhide HBX]
        go_simp
        have HWK := hide (wk_start (unhide HBX) (unhide HCM) (unhide HQA) (unhide HCA) (unhide HVZ) vb)
        have HKS := hide (kp_start (unhide HKP) (unhide HQA) vb gc V)
        have HLS := hide (low_start (unhide HLO) (unhide HQW) vb gc V)
        have hS5 := set_start hS.1 hS.2 (show w.heap.size ≠ q by have := unhide HQW; omega) vb gc V
        refine hK.out _ _ hS5 (fun hS6 => ?_)
        clear hK K hS hS6 b0 b1 b2 b3 b4 f0 f1 f2 f3 f4
        refine wpAnyH_done (by kernel_rfl) ?_ _
        go_wp2_with fail
        go_meet
        case rel => exact ⟨q, gc, vb, A, wv, ea, ec, oa, oc, ia, ic, ra, rc, rfl, HVS, HWK, HKS, HLS, HWL, HAL, HQW, HCW⟩
      · have HLO0 := hide (unhide HLO)
        go_simp
        have HBA := hide (show Below uc6.heap.size uc6 (uc6.alloc (.cells #[.pointer none, .int .i64 0, .slice none 0 0, .slice none 0 0, .slice none 0 0] 48)) from (Below.refl _ _).alloc (Nat.le_refl _) _)
        have HBX0 := hide (show (uc6.alloc (.cells #[.pointer none, .int .i64 0, .slice none 0 0, .slice none 0 0, .slice none 0 0] 48)).heap[uc6.heap.size]? = some (.cells #[.pointer none, .int .i64 0, .slice none 0 0, .slice none 0 0, .slice none 0 0] 48 (0, 0)) from (MapKept.heap_alloc uc6 _).1)
        have HCM2 := hide ((unhide HCM).keep ((unhide HBA).block _ (unhide HCM).lt))
        clear HCM
        have HCM := HCM2
        clear HCM2
        have HLO2 := hide ((unhide HLO).trans ((unhide HBA).mono (unhide HLO).size))
        clear HLO
        have HLO := HLO2
        clear HLO2
        have hS2 : _ ∧ _ := ⟨cell_q hS.1 (unhide HBA), cell_q hS.2 (unhide HBA)⟩
        have HBX := HBX0
        clear HBX0
        have HQW := hide (show w2.heap.size ≤ uc6.heap.size from (unhide HLO0).size)
        refine hK.out _ _ hS2 (fun hS3 => ?_)
        clear hK K hS3 hS
        have hS := hS2
        clear hS2 HBA
        generalize (uc6.alloc (.cells #[.pointer none, .int .i64 0, .slice none 0 0, .slice none 0 0, .slice none 0 0] 48)) = ub9 at HCM HBX HLO hS ⊢
        obtain ⟨q, hq⟩ : ∃ q, uc6.heap.size = q := ⟨_, rfl⟩
        rw [hq] at HBX HQW ⊢
        clear hq HLO0
        have HQL := hide (heap_lt (unhide HBX))
        refine wpAnyH_ready (rs := [1]) (by kernel_rfl) (by simp) ?_
        refine AllReadyH.cons rfl (fun K hK => ?_) AllReadyH.nil
        have HLOA := hide (unhide HLO)
        clear HCL
        have HCL := hide (unhide HCM).lt
        clear HQL
        have HQL := hide (heap_lt (unhide HBX))
        go_simp
        go_wp2_with (go_at_call 23; refine (of_good _ V a cap es ((unhide HE).below (unhide HLO)) (unhide HNO) (unhide HPL)).mono ?_; rintro en uv10 ⟨⟨vb, ea, ec, oa, oc, ia, ic, ra, rc, rfl, hvb, hvs⟩, hbv⟩; have HBV := hide hbv; have HVS := hide hvs; clear hbv hvs)
        have HCM2 := hide ((unhide HCM).keep ((unhide HBV).block _ (unhide HCM).lt))
        clear HCM
        have HCM := HCM2
        clear HCM2
        have HBX2 := hide (((unhide HBV).block _ (heap_lt (unhide HBX))).trans (unhide HBX))
        clear HBX
        have HBX := HBX2
        clear HBX2
        have HLO2 := hide ((unhide HLO).trans ((unhide HBV).mono (unhide HLO).size))
        clear HLO
        have HLO := HLO2
        clear HLO2
        have hS2 : _ ∧ _ := ⟨cell_q hS.1 (unhide HBV), cell_q hS.2 (unhide HBV)⟩
        have HKP := hide (show Kp ub9.heap.size uv10 uv10 from fun _ _ _ => rfl)
        have HVZ := hide (Nat.le_refl uv10.heap.size)
        have HCA := hide (show gc < ub9.heap.size ∨ uv10.heap.size ≤ gc from .inl (unhide HCL))
        have HQA := hide (show q < ub9.heap.size ∨ uv10.heap.size ≤ q from .inl (unhide HQL))
        refine hK.out _ _ hS2 (fun hS3 => ?_)
        clear hK K hS3 hS HBV
        have hS := hS2
        clear hS2
        obtain ⟨A, hA⟩ : ∃ A, ub9.heap.size = A := ⟨_, rfl⟩
        have HAL := hide (show w2.heap.size ≤ A by rw [← hA]; exact (unhide HLOA).size)
        rw [hA] at HVS HKP HCA HQA
        clear hA HLOA
        obtain ⟨wv, hwv⟩ : ∃ wv, wv = uv10 := ⟨_, rfl⟩
        rw [← hwv] at HVS
        have HKP2 := hide (show Kp A wv uv10 by rw [hwv]; exact unhide HKP)
        clear HKP
        have HKP := HKP2
        clear HKP2
        have HVZ2 := hide (show wv.heap.size ≤ uv10.heap.size by rw [hwv]; exact Nat.le_refl _)
        clear HVZ
        have HVZ := HVZ2
        clear HVZ2
        have HCA2 := hide (show gc < A ∨ wv.heap.size ≤ gc by rw [hwv]; exact unhide HCA)
        clear HCA
        have HCA := HCA2
        clear HCA2
        have HQA2 := hide (show q < A ∨ wv.heap.size ≤ q by rw [hwv]; exact unhide HQA)
        clear HQA
        have HQA := HQA2
        clear HQA2
        have HWL := hide (show w2.heap.size ≤ wv.heap.size by rw [hwv]; exact (unhide HLO).size)
        clear hwv
        refine wpAnyH_take (i := 5) (v := ?_) rfl (by kernel_rfl) (by kernel_rfl) (by kernel_rfl) (fun _ _ _ h => h) (Or.inl ⟨by rfl, ?_⟩) hS ?_
        rotate_left
        · intro u hu; (try dsimp only at hu); go_simp; try with_reducible rfl
        simp only [Act.put, List.getElem_toArray, List.getElem_cons_zero, List.getElem_cons_succ, List.setIfInBounds_toArray, List.set_cons_zero, List.set_cons_succ]
        refine wpAnyH_ready (rs := [7]) (by kernel_rfl) (by simp) ?_
        refine AllReadyH.cons rfl (fun K hK => ?_) AllReadyH.nil
        have b0 : uv10.cell? ⟨q, 0, none⟩ = some (.pointer none) := by simp [World.cell?, unhide HBX]
        have b1 : uv10.cell? ⟨q, 1, none⟩ = some (.int .i64 0) := by simp [World.cell?, unhide HBX]
        have b2 : uv10.cell? ⟨q, 2, none⟩ = some (.slice none 0 0) := by simp [World.cell?, unhide HBX]
        have b3 : uv10.cell? ⟨q, 3, none⟩ = some (.slice none 0 0) := by simp [World.cell?, unhide HBX]
        have b4 : uv10.cell? ⟨q, 4, none⟩ = some (.slice none 0 0) := by simp [World.cell?, unhide HBX]
        have f0 : uv10.frozen? ⟨q, 0, none⟩ = false := by simp [World.frozen?, unhide HBX]
        have f1 : uv10.frozen? ⟨q, 1, none⟩ = false := by simp [World.frozen?, unhide HBX]
        have f2 : uv10.frozen? ⟨q, 2, none⟩ = false := by simp [World.frozen?, unhide HBX]
        have f3 : uv10.frozen? ⟨q, 3, none⟩ = false := by simp [World.frozen?, unhide HBX]
        have f4 : uv10.frozen? ⟨q, 4, none⟩ = false := by simp [World.frozen?, unhide HBX]
        go_simp
        have HWK := hide (wk_start (unhide HBX) (unhide HCM) (unhide HQA) (unhide HCA) (unhide HVZ) vb)
        have HKS := hide (kp_start (unhide HKP) (unhide HQA) vb gc V)
        have HLS := hide (low_start (unhide HLO) (unhide HQW) vb gc V)
        have hS5 := set_start hS.1 hS.2 (show w.heap.size ≠ q by have := unhide HQW; omega) vb gc V
        refine hK.out _ _ hS5 (fun hS6 => ?_)
        clear hK K hS hS6 b0 b1 b2 b3 b4 f0 f1 f2 f3 f4
        refine wpAnyH_done (by kernel_rfl) ?_ _
        go_wp2_with fail
        go_meet
        case rel => exact ⟨q, gc, vb, A, wv, ea, ec, oa, oc, ia, ic, ra, rc, rfl, HVS, HWK, HKS, HLS, HWL, HAL, HQW, HCW⟩
    · have HLO0 := hide (unhide HLO)
      go_simp
      have HBA := hide (show Below wd.heap.size wd (wd.alloc (.cells #[.pointer none, .int .i64 0, .slice none 0 0, .slice none 0 0, .slice none 0 0] 48)) from (Below.refl _ _).alloc (Nat.le_refl _) _)
      have HBX0 := hide (show (wd.alloc (.cells #[.pointer none, .int .i64 0, .slice none 0 0, .slice none 0 0, .slice none 0 0] 48)).heap[wd.heap.size]? = some (.cells #[.pointer none, .int .i64 0, .slice none 0 0, .slice none 0 0, .slice none 0 0] 48 (0, 0)) from (MapKept.heap_alloc wd _).1)
      have HLO2 := hide ((unhide HLO).trans ((unhide HBA).mono (unhide HLO).size))
      clear HLO
      have HLO := HLO2
      clear HLO2
      have hS2 : _ ∧ _ := ⟨cell_q hS.1 (unhide HBA), cell_q hS.2 (unhide HBA)⟩
      have HBX := HBX0
      clear HBX0
      have HQW := hide (show w2.heap.size ≤ wd.heap.size from (unhide HLO0).size)
      refine hK.out _ _ hS2 (fun hS3 => ?_)
      clear hK K hS3 hS
      have hS := hS2
      clear hS2 HBA
      generalize (wd.alloc (.cells #[.pointer none, .int .i64 0, .slice none 0 0, .slice none 0 0, .slice none 0 0] 48)) = ub11 at  HBX HLO hS ⊢
      obtain ⟨q, hq⟩ : ∃ q, wd.heap.size = q := ⟨_, rfl⟩
      rw [hq] at HBX HQW ⊢
      clear hq HLO0
      have HQL := hide (heap_lt (unhide HBX))
      refine wpAnyH_ready (rs := [1, 4]) (by kernel_rfl) (by simp) ?_
      refine AllReadyH.cons rfl (fun K hK => ?_) (AllReadyH.cons rfl (fun K hK => ?_) AllReadyH.nil)
      · have HLOA := hide (unhide HLO)
        clear HQL
        have HQL := hide (heap_lt (unhide HBX))
        go_simp
        go_wp2_with (go_at_call 23; refine (of_good _ V a cap es ((unhide HE).below (unhide HLO)) (unhide HNO) (unhide HPL)).mono ?_; rintro en uv12 ⟨⟨vb, ea, ec, oa, oc, ia, ic, ra, rc, rfl, hvb, hvs⟩, hbv⟩; have HBV := hide hbv; have HVS := hide hvs; clear hbv hvs)
        have HBX2 := hide (((unhide HBV).block _ (heap_lt (unhide HBX))).trans (unhide HBX))
        clear HBX
        have HBX := HBX2
        clear HBX2
        have HLO2 := hide ((unhide HLO).trans ((unhide HBV).mono (unhide HLO).size))
        clear HLO
        have HLO := HLO2
        clear HLO2
        have hS2 : _ ∧ _ := ⟨cell_q hS.1 (unhide HBV), cell_q hS.2 (unhide HBV)⟩
        have HKP := hide (show Kp ub11.heap.size uv12 uv12 from fun _ _ _ => rfl)
        have HVZ := hide (Nat.le_refl uv12.heap.size)
        have HQA := hide (show q < ub11.heap.size ∨ uv12.heap.size ≤ q from .inl (unhide HQL))
        refine hK.out _ _ hS2 (fun hS3 => ?_)
        clear hK K hS3 hS HBV
        have hS := hS2
        clear hS2
        obtain ⟨A, hA⟩ : ∃ A, ub11.heap.size = A := ⟨_, rfl⟩
        have HAL := hide (show w2.heap.size ≤ A by rw [← hA]; exact (unhide HLOA).size)
        rw [hA] at HVS HKP HQA
        clear hA HLOA
        obtain ⟨wv, hwv⟩ : ∃ wv, wv = uv12 := ⟨_, rfl⟩
        rw [← hwv] at HVS
        have HKP2 := hide (show Kp A wv uv12 by rw [hwv]; exact unhide HKP)
        clear HKP
        have HKP := HKP2
        clear HKP2
        have HVZ2 := hide (show wv.heap.size ≤ uv12.heap.size by rw [hwv]; exact Nat.le_refl _)
        clear HVZ
        have HVZ := HVZ2
        clear HVZ2
        have HQA2 := hide (show q < A ∨ wv.heap.size ≤ q by rw [hwv]; exact unhide HQA)
        clear HQA
        have HQA := HQA2
        clear HQA2
        have HWL := hide (show w2.heap.size ≤ wv.heap.size by rw [hwv]; exact (unhide HLO).size)
        clear hwv
        refine wpAnyH_ready (rs := [4]) (by kernel_rfl) (by simp) ?_
        refine AllReadyH.cons rfl (fun K hK => ?_) AllReadyH.nil
        have HLO0 := hide (unhide HLO)
        have HVZ0 := hide (unhide HVZ)
        refine step_make_full (P := Try.prog) rfl (.tmp 18) (.tmp 18) 29 rfl w2.heap.size 3 i0 (.int .i64 0) 1 Try.underlying29 (unhide HI) (unhide HZ0) (unhide HZ1) .i64 .i64 _ _ V rfl rfl rfl rfl hzb hml (unhide HLO).size ?_
        intro uc13 hown hgr
        change World.ownsRow _ _ _ _ _ _ (madeCells #[Value.int .i64 0] (V * 1)).toList at hown
        rw [toList_madeCells_one, Nat.mul_one] at hown
        have HBM := hide (show Below uv12.heap.size uv12 uc13 from ⟨hgr.os, hgr.tape, hgr.output, hgr.size, fun k hk => hgr.block k hk (by simp)⟩)
        have HKP2 := hide ((unhide HKP).more (unhide HVZ) (unhide HBM))
        clear HKP
        have HKP := HKP2
        clear HKP2
        have HVZ2 := hide (Nat.le_trans (unhide HVZ) (unhide HBM).size)
        clear HVZ
        have HVZ := HVZ2
        clear HVZ2
        have HBX2 := hide (((unhide HBM).block _ (heap_lt (unhide HBX))).trans (unhide HBX))
        clear HBX
        have HBX := HBX2
        clear HBX2
        have HLO2 := hide ((unhide HLO).trans ((unhide HBM).mono (unhide HLO).size))
        clear HLO
        have HLO := HLO2
        clear HLO2
        have hS2 : _ ∧ _ := ⟨cell_q hS.1 (unhide HBM), cell_q hS.2 (unhide HBM)⟩
        have HCM := hide (show RowAt uc13 uv12.heap.size 0 V (fun _ => ((0 : Nat) : Int)) from row_made hown)
        have HCA := hide (show uv12.heap.size < A ∨ wv.heap.size ≤ uv12.heap.size from .inr (unhide HVZ0))
        have HCW := hide (show w2.heap.size ≤ uv12.heap.size from (unhide HLO0).size)
        refine hK.out _ _ hS2 (fun hS3 => ?_)
        clear hK K hS3 hS HBM hown hgr
        have hS := hS2
        clear hS2
        obtain ⟨gc, hgc⟩ : ∃ gc, uv12.heap.size = gc := ⟨_, rfl⟩
        rw [hgc] at HCM HCW HCA ⊢
        clear hgc HLO0 HVZ0
        have HCL := hide (unhide HCM).lt
        refine wpAnyH_take (i := 5) (v := ?_) rfl (by kernel_rfl) (by kernel_rfl) (by kernel_rfl) (fun _ _ _ h => h) (Or.inl ⟨by rfl, ?_⟩) hS ?_
        rotate_left
        · intro u hu; (try dsimp only at hu); go_simp; try with_reducible rfl
        simp only [Act.put, List.getElem_toArray, List.getElem_cons_zero, List.getElem_cons_succ, List.setIfInBounds_toArray, List.set_cons_zero, List.set_cons_succ]
        refine wpAnyH_ready (rs := [7]) (by kernel_rfl) (by simp) ?_
        refine AllReadyH.cons rfl (fun K hK => ?_) AllReadyH.nil
        have b0 : uc13.cell? ⟨q, 0, none⟩ = some (.pointer none) := by simp [World.cell?, unhide HBX]
        have b1 : uc13.cell? ⟨q, 1, none⟩ = some (.int .i64 0) := by simp [World.cell?, unhide HBX]
        have b2 : uc13.cell? ⟨q, 2, none⟩ = some (.slice none 0 0) := by simp [World.cell?, unhide HBX]
        have b3 : uc13.cell? ⟨q, 3, none⟩ = some (.slice none 0 0) := by simp [World.cell?, unhide HBX]
        have b4 : uc13.cell? ⟨q, 4, none⟩ = some (.slice none 0 0) := by simp [World.cell?, unhide HBX]
        have f0 : uc13.frozen? ⟨q, 0, none⟩ = false := by simp [World.frozen?, unhide HBX]
        have f1 : uc13.frozen? ⟨q, 1, none⟩ = false := by simp [World.frozen?, unhide HBX]
        have f2 : uc13.frozen? ⟨q, 2, none⟩ = false := by simp [World.frozen?, unhide HBX]
        have f3 : uc13.frozen? ⟨q, 3, none⟩ = false := by simp [World.frozen?, unhide HBX]
        have f4 : uc13.frozen? ⟨q, 4, none⟩ = false := by simp [World.frozen?, unhide HBX]
        go_simp
        have HWK := hide (wk_start (unhide HBX) (unhide HCM) (unhide HQA) (unhide HCA) (unhide HVZ) vb)
        have HKS := hide (kp_start (unhide HKP) (unhide HQA) vb gc V)
        have HLS := hide (low_start (unhide HLO) (unhide HQW) vb gc V)
        have hS5 := set_start hS.1 hS.2 (show w.heap.size ≠ q by have := unhide HQW; omega) vb gc V
        refine hK.out _ _ hS5 (fun hS6 => ?_)
        clear hK K hS hS6 b0 b1 b2 b3 b4 f0 f1 f2 f3 f4
        refine wpAnyH_done (by kernel_rfl) ?_ _
        go_wp2_with fail
        go_meet
        case rel => exact ⟨q, gc, vb, A, wv, ea, ec, oa, oc, ia, ic, ra, rc, rfl, HVS, HWK, HKS, HLS, HWL, HAL, HQW, HCW⟩
      · have HLO0 := hide (unhide HLO)
        refine step_make_full (P := Try.prog) rfl (.tmp 18) (.tmp 18) 29 rfl w2.heap.size 3 i0 (.int .i64 0) 1 Try.underlying29 (unhide HI) (unhide HZ0) (unhide HZ1) .i64 .i64 _ _ V rfl rfl rfl rfl hzb hml (unhide HLO).size ?_
        intro uc14 hown hgr
        change World.ownsRow _ _ _ _ _ _ (madeCells #[Value.int .i64 0] (V * 1)).toList at hown
        rw [toList_madeCells_one, Nat.mul_one] at hown
        have HBM := hide (show Below ub11.heap.size ub11 uc14 from ⟨hgr.os, hgr.tape, hgr.output, hgr.size, fun k hk => hgr.block k hk (by simp)⟩)
        have HBX2 := hide (((unhide HBM).block _ (heap_lt (unhide HBX))).trans (unhide HBX))
        clear HBX
        have HBX := HBX2
        clear HBX2
        have HLO2 := hide ((unhide HLO).trans ((unhide HBM).mono (unhide HLO).size))
        clear HLO
        have HLO := HLO2
        clear HLO2
        have hS2 : _ ∧ _ := ⟨cell_q hS.1 (unhide HBM), cell_q hS.2 (unhide HBM)⟩
        have HCM := hide (show RowAt uc14 ub11.heap.size 0 V (fun _ => ((0 : Nat) : Int)) from row_made hown)
        have HCW := hide (show w2.heap.size ≤ ub11.heap.size from (unhide HLO0).size)
        refine hK.out _ _ hS2 (fun hS3 => ?_)
        clear hK K hS3 hS HBM hown hgr
        have hS := hS2
        clear hS2
        obtain ⟨gc, hgc⟩ : ∃ gc, ub11.heap.size = gc := ⟨_, rfl⟩
        rw [hgc] at HCM HCW ⊢
        clear hgc HLO0
        have HCL := hide (unhide HCM).lt
        refine wpAnyH_ready (rs := [1]) (by kernel_rfl) (by simp) ?_
        refine AllReadyH.cons rfl (fun K hK => ?_) AllReadyH.nil
        have HLOA := hide (unhide HLO)
        clear HCL
        have HCL := hide (unhide HCM).lt
        clear HQL
        have HQL := hide (heap_lt (unhide HBX))
        go_simp
        go_wp2_with (go_at_call 23; refine (of_good _ V a cap es ((unhide HE).below (unhide HLO)) (unhide HNO) (unhide HPL)).mono ?_; rintro en uv15 ⟨⟨vb, ea, ec, oa, oc, ia, ic, ra, rc, rfl, hvb, hvs⟩, hbv⟩; have HBV := hide hbv; have HVS := hide hvs; clear hbv hvs)
        have HCM2 := hide ((unhide HCM).keep ((unhide HBV).block _ (unhide HCM).lt))
        clear HCM
        have HCM := HCM2
        clear HCM2
        have HBX2 := hide (((unhide HBV).block _ (heap_lt (unhide HBX))).trans (unhide HBX))
        clear HBX
        have HBX := HBX2
        clear HBX2
        have HLO2 := hide ((unhide HLO).trans ((unhide HBV).mono (unhide HLO).size))
        clear HLO
        have HLO := HLO2
        clear HLO2
        have hS2 : _ ∧ _ := ⟨cell_q hS.1 (unhide HBV), cell_q hS.2 (unhide HBV)⟩
        have HKP := hide (show Kp uc14.heap.size uv15 uv15 from fun _ _ _ => rfl)
        have HVZ := hide (Nat.le_refl uv15.heap.size)
        have HCA := hide (show gc < uc14.heap.size ∨ uv15.heap.size ≤ gc from .inl (unhide HCL))
        have HQA := hide (show q < uc14.heap.size ∨ uv15.heap.size ≤ q from .inl (unhide HQL))
        refine hK.out _ _ hS2 (fun hS3 => ?_)
        clear hK K hS3 hS HBV
        have hS := hS2
        clear hS2
        obtain ⟨A, hA⟩ : ∃ A, uc14.heap.size = A := ⟨_, rfl⟩
        have HAL := hide (show w2.heap.size ≤ A by rw [← hA]; exact (unhide HLOA).size)
        rw [hA] at HVS HKP HCA HQA
        clear hA HLOA
        obtain ⟨wv, hwv⟩ : ∃ wv, wv = uv15 := ⟨_, rfl⟩
        rw [← hwv] at HVS
        have HKP2 := hide (show Kp A wv uv15 by rw [hwv]; exact unhide HKP)
        clear HKP
        have HKP := HKP2
        clear HKP2
        have HVZ2 := hide (show wv.heap.size ≤ uv15.heap.size by rw [hwv]; exact Nat.le_refl _)
        clear HVZ
        have HVZ := HVZ2
        clear HVZ2
        have HCA2 := hide (show gc < A ∨ wv.heap.size ≤ gc by rw [hwv]; exact unhide HCA)
        clear HCA
        have HCA := HCA2
        clear HCA2
        have HQA2 := hide (show q < A ∨ wv.heap.size ≤ q by rw [hwv]; exact unhide HQA)
        clear HQA
        have HQA := HQA2
        clear HQA2
        have HWL := hide (show w2.heap.size ≤ wv.heap.size by rw [hwv]; exact (unhide HLO).size)
        clear hwv
        refine wpAnyH_take (i := 5) (v := ?_) rfl (by kernel_rfl) (by kernel_rfl) (by kernel_rfl) (fun _ _ _ h => h) (Or.inl ⟨by rfl, ?_⟩) hS ?_
        rotate_left
        · intro u hu; (try dsimp only at hu); go_simp; try with_reducible rfl
        simp only [Act.put, List.getElem_toArray, List.getElem_cons_zero, List.getElem_cons_succ, List.setIfInBounds_toArray, List.set_cons_zero, List.set_cons_succ]
        refine wpAnyH_ready (rs := [7]) (by kernel_rfl) (by simp) ?_
        refine AllReadyH.cons rfl (fun K hK => ?_) AllReadyH.nil
        have b0 : uv15.cell? ⟨q, 0, none⟩ = some (.pointer none) := by simp [World.cell?, unhide HBX]
        have b1 : uv15.cell? ⟨q, 1, none⟩ = some (.int .i64 0) := by simp [World.cell?, unhide HBX]
        have b2 : uv15.cell? ⟨q, 2, none⟩ = some (.slice none 0 0) := by simp [World.cell?, unhide HBX]
        have b3 : uv15.cell? ⟨q, 3, none⟩ = some (.slice none 0 0) := by simp [World.cell?, unhide HBX]
        have b4 : uv15.cell? ⟨q, 4, none⟩ = some (.slice none 0 0) := by simp [World.cell?, unhide HBX]
        have f0 : uv15.frozen? ⟨q, 0, none⟩ = false := by simp [World.frozen?, unhide HBX]
        have f1 : uv15.frozen? ⟨q, 1, none⟩ = false := by simp [World.frozen?, unhide HBX]
        have f2 : uv15.frozen? ⟨q, 2, none⟩ = false := by simp [World.frozen?, unhide HBX]
        have f3 : uv15.frozen? ⟨q, 3, none⟩ = false := by simp [World.frozen?, unhide HBX]
        have f4 : uv15.frozen? ⟨q, 4, none⟩ = false := by simp [World.frozen?, unhide HBX]
        go_simp
        have HWK := hide (wk_start (unhide HBX) (unhide HCM) (unhide HQA) (unhide HCA) (unhide HVZ) vb)
        have HKS := hide (kp_start (unhide HKP) (unhide HQA) vb gc V)
        have HLS := hide (low_start (unhide HLO) (unhide HQW) vb gc V)
        have hS5 := set_start hS.1 hS.2 (show w.heap.size ≠ q by have := unhide HQW; omega) vb gc V
        refine hK.out _ _ hS5 (fun hS6 => ?_)
        clear hK K hS hS6 b0 b1 b2 b3 b4 f0 f1 f2 f3 f4
        refine wpAnyH_done (by kernel_rfl) ?_ _
        go_wp2_with fail
        go_meet
        case rel => exact ⟨q, gc, vb, A, wv, ea, ec, oa, oc, ia, ic, ra, rc, rfl, HVS, HWK, HKS, HLS, HWL, HAL, HQW, HCW⟩
  case rest =>
    obtain ⟨q, gc, vb, A, wv, ea, ec, oa, oc, ia, ic, ra, rc, rfl, HVS, HWK, HKP, HLO, HWL, HAL, HQW, HCW⟩ := hcut
    have k0 := cell_q c0 (unhide HLO)
    clear c0 c1
    go_wp2_with fail
    clear k0
    go_loopw [23] (fun i wr => ∃ (k : Nat) (R : Nat → Value) (bv : Value), i = .int .i64 k ∧ k ≤ V ∧ Hid (Wk A wv.heap.size wr q gc vb V (Df.outF es V k) R bv) ∧ Hid (Kp A wv wr) ∧ Hid (Below w2.heap.size w2 wr)) (fun i wr => V - (intOf i).toNat)
    case atStart => exact ⟨0, _, _, rfl, by omega, HWK, HKP, HLO⟩
    case round =>
      clear HWK HKP HLO
      obtain ⟨k, R, bv, rfl, hk, HK, HP, HL⟩ := hrel
      by_cases hlt : k < V
      · have hou := (Df.out_ou (unhide HG) k hk).1
        have hsz := Df.out_sz (unhide HG) k hk
        have HOU := hide hou
        have HSZ := hide hsz
        obtain ⟨_, _, q2, _, _⟩ := (unhide HK).cells
        have tx := (unhide HK).ct hlt
        have hlt2 : (k : Int) < (V : Int) := by omega
        clear hou hsz
        by_cases hcz : (Df.outF es V k).come k = 0
        · have HST := hide (Df.outF_pos hcz)
          have HCZ := hide hcz
          rw [hcz] at tx
          clear hcz
          go_wp2_with fail
          refine (from_any A wv q gc vb V es (unhide HPL) (unhide HG) ea ec oa oc ia ic ra rc (Pl.order V es) (unhide HVS) V k 0 (-1) (Df.outF es V k) wr R bv (by omega) hlt ((unhide HOU).pre (unhide HCZ)).1 ((unhide HOU).pre (unhide HCZ)).2 (Df.unv_bound V _) (unhide HSZ) (unhide HK) (unhide HP)).mono ?_
          rintro en w6 ⟨rfl, R6, bv6, hk6, hf6⟩
          have HK6 := hide hk6
          have HP6 := hide (hf6.bel (unhide HK) (unhide HP))
          have HL6 := hide (hf6.low (unhide HK) (unhide HQW) (unhide HCW) (unhide HWL) (unhide HL))
          clear hk6 hf6 HK HP HL q2 tx
          go_wp2_with fail
          go_roundw
          case rel => exact ⟨k + 1, R6, bv6, by go_num, by omega, by rw [unhide HST]; exact HK6, HP6, HL6⟩
          case measure => simp [intOf]; omega
        · have HST := hide (Df.outF_neg hcz)
          have hcz2 : ((((Df.outF es V k).come k : Nat) : Int) == 0) = false := by rw [beq_eq_false_iff_ne]; omega
          clear hcz
          go_wp2_with fail
          go_roundw
          case rel => exact ⟨k + 1, R, bv, by go_num, by omega, by rw [unhide HST]; exact HK, HP, HL⟩
          case measure => simp [intOf]; omega
      · obtain rfl : k = V := by omega
        obtain ⟨S, hS⟩ : ∃ S, Df.outF es k k = S := ⟨_, rfl⟩
        have hcls := Df.out_cls (unhide HG)
        have hsz := Df.out_sz (unhide HG) k (Nat.le_refl _)
        rw [hS] at HK hcls hsz
        have HCL := hide hcls
        have hzb := hsz.bks
        have HSZ := hide hsz
        obtain ⟨ba, bc, hbv, hbc⟩ := (unhide HK).bw
        have HBV := hide hbv
        obtain ⟨n, hn⟩ : ∃ n, S.bks.length = n := ⟨_, rfl⟩
        rw [hn] at hbv hbc hzb
        have HN := hide hn
        obtain ⟨_, _, _, _, q4⟩ := (unhide HK).cells
        rw [hbv] at q4
        have HB4 := hide hbv
        clear hS hcls hsz hn hbv
        go_wp2_with fail
        clear q4
        obtain ⟨wo, rfl⟩ : ∃ wo, wo = wr := ⟨_, rfl⟩
        go_loopw [38] (fun i wr => ∃ j : Nat, i = .int .i64 j ∧ j ≤ n ∧ Hid (Wk A wv.heap.size wr q gc vb k { S with bks := bkK S.bks j } R bv) ∧ Hid (Below w2.heap.size w2 wr)) (fun i wr => n - (intOf i).toNat)
        case atStart => exact ⟨0, rfl, by omega, by rw [bkK_zero]; exact HK, HL⟩
        case round =>
          clear HK HP HL
          obtain ⟨j, rfl, hj, HK, HL⟩ := hrel
          have hjn : j ≤ S.bks.length := by rw [unhide HN]; exact hj
          by_cases hjlt : j < n
          · have hjb : j < S.bks.length := by rw [unhide HN]; exact hjlt
            have hown := (unhide HK).rows.own (j + 1) (by show j + 1 < (bkK S.bks j).length + 1; rw [bkK_length _ _ hjn]; omega)
            rw [rowsOf_succ] at hown
            change World.ownsRow _ _ _ _ _ ((bkK S.bks j).getD j []).length (zcells (toIs ((bkK S.bks j).getD j []))) at hown
            rw [bkK_at hjb] at hown
            have hmemb : S.bks.getD j [] ∈ S.bks := by simp [List.getD, hjb]
            have hne := (unhide HSZ).ne _ hmemb
            have hpos : 0 < (S.bks.getD j []).length := List.length_pos_iff.2 hne
            have hle : (S.bks.getD j []).length ≤ 1000 := by
              have h1 := Pl.nodup_le es.length _ ((List.pairwise_flatten.1 (unhide HCL).nd).1 _ hmemb) fun x hx => ((unhide HCL).mem x).1 (List.mem_flatten.2 ⟨_, hmemb, hx⟩)
              omega
            obtain ⟨gj, cj, hRj, _, _⟩ := hown.form hpos
            have hbks := (unhide HK).bks
            change World.ownsRow _ _ _ _ _ (bkK S.bks j).length ((List.range (bkK S.bks j).length).map fun j => R (j + 1)) at hbks
            rw [bkK_length _ _ hjn, unhide HN, unhide HB4] at hbks
            obtain ⟨gb, bc2, hbe, _, _⟩ := hbks.form (by omega)
            simp only [Value.slice.injEq, true_and] at hbe
            obtain ⟨rfl, rfl⟩ := hbe
            have cj0 : wr.cell? ⟨gb, j, none⟩ = some (.slice (some ⟨gj, 0, none⟩) (S.bks.getD j []).length cj) := by
              rw [hbks.cellAt j (by omega), ← hRj]
              simp [hjlt]
            have HSR := hide ((unhide HSO) wr wv.heap.size (R (j + 1)) (S.bks.getD j []) hown hle hne)
            rw [hRj] at HSR
            have HRJ := hide hRj
            have hjlt2 : (j : Int) < (n : Int) := by omega
            have HLE := hide (srt_perm (S.bks.getD j [])).length_eq
            have HJB := hide hjb
            clear hown hmemb hne hle hbks hRj hjb
            generalize (S.bks.getD j []).length = mj at *
            go_wp2_with fail
            refine (unhide HSR).mono ?_
            rintro en w6 ⟨rfl, ho6, hg6⟩
            rw [← unhide HRJ] at ho6 hg6
            have hk6 := (unhide HK).sortRow (k := j) (ys := srt (S.bks.getD j [])) (by show j < (bkK S.bks j).length; rw [bkK_length _ _ hjn]; exact unhide HJB) (by rw [unhide HLE]; exact ho6) hg6
            have HK6 := hide (show Wk A wv.heap.size w6 q gc vb k { S with bks := bkK S.bks (j + 1) } R bv by rw [bkK_succ (unhide HJB)]; exact hk6)
            have HL6 := hide ((unhide HL).grown hg6 (Nat.le_trans (unhide HWL) (unhide HK).sz) fun i hi => Nat.le_trans (unhide HWL) ((unhide HK).row_lt (j := j + 1) (by show j + 1 < (bkK S.bks j).length + 1; rw [bkK_length _ _ hjn]; have := unhide HJB; omega) hi).1)
            clear hk6 ho6 hg6 HK HL HSR cj0
            go_wp2_with fail
            go_roundw
            case rel => exact ⟨j + 1, by go_num, by omega, HK6, HL6⟩
            case measure => simp [intOf]; omega
          · obtain rfl : j = n := by omega
            have hall : bkK S.bks j = S.bks.map srt := by rw [← unhide HN]; exact bkK_all _
            rw [hall] at HK
            have hbks := (unhide HK).bks
            change World.ownsRow _ _ _ _ _ (S.bks.map srt).length ((List.range (S.bks.map srt).length).map fun j => R (j + 1)) at hbks
            rw [show (S.bks.map srt).length = j by rw [List.length_map]; exact unhide HN] at hbks
            have HBK := hide hbks
            obtain ⟨_, _, _, _, q4⟩ := (unhide HK).cells
            rw [unhide HB4] at q4
            have HQ4 := hide q4
            clear hall hbks
            by_cases hj0 : j = 0
            · subst hj0
              go_wp2_with fail
              refine ((unhide HS0) wr ba bc).mono ?_
              rintro en w6 ⟨rfl, hw6⟩
              obtain rfl := hw6.symm
              clear hw6
              go_wp2_with fail
              go_ret
              refine ⟨?_, (unhide HB2).trans ((unhide HL).mono (unhide HB2).size)⟩
              have := blocks_end (p := []) (unhide HK) (unhide HN) (unhide HCL) (unhide HIL) hn128 (by simp) (by simpa using unhide HBK) ⟨rfl, rfl, rfl, Nat.le_refl _, fun _ _ _ => rfl⟩ (by simp) (show w.heap.size ≤ wv.heap.size by have := unhide HWL; omega)
              rw [unhide HB4] at this
              exact this
            · have hbk2 := unhide HBK
              rw [unhide HB4] at hbk2
              obtain ⟨gb, bc2, hbe, _, _⟩ := hbk2.form (by omega)
              simp only [Value.slice.injEq, true_and] at hbe
              obtain ⟨rfl, rfl⟩ := hbe
              have HSR := hide ((unhide HSF) wr wv.heap.size gb j bc (fun i => R (i + 1)) (fun i => (S.bks.map srt).getD i []) (by omega) (by omega) hbk2 (hr_of (unhide HK) (unhide HN) (unhide HCL) hn128 (unhide HB4)))
              clear hbk2
              go_wp2_with fail
              refine (unhide HSR).mono ?_
              rintro en w6 ⟨rfl, ⟨p, hp, hps, hpo⟩, hpg⟩
              have hqg : q ≠ gb := fun e => (unhide HK).bv_q (by rw [unhide HB4, e]; rfl)
              have r4 : w6.cell? ⟨q, 4, none⟩ = some (.slice (some ⟨gb, 0, none⟩) j bc) := by
                rw [World.cell?_of_block (w := wr) (hpg.block q (unhide HK).q_lt (fun e => hqg (Option.some.inj e)))]
                exact unhide HQ4
              have HPP := hide hp
              have HPS := hide hps
              have HPO := hide hpo
              have HPG := hide hpg
              clear hp hps hpo hpg q4
              go_wp2_with fail
              go_ret
              refine ⟨?_, ?_⟩
              · have := blocks_end (w' := w6) (p := p) (unhide HK) (unhide HN) (unhide HCL) (unhide HIL) hn128 (unhide HPP) (by rw [unhide HB4]; exact unhide HPO) (by rw [unhide HB4]; exact unhide HPG) (unhide HPS) (show w.heap.size ≤ wv.heap.size by have := unhide HWL; omega)
                rw [unhide HB4] at this
                exact this
              · refine (unhide HB2).trans (((unhide HL).grown (unhide HPG) (Nat.le_trans (unhide HWL) (unhide HK).sz) fun i hi => ?_).mono (unhide HB2).size)
                have := (unhide HK).bv_lt (g := i) (by rw [unhide HB4]; exact hi)
                exact Nat.le_trans (unhide HWL) this.1
end Go.Proofs.Ytbecmaandhadhaa


/-
  The contract of Place, whatever is asked. Conditions: the front lies in memory, and stands, as told.
-/
import Derived.Test.YtdkchihomllokaaCln
import Derived.Test.YtdkchihomllokaaMd9
namespace Go.Proofs.Ytdkchihomllokaa
open Go.RowKit
set_option linter.unusedVariables false
set_option maxRecDepth 20000

/-- a front in memory, with all that it looks at -/
structure Fy (N b0 : Nat) (w : World) (b V : Nat) (es : List (Nat × Nat)) (s : Fs) (ra : Option Addr) (pv : Value) (row : List It) (pl : List Nat) : Prop where
  sn : Sn N b0 w V es s
  fb : ∃ rc, Fb N w b V s ra rc row pv pl
  rr : row = [] → ra = none
  bb : b = b0 ∨ N ≤ b
theorem Fy.below {N b0 : Nat} {w w' : World} {b V : Nat} {es : List (Nat × Nat)} {s : Fs} {ra : Option Addr} {pv : Value} {row : List It} {pl : List Nat} (h : Fy N b0 w b V es s ra pv row pl) (hb : Below w.heap.size w w') : Fy N b0 w' b V es s ra pv row pl := by
  obtain ⟨rc, hf⟩ := h.fb
  exact ⟨h.sn.below hb, ⟨rc, hf.below hb⟩, h.rr, h.bb⟩
/-- what is asked of a front, and what it answers: a code, what ends, what it is then -/
def Placed (V : Nat) (es : List (Nat × Nat)) (src : Nat) (row : List It) (pl : List Nat) (x : Int) (zs : List Int) (code : Int) (ends row2 : List It) (pl2 : List Nat) : Prop :=
  (code = 3 ∧ ends = [] ∧ row2 = row ∧ pl2 = pl ∧ ∀ y : Nat, x = (y : Int) → ¬ ReadyAt V es src row pl y) ∨
  (code = 1 ∧ ends = [] ∧ row2 = row ∧ pl2 = pl ∧ ∃ y : Nat, x = (y : Int) ∧ y < V ∧ ReadyAt V es src row pl y ∧ srtZ zs ≠ toIs (Pl.outs es y)) ∨
  (code = 0 ∧ ∃ (y : Nat) (o : List Nat), x = (y : Int) ∧ y < V ∧ zs = toIs o ∧ o.Perm (Pl.outs es y) ∧ pl2 = pl ++ [y] ∧
    ((pl = [] ∧ y = src ∧ ends = [] ∧ row2 = aboveF es y o) ∨ (pl ≠ [] ∧ ∃ A C, Rdy V es row y A ends C ∧ row2 = A ++ (aboveF es y o ++ C))))
theorem bare_src {V : Nat} {es : List (Nat × Nat)} {src : Nat} (h : bare (Pl.ins es) V = [src]) : src < V ∧ Pl.ins es src = [] := by
  have : src ∈ bare (Pl.ins es) V := by rw [h]; simp
  unfold bare at this
  obtain ⟨h1, h2⟩ := List.mem_filter.1 this
  exact ⟨List.mem_range.1 h1, by simpa using h2⟩
theorem Placed.inv {V : Nat} {es : List (Nat × Nat)} {src : Nat} {row : List It} {pl : List Nat} {x : Int} {zs : List Int} {code : Int} {ends row2 : List It} {pl2 : List Nat} (h : Placed V es src row pl x zs code ends row2 pl2) (hI : Inv V es src row pl) (hp : Plain V es) (hs : bare (Pl.ins es) V = [src]) : Inv V es src row2 pl2 := by
  rcases h with ⟨_, _, rfl, rfl, _⟩ | ⟨_, _, rfl, rfl, _⟩ | ⟨_, y, o, _, _, _, ho, rfl, h⟩
  · exact hI
  · exact hI
  · rcases h with ⟨rfl, rfl, _, rfl⟩ | ⟨hne, A, C, hr, rfl⟩
    · exact Inv.first hp (bare_src hs).1 (bare_src hs).2 ho
    · exact hI.place hp hne hr ho
/-- what Place leaves -/
def StepTold (N b0 b V : Nat) (es : List (Nat × Nat)) (src : Nat) (s : Fs) (ra : Option Addr) (pv : Value) (row : List It) (pl : List Nat) (x : Int) (zs : List Int) (w w' : World) (e : Ending) : Prop :=
  ∃ code ends row2 pl2 v ra' pv', Placed V es src row pl x zs code ends row2 pl2 ∧ e = .returned (.tuple #[v, .int .i64 code]) ∧ w'.ownsRow w.heap.size 72 3 v ends.length (icells ends) ∧ Fy N b0 w' b V es s ra' pv' row2 pl2 ∧
    (∀ g off, ra' = some ⟨g, off, none⟩ → ra = some ⟨g, off, none⟩ ∨ w.heap.size ≤ g) ∧ (∀ g, pv'.ownBlock = some g → pv.ownBlock = some g ∨ w.heap.size ≤ g) ∧ (∀ g, v.ownBlock = some g → pv'.ownBlock ≠ some g) ∧ Bz (min b N) (fun i => i = b ∨ pv.ownBlock = some i) w w'

theorem perm_toIs {zs : List Int} {l : List Nat} (h : zs.Perm (toIs l)) : ∃ o, zs = toIs o ∧ o.Perm l := by
  have hnn : ∀ z ∈ zs, 0 ≤ z := fun z hz => by
    obtain ⟨i, _, rfl⟩ := List.mem_map.1 (h.mem_iff.1 hz)
    omega
  have h1 : zs = toIs (zs.map Int.toNat) := by
    unfold toIs
    rw [List.map_map]
    have : zs.map ((fun (x : Nat) => (x : Int)) ∘ Int.toNat) = zs.map id := List.map_congr_left fun z hz => by
      have := hnn z hz
      simp
      omega
    rw [this, List.map_id]
  refine ⟨zs.map Int.toNat, h1, ?_⟩
  have h2 := h.map Int.toNat
  have h3 : (toIs l).map Int.toNat = l := by
    unfold toIs
    rw [List.map_map]
    have : l.map (Int.toNat ∘ fun (x : Nat) => (x : Int)) = l.map id := List.map_congr_left fun z hz => by simp
    rw [this, List.map_id]
  rw [h3] at h2
  exact h2

theorem place_any (w : World) (N b0 b V : Nat) (es : List (Nat × Nat)) (src : Nat) (s : Fs) (ra : Option Addr) (pv : Value) (row : List It) (pl : List Nat) (hF : Fy N b0 w b V es s ra pv row pl) (hp : Plain V es) (hsrc : bare (Pl.ins es) V = [src]) (hI : Inv V es src row pl)
    (x : Int) (oa : Option Addr) (on oc : Nat) (zs : List Int) (hO : Ns w oa on zs) (hno : oa = none → on = 0 ∧ oc = 0) (hon : on * 8 ≤ 140737488355328) (hos : ∀ g off, oa = some ⟨g, off, none⟩ → 0 < on → ¬ (g = b ∨ pv.ownBlock = some g)) :
    Calls Try.prog 13 #[.pointer (some ⟨b, 0, none⟩), .int .i64 x, .slice oa on oc] w fun e w' => StepTold N b0 b V es src s ra pv row pl x zs w w' e := by
  obtain ⟨rc, hf⟩ := hF.fb
  have hD := hF.sn.sd
  have hR := hI.rowOk hp
  have hNw : N ≤ w.heap.size := hF.sn.1
  have stay : ∀ (code : Int) (w' : World), Below w.heap.size w w' → Placed V es src row pl x zs code [] row pl → StepTold N b0 b V es src s ra pv row pl x zs w w' (.returned (.tuple #[.slice none 0 0, .int .i64 code])) := fun code w' hb hP =>
    ⟨code, [], row, pl, _, ra, pv, hP, rfl, World.ownsRow_nil _ _ _ _, hF.below hb, fun g off h => .inl h, fun g h => .inl h, fun g h => by simp [Value.ownBlock] at h, Bz.of hb (Nat.le_trans (Nat.min_le_right _ _) hNw)⟩
  -- who is ready
  have hwr : ∀ bn ∈ wholeF V es src row pl, ∃ y : Nat, bn.head = (y : Int) ∧ y < V ∧ ReadyAt V es src row pl y := by
    intro bn hb
    by_cases hpl : pl = []
    · subst hpl
      have : bn = ⟨src, 0, 0, 0⟩ := by unfold wholeF at hb; simpa using hb
      subst this
      exact ⟨src, rfl, (bare_src hsrc).1, .inl ⟨rfl, rfl⟩⟩
    · obtain ⟨y, hy, hr, _⟩ := whole_ready hI hp hb hpl
      exact ⟨y, hy, hr.lt, .inr ⟨hpl, _, _, _, hr⟩⟩
  have hrw : ∀ y : Nat, ReadyAt V es src row pl y → ∃ bn ∈ wholeF V es src row pl, bn.head = (y : Int) := by
    intro y hy
    rcases hy with ⟨rfl, rfl⟩ | ⟨hne, A, Y, C, hr⟩
    · exact ⟨⟨y, 0, 0, 0⟩, by simp [wholeF], rfl⟩
    · obtain ⟨bn, hb, h1, _⟩ := ready_whole (src := src) hne hr
      exact ⟨bn, hb, h1⟩
  rcases ixp_cases (wholeF V es src row pl).length (fun j => (((wholeF V es src row pl).getD j _root_.Go.Proofs.Ytdkchihomllokaa.b0).head == x)) with ⟨_, hall⟩ | ⟨m, _, hm, hpm, hbm⟩
  · have hnone : ∀ bn ∈ wholeF V es src row pl, bn.head ≠ x := by
      intro bn hb
      obtain ⟨j, hj, rfl⟩ := List.mem_iff_getElem.1 hb
      have := hall j hj
      rw [List.getD_eq_getElem?_getD, List.getElem?_eq_getElem hj] at this
      simpa using this
    refine (place_none w N b V es s ra rc row pv pl hf hD hp src hsrc hR x oa on oc hnone).mono ?_
    rintro e w' ⟨rfl, hb⟩
    refine stay 3 w' hb (.inl ⟨rfl, rfl, rfl, rfl, fun y hy hr => ?_⟩)
    obtain ⟨bn, hb, he⟩ := hrw y hr
    exact hnone bn hb (by rw [he, hy])
  · obtain ⟨bn, hbn⟩ : ∃ bn, (wholeF V es src row pl).getD m _root_.Go.Proofs.Ytdkchihomllokaa.b0 = bn := ⟨_, rfl⟩
    have hmem : bn ∈ wholeF V es src row pl := by rw [← hbn, List.getD_eq_getElem?_getD, List.getElem?_eq_getElem hm]; exact List.getElem_mem _
    obtain ⟨y, hy, hyV, hyr⟩ := hwr bn hmem
    rw [hbn] at hpm
    have hxy : x = (y : Int) := by rw [← hy]; simp at hpm; exact hpm.symm
    subst hxy
    have hbef : ∀ j, j < m → ((wholeF V es src row pl).getD j _root_.Go.Proofs.Ytdkchihomllokaa.b0).head ≠ (y : Int) := fun j hj => by have := hbm j hj; simpa using this
    by_cases hok : srtZ zs = toIs (Pl.outs es y)
    · obtain ⟨o, hzo, hop⟩ := perm_toIs (show zs.Perm (toIs (Pl.outs es y)) from hok ▸ (srtZ_perm zs).symm)
      have hol : o.length ≤ 128 := by rw [hop.length_eq]; exact Nat.le_trans (Pl.sel_len _ _ _) hp.n128
      have hoe : ∀ i ∈ o, i < es.length := fun i hi => (mem_outs.1 (hop.mem_iff.1 hi)).1
      have hrl := hI.rlen
      have hpl64 := hI.plen
      have hab := above_len es y o
      have hn := hp.n128
      have hv := hp.v64
      have seg : bn.lo ≤ bn.hi ∧ bn.hi ≤ row.length ∧ (row ≠ [] → bn.lo < bn.hi) ∧ ((pl = [] ∧ y = src ∧ (row.take bn.hi).drop bn.lo = [] ∧ row.take bn.lo ++ (aboveF es y o ++ row.drop bn.hi) = aboveF es y o) ∨ (pl ≠ [] ∧ Rdy V es row y (row.take bn.lo) ((row.take bn.hi).drop bn.lo) (row.drop bn.hi))) := by
        by_cases hpl : pl = []
        · have hr0 := hI.e0 hpl
          subst hpl
          subst hr0
          have : bn = ⟨src, 0, 0, 0⟩ := by unfold wholeF at hmem; simpa using hmem
          subst this
          refine ⟨Nat.le_refl _, Nat.le_refl _, fun h => absurd rfl h, .inl ⟨rfl, ?_, by simp, by simp⟩⟩
          have : ((src : Nat) : Int) = (y : Int) := hy
          omega
        · obtain ⟨y', hy', hr, h1, h2⟩ := whole_ready hI hp hmem hpl
          have : y' = y := by rw [hy] at hy'; omega
          subst this
          exact ⟨by omega, h2, fun _ => h1, .inr ⟨hpl, hr⟩⟩
      obtain ⟨h1, h2, h3, h4⟩ := seg
      refine (place_ok w N b V es s ra rc row pv pl hf hD hp src hsrc hR y hyV oa on oc zs hO hno hon m hm (by show ((wholeF V es src row pl).getD m _root_.Go.Proofs.Ytdkchihomllokaa.b0).head = _; rw [hbn]; exact hy) hbef bn hbn hok o hzo h1 h2 hF.rr h3 (by omega) (by omega) hNw b0 hF.sn hF.bb hos hoe hol).mono ?_
      rintro e w' ⟨⟨v, ra', rc', pv', rfl, hov, hF', hra', hrn', hpv', hvp⟩, hbz⟩
      refine ⟨0, _, _, _, v, ra', pv', .inr (.inr ⟨rfl, y, o, rfl, hyV, hzo, hop, rfl, ?_⟩), rfl, hov, ⟨?_, ⟨rc', hF'⟩, fun he => ?_, hF.bb⟩, fun g off he => .inr (hra' g off he), hpv', hvp, hbz⟩
      · rcases h4 with ⟨e1, e2, e3, e4⟩ | ⟨e1, e2⟩
        · exact .inl ⟨e1, e2, e3, e4⟩
        · exact .inr ⟨e1, _, _, e2, rfl⟩
      · refine hF.sn.keep (Nat.le_trans hNw hbz.size) (fun i hi hne => hbz.far i (by omega) (fun h => ?_))
        rcases h with h | h
        · rcases hF.bb with e | e
          · exact hne (by rw [h, e])
          · omega
        · have := (hf.own.lt i h).1; omega
      · exfalso
        have := above_ne es y o
        simp at he
        exact this he.2.1
    · refine (place_arg w N b V es s ra rc row pv pl hf hD hp src hsrc hR y hyV oa on oc zs hO hno hon m hm (by show ((wholeF V es src row pl).getD m _root_.Go.Proofs.Ytdkchihomllokaa.b0).head = _; rw [hbn]; exact hy) hbef bn hbn hok).mono ?_
      rintro e w' ⟨rfl, hb⟩
      exact stay 1 w' hb (.inr (.inl ⟨rfl, rfl, rfl, rfl, y, rfl, hyV, hyr, hok⟩))
end Go.Proofs.Ytdkchihomllokaa


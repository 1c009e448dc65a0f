/-
  Two vertices that are ready change places; two fronts in memory, the one a clone of the other. No conditions.
-/
import Derived.Test.YtdkchihomllokaaSk9
import Derived.Test.YtdkchihomllokaaOa9
namespace Go.Proofs.Ytdkchihomllokaa
open Go.RowKit
set_option linter.unusedVariables false
set_option maxRecDepth 20000

theorem Rdy.apart {V : Nat} {es : List (Nat × Nat)} {row : List It} {y1 y2 : Nat} {A1 Y1 C1 A2 Y2 C2 : List It} (h1 : Rdy V es row y1 A1 Y1 C1) (h2 : Rdy V es row y2 A2 Y2 C2) (hne : y1 ≠ y2) (hle : A1.length ≤ A2.length) : A1.length + Y1.length ≤ A2.length := by
  rcases Nat.lt_or_ge A2.length (A1.length + Y1.length) with hc | hc
  · exfalso
    obtain ⟨t, Z, hZ, hp⟩ := h2.fst
    have e1 : row.getD A2.length (0, 0, 0) = t := by rw [h2.eq, gd_right (Nat.le_refl _), Nat.sub_self, hZ]; rfl
    have e2 : row.getD A2.length (0, 0, 0) ∈ Y1 := by rw [h1.eq, gd_right hle, gd_left (by omega)]; exact gd_mem (by omega)
    rw [e1] at e2
    obtain ⟨p1, p2⟩ := pE_iff.1 hp
    rcases h1.mid t e2 with h | h
    · exact p1 h
    · omega
  · exact hc
theorem Rdy.cut {V : Nat} {es : List (Nat × Nat)} {row : List It} {y1 y2 : Nat} {A1 Y1 C1 A2 Y2 C2 : List It} (h1 : Rdy V es row y1 A1 Y1 C1) (h2 : Rdy V es row y2 A2 Y2 C2) (hne : y1 ≠ y2) (hle : A1.length ≤ A2.length) : ∃ M, A2 = A1 ++ (Y1 ++ M) ∧ C1 = M ++ (Y2 ++ C2) := by
  have hl := h1.apart h2 hne hle
  have e : (A1 ++ Y1) ++ C1 = A2 ++ (Y2 ++ C2) := by rw [List.append_assoc, ← h1.eq, ← h2.eq]
  rcases List.append_eq_append_iff.1 e with ⟨M, hA, hC⟩ | ⟨M, hA, hC⟩
  · exact ⟨M, by rw [hA, List.append_assoc], hC⟩
  · have := congrArg List.length hA
    simp at this
    have hM : M = [] := List.length_eq_zero_iff.1 (by omega)
    subst hM
    refine ⟨[], ?_, ?_⟩
    · rw [List.append_nil] at hA ⊢; exact hA.symm
    · simpa using hC.symm
theorem above_not {V : Nat} {es : List (Nat × Nat)} {src : Nat} {row : List It} {pl : List Nat} (h : Inv V es src row pl) {y1 y2 : Nat} {A1 Y1 C1 A2 Y2 C2 : List It} (h1 : Rdy V es row y1 A1 Y1 C1) (h2 : Rdy V es row y2 A2 Y2 C2) {o : List Nat} (ho : o.Perm (Pl.outs es y1)) : ∀ t ∈ aboveF es y1 o, pE y2 t = false := by
  intro t ht
  rcases above_item ht with ⟨rfl, _⟩ | ⟨i, hi, rfl⟩
  · rfl
  · obtain ⟨hil, hi1⟩ := mem_outs.1 (ho.mem_iff.1 hi)
    cases hp : pE y2 (itemAt es y1 i) with
    | false => rfl
    | true =>
      exfalso
      obtain ⟨_, p2⟩ := pE_iff.1 hp
      have hi2 : (Pl.at' es i).2 = y2 := by unfold itemAt at p2; simp at p2; omega
      have := ((h.tails h2).1 i hil hi2).1
      rw [hi1] at this
      exact (h.tails h1).2 this
/-- the one on the left is placed first -/
theorem swap_left {V : Nat} {es : List (Nat × Nat)} {src : Nat} {row : List It} {pl : List Nat} (h : Inv V es src row pl) {y1 y2 : Nat} {A1 Y1 C1 A2 Y2 C2 : List It} (h1 : Rdy V es row y1 A1 Y1 C1) (h2 : Rdy V es row y2 A2 Y2 C2) (hne : y1 ≠ y2) (hle : A1.length ≤ A2.length) {o1 o2 : List Nat} (ho1 : o1.Perm (Pl.outs es y1)) (ho2 : o2.Perm (Pl.outs es y2)) :
    ∃ row12, (∃ A C, Rdy V es (A1 ++ (aboveF es y1 o1 ++ C1)) y2 A Y2 C ∧ row12 = A ++ (aboveF es y2 o2 ++ C)) ∧ (∃ A C, Rdy V es (A2 ++ (aboveF es y2 o2 ++ C2)) y1 A Y1 C ∧ row12 = A ++ (aboveF es y1 o1 ++ C)) := by
  obtain ⟨M, rfl, rfl⟩ := h1.cut h2 hne hle
  refine ⟨A1 ++ (aboveF es y1 o1 ++ (M ++ (aboveF es y2 o2 ++ C2))), ⟨A1 ++ (aboveF es y1 o1 ++ M), C2, ⟨?_, ?_, h2.outC, h2.mid, h2.fst, h2.lst, h2.cnt, h2.lt⟩, ?_⟩, ⟨A1, M ++ (aboveF es y2 o2 ++ C2), ⟨?_, h1.outA, ?_, h1.mid, h1.fst, h1.lst, h1.cnt, h1.lt⟩, rfl⟩⟩
  · simp [List.append_assoc]
  · intro t ht
    rcases List.mem_append.1 ht with ht | ht
    · exact h2.outA t (by simp [ht])
    rcases List.mem_append.1 ht with ht | ht
    · exact above_not h h1 h2 ho1 t ht
    · exact h2.outA t (by simp [ht])
  · simp [List.append_assoc]
  · simp [List.append_assoc]
  · intro t ht
    rcases List.mem_append.1 ht with ht | ht
    · exact h1.outC t (by simp [ht])
    rcases List.mem_append.1 ht with ht | ht
    · exact above_not h h2 h1 ho2 t ht
    · exact h1.outC t (by simp [ht])
/-- two that are ready: either order comes to the same -/
theorem swap_rows {V : Nat} {es : List (Nat × Nat)} {src : Nat} {row : List It} {pl : List Nat} (h : Inv V es src row pl) {y1 y2 : Nat} {A1 Y1 C1 A2 Y2 C2 : List It} (h1 : Rdy V es row y1 A1 Y1 C1) (h2 : Rdy V es row y2 A2 Y2 C2) (hne : y1 ≠ y2) {o1 o2 : List Nat} (ho1 : o1.Perm (Pl.outs es y1)) (ho2 : o2.Perm (Pl.outs es y2)) :
    ∃ row12, (∃ A C, Rdy V es (A1 ++ (aboveF es y1 o1 ++ C1)) y2 A Y2 C ∧ row12 = A ++ (aboveF es y2 o2 ++ C)) ∧ (∃ A C, Rdy V es (A2 ++ (aboveF es y2 o2 ++ C2)) y1 A Y1 C ∧ row12 = A ++ (aboveF es y1 o1 ++ C)) := by
  rcases Nat.le_total A1.length A2.length with hle | hle
  · exact swap_left h h1 h2 hne hle ho1 ho2
  · obtain ⟨r, p, q⟩ := swap_left h h2 h1 (fun e => hne e.symm) hle ho2 ho1
    exact ⟨r, q, p⟩
/-- a vertex that is ready, with all its edges, is placed -/
theorem Placed.ready {V : Nat} {es : List (Nat × Nat)} {src : Nat} {row : List It} {pl : List Nat} {y : Nat} {o : List Nat} {code : Int} {ends row2 : List It} {pl2 : List Nat} (h : Placed V es src row pl (y : Nat) (toIs o) code ends row2 pl2) (hpl : pl ≠ []) {A Y C : List It} (hr : Rdy V es row y A Y C) (ho : srtZ (toIs o) = toIs (Pl.outs es y)) :
    code = 0 ∧ ends = Y ∧ row2 = A ++ (aboveF es y o ++ C) ∧ pl2 = pl ++ [y] := by
  rcases h with ⟨_, _, _, _, h⟩ | ⟨_, _, _, _, y', hy, _, _, h⟩ | ⟨rfl, y', o', hy, _, ho', _, rfl, h⟩
  · exact absurd (.inr ⟨hpl, _, _, _, hr⟩) (h y rfl)
  · obtain rfl : y' = y := by omega
    exact absurd ho h
  · obtain rfl : y' = y := by omega
    obtain rfl : o' = o := toIs_inj ho'.symm
    rcases h with ⟨h, _⟩ | ⟨_, A', C', hr', rfl⟩
    · exact absurd h hpl
    · obtain ⟨rfl, rfl, rfl⟩ := hr.only hr'
      exact ⟨rfl, rfl, rfl, rfl⟩
end Go.Proofs.Ytdkchihomllokaa

namespace Go.Proofs.Ytdkchihomllokaa
open Go.RowKit
set_option linter.unusedVariables false
set_option maxRecDepth 20000

theorem Fy.keep {N b0 : Nat} {w w' : World} {b V : Nat} {es : List (Nat × Nat)} {s : Fs} {ra : Option Addr} {pv : Value} {row : List It} {pl : List Nat} {B : Nat} {S : Nat → Prop} (h : Fy N b0 w b V es s ra pv row pl) (hz : Bz B S w w') (h1 : ¬ S b) (h2 : ∀ g off, ra = some ⟨g, off, none⟩ → ¬ S g) (h3 : ∀ g, pv.ownBlock = some g → ¬ S g) (h4 : ∀ i, S i → i = b0 ∨ N ≤ i) : Fy N b0 w' b V es s ra pv row pl := by
  obtain ⟨rc, hf⟩ := h.fb
  refine ⟨h.sn.keep (Nat.le_trans h.sn.1 hz.size) (fun i hi hne => hz.far i (Nat.lt_of_lt_of_le hi h.sn.1) (fun hs => ?_)), ⟨rc, hf.keep hz.size (hz.far b hf.lt h1) (fun g off he => ?_) (fun g hg => hz.far g (hf.own.lt g hg).2 (h3 g hg))⟩, h.rr, h.bb⟩
  · rcases h4 i hs with e | e
    · exact hne e
    · omega
  · by_cases hr : row = []
    · rw [h.rr hr] at he; cases he
    · exact hz.far g (hf.rlt hr g off he) (h2 g off he)
theorem Fy.up {N b0 : Nat} {w : World} {b V : Nat} {es : List (Nat × Nat)} {s : Fs} {ra : Option Addr} {pv : Value} {row : List It} {pl : List Nat} (h : Fy N b0 w b V es s ra pv row pl) : b < w.heap.size ∧ (∀ g off, ra = some ⟨g, off, none⟩ → g < w.heap.size) ∧ (∀ g, pv.ownBlock = some g → N ≤ g ∧ g < w.heap.size) := by
  obtain ⟨rc, hf⟩ := h.fb
  refine ⟨hf.lt, fun g off he => ?_, fun g hg => hf.own.lt g hg⟩
  by_cases hr : row = []
  · rw [h.rr hr] at he; cases he
  · exact hf.rlt hr g off he
/-- a row that was handed back -/
def Vl (w : World) (v : Value) (l : List It) : Prop := ∃ B, w.ownsRow B 72 3 v l.length (icells l)
theorem Vl.below {w w' : World} {v : Value} {l : List It} (h : Vl w v l) (hb : Below w.heap.size w w') : Vl w' v l := by
  obtain ⟨B, h⟩ := h
  exact ⟨B, owns_below' h hb⟩
theorem Vl.is {w : World} {a : Option Addr} {c : Nat} {l : List It} (h : Vl w (.slice a l.length c) l) (hl : l.length ≤ 400) : Is w a l := by
  obtain ⟨B, h⟩ := h
  obtain ⟨a', c', hv, _, _, hI, _⟩ := cr_of_owns h (by omega)
  cases hv
  exact hI
theorem Vl.keep {w w' : World} {v : Value} {l : List It} {B : Nat} {S : Nat → Prop} (h : Vl w v l) (hz : Bz B S w w') (hS : ∀ g, v.ownBlock = some g → ¬ S g) : Vl w' v l := by
  obtain ⟨B, h⟩ := h
  exact ⟨B, owns_keep h fun g hg => hz.far g (h.lt g hg).2 (hS g hg)⟩

/-- while the first one places -/
structure T1 (N b V : Nat) (es : List (Nat × Nat)) (s : Fs) (z6 z7 : Nat) (w : World) (ra : Option Addr) (pv : Value) (row : List It) (pl : List Nat) (rh : Option Addr) (ph : Value) (rowh : List It) (plh : List Nat) (L : List (Value × List It)) : Prop where
  f : Fy N b w b V es s ra pv row pl
  h : Fy N b w z6 V es s rh ph rowh plh
  bz : b < z6 ∧ z6 < z7 ∧ z7 ≤ w.heap.size ∧ N ≤ z6
  fr : ∀ g off, ra = some ⟨g, off, none⟩ → g < z6 ∨ z7 ≤ g
  fp : ∀ g, pv.ownBlock = some g → g < z6 ∨ z7 ≤ g
  hr : ∀ g off, rh = some ⟨g, off, none⟩ → z6 ≤ g ∧ g < z7
  hp : ∀ g, ph.ownBlock = some g → z6 ≤ g ∧ g < z7
  vl : ∀ p ∈ L, Vl w p.1 p.2 ∧ ∀ g, p.1.ownBlock = some g → z7 ≤ g ∧ pv.ownBlock ≠ some g
theorem T1.below {N b V : Nat} {es : List (Nat × Nat)} {s : Fs} {z6 z7 : Nat} {w w' : World} {ra : Option Addr} {pv : Value} {row : List It} {pl : List Nat} {rh : Option Addr} {ph : Value} {rowh : List It} {plh : List Nat} {L : List (Value × List It)} (t : T1 N b V es s z6 z7 w ra pv row pl rh ph rowh plh L) (hb : Below w.heap.size w w') : T1 N b V es s z6 z7 w' ra pv row pl rh ph rowh plh L :=
  ⟨t.f.below hb, t.h.below hb, ⟨t.bz.1, t.bz.2.1, Nat.le_trans t.bz.2.2.1 hb.size, t.bz.2.2.2⟩, t.fr, t.fp, t.hr, t.hp, fun p hp => ⟨(t.vl p hp).1.below hb, (t.vl p hp).2⟩⟩
theorem T1.step {N b V : Nat} {es : List (Nat × Nat)} {src : Nat} {s : Fs} {z6 z7 : Nat} {w w' : World} {ra : Option Addr} {pv : Value} {row : List It} {pl : List Nat} {rh : Option Addr} {ph : Value} {rowh : List It} {plh : List Nat} {L : List (Value × List It)} (t : T1 N b V es s z6 z7 w ra pv row pl rh ph rowh plh L) {x : Int} {zs : List Int} {e : Ending} (hs : StepTold N b b V es src s ra pv row pl x zs w w' e) :
    ∃ code ends row2 pl2 v ra' pv', Placed V es src row pl x zs code ends row2 pl2 ∧ e = .returned (.tuple #[v, .int .i64 code]) ∧ (∃ a c, v = .slice a ends.length c) ∧ T1 N b V es s z6 z7 w' ra' pv' row2 pl2 rh ph rowh plh (L ++ [(v, ends)]) ∧ Below (min b N) w w' := by
  obtain ⟨code, ends, row2, pl2, v, ra', pv', hP, rfl, hov, hF', hra', hpv', hvp, hbz⟩ := hs
  have hb := t.bz
  have hu := t.f.up
  refine ⟨code, ends, row2, pl2, v, ra', pv', hP, rfl, own_shape hov, ⟨hF', t.h.keep hbz ?_ ?_ ?_ ?_, ⟨hb.1, hb.2.1, Nat.le_trans hb.2.2.1 hbz.size, hb.2.2.2⟩, ?_, ?_, t.hr, t.hp, fun p hp => ?_⟩, hbz.bel⟩
  · rintro (h | h)
    · omega
    · have := t.fp _ h; omega
  · rintro g off he (h | h)
    · have := t.hr g off he; omega
    · have := t.hr g off he; have := t.fp _ h; omega
  · rintro g hg (h | h)
    · have := t.hp g hg; omega
    · have := t.hp g hg; have := t.fp _ h; omega
  · rintro i (h | h)
    · exact .inl h
    · exact .inr (hu.2.2 i h).1
  · intro g off he
    rcases hra' g off he with h | h
    · exact t.fr g off h
    · right; omega
  · intro g hg
    rcases hpv' g hg with h | h
    · exact t.fp g h
    · right; omega
  · rcases List.mem_append.1 hp with hp | hp
    · obtain ⟨h1, h2⟩ := t.vl p hp
      have hlt : ∀ g, p.1.ownBlock = some g → g < w.heap.size := fun g hg => by obtain ⟨B, h⟩ := h1; exact (h.lt g hg).2
      refine ⟨h1.keep hbz (fun g hg => ?_), fun g hg => ⟨(h2 g hg).1, fun hq => ?_⟩⟩
      · rintro (h | h)
        · have := (h2 g hg).1; omega
        · exact (h2 g hg).2 h
      · rcases hpv' g hq with h | h
        · exact (h2 g hg).2 h
        · have := hlt g hg; omega
    · have := List.mem_singleton.1 hp
      subst this
      exact ⟨⟨_, hov⟩, fun g hg => ⟨by have := (hov.lt g hg).1; omega, hvp g hg⟩⟩

/-- while the other one places -/
structure T2 (N b V : Nat) (es : List (Nat × Nat)) (s : Fs) (z6 z7 z11 : Nat) (w : World) (ra : Option Addr) (pv : Value) (row : List It) (pl : List Nat) (rh : Option Addr) (ph : Value) (rowh : List It) (plh : List Nat) (L : List (Value × List It)) : Prop where
  f : Fy N b w b V es s ra pv row pl
  h : Fy N b w z6 V es s rh ph rowh plh
  bz : b < z6 ∧ z6 < z7 ∧ z7 ≤ z11 ∧ z11 ≤ w.heap.size ∧ N ≤ z6
  fr : ∀ g off, ra = some ⟨g, off, none⟩ → (g < z6 ∨ z7 ≤ g) ∧ g < z11
  fp : ∀ g, pv.ownBlock = some g → (g < z6 ∨ z7 ≤ g) ∧ g < z11
  hp : ∀ g, ph.ownBlock = some g → z6 ≤ g ∧ (g < z7 ∨ z11 ≤ g)
  vl : ∀ p ∈ L, Vl w p.1 p.2 ∧ ∀ g, p.1.ownBlock = some g → z7 ≤ g ∧ ph.ownBlock ≠ some g
theorem T1.turn {N b V : Nat} {es : List (Nat × Nat)} {s : Fs} {z6 z7 : Nat} {w : World} {ra : Option Addr} {pv : Value} {row : List It} {pl : List Nat} {rh : Option Addr} {ph : Value} {rowh : List It} {plh : List Nat} {L : List (Value × List It)} (t : T1 N b V es s z6 z7 w ra pv row pl rh ph rowh plh L) : T2 N b V es s z6 z7 w.heap.size w ra pv row pl rh ph rowh plh L := by
  have hu := t.f.up
  exact ⟨t.f, t.h, ⟨t.bz.1, t.bz.2.1, t.bz.2.2.1, Nat.le_refl _, t.bz.2.2.2⟩, fun g off he => ⟨t.fr g off he, hu.2.1 g off he⟩, fun g hg => ⟨t.fp g hg, (hu.2.2 g hg).2⟩, fun g hg => ⟨(t.hp g hg).1, .inl (t.hp g hg).2⟩,
    fun p hp => ⟨(t.vl p hp).1, fun g hg => ⟨((t.vl p hp).2 g hg).1, fun h => by have := t.hp g h; have := ((t.vl p hp).2 g hg).1; omega⟩⟩⟩
theorem T2.below {N b V : Nat} {es : List (Nat × Nat)} {s : Fs} {z6 z7 z11 : Nat} {w w' : World} {ra : Option Addr} {pv : Value} {row : List It} {pl : List Nat} {rh : Option Addr} {ph : Value} {rowh : List It} {plh : List Nat} {L : List (Value × List It)} (t : T2 N b V es s z6 z7 z11 w ra pv row pl rh ph rowh plh L) (hb : Below w.heap.size w w') : T2 N b V es s z6 z7 z11 w' ra pv row pl rh ph rowh plh L :=
  ⟨t.f.below hb, t.h.below hb, ⟨t.bz.1, t.bz.2.1, t.bz.2.2.1, Nat.le_trans t.bz.2.2.2.1 hb.size, t.bz.2.2.2.2⟩, t.fr, t.fp, t.hp, fun p hp => ⟨(t.vl p hp).1.below hb, (t.vl p hp).2⟩⟩
theorem T2.step {N b V : Nat} {es : List (Nat × Nat)} {src : Nat} {s : Fs} {z6 z7 z11 : Nat} {w w' : World} {ra : Option Addr} {pv : Value} {row : List It} {pl : List Nat} {rh : Option Addr} {ph : Value} {rowh : List It} {plh : List Nat} {L : List (Value × List It)} (t : T2 N b V es s z6 z7 z11 w ra pv row pl rh ph rowh plh L) {x : Int} {zs : List Int} {e : Ending} (hs : StepTold N b z6 V es src s rh ph rowh plh x zs w w' e) :
    ∃ code ends row2 pl2 v rh' ph', Placed V es src rowh plh x zs code ends row2 pl2 ∧ e = .returned (.tuple #[v, .int .i64 code]) ∧ (∃ a c, v = .slice a ends.length c) ∧ T2 N b V es s z6 z7 z11 w' ra pv row pl rh' ph' row2 pl2 (L ++ [(v, ends)]) ∧ Below (min z6 N) w w' := by
  obtain ⟨code, ends, row2, pl2, v, rh', ph', hP, rfl, hov, hH', hrh', hph', hvp, hbz⟩ := hs
  have hb := t.bz
  have hu := t.h.up
  refine ⟨code, ends, row2, pl2, v, rh', ph', hP, rfl, own_shape hov, ⟨t.f.keep hbz ?_ ?_ ?_ ?_, hH', ⟨hb.1, hb.2.1, hb.2.2.1, Nat.le_trans hb.2.2.2.1 hbz.size, hb.2.2.2.2⟩, t.fr, t.fp, ?_, fun p hp => ?_⟩, hbz.bel⟩
  · rintro (h | h)
    · omega
    · have := t.hp _ h; omega
  · rintro g off he (h | h)
    · have := t.fr g off he; omega
    · have := t.fr g off he; have := t.hp _ h; omega
  · rintro g hg (h | h)
    · have := t.fp g hg; omega
    · have := t.fp g hg; have := t.hp _ h; omega
  · rintro i (h | h)
    · right; omega
    · exact .inr (hu.2.2 i h).1
  · intro g hg
    rcases hph' g hg with h | h
    · exact t.hp g h
    · exact ⟨by omega, .inr (by omega)⟩
  · rcases List.mem_append.1 hp with hp | hp
    · obtain ⟨h1, h2⟩ := t.vl p hp
      have hlt : ∀ g, p.1.ownBlock = some g → g < w.heap.size := fun g hg => by obtain ⟨B, h⟩ := h1; exact (h.lt g hg).2
      refine ⟨h1.keep hbz (fun g hg => ?_), fun g hg => ⟨(h2 g hg).1, fun hq => ?_⟩⟩
      · rintro (h | h)
        · have := (h2 g hg).1; omega
        · exact (h2 g hg).2 h
      · rcases hph' g hq with h | h
        · exact (h2 g hg).2 h
        · have := hlt g hg; omega
    · have := List.mem_singleton.1 hp
      subst this
      exact ⟨⟨_, hov⟩, fun g hg => ⟨by have := (hov.lt g hg).1; omega, hvp g hg⟩⟩
end Go.Proofs.Ytdkchihomllokaa


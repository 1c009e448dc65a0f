/-
  The fault of a graph, in plain words, and that it is one. No conditions.
-/
import Derived.Test.YtdkchihomllokaaFt
import Derived.Test.YtdkchihomllokaaCyc
import Derived.Test.YtdkchihomllokaaWo
namespace Go.Proofs.Ytdkchihomllokaa
open Go.RowKit
set_option linter.unusedVariables false
set_option maxRecDepth 20000

def lpI (es : List (Nat × Nat)) : Int := ixp es.length fun j => ((toI es).getD j (0, 0)).1 == ((toI es).getD j (0, 0)).2
def twI (es : List (Nat × Nat)) : Int := ixp es.length (twB (toI es))
/-- the fault: its number, its place, its vertices -/
def IsFault (V : Nat) (es : List (Nat × Nat)) (c a : Int) (l : List Nat) : Prop :=
  (0 ≤ lpI es ∧ c = 13 ∧ a = lpI es ∧ l = []) ∨
  (lpI es < 0 ∧ 0 ≤ twI es ∧ c = 14 ∧ a = twI es ∧ l = []) ∨
  (lpI es < 0 ∧ twI es < 0 ∧ c = 15 ∧ a = 0 ∧ ∃ a0 m, Pl.start V es = some a0 ∧ Pl.LeastAt (Pl.ring V es a0) m ∧ l = Pl.turn (Pl.ring V es a0) m) ∨
  (lpI es < 0 ∧ twI es < 0 ∧ Pl.start V es = none ∧ c = 16 ∧ a = 0 ∧ 1 < (bare (Pl.ins es) V).length ∧ l = (bare (Pl.ins es) V).take 2) ∨
  (lpI es < 0 ∧ twI es < 0 ∧ Pl.start V es = none ∧ c = 0 ∧ a = 0 ∧ (bare (Pl.ins es) V).length ≤ 1 ∧ l = [])

theorem start_left {V : Nat} {es : List (Nat × Nat)} {a0 : Nat} (h : Pl.start V es = some a0) : Pl.Lf V es a0 := by
  obtain ⟨h1, h2, _⟩ := List.find?_range_eq_some.1 h
  exact ⟨by simpa using h2, Pl.lf_iff.1 h1⟩
theorem ring_nodup {V : Nat} {es : List (Nat × Nat)} (hp : Plain V es) {a0 : Nat} (h : Pl.start V es = some a0) : (Pl.ring V es a0).Nodup := by
  have := (Pl.Way.ends hp.ends (V + 1) [] a0 (Pl.Way.nil (start_left h)) (by simp)).1.nodup
  exact this.sublist (List.drop_sublist _ _)
theorem IsFault.only {V : Nat} {es : List (Nat × Nat)} (hp : Plain V es) {c a c' a' : Int} {l l' : List Nat} (h : IsFault V es c a l) (h' : IsFault V es c' a' l') : c = c' ∧ a = a' ∧ l = l' := by
  rcases h with ⟨h1, rfl, rfl, rfl⟩ | ⟨h1, h2, rfl, rfl, rfl⟩ | ⟨h1, h2, rfl, rfl, a0, m, hs, hm, rfl⟩ | ⟨h1, h2, hs, rfl, rfl, hb, rfl⟩ | ⟨h1, h2, hs, rfl, rfl, hb, rfl⟩
  · rcases h' with ⟨g1, rfl, rfl, rfl⟩ | ⟨g1, g2, rfl, rfl, rfl⟩ | ⟨g1, g2, rfl, rfl, _⟩ | ⟨g1, g2, gs, rfl, rfl, gb, rfl⟩ | ⟨g1, g2, gs, rfl, rfl, gb, rfl⟩ <;> first | exact ⟨rfl, rfl, rfl⟩ | omega
  · rcases h' with ⟨g1, rfl, rfl, rfl⟩ | ⟨g1, g2, rfl, rfl, rfl⟩ | ⟨g1, g2, rfl, rfl, _⟩ | ⟨g1, g2, gs, rfl, rfl, gb, rfl⟩ | ⟨g1, g2, gs, rfl, rfl, gb, rfl⟩ <;> first | exact ⟨rfl, rfl, rfl⟩ | omega
  · rcases h' with ⟨g1, rfl, rfl, rfl⟩ | ⟨g1, g2, rfl, rfl, rfl⟩ | ⟨g1, g2, rfl, rfl, b0, k, gs, gk, rfl⟩ | ⟨g1, g2, gs, rfl, rfl, gb, rfl⟩ | ⟨g1, g2, gs, rfl, rfl, gb, rfl⟩
    · omega
    · omega
    · rw [hs] at gs
      cases gs
      rw [hm.only (ring_nodup hp hs) gk]
      exact ⟨rfl, rfl, rfl⟩
    · rw [hs] at gs; cases gs
    · rw [hs] at gs; cases gs
  · rcases h' with ⟨g1, rfl, rfl, rfl⟩ | ⟨g1, g2, rfl, rfl, rfl⟩ | ⟨g1, g2, rfl, rfl, b0, k, gs, gk, rfl⟩ | ⟨g1, g2, gs, rfl, rfl, gb, rfl⟩ | ⟨g1, g2, gs, rfl, rfl, gb, rfl⟩
    · omega
    · omega
    · rw [hs] at gs; cases gs
    · exact ⟨rfl, rfl, rfl⟩
    · omega
  · rcases h' with ⟨g1, rfl, rfl, rfl⟩ | ⟨g1, g2, rfl, rfl, rfl⟩ | ⟨g1, g2, rfl, rfl, b0, k, gs, gk, rfl⟩ | ⟨g1, g2, gs, rfl, rfl, gb, rfl⟩ | ⟨g1, g2, gs, rfl, rfl, gb, rfl⟩
    · omega
    · omega
    · rw [hs] at gs; cases gs
    · omega
    · exact ⟨rfl, rfl, rfl⟩
theorem turn_len64 {V : Nat} {es : List (Nat × Nat)} (hp : Plain V es) {a0 : Nat} (h : Pl.start V es = some a0) : (Pl.ring V es a0).length ≤ 64 := by
  have h1 := (Pl.Way.ends hp.ends (V + 1) [] a0 (Pl.Way.nil (start_left h)) (by simp)).1
  have h2 := Pl.nodup_le V _ (ring_nodup hp h) (fun x hx => (h1.left x (List.mem_of_mem_drop hx)).1)
  have := hp.v64
  omega
theorem IsFault.len {V : Nat} {es : List (Nat × Nat)} (hp : Plain V es) {c a : Int} {l : List Nat} (h : IsFault V es c a l) : l.length ≤ 64 := by
  rcases h with ⟨h1, rfl, rfl, rfl⟩ | ⟨h1, h2, rfl, rfl, rfl⟩ | ⟨h1, h2, rfl, rfl, a0, m, hs, hm, rfl⟩ | ⟨h1, h2, hs, rfl, rfl, hb, rfl⟩ | ⟨h1, h2, hs, rfl, rfl, hb, rfl⟩
  · simp
  · simp
  · rw [Pl.turn_length]
    exact turn_len64 hp hs
  · simp; omega
  · simp
/-- what Check tells -/
def CheckTold (w' : World) (V : Nat) (es : List (Nat × Nat)) (e : Ending) : Prop :=
  ∃ (c p : Int) (l : List Nat) (a : Option Addr) (cap : Nat), IsFault V es c p l ∧ e = .returned (.agg #[.int .i64 c, .int .i64 p, .slice a l.length cap]) ∧ Ns w' a l.length (toIs l)
end Go.Proofs.Ytdkchihomllokaa

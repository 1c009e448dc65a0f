/-
  The contracts of lines.Read and of the document's own Read, whatever the bytes: both tell the same answer. Conditions: the bytes that are handed in lie in memory as told.
-/
import Derived.Test.YtdcfhdpbpfgohaaRead
import Derived.Test.YtdcfhdpbpfgohaaRefRead
namespace Go.Proofs.Ytdcfhdpbpfgohaa
open Go.RowKit
set_option linter.unusedVariables false

/-- what lines.Read answers -/
def LPost (l : List UInt8) (w : World) (e : Ending) (w' : World) : Prop :=
  ∃ (V : Nat) (es : List (Nat × Nat)) (code p : Nat) (av : Option Addr) (cv : Nat), e = .returned (.tuple #[.agg #[.int .i64 V, .slice av es.length cv], .agg #[.int .i64 code, .int .i64 p, .slice none 0 0]]) ∧ Es (w.heap.size + 1) w' av es.length (toI es) ∧ Below w.heap.size w w' ∧ Pl.readR l = (V, es, code, p)
theorem lpost_fault {l : List UInt8} {w w' : World} {code p : Nat} (hb : Below w.heap.size w w') (hr : Pl.readR l = (0, [], code, p)) :
    LPost l w (.returned (.tuple #[.agg #[.int .i64 0, .slice none 0 0], .agg #[.int .i64 code, .int .i64 p, .slice none 0 0]])) w' :=
  ⟨0, [], code, p, none, 0, rfl, es_nil _ _ _, hb, hr⟩

theorem fits_iff (V n : Nat) : fitsB (V : Int) n = true ↔ (1 ≤ V ∧ V ≤ 24 ∧ n ≤ 40) := by
  unfold fitsB
  rw [decide_eq_true_eq]
  omega
theorem bad_eq (V : Nat) (es : List (Nat × Nat)) (k : Nat) : badB (V : Int) ((toI es).getD k (0, 0)) = Pl.bad V (es.getD k (0, 0)) := by
  rw [toI_getD]
  unfold badB Pl.bad
  rw [Bool.eq_iff_iff, decide_eq_true_eq, decide_eq_true_eq]
  simp only
  omega

theorem read_all (w : World) (a : Option Addr) (n cap : Nat) (l : List UInt8) (hB : Bs w a n l) :
    Calls Try.prog 7 #[.slice a n cap] w fun e w' => LPost l w e w' := by
  have hl := hB.1
  by_cases hn : 4096 < n
  · refine (read_large w a n cap hn).mono ?_
    rintro e w' ⟨rfl, hb⟩
    exact lpost_fault (code := 10) (p := 4096) hb (Pl.readR_large (by omega))
  · cases hg : Pl.graph l with
    | mk c r =>
      cases r with
      | none =>
        refine (read_wrong w a n cap l hB (by omega) c hg).mono ?_
        rintro e w' ⟨rfl, hb⟩
        exact lpost_fault (code := 11) (p := c) hb (Pl.readR_wrong (by omega) hg)
      | some x =>
        obtain ⟨V, es⟩ := x
        by_cases hf : fitsB (V : Int) es.length = true
        · have hf2 := (fits_iff _ _).1 hf
          cases hx : es.findIdx? (Pl.bad V) with
          | none =>
            rw [List.findIdx?_eq_none_iff] at hx
            have hgood : ∀ k, k < es.length → Pl.bad V (es.getD k (0, 0)) = false := by
              intro k hk
              have := hx es[k] (List.getElem_mem hk)
              simpa [hk] using this
            refine (read_ok w a n cap l hB (by omega) c V es hg hf (fun k hk => by rw [bad_eq]; exact hgood k hk)).mono ?_
            rintro e w' ⟨ae, ce, rfl, hE, hb⟩
            exact ⟨V, es, 0, 0, ae, ce, rfl, hE.mono (by omega), hb, Pl.readR_ok (by omega) hg hf2 hgood⟩
          | some k =>
            rw [List.findIdx?_eq_some_iff_getElem] at hx
            obtain ⟨hk, h1, h2⟩ := hx
            have hgood : ∀ j, j < k → Pl.bad V (es.getD j (0, 0)) = false := by
              intro j hj
              have hj2 : j < es.length := by omega
              have := h2 j hj
              simpa [hj2] using this
            have hbad : Pl.bad V (es.getD k (0, 0)) = true := by simpa [hk] using h1
            refine (read_vertex w a n cap l hB (by omega) c V es hg hf k hk (fun j hj => by rw [bad_eq]; exact hgood j hj) (by rw [bad_eq]; exact hbad)).mono ?_
            rintro e w' ⟨rfl, hb⟩
            exact lpost_fault (code := 12) (p := k) hb (Pl.readR_vertex (by omega) hg hf2 hk hgood hbad)
        · refine (read_limits w a n cap l hB (by omega) c V es hg (by simpa using hf)).mono ?_
          rintro e w' ⟨rfl, hb⟩
          exact lpost_fault (code := 10) (p := 0) hb (Pl.readR_limits (by omega) hg (fun h => hf ((fits_iff _ _).2 h)))

theorem refread_all (w : World) (a : Option Addr) (n cap : Nat) (l : List UInt8) (hB : Bs w a n l) :
    Calls Try.prog 8 #[.slice a n cap] w fun e w' => RPost l w e w' := by
  have hl := hB.1
  by_cases hn : 4096 < n
  · refine (refread_large w a n cap hn).mono ?_
    rintro e w' ⟨rfl, hb⟩
    exact rpost_fault (code := 10) (p := 4096) hb (Pl.readR_large (by omega))
  · exact refread_small w a n cap l hB (by omega)
end Go.Proofs.Ytdcfhdpbpfgohaa

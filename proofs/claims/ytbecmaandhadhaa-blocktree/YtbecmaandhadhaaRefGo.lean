/-
  The contracts of the document's Every and Go: all edges count; what is come to along edges that count, both ways or from tails to heads. Conditions: the graph lies in memory as told and may be; so do the marks of the edges that count.
-/
import Derived.Test.YtbecmaandhadhaaRp
import Derived.OrdersHeld
import Derived.Deep.RegionHeld
namespace Go.Proofs.Ytbecmaandhadhaa.pt
open Go.RowKit
set_option linter.unusedVariables false
set_option maxRecDepth 20000

set_option maxHeartbeats 2000000 in
theorem every_any (w : World) (V : Int) (a : Option Addr) (n cap : Nat) (hn : n ≤ 1000) :
    Calls Try.prog 36 #[.agg #[.int .i64 V, .slice a n cap]] w fun e w' => (∃ g, e = .returned (.slice (some ⟨g, 0, none⟩) n n) ∧ w.heap.size ≤ g ∧ RowB w' g n (fun _ => true)) ∧ Below w.heap.size w w' := by
  have HB0 := hide (Bg.start w (.int .i64 V) (.slice a n cap))
  obtain ⟨i0, hi0, hz0, hz1, hz2⟩ := info_parts info4
  have HI := hide hi0
  have HZ0 := hide hz0
  have HZ1 := hide hz1
  have hzb : i0.bytes * n ≤ 281474976710656 := by rw [hz2]; omega
  clear hi0 hz0 hz1 hz2
  go_enter Try.func36, Try.ntmps36
  go_wp2_with (refine wpList_make_full _ rfl (.tmp 7) (.tmp 7) 38 rfl (w.heap.size + 1) 4 i0 (.bool false) 1 Try.underlying38 (unhide HI) (unhide HZ0) (unhide HZ1) .i64 .i64 _ _ n rfl rfl rfl rfl hzb ?m1 ?m2 ?_)
  case m1 => unfold maxLen; omega
  case m2 => simp
  intro w1 hown1 hg1
  rw [toList_madeCells_one] at hown1
  have hs0 : (w.alloc (.cells #[.int .i64 V, .slice a n cap] 24)).heap.size = w.heap.size + 1 := by simp
  have hb1 : Below (w.heap.size + 1) (w.alloc (.cells #[.int .i64 V, .slice a n cap] 24)) w1 := ⟨hg1.os, hg1.tape, hg1.output, hg1.size, fun k hk => hg1.block k (by rw [hs0]; exact hk) (by simp)⟩
  have HB1 := hide ((unhide HB0).stepB (by omega) hb1)
  have HR1 := hide ((Row.of_owns hown1).congr (f' := fun t => .bool (decide (t < 0))) (fun t ht => by simp))
  clear hown1 hg1 hb1 HB0
  go_wp2_with fail
  go_loopw [4] (fun i wr => ∃ k : Nat, i = .int .i64 k ∧ k ≤ n ∧ Hid (RowB wr (w.heap.size + 1) n (fun t => decide (t < k))) ∧ Hid (Bg w wr (.int .i64 V) (.slice a n cap))) (fun i wr => n - (intOf i).toNat)
  case atStart => exact ⟨0, rfl, by omega, by simpa using HR1, HB1⟩
  case round =>
    obtain ⟨k, rfl, hk, HR, HB⟩ := hrel
    by_cases hlt : k < n
    · have hlt2 : (k : Int) < (n : Int) := by omega
      have r0 := (unhide HR).cell hlt
      have r1 := (unhide HR).fz k
      go_wp2_with fail
      go_roundw
      case rel =>
        refine ⟨k + 1, by go_num, by omega, ?_, (unhide HB).stepB (B := w.heap.size + 1) (by omega) ((Below.refl _ _).setCell (p := ⟨w.heap.size + 1, k, none⟩) (Nat.le_refl _) _)⟩
        refine Row.congr (RowB.set (unhide HR) k true) fun t ht => ?_
        unfold upd
        by_cases h1 : t = k
        · subst h1; simp
        · rw [if_neg h1]
          congr 1
          simp
          omega
      case measure => simp [intOf]; omega
    · obtain rfl : k = n := by omega
      go_wp2_with fail
      go_ret
      exact ⟨⟨_, rfl, by omega, Row.congr (unhide HR) fun t ht => by simp [ht]⟩, (unhide HB).bel⟩

/-- a step along an edge that counts -/
def Cs (es : List (Nat × Nat)) (both : Bool) (c : Nat → Bool) (u v : Nat) : Prop := ∃ t, t < es.length ∧ c t = true ∧ (es.getD t (0, 0) = (u, v) ∨ (both = true ∧ es.getD t (0, 0) = (v, u)))
/-- how many are seen -/
def cntB (V : Nat) (f : Nat → Bool) : Nat := ((List.range V).filter f).length
theorem cntB_le (V : Nat) (f : Nat → Bool) : cntB V f ≤ V := by
  have := List.length_filter_le f (List.range V)
  simpa [cntB] using this
theorem cntB_mono {V : Nat} {f g : Nat → Bool} (h : ∀ j, j < V → f j = true → g j = true) : cntB V f ≤ cntB V g := by
  induction V with
  | zero => simp [cntB]
  | succ V ih =>
    have h1 := ih fun j hj => h j (by omega)
    have h2 := h V (by omega)
    unfold cntB at *
    rw [List.range_succ, List.filter_append, List.filter_append, List.length_append, List.length_append]
    cases hf : f V with
    | false => simp [hf]; omega
    | true => simp [hf, h2 hf]; omega
theorem cntB_lt {V : Nat} {f g : Nat → Bool} (h : ∀ j, j < V → f j = true → g j = true) {x : Nat} (hx : x < V) (hf : f x = false) (hg : g x = true) : cntB V f < cntB V g := by
  induction V with
  | zero => omega
  | succ V ih =>
    have h1 := cntB_mono (V := V) (f := f) (g := g) fun j hj => h j (by omega)
    have h2 := h V (by omega)
    have h3 : x < V → cntB V f < cntB V g := fun hx => ih (fun j hj => h j (by omega)) hx
    unfold cntB at *
    rw [List.range_succ, List.filter_append, List.filter_append, List.length_append, List.length_append]
    by_cases hxV : x = V
    · subst hxV
      simp [hf, hg]
      omega
    · have h4 := h3 (by omega)
      cases hfV : f V with
      | false => simp [hfV]; omega
      | true => simp [hfV, h2 hfV]; omega
theorem cntB_pos {V : Nat} {f : Nat → Bool} {x : Nat} (hx : x < V) (hf : f x = true) : 0 < cntB V f := by
  have h1 := cntB_lt (V := V) (f := fun _ => false) (g := f) (fun j _ h => by cases h) hx rfl hf
  omega

theorem cs_bnd {V : Nat} {es : List (Nat × Nat)} (hp : Plain V es) {both : Bool} {c : Nat → Bool} {u v : Nat} (h : Cs es both c u v) : u < V ∧ v < V := by
  obtain ⟨t, ht, _, h | ⟨_, h⟩⟩ := h
  · have := plat hp ht; rw [h] at this; exact this
  · have := plat hp ht; rw [h] at this; exact ⟨this.2, this.1⟩
/-- what is seen while edges are gone through: f0 at the round's beginning, f now, k edges are done -/
structure Sw (V : Nat) (es : List (Nat × Nat)) (both : Bool) (c : Nat → Bool) (x k : Nat) (f0 f : Nat → Bool) : Prop where
  mono : ∀ j, j < V → f0 j = true → f j = true
  sound : ∀ j, j < V → f j = true → Star (Cs es both c) x j
  tl : ∀ t, t < k → c t = true → f0 (es.getD t (0, 0)).1 = true → f (es.getD t (0, 0)).2 = true
  hd : ∀ t, t < k → c t = true → both = true → f0 (es.getD t (0, 0)).2 = true → f (es.getD t (0, 0)).1 = true
/-- behind r rounds: all is seen, or r + 1 at least -/
structure Rn (V : Nat) (es : List (Nat × Nat)) (both : Bool) (c : Nat → Bool) (x r : Nat) (f : Nat → Bool) : Prop where
  base : f x = true
  sound : ∀ j, j < V → f j = true → Star (Cs es both c) x j
  prog : (∀ u v, f u = true → Cs es both c u v → f v = true) ∨ r < cntB V f
theorem Sw.start {V : Nat} {es : List (Nat × Nat)} {both : Bool} {c : Nat → Bool} {x : Nat} {f : Nat → Bool} (h : ∀ j, j < V → f j = true → Star (Cs es both c) x j) : Sw V es both c x 0 f f :=
  ⟨fun _ _ h => h, h, fun _ h => by omega, fun _ h => by omega⟩
theorem Sw.skip {V : Nat} {es : List (Nat × Nat)} {both : Bool} {c : Nat → Bool} {x k : Nat} {f0 f : Nat → Bool} (h : Sw V es both c x k f0 f) (hp : Plain V es) (hk : k < es.length)
    (hno : c k = true → f (es.getD k (0, 0)).1 = false ∧ (both = true → f (es.getD k (0, 0)).2 = false)) : Sw V es both c x (k + 1) f0 f := by
  have he := plat hp hk
  refine ⟨h.mono, h.sound, fun t ht hc h0 => ?_, fun t ht hc hb h0 => ?_⟩
  · by_cases htk : t = k
    · subst htk
      have := h.mono _ he.1 h0
      rw [(hno hc).1] at this
      cases this
    · exact h.tl t (by omega) hc h0
  · by_cases htk : t = k
    · subst htk
      have := h.mono _ he.2 h0
      rw [(hno hc).2 hb] at this
      cases this
    · exact h.hd t (by omega) hc hb h0
theorem Sw.take {V : Nat} {es : List (Nat × Nat)} {both : Bool} {c : Nat → Bool} {x k : Nat} {f0 f : Nat → Bool} (h : Sw V es both c x k f0 f) (hp : Plain V es) (hk : k < es.length) (hc : c k = true) {p q : Nat} (hpq : es.getD k (0, 0) = (p, q))
    (hyes : f p = true ∨ (both = true ∧ f q = true)) : Sw V es both c x (k + 1) f0 (upd (upd f q true) p (upd f q true p || both)) := by
  have he := plat hp hk
  rw [hpq] at he
  obtain ⟨hpV, hqV⟩ := he
  have hm : ∀ j, f j = true → upd (upd f q true) p (upd f q true p || both) j = true := by
    intro j hj
    unfold upd
    split
    · rename_i hjp
      subst hjp
      simp [hj]
    · split <;> simp [hj]
  have hq' : upd (upd f q true) p (upd f q true p || both) q = true := by
    unfold upd
    split
    · rename_i hqp
      simp [hqp]
    · simp
  have hSp : upd (upd f q true) p (upd f q true p || both) p = true → Star (Cs es both c) x p := by
    intro hh
    rcases hyes with hy | ⟨hb, hy⟩
    · exact h.sound p hpV hy
    · exact (h.sound q hqV hy).step ⟨k, hk, hc, .inr ⟨hb, hpq⟩⟩
  have hSp' : Star (Cs es both c) x p := by
    rcases hyes with hy | ⟨hb, hy⟩
    · exact h.sound p hpV hy
    · exact (h.sound q hqV hy).step ⟨k, hk, hc, .inr ⟨hb, hpq⟩⟩
  have hSq : Star (Cs es both c) x q := hSp'.step ⟨k, hk, hc, .inl hpq⟩
  refine ⟨fun j hj h0 => hm j (h.mono j hj h0), fun j hj hh => ?_, fun t ht hct h0 => ?_, fun t ht hct hb h0 => ?_⟩
  · by_cases h1 : j = p
    · rw [h1]; exact hSp'
    · by_cases h2 : j = q
      · rw [h2]; exact hSq
      · rw [upd_other _ _ h1, upd_other _ _ h2] at hh
        exact h.sound j hj hh
  · by_cases htk : t = k
    · subst htk
      rw [hpq]
      exact hq'
    · exact hm _ (h.tl t (by omega) hct h0)
  · by_cases htk : t = k
    · subst htk
      rw [hpq]
      show upd (upd f q true) p (upd f q true p || both) p = true
      rw [upd_same, hb]
      simp
    · exact hm _ (h.hd t (by omega) hct hb h0)
theorem Rn.start {V : Nat} {es : List (Nat × Nat)} {both : Bool} {c : Nat → Bool} {x : Nat} (hx : x < V) : Rn V es both c x 0 (upd (fun _ => false) x true) := by
  refine ⟨upd_same _ _ _, fun j hj h => ?_, .inr (cntB_pos hx (upd_same _ _ _))⟩
  by_cases h1 : j = x
  · rw [h1]; exact .refl
  · rw [upd_other _ _ h1] at h; cases h
theorem Rn.next {V : Nat} {es : List (Nat × Nat)} (hp : Plain V es) {both : Bool} {c : Nat → Bool} {x r : Nat} (hx : x < V) {f0 f : Nat → Bool} (h : Rn V es both c x r f0) (hs : Sw V es both c x es.length f0 f) : Rn V es both c x (r + 1) f := by
  have hone : ∀ u v, f0 u = true → Cs es both c u v → f v = true := by
    rintro u v hu ⟨t, ht, hc, he | ⟨hb, he⟩⟩
    · have := hs.tl t ht hc (by rw [he]; exact hu)
      rw [he] at this; exact this
    · have := hs.hd t ht hc hb (by rw [he]; exact hu)
      rw [he] at this; exact this
  refine ⟨hs.mono x hx h.base, hs.sound, ?_⟩
  by_cases hcl : ∀ u v, f0 u = true → Cs es both c u v → f0 v = true
  · left
    intro u v hu hr
    have hb := cs_bnd hp hr
    have h1 : f0 u = true := (hs.sound u hb.1 hu).ind (S := fun y => f0 y = true) h.base fun a b _ ha hab => hcl a b ha hab
    exact hs.mono v hb.2 (hcl u v h1 hr)
  · right
    have hr : r < cntB V f0 := h.prog.resolve_left hcl
    obtain ⟨u, v, hu, huv, hv⟩ : ∃ u v, f0 u = true ∧ Cs es both c u v ∧ f0 v = false := by
      apply Classical.byContradiction
      intro hno
      exact hcl fun u v hu huv => by
        cases hv : f0 v with
        | true => rfl
        | false => exact absurd ⟨u, v, hu, huv, hv⟩ hno
    have := cntB_lt hs.mono (cs_bnd hp huv).2 hv (hone u v hu huv)
    omega
theorem Rn.done {V : Nat} {es : List (Nat × Nat)} (hp : Plain V es) {both : Bool} {c : Nat → Bool} {x : Nat} (hx : x < V) {f : Nat → Bool} (h : Rn V es both c x V f) (j : Nat) (hj : j < V) : f j = true ↔ Star (Cs es both c) x j := by
  refine ⟨h.sound j hj, fun hs => ?_⟩
  have hcl := h.prog.resolve_right (by have := cntB_le V f; omega)
  exact hs.ind (S := fun y => f y = true) h.base fun a b _ ha hab => hcl a b ha hab
end Go.Proofs.Ytbecmaandhadhaa.pt


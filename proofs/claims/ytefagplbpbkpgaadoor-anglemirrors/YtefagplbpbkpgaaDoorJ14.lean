/-
  The contracts of the document's Every and Go: all edges count; what is come to along edges that count, both ways or from tails to heads. Conditions: the graph lies in memory as told and may be; so do the marks of the edges that count.
-/
import Derived.Test.YtefagplbpbkpgaaDoorJ7
import Derived.Test.YtefagplbpbkpgaaDoorJ8
import Derived.OrdersHeld
import Derived.Deep.RegionHeld
import Derived.Test.YtefagplbpbkpgaaDoorJ5
import Derived.Test.YtefagplbpbkpgaaDoorJ3
import Derived.Test.YtefagplbpbkpgaaDoorJ11
namespace Go.Proofs.YtefagplbpbkpgaaDoor.pt
open Go.RowKit
set_option linter.unusedVariables false
set_option maxRecDepth 60000

set_option maxHeartbeats 2000000 in
theorem every_any (w : World) (V : Int) (a : Option Addr) (n cap : Nat) (hn : n ≤ 1000) :
    Calls Tryd.prog 42 #[.agg #[.int .i64 V, .slice a n cap]] w fun e w' => (∃ g, e = .returned (.slice (some ⟨g, 0, none⟩) n n) ∧ w.heap.size ≤ g ∧ RowB w' g n (fun _ => true)) ∧ Below w.heap.size w w' := by
  have HB0 := hide (Bg.start w (.int .i64 V) (.slice a n cap))
  obtain ⟨i0, hi0, hz0, hz1, hz2⟩ := info_parts info4
  have HI := hide hi0
  have HZ0 := hide hz0
  have HZ1 := hide hz1
  have hzb : i0.bytes * n ≤ 281474976710656 := by rw [hz2]; omega
  clear hi0 hz0 hz1 hz2
  go_enter Tryd.func42, Tryd.ntmps42
  go_wp2_with (refine wpList_make_full _ rfl (.tmp 7) (.tmp 7) 42 rfl (w.heap.size + 1) 4 i0 (.bool false) 1 Tryd.underlying42 (unhide HI) (unhide HZ0) (unhide HZ1) .i64 .i64 _ _ n rfl rfl rfl rfl hzb ?m1 ?m2 ?_)
  case m1 => unfold maxLen; omega
  case m2 => simp
  intro w1 hown1 hg1
  rw [toList_madeCells_one] at hown1
  have hs0 : (w.alloc (.cells #[.int .i64 V, .slice a n cap] 24)).heap.size = w.heap.size + 1 := by simp
  have hb1 : Below (w.heap.size + 1) (w.alloc (.cells #[.int .i64 V, .slice a n cap] 24)) w1 := ⟨hg1.os, hg1.tape, hg1.output, hg1.size, fun k hk => hg1.block k (by rw [hs0]; exact hk) (by simp)⟩
  have HB1 := hide ((unhide HB0).stepB (by omega) hb1)
  have HR1 := hide ((Row.of_owns hown1).congr (f' := fun t => .bool (decide (t < 0))) (fun t ht => by simp))
  clear hown1 hg1 hb1 HB0
  go_wp2_with fail
  go_loopw [4] (fun i wr => ∃ k : Nat, i = .int .i64 k ∧ k ≤ n ∧ Hid (RowB wr (w.heap.size + 1) n (fun t => decide (t < k))) ∧ Hid (Bg w wr (.int .i64 V) (.slice a n cap))) (fun i wr => n - (intOf i).toNat)
  case atStart => exact ⟨0, rfl, by omega, by simpa using HR1, HB1⟩
  case round =>
    obtain ⟨k, rfl, hk, HR, HB⟩ := hrel
    by_cases hlt : k < n
    · have hlt2 : (k : Int) < (n : Int) := by omega
      have r0 := (unhide HR).cell hlt
      have r1 := (unhide HR).fz k
      go_wp2_with fail
      go_roundw
      case rel =>
        refine ⟨k + 1, by go_num, by omega, ?_, (unhide HB).stepB (B := w.heap.size + 1) (by omega) ((Below.refl _ _).setCell (p := ⟨w.heap.size + 1, k, none⟩) (Nat.le_refl _) _)⟩
        refine Row.congr (RowB.set (unhide HR) k true) fun t ht => ?_
        unfold upd
        by_cases h1 : t = k
        · subst h1; simp
        · rw [if_neg h1]
          congr 1
          simp
          omega
      case measure => simp [intOf]; omega
    · obtain rfl : k = n := by omega
      go_wp2_with fail
      go_ret
      exact ⟨⟨_, rfl, by omega, Row.congr (unhide HR) fun t ht => by simp [ht]⟩, (unhide HB).bel⟩

/-- a step along an edge that counts -/
def Cs (es : List (Nat × Nat)) (both : Bool) (c : Nat → Bool) (u v : Nat) : Prop := ∃ t, t < es.length ∧ c t = true ∧ (es.getD t (0, 0) = (u, v) ∨ (both = true ∧ es.getD t (0, 0) = (v, u)))
/-- how many are seen -/
def cntB (V : Nat) (f : Nat → Bool) : Nat := ((List.range V).filter f).length
theorem cntB_le (V : Nat) (f : Nat → Bool) : cntB V f ≤ V := by
  have := List.length_filter_le f (List.range V)
  simpa [cntB] using this
theorem cntB_mono {V : Nat} {f g : Nat → Bool} (h : ∀ j, j < V → f j = true → g j = true) : cntB V f ≤ cntB V g := by
  induction V with
  | zero => simp [cntB]
  | succ V ih =>
    have h1 := ih fun j hj => h j (by omega)
    have h2 := h V (by omega)
    unfold cntB at *
    rw [List.range_succ, List.filter_append, List.filter_append, List.length_append, List.length_append]
    cases hf : f V with
    | false => simp [hf]; omega
    | true => simp [hf, h2 hf]; omega
theorem cntB_lt {V : Nat} {f g : Nat → Bool} (h : ∀ j, j < V → f j = true → g j = true) {x : Nat} (hx : x < V) (hf : f x = false) (hg : g x = true) : cntB V f < cntB V g := by
  induction V with
  | zero => omega
  | succ V ih =>
    have h1 := cntB_mono (V := V) (f := f) (g := g) fun j hj => h j (by omega)
    have h2 := h V (by omega)
    have h3 : x < V → cntB V f < cntB V g := fun hx => ih (fun j hj => h j (by omega)) hx
    unfold cntB at *
    rw [List.range_succ, List.filter_append, List.filter_append, List.length_append, List.length_append]
    by_cases hxV : x = V
    · subst hxV
      simp [hf, hg]
      omega
    · have h4 := h3 (by omega)
      cases hfV : f V with
      | false => simp [hfV]; omega
      | true => simp [hfV, h2 hfV]; omega
theorem cntB_pos {V : Nat} {f : Nat → Bool} {x : Nat} (hx : x < V) (hf : f x = true) : 0 < cntB V f := by
  have h1 := cntB_lt (V := V) (f := fun _ => false) (g := f) (fun j _ h => by cases h) hx rfl hf
  omega

theorem cs_bnd {V : Nat} {es : List (Nat × Nat)} (hp : Plain V es) {both : Bool} {c : Nat → Bool} {u v : Nat} (h : Cs es both c u v) : u < V ∧ v < V := by
  obtain ⟨t, ht, _, h | ⟨_, h⟩⟩ := h
  · have := hp.at ht; rw [h] at this; exact this
  · have := hp.at ht; rw [h] at this; exact ⟨this.2, this.1⟩
/-- what is seen while edges are gone through: f0 at the round's beginning, f now, k edges are done -/
structure Sw (V : Nat) (es : List (Nat × Nat)) (both : Bool) (c : Nat → Bool) (x k : Nat) (f0 f : Nat → Bool) : Prop where
  mono : ∀ j, j < V → f0 j = true → f j = true
  sound : ∀ j, j < V → f j = true → Star (Cs es both c) x j
  tl : ∀ t, t < k → c t = true → f0 (es.getD t (0, 0)).1 = true → f (es.getD t (0, 0)).2 = true
  hd : ∀ t, t < k → c t = true → both = true → f0 (es.getD t (0, 0)).2 = true → f (es.getD t (0, 0)).1 = true
/-- behind r rounds: all is seen, or r + 1 at least -/
structure Rn (V : Nat) (es : List (Nat × Nat)) (both : Bool) (c : Nat → Bool) (x r : Nat) (f : Nat → Bool) : Prop where
  base : f x = true
  sound : ∀ j, j < V → f j = true → Star (Cs es both c) x j
  prog : (∀ u v, f u = true → Cs es both c u v → f v = true) ∨ r < cntB V f
theorem Sw.start {V : Nat} {es : List (Nat × Nat)} {both : Bool} {c : Nat → Bool} {x : Nat} {f : Nat → Bool} (h : ∀ j, j < V → f j = true → Star (Cs es both c) x j) : Sw V es both c x 0 f f :=
  ⟨fun _ _ h => h, h, fun _ h => by omega, fun _ h => by omega⟩
theorem Sw.skip {V : Nat} {es : List (Nat × Nat)} {both : Bool} {c : Nat → Bool} {x k : Nat} {f0 f : Nat → Bool} (h : Sw V es both c x k f0 f) (hp : Plain V es) (hk : k < es.length)
    (hno : c k = true → f (es.getD k (0, 0)).1 = false ∧ (both = true → f (es.getD k (0, 0)).2 = false)) : Sw V es both c x (k + 1) f0 f := by
  have he := hp.at hk
  refine ⟨h.mono, h.sound, fun t ht hc h0 => ?_, fun t ht hc hb h0 => ?_⟩
  · by_cases htk : t = k
    · subst htk
      have := h.mono _ he.1 h0
      rw [(hno hc).1] at this
      cases this
    · exact h.tl t (by omega) hc h0
  · by_cases htk : t = k
    · subst htk
      have := h.mono _ he.2 h0
      rw [(hno hc).2 hb] at this
      cases this
    · exact h.hd t (by omega) hc hb h0
theorem Sw.take {V : Nat} {es : List (Nat × Nat)} {both : Bool} {c : Nat → Bool} {x k : Nat} {f0 f : Nat → Bool} (h : Sw V es both c x k f0 f) (hp : Plain V es) (hk : k < es.length) (hc : c k = true) {p q : Nat} (hpq : es.getD k (0, 0) = (p, q))
    (hyes : f p = true ∨ (both = true ∧ f q = true)) : Sw V es both c x (k + 1) f0 (upd (upd f q true) p (upd f q true p || both)) := by
  have he := hp.at hk
  rw [hpq] at he
  obtain ⟨hpV, hqV⟩ := he
  have hm : ∀ j, f j = true → upd (upd f q true) p (upd f q true p || both) j = true := by
    intro j hj
    unfold upd
    split
    · rename_i hjp
      subst hjp
      simp [hj]
    · split <;> simp [hj]
  have hq' : upd (upd f q true) p (upd f q true p || both) q = true := by
    unfold upd
    split
    · rename_i hqp
      simp [hqp]
    · simp
  have hSp : upd (upd f q true) p (upd f q true p || both) p = true → Star (Cs es both c) x p := by
    intro hh
    rcases hyes with hy | ⟨hb, hy⟩
    · exact h.sound p hpV hy
    · exact (h.sound q hqV hy).step ⟨k, hk, hc, .inr ⟨hb, hpq⟩⟩
  have hSp' : Star (Cs es both c) x p := by
    rcases hyes with hy | ⟨hb, hy⟩
    · exact h.sound p hpV hy
    · exact (h.sound q hqV hy).step ⟨k, hk, hc, .inr ⟨hb, hpq⟩⟩
  have hSq : Star (Cs es both c) x q := hSp'.step ⟨k, hk, hc, .inl hpq⟩
  refine ⟨fun j hj h0 => hm j (h.mono j hj h0), fun j hj hh => ?_, fun t ht hct h0 => ?_, fun t ht hct hb h0 => ?_⟩
  · by_cases h1 : j = p
    · rw [h1]; exact hSp'
    · by_cases h2 : j = q
      · rw [h2]; exact hSq
      · rw [upd_other _ _ h1, upd_other _ _ h2] at hh
        exact h.sound j hj hh
  · by_cases htk : t = k
    · subst htk
      rw [hpq]
      exact hq'
    · exact hm _ (h.tl t (by omega) hct h0)
  · by_cases htk : t = k
    · subst htk
      rw [hpq]
      show upd (upd f q true) p (upd f q true p || both) p = true
      rw [upd_same, hb]
      simp
    · exact hm _ (h.hd t (by omega) hct hb h0)
theorem Rn.start {V : Nat} {es : List (Nat × Nat)} {both : Bool} {c : Nat → Bool} {x : Nat} (hx : x < V) : Rn V es both c x 0 (upd (fun _ => false) x true) := by
  refine ⟨upd_same _ _ _, fun j hj h => ?_, .inr (cntB_pos hx (upd_same _ _ _))⟩
  by_cases h1 : j = x
  · rw [h1]; exact .refl
  · rw [upd_other _ _ h1] at h; cases h
theorem Rn.next {V : Nat} {es : List (Nat × Nat)} (hp : Plain V es) {both : Bool} {c : Nat → Bool} {x r : Nat} (hx : x < V) {f0 f : Nat → Bool} (h : Rn V es both c x r f0) (hs : Sw V es both c x es.length f0 f) : Rn V es both c x (r + 1) f := by
  have hone : ∀ u v, f0 u = true → Cs es both c u v → f v = true := by
    rintro u v hu ⟨t, ht, hc, he | ⟨hb, he⟩⟩
    · have := hs.tl t ht hc (by rw [he]; exact hu)
      rw [he] at this; exact this
    · have := hs.hd t ht hc hb (by rw [he]; exact hu)
      rw [he] at this; exact this
  refine ⟨hs.mono x hx h.base, hs.sound, ?_⟩
  by_cases hcl : ∀ u v, f0 u = true → Cs es both c u v → f0 v = true
  · left
    intro u v hu hr
    have hb := cs_bnd hp hr
    have h1 : f0 u = true := (hs.sound u hb.1 hu).ind (S := fun y => f0 y = true) h.base fun a b _ ha hab => hcl a b ha hab
    exact hs.mono v hb.2 (hcl u v h1 hr)
  · right
    have hr : r < cntB V f0 := h.prog.resolve_left hcl
    obtain ⟨u, v, hu, huv, hv⟩ : ∃ u v, f0 u = true ∧ Cs es both c u v ∧ f0 v = false := by
      apply Classical.byContradiction
      intro hno
      exact hcl fun u v hu huv => by
        cases hv : f0 v with
        | true => rfl
        | false => exact absurd ⟨u, v, hu, huv, hv⟩ hno
    have := cntB_lt hs.mono (cs_bnd hp huv).2 hv (hone u v hu huv)
    omega
theorem Rn.done {V : Nat} {es : List (Nat × Nat)} (hp : Plain V es) {both : Bool} {c : Nat → Bool} {x : Nat} (hx : x < V) {f : Nat → Bool} (h : Rn V es both c x V f) (j : Nat) (hj : j < V) : f j = true ↔ Star (Cs es both c) x j := by
  refine ⟨h.sound j hj, fun hs => ?_⟩
  have hcl := h.prog.resolve_right (by have := cntB_le V f; omega)
  exact hs.ind (S := fun y => f y = true) h.base fun a b _ ha hab => hcl a b ha hab
end Go.Proofs.YtefagplbpbkpgaaDoor.pt
/-
  The contract of the document's Go: what is come to along edges that count, both ways or from tails to heads. Conditions: the graph lies in memory as told and may be; so do the marks of the edges that count.
-/
namespace Go.Proofs.YtefagplbpbkpgaaDoor.pt
open Go.RowKit
set_option linter.unusedVariables false

set_option maxHeartbeats 8000000 in
theorem refgo_any (w : World) (V : Nat) (a : Option Addr) (n cap : Nat) (es : List (Nat × Nat)) {B : Nat} (h : Es B w a n (toI es)) (hne : es.length = n) (hp : Plain V es) (x : Nat) (hx : x < V) (both : Bool) (ca : Option Addr) (cc : Nat) (c : Nat → Bool) (hC : Bs w ca n c) :
    Calls Tryd.prog 43 #[.agg #[.int .i64 V, .slice a n cap], .int .i64 x, .bool both, .slice ca n cc] w fun e w' => (∃ g f, e = .returned (.slice (some ⟨g, 0, none⟩) V V) ∧ w.heap.size ≤ g ∧ RowB w' g V f ∧ ∀ j, j < V → (f j = true ↔ Star (Cs es both c) x j)) ∧ Below w.heap.size w w' := by
  have hv64 := hp.v64
  have hv1 := hp.v1
  have hn128 := hp.n128
  rw [hne] at hn128
  have HE := hide h
  have HP := hide hp
  have HN := hide hne
  have HC := hide hC
  have HB0 := hide (Bg.start w (.int .i64 V) (.slice a n cap))
  obtain ⟨i0, hi0, hz0, hz1, hz2⟩ := info_parts info4
  have HI := hide hi0
  have HZ0 := hide hz0
  have HZ1 := hide hz1
  have hzb : i0.bytes * V ≤ 281474976710656 := by rw [hz2]; omega
  have hx2 : (x : Int) < (V : Int) := by omega
  clear hi0 hz0 hz1 hz2 h hp hne hC
  go_enter Tryd.func43, Tryd.ntmps43
  go_wp2_with (refine wpList_make_full _ rfl (.tmp 14) (.tmp 14) 42 rfl (w.heap.size + 1) 4 i0 (.bool false) 1 Tryd.underlying42 (unhide HI) (unhide HZ0) (unhide HZ1) .i64 .i64 _ _ V rfl rfl rfl rfl hzb ?m1 ?m2 ?_)
  case m1 => unfold maxLen; omega
  case m2 => simp
  intro w1 hown1 hg1
  rw [toList_madeCells_one] at hown1
  have hs0 : (w.alloc (.cells #[.int .i64 (V : Int), .slice a n cap] 24)).heap.size = w.heap.size + 1 := by simp
  have hb1 : Below (w.heap.size + 1) (w.alloc (.cells #[.int .i64 (V : Int), .slice a n cap] 24)) w1 := ⟨hg1.os, hg1.tape, hg1.output, hg1.size, fun k hk => hg1.block k (by rw [hs0]; exact hk) (by simp)⟩
  have HB1 := hide ((unhide HB0).stepB (by omega) hb1)
  have HR1 := hide (show RowB w1 (w.heap.size + 1) V (fun _ => false) from Row.of_owns hown1)
  clear hown1 hg1 hb1 HB0 hs0
  have r0 := (unhide HR1).cell hx
  have r1 := (unhide HR1).fz x
  go_wp2_with fail
  have HR2 := hide (RowB.set (unhide HR1) x true)
  have HB2 := hide ((unhide HB1).stepB (B := w.heap.size + 1) (by omega) ((Below.refl _ _).setCell (p := ⟨w.heap.size + 1, x, none⟩) (Nat.le_refl _) (.bool true)))
  have HRN := hide (Rn.start (es := es) (both := both) (c := c) hx)
  clear r0 r1 HR1 HB1
  go_loopw [10] (fun i wr => ∃ (r : Nat) (f : Nat → Bool), i = .int .i64 r ∧ r ≤ V ∧ Hid (RowB wr (w.heap.size + 1) V f) ∧ Hid (Rn V es both c x r f) ∧ Hid (Bg w wr (.int .i64 V) (.slice a n cap))) (fun i wr => V - (intOf i).toNat)
  case atStart => exact ⟨0, _, rfl, by omega, HR2, HRN, HB2⟩
  case round =>
    obtain ⟨r, f0, rfl, hr, HR, HRNr, HB⟩ := hrel
    obtain ⟨g0, g1⟩ := (unhide HB).cells
    by_cases hlt : r < V
    · have hlt2 : (r : Int) < (V : Int) := by omega
      go_wp2_with fail
      obtain ⟨wo, rfl⟩ : ∃ wo, wo = wr := ⟨_, rfl⟩
      clear g0 g1
      have HS0 := hide (Sw.start (unhide HRNr).sound)
      go_loopw [11] (fun i wr => ∃ (k : Nat) (f : Nat → Bool), i = .int .i64 k ∧ k ≤ n ∧ Hid (RowB wr (w.heap.size + 1) V f) ∧ Hid (Sw V es both c x k f0 f) ∧ Hid (Bg w wr (.int .i64 V) (.slice a n cap))) (fun i wr => n - (intOf i).toNat)
      case atStart => exact ⟨0, f0, rfl, by omega, HR, HS0, HB⟩
      case round =>
        clear HR HB HS0
        obtain ⟨k, f, rfl, hk, HR, HS, HB⟩ := hrel
        obtain ⟨g0, g1⟩ := (unhide HB).cells
        have hszr := (unhide HR).lt
        by_cases hlt : k < n
        · obtain ⟨g, off, ha, hg, c0, c1⟩ := es_at (i := k) (by have := unhide HE; rw [← unhide HN] at this; exact this) (by rw [unhide HN]; exact hlt)
          subst ha
          obtain ⟨gc, oc, hca, hgc, cC⟩ := (unhide HC).2 k hlt
          subst hca
          have hends := (unhide HP).at (i := k) (by rw [unhide HN]; exact hlt)
          obtain ⟨⟨p, q⟩, hpq⟩ : ∃ e, es.getD k (0, 0) = e := ⟨_, rfl⟩
          rw [hpq] at c0 c1 hends
          have HPQ := hide hpq
          have hskip : (c k = true → f p = false ∧ (both = true → f q = false)) → Sw V es both c x (k + 1) f0 f := fun hno => (unhide HS).skip (unhide HP) (by rw [unhide HN]; exact hlt) (by rw [hpq]; exact hno)
          have HSK := hide hskip
          clear hpq hskip
          obtain ⟨hpV, hqV⟩ := hends
          simp only at c0 c1 hpV hqV
          have d0 : wr.cell? ⟨g, off + k * 2, none⟩ = some (.int .i64 (p : Nat)) := by rw [(unhide HB).bel.cell (p := ⟨g, off + k * 2, none⟩) hg]; exact c0
          have d1 : wr.cell? ⟨g, off + k * 2 + 1, none⟩ = some (.int .i64 (q : Nat)) := by rw [(unhide HB).bel.cell (p := ⟨g, off + k * 2 + 1, none⟩) hg]; exact c1
          have d2 : wr.cell? ⟨gc, oc + k, none⟩ = some (.bool (c k)) := by rw [(unhide HB).bel.cell (p := ⟨gc, oc + k, none⟩) hgc]; exact cC
          have s0 := (unhide HR).cell hpV
          have s1 := (unhide HR).cell hqV
          have s2 := (unhide HR).fz q
          have s3 := (unhide HR).fz p
          have hlt2 : (k : Int) < (n : Int) := by omega
          have hp2 : (p : Int) < (V : Int) := by omega
          have hq2 : (q : Int) < (V : Int) := by omega
          have hgw := (unhide HB).lt
          have hgcr : gc < wr.heap.size := by omega
          have hgr : g < wr.heap.size := by omega
          clear c0 c1 cC
          cases hck : c k with
          | false =>
            rw [hck] at d2
            have HSW := hide (unhide HSK (fun h => by rw [hck] at h; cases h))
            go_wp2_with fail
            go_roundw
            case rel => exact ⟨k + 1, f, by go_num, by omega, (unhide HR).below (b_al _), HSW, (unhide HB).step (b_al _)⟩
            case measure => simp [intOf]; omega
          | true =>
            rw [hck] at d2
            have hcase : (f p = true ∨ (both = true ∧ f q = true)) ∨ (f p = false ∧ (both = true → f q = false)) := by
              cases f p with
              | true => exact .inl (.inl rfl)
              | false =>
                cases both with
                | false => exact .inr ⟨rfl, fun h => by cases h⟩
                | true =>
                  cases f q with
                  | true => exact .inl (.inr ⟨rfl, rfl⟩)
                  | false => exact .inr ⟨rfl, fun _ => rfl⟩
            rcases hcase with hyes | ⟨hno1, hno2⟩
            · have hst : (upd f q true p || both) = true := by
                rcases hyes with h | ⟨h1, _⟩
                · have : upd f q true p = true := by
                    unfold upd
                    split
                    · rfl
                    · exact h
                  simp [this]
                · simp [h1]
              have HSW := hide (Sw.take (unhide HS) (unhide HP) (by rw [unhide HN]; exact hlt) hck (unhide HPQ) hyes)
              rw [hst] at HSW
              clear hst
              cases hfp : f p with
              | true =>
                have hst : upd f q true p = true := by
                  unfold upd
                  split
                  · rfl
                  · exact hfp
                rw [hfp] at s0
                clear hyes
                go_wp2_with fail
                have hse : (wr.setCell ⟨w.heap.size + 1, q, none⟩ (.bool true)).heap.size = wr.heap.size := by simp
                have BV := hide ((unhide HB).stepB (B := w.heap.size + 1) (wk' := (wr.setCell ⟨w.heap.size + 1, q, none⟩ (.bool true)).alloc (.cells #[.int .i64 (p : Int), .int .i64 (q : Int)] 47)) (by omega) (((Below.refl (w.heap.size + 1) wr).setCell (p := ⟨w.heap.size + 1, q, none⟩) (Nat.le_refl _) _).alloc (by rw [hse]; omega) _))
                have RV := hide ((RowB.set (unhide HR) q true).below (b_al (.cells #[.int .i64 (p : Int), .int .i64 (q : Int)] 47)))
                have EV := hide (show ((wr.setCell ⟨w.heap.size + 1, q, none⟩ (.bool true)).alloc (.cells #[.int .i64 (p : Int), .int .i64 (q : Int)] 47)).heap[wr.heap.size]? = some (.cells #[.int .i64 (p : Int), .int .i64 (q : Int)] 47 (0, 0)) by have h := (MapKept.heap_alloc (wr.setCell ⟨w.heap.size + 1, q, none⟩ (.bool true)) (.cells #[.int .i64 (p : Int), .int .i64 (q : Int)] 47)).1; rw [hse] at h; exact h)
                clear hse
                have hebne : wr.heap.size ≠ w.heap.size + 1 := by omega
                clear d0 d1 d2 s0 s1 s2 s3 g0 g1
                generalize ((wr.setCell ⟨w.heap.size + 1, q, none⟩ (.bool true)).alloc (.cells #[.int .i64 (p : Int), .int .i64 (q : Int)] 47)) = wv at BV RV EV ⊢
                clear hszr
                generalize wr.heap.size = eb at EV hebne ⊢
                have BV2 := hide ((unhide BV).step b_dr)
                have RV2 := hide ((unhide RV).below b_dr)
                have EV2 := hide (show wv.drew.heap[eb]? = some (.cells #[.int .i64 (p : Int), .int .i64 (q : Int)] 47 (0, 0)) from unhide EV)
                have e0 : wv.drew.cell? ⟨eb, 0, none⟩ = some (.int .i64 (p : Int)) := by simp only [World.cell?, unhide EV2]; rfl
                refine wp_region_held_drew (S := fun u => u.cell? ⟨eb, 0, none⟩ = some (.int .i64 (p : Int))) (by kernel_rfl) e0 (fun hS => ?_)
                clear e0 BV RV EV
                generalize wv.drew = wu at BV2 RV2 EV2 hS ⊢
                have r0 := (unhide RV2).cell hpV
                have r1 := (unhide RV2).fz p
                rw [hst] at r0
                refine wpAnyH_take (i := 0) (v := ?_) rfl (by kernel_rfl) (by kernel_rfl) (by kernel_rfl) (fun _ _ _ h => h) (Or.inl ⟨by rfl, ?_⟩) hS ?_
                rotate_left
                · intro u hu; (try dsimp only at hu); go_simp; try with_reducible rfl
                simp only [Act.put, List.getElem_toArray, List.getElem_cons_zero, List.setIfInBounds_toArray, List.set_cons_zero, List.set_cons_succ]
                refine wpAnyH_take (i := 1) (v := ?_) rfl (by kernel_rfl) (by kernel_rfl) (by kernel_rfl) (fun _ _ _ h => h) (Or.inl ⟨by rfl, ?_⟩) hS ?_
                rotate_left
                · intro u hu; (try dsimp only at hu); go_simp; try with_reducible rfl
                simp only [Act.put, List.getElem_toArray, List.getElem_cons_zero, List.getElem_cons_succ, List.setIfInBounds_toArray, List.set_cons_zero, List.set_cons_succ]
                refine wpAnyH_take (i := 2) (v := ?_) rfl (by kernel_rfl) (by kernel_rfl) (by kernel_rfl) (fun _ _ _ h => h) (Or.inl ⟨by rfl, ?_⟩) hS ?_
                rotate_left
                · intro u hu; (try dsimp only at hu); go_simp; try with_reducible rfl
                simp only [Act.put, List.getElem_toArray, List.getElem_cons_zero, List.getElem_cons_succ, List.setIfInBounds_toArray, List.set_cons_zero, List.set_cons_succ]
                refine wpAnyH_take (i := 3) (v := ?_) rfl (by kernel_rfl) (by kernel_rfl) (by kernel_rfl) (fun _ _ _ h => h) (Or.inl ⟨by rfl, ?_⟩) hS ?_
                rotate_left
                · intro u hu; (try dsimp only at hu); go_simp; try with_reducible rfl
                simp only [Act.put, List.getElem_toArray, List.getElem_cons_zero, List.getElem_cons_succ, List.setIfInBounds_toArray, List.set_cons_zero, List.set_cons_succ]
                refine wpAnyH_take (i := 4) (v := ?_) rfl (by kernel_rfl) (by kernel_rfl) (by kernel_rfl) (fun _ _ _ h => h) (Or.inl ⟨by rfl, ?_⟩) hS ?_
                rotate_left
                · intro u hu; (try dsimp only at hu); go_simp; try with_reducible rfl
                simp only [Act.put, List.getElem_toArray, List.getElem_cons_zero, List.getElem_cons_succ, List.setIfInBounds_toArray, List.set_cons_zero, List.set_cons_succ]
                refine wpAnyH_take (i := 5) (v := ?_) rfl (by kernel_rfl) (by kernel_rfl) (by kernel_rfl) (fun _ _ _ h => h) (Or.inl ⟨by rfl, ?_⟩) hS ?_
                rotate_left
                · intro u hu; (try dsimp only at hu); go_simp; try with_reducible rfl
                simp only [Act.put, List.getElem_toArray, List.getElem_cons_zero, List.getElem_cons_succ, List.setIfInBounds_toArray, List.set_cons_zero, List.set_cons_succ]
                refine wpAnyH_take (i := 6) (v := ?_) rfl (by kernel_rfl) (by kernel_rfl) (by kernel_rfl) (fun _ _ _ h => h) (Or.inl ⟨by rfl, ?_⟩) hS ?_
                rotate_left
                · intro u hu; (try dsimp only at hu); go_simp; try with_reducible rfl
                simp only [Act.put, List.getElem_toArray, List.getElem_cons_zero, List.getElem_cons_succ, List.setIfInBounds_toArray, List.set_cons_zero, List.set_cons_succ]
                refine wpAnyH_ready (rs := [7]) (by kernel_rfl) (by simp) ?_
                refine AllReadyH.cons rfl (fun K hK => ?_) AllReadyH.nil
                go_simp
                refine hK.out _ _ hS (fun hS2 => ?_)
                clear hK K
                refine wpAnyH_take (i := 8) (v := ?_) rfl (by kernel_rfl) (by kernel_rfl) (by kernel_rfl) (fun _ _ _ h => h) (Or.inl ⟨by rfl, ?_⟩) hS2 ?_
                rotate_left
                · intro u hu; (try dsimp only at hu); go_simp; try with_reducible rfl
                simp only [Act.put, List.getElem_toArray, List.getElem_cons_zero, List.getElem_cons_succ, List.setIfInBounds_toArray, List.set_cons_zero, List.set_cons_succ]
                refine wpAnyH_take (i := 9) (v := undef) rfl (by kernel_rfl) (by kernel_rfl) (by kernel_rfl) (fun _ _ _ h => h) (Or.inr ⟨by rfl, rfl⟩) hS2 ?_
                simp only [Act.put, List.getElem_toArray, List.getElem_cons_zero, List.getElem_cons_succ, List.setIfInBounds_toArray, List.set_cons_zero, List.set_cons_succ]
                refine wpAnyH_take (i := 10) (v := ?_) rfl (by kernel_rfl) (by kernel_rfl) (by kernel_rfl) (fun _ _ _ h => h) (Or.inl ⟨by rfl, ?_⟩) hS2 ?_
                rotate_left
                · intro u hu; (try dsimp only at hu); go_simp; try with_reducible rfl
                simp only [Act.put, List.getElem_toArray, List.getElem_cons_zero, List.getElem_cons_succ, List.setIfInBounds_toArray, List.set_cons_zero, List.set_cons_succ]
                refine wpAnyH_take (i := 11) (v := ?_) rfl (by kernel_rfl) (by kernel_rfl) (by kernel_rfl) (fun _ _ _ h => h) (Or.inl ⟨by rfl, ?_⟩) hS2 ?_
                rotate_left
                · intro u hu; (try dsimp only at hu); go_simp; try with_reducible rfl
                simp only [Act.put, List.getElem_toArray, List.getElem_cons_zero, List.getElem_cons_succ, List.setIfInBounds_toArray, List.set_cons_zero, List.set_cons_succ]
                refine wpAnyH_ready (rs := [12]) (by kernel_rfl) (by simp) ?_
                refine AllReadyH.cons rfl (fun K hK => ?_) AllReadyH.nil
                go_simp
                have hS3 : (wu.setCell ⟨w.heap.size + 1, p, none⟩ (.bool true)).cell? ⟨eb, 0, none⟩ = some (.int .i64 (p : Int)) := by
                  have : (wu.setCell ⟨w.heap.size + 1, p, none⟩ (.bool true)).heap[eb]? = some (.cells #[.int .i64 (p : Int), .int .i64 (q : Int)] 47 (0, 0)) := by rw [Below.heap_setCell _ _ _ _ hebne]; exact unhide EV2
                  simp [World.cell?, this]
                refine hK.out _ _ hS3 (fun hS4 => ?_)
                clear hK K hS hS2 hS3
                refine wpAnyH_done (by kernel_rfl) ?_ _
                clear hS4
                go_wp2_with fail
                go_roundw
                case rel =>
                  refine ⟨k + 1, _, by go_num, by omega, ?_, HSW, (unhide BV2).stepB (B := w.heap.size + 1) (by omega) ((Below.refl _ _).setCell (p := ⟨w.heap.size + 1, p, none⟩) (Nat.le_refl _) _)⟩
                  have h := RowB.set (unhide RV2) p true
                  exact h
                case measure => simp [intOf]; omega
              | false =>
                obtain ⟨hbt, hfq⟩ : both = true ∧ f q = true := by
                  rcases hyes with h | h
                  · rw [hfp] at h; cases h
                  · exact h
                have hst : upd f q true p = false := by
                  unfold upd
                  split
                  · rename_i hpq; rw [hpq, hfq] at hfp; cases hfp
                  · exact hfp
                subst hbt
                rw [hfp] at s0
                rw [hfq] at s1
                clear hyes
                go_wp2_with fail
                have hse : (wr.setCell ⟨w.heap.size + 1, q, none⟩ (.bool true)).heap.size = wr.heap.size := by simp
                have BV := hide ((unhide HB).stepB (B := w.heap.size + 1) (wk' := (wr.setCell ⟨w.heap.size + 1, q, none⟩ (.bool true)).alloc (.cells #[.int .i64 (p : Int), .int .i64 (q : Int)] 47)) (by omega) (((Below.refl (w.heap.size + 1) wr).setCell (p := ⟨w.heap.size + 1, q, none⟩) (Nat.le_refl _) _).alloc (by rw [hse]; omega) _))
                have RV := hide ((RowB.set (unhide HR) q true).below (b_al (.cells #[.int .i64 (p : Int), .int .i64 (q : Int)] 47)))
                have EV := hide (show ((wr.setCell ⟨w.heap.size + 1, q, none⟩ (.bool true)).alloc (.cells #[.int .i64 (p : Int), .int .i64 (q : Int)] 47)).heap[wr.heap.size]? = some (.cells #[.int .i64 (p : Int), .int .i64 (q : Int)] 47 (0, 0)) by have h := (MapKept.heap_alloc (wr.setCell ⟨w.heap.size + 1, q, none⟩ (.bool true)) (.cells #[.int .i64 (p : Int), .int .i64 (q : Int)] 47)).1; rw [hse] at h; exact h)
                clear hse
                have hebne : wr.heap.size ≠ w.heap.size + 1 := by omega
                clear d0 d1 d2 s0 s1 s2 s3 g0 g1
                generalize ((wr.setCell ⟨w.heap.size + 1, q, none⟩ (.bool true)).alloc (.cells #[.int .i64 (p : Int), .int .i64 (q : Int)] 47)) = wv at BV RV EV ⊢
                clear hszr
                generalize wr.heap.size = eb at EV hebne ⊢
                have BV2 := hide ((unhide BV).step b_dr)
                have RV2 := hide ((unhide RV).below b_dr)
                have EV2 := hide (show wv.drew.heap[eb]? = some (.cells #[.int .i64 (p : Int), .int .i64 (q : Int)] 47 (0, 0)) from unhide EV)
                have e0 : wv.drew.cell? ⟨eb, 0, none⟩ = some (.int .i64 (p : Int)) := by simp only [World.cell?, unhide EV2]; rfl
                refine wp_region_held_drew (S := fun u => u.cell? ⟨eb, 0, none⟩ = some (.int .i64 (p : Int))) (by kernel_rfl) e0 (fun hS => ?_)
                clear e0 BV RV EV
                generalize wv.drew = wu at BV2 RV2 EV2 hS ⊢
                have r0 := (unhide RV2).cell hpV
                have r1 := (unhide RV2).fz p
                rw [hst] at r0
                refine wpAnyH_take (i := 0) (v := ?_) rfl (by kernel_rfl) (by kernel_rfl) (by kernel_rfl) (fun _ _ _ h => h) (Or.inl ⟨by rfl, ?_⟩) hS ?_
                rotate_left
                · intro u hu; (try dsimp only at hu); go_simp; try with_reducible rfl
                simp only [Act.put, List.getElem_toArray, List.getElem_cons_zero, List.setIfInBounds_toArray, List.set_cons_zero, List.set_cons_succ]
                refine wpAnyH_take (i := 1) (v := ?_) rfl (by kernel_rfl) (by kernel_rfl) (by kernel_rfl) (fun _ _ _ h => h) (Or.inl ⟨by rfl, ?_⟩) hS ?_
                rotate_left
                · intro u hu; (try dsimp only at hu); go_simp; try with_reducible rfl
                simp only [Act.put, List.getElem_toArray, List.getElem_cons_zero, List.getElem_cons_succ, List.setIfInBounds_toArray, List.set_cons_zero, List.set_cons_succ]
                refine wpAnyH_take (i := 2) (v := ?_) rfl (by kernel_rfl) (by kernel_rfl) (by kernel_rfl) (fun _ _ _ h => h) (Or.inl ⟨by rfl, ?_⟩) hS ?_
                rotate_left
                · intro u hu; (try dsimp only at hu); go_simp; try with_reducible rfl
                simp only [Act.put, List.getElem_toArray, List.getElem_cons_zero, List.getElem_cons_succ, List.setIfInBounds_toArray, List.set_cons_zero, List.set_cons_succ]
                refine wpAnyH_take (i := 3) (v := ?_) rfl (by kernel_rfl) (by kernel_rfl) (by kernel_rfl) (fun _ _ _ h => h) (Or.inl ⟨by rfl, ?_⟩) hS ?_
                rotate_left
                · intro u hu; (try dsimp only at hu); go_simp; try with_reducible rfl
                simp only [Act.put, List.getElem_toArray, List.getElem_cons_zero, List.getElem_cons_succ, List.setIfInBounds_toArray, List.set_cons_zero, List.set_cons_succ]
                refine wpAnyH_take (i := 4) (v := ?_) rfl (by kernel_rfl) (by kernel_rfl) (by kernel_rfl) (fun _ _ _ h => h) (Or.inl ⟨by rfl, ?_⟩) hS ?_
                rotate_left
                · intro u hu; (try dsimp only at hu); go_simp; try with_reducible rfl
                simp only [Act.put, List.getElem_toArray, List.getElem_cons_zero, List.getElem_cons_succ, List.setIfInBounds_toArray, List.set_cons_zero, List.set_cons_succ]
                refine wpAnyH_take (i := 5) (v := ?_) rfl (by kernel_rfl) (by kernel_rfl) (by kernel_rfl) (fun _ _ _ h => h) (Or.inl ⟨by rfl, ?_⟩) hS ?_
                rotate_left
                · intro u hu; (try dsimp only at hu); go_simp; try with_reducible rfl
                simp only [Act.put, List.getElem_toArray, List.getElem_cons_zero, List.getElem_cons_succ, List.setIfInBounds_toArray, List.set_cons_zero, List.set_cons_succ]
                refine wpAnyH_take (i := 6) (v := ?_) rfl (by kernel_rfl) (by kernel_rfl) (by kernel_rfl) (fun _ _ _ h => h) (Or.inl ⟨by rfl, ?_⟩) hS ?_
                rotate_left
                · intro u hu; (try dsimp only at hu); go_simp; try with_reducible rfl
                simp only [Act.put, List.getElem_toArray, List.getElem_cons_zero, List.getElem_cons_succ, List.setIfInBounds_toArray, List.set_cons_zero, List.set_cons_succ]
                refine wpAnyH_ready (rs := [7]) (by kernel_rfl) (by simp) ?_
                refine AllReadyH.cons rfl (fun K hK => ?_) AllReadyH.nil
                go_simp
                refine hK.out _ _ hS (fun hS2 => ?_)
                clear hK K
                refine wpAnyH_take (i := 8) (v := ?_) rfl (by kernel_rfl) (by kernel_rfl) (by kernel_rfl) (fun _ _ _ h => h) (Or.inl ⟨by rfl, ?_⟩) hS2 ?_
                rotate_left
                · intro u hu; (try dsimp only at hu); go_simp; try with_reducible rfl
                simp only [Act.put, List.getElem_toArray, List.getElem_cons_zero, List.getElem_cons_succ, List.setIfInBounds_toArray, List.set_cons_zero, List.set_cons_succ]
                refine wpAnyH_take (i := 9) (v := ?_) rfl (by kernel_rfl) (by kernel_rfl) (by kernel_rfl) (fun _ _ _ h => h) (Or.inl ⟨by rfl, ?_⟩) hS2 ?_
                rotate_left
                · intro u hu; (try dsimp only at hu); go_simp; try with_reducible rfl
                simp only [Act.put, List.getElem_toArray, List.getElem_cons_zero, List.getElem_cons_succ, List.setIfInBounds_toArray, List.set_cons_zero, List.set_cons_succ]
                refine wpAnyH_take (i := 10) (v := ?_) rfl (by kernel_rfl) (by kernel_rfl) (by kernel_rfl) (fun _ _ _ h => h) (Or.inl ⟨by rfl, ?_⟩) hS2 ?_
                rotate_left
                · intro u hu; (try dsimp only at hu); go_simp; try with_reducible rfl
                simp only [Act.put, List.getElem_toArray, List.getElem_cons_zero, List.getElem_cons_succ, List.setIfInBounds_toArray, List.set_cons_zero, List.set_cons_succ]
                refine wpAnyH_take (i := 11) (v := ?_) rfl (by kernel_rfl) (by kernel_rfl) (by kernel_rfl) (fun _ _ _ h => h) (Or.inl ⟨by rfl, ?_⟩) hS2 ?_
                rotate_left
                · intro u hu; (try dsimp only at hu); go_simp; try with_reducible rfl
                simp only [Act.put, List.getElem_toArray, List.getElem_cons_zero, List.getElem_cons_succ, List.setIfInBounds_toArray, List.set_cons_zero, List.set_cons_succ]
                refine wpAnyH_ready (rs := [12]) (by kernel_rfl) (by simp) ?_
                refine AllReadyH.cons rfl (fun K hK => ?_) AllReadyH.nil
                go_simp
                have hS3 : (wu.setCell ⟨w.heap.size + 1, p, none⟩ (.bool true)).cell? ⟨eb, 0, none⟩ = some (.int .i64 (p : Int)) := by
                  have : (wu.setCell ⟨w.heap.size + 1, p, none⟩ (.bool true)).heap[eb]? = some (.cells #[.int .i64 (p : Int), .int .i64 (q : Int)] 47 (0, 0)) := by rw [Below.heap_setCell _ _ _ _ hebne]; exact unhide EV2
                  simp [World.cell?, this]
                refine hK.out _ _ hS3 (fun hS4 => ?_)
                clear hK K hS hS2 hS3
                refine wpAnyH_done (by kernel_rfl) ?_ _
                clear hS4
                go_wp2_with fail
                go_roundw
                case rel =>
                  refine ⟨k + 1, _, by go_num, by omega, ?_, HSW, (unhide BV2).stepB (B := w.heap.size + 1) (by omega) ((Below.refl _ _).setCell (p := ⟨w.heap.size + 1, p, none⟩) (Nat.le_refl _) _)⟩
                  have h := RowB.set (unhide RV2) p true
                  exact h
                case measure => simp [intOf]; omega
            · have HSW := hide (unhide HSK (fun _ => ⟨hno1, hno2⟩))
              rw [hno1] at s0
              cases both with
              | false =>
                go_wp2_with fail
                go_roundw
                case rel => exact ⟨k + 1, f, by go_num, by omega, (unhide HR).below (b_al _), HSW, (unhide HB).step (b_al _)⟩
                case measure => simp [intOf]; omega
              | true =>
                rw [hno2 rfl] at s1
                go_wp2_with fail
                go_roundw
                case rel => exact ⟨k + 1, f, by go_num, by omega, (unhide HR).below (b_al _), HSW, (unhide HB).step (b_al _)⟩
                case measure => simp [intOf]; omega
        · obtain rfl : k = n := by omega
          have HRN2 := hide ((unhide HRNr).next (unhide HP) hx (by have := unhide HS; rw [← unhide HN] at this; exact this))
          go_wp2_with fail
          go_roundw
          case rel => exact ⟨r + 1, f, by go_num, by omega, HR, HRN2, HB⟩
          case measure => simp [intOf]; omega
    · obtain rfl : r = V := by omega
      go_wp2_with fail
      go_ret
      exact ⟨⟨_, f0, rfl, by omega, unhide HR, (unhide HRNr).done (unhide HP) hx⟩, (unhide HB).bel⟩
end Go.Proofs.YtefagplbpbkpgaaDoor.pt
/-
  The contract of the document's Part: each vertex's part, by the least vertex of it; -1: it is without. Conditions: the graph lies in memory as told and may be; so do the marks of those without.
-/
namespace Go.Proofs.YtefagplbpbkpgaaDoor.pt
open Go.RowKit
set_option linter.unusedVariables false

/-- which edges count -/
def cntE (es : List (Nat × Nat)) (wo : Nat → Bool) (t : Nat) : Bool := !wo (es.getD t (0, 0)).1 && !wo (es.getD t (0, 0)).2
theorem cs_bd (es : List (Nat × Nat)) (wo c : Nat → Bool) (hc : ∀ t, t < es.length → c t = cntE es wo t) (u v : Nat) : Cs es true c u v ↔ Bd es wo u v := by
  constructor
  · rintro ⟨t, ht, h1, h2⟩
    rw [hc t ht] at h1
    unfold cntE at h1
    simp at h1
    refine ⟨es.getD t (0, 0), getD_mem ht, h1.1, h1.2, ?_⟩
    rcases h2 with h2 | ⟨_, h2⟩
    · exact .inl h2
    · exact .inr h2
  · rintro ⟨e, he, h1, h2, h3⟩
    obtain ⟨t, ht, rfl⟩ := List.mem_iff_getElem.1 he
    have hg : es.getD t (0, 0) = es[t] := by simp [List.getD, ht]
    refine ⟨t, ht, ?_, ?_⟩
    · rw [hc t ht]
      unfold cntE
      rw [hg, h1, h2]
      rfl
    · rw [hg]
      rcases h3 with h3 | h3
      · exact .inl h3
      · exact .inr ⟨rfl, h3⟩
/-- each vertex's part, by its least vertex; -1: it is without -/
def IsL (V : Nat) (es : List (Nat × Nat)) (wo : Nat → Bool) (L : Nat → Int) : Prop := ∀ x, x < V → (wo x = true → L x = -1) ∧ (wo x = false → ∃ y : Nat, L x = (y : Int) ∧ y < V ∧ Star (Bd es wo) x y ∧ Rep es wo y)
theorem isL_ex (V : Nat) (es : List (Nat × Nat)) (wo : Nat → Bool) : ∃ L, IsL V es wo L := by
  classical
  refine ⟨fun x => if h : wo x = false then ((rep_ex es wo x h).choose : Int) else -1, fun x hx => ⟨fun h => ?_, fun h => ?_⟩⟩
  · have : ¬ wo x = false := by rw [h]; simp
    exact dif_neg this
  · simp only [h, dite_true]
    obtain ⟨h1, h2, h3⟩ := (rep_ex es wo x h).choose_spec
    exact ⟨_, rfl, by omega, h2, h3⟩
/-- the least of those from j on, or -1 -/
def IsLm (V : Nat) (f : Nat → Bool) (wx : Bool) (j : Nat) (z : Int) : Prop :=
  (wx = true → z = -1) ∧ (wx = false → (z = -1 ∧ ∀ t, j ≤ t → t < V → f t = false) ∨ ∃ y : Nat, z = (y : Int) ∧ j ≤ y ∧ y < V ∧ f y = true ∧ ∀ t, j ≤ t → t < y → f t = false)
theorem IsLm.start (V : Nat) (f : Nat → Bool) (wx : Bool) : IsLm V f wx V (-1) := ⟨fun _ => rfl, fun _ => .inl ⟨rfl, fun t h1 h2 => by omega⟩⟩
theorem IsLm.yes {V : Nat} {f : Nat → Bool} {wx : Bool} {j : Nat} {z : Int} (h : IsLm V f wx (j + 1) z) (hj : j < V) (hf : f j = true) (hw : wx = false) : IsLm V f wx j (j : Int) :=
  ⟨fun h => (by rw [hw] at h; cases h), fun _ => .inr ⟨j, rfl, Nat.le_refl _, hj, hf, fun t h1 h2 => by omega⟩⟩
theorem IsLm.no {V : Nat} {f : Nat → Bool} {wx : Bool} {j : Nat} {z : Int} (h : IsLm V f wx (j + 1) z) (hf : f j = false ∨ wx = true) : IsLm V f wx j z := by
  refine ⟨h.1, fun hw => ?_⟩
  have hfj : f j = false := by
    rcases hf with hf | hf
    · exact hf
    · rw [hw] at hf; cases hf
  rcases h.2 hw with ⟨h1, h2⟩ | ⟨y, h1, h2, h3, h4, h5⟩
  · refine .inl ⟨h1, fun t ht1 ht2 => ?_⟩
    by_cases htj : t = j
    · rw [htj]; exact hfj
    · exact h2 t (by omega) ht2
  · refine .inr ⟨y, h1, by omega, h3, h4, fun t ht1 ht2 => ?_⟩
    by_cases htj : t = j
    · rw [htj]; exact hfj
    · exact h5 t (by omega) ht2
theorem IsLm.done {V : Nat} {es : List (Nat × Nat)} (hp : Plain V es) {wo f : Nat → Bool} {x : Nat} (hx : x < V) {z : Int} (h : IsLm V f (wo x) 0 z) (hf : ∀ j, j < V → (f j = true ↔ Star (Bd es wo) x j)) {L : Nat → Int} (hL : IsL V es wo L) : z = L x := by
  cases hw : wo x with
  | true => rw [h.1 hw, (hL x hx).1 hw]
  | false =>
    rcases h.2 hw with ⟨h1, h2⟩ | ⟨y, h1, h2, h3, h4, h5⟩
    · have := h2 x (by omega) hx
      rw [(hf x hx).2 .refl] at this
      cases this
    · obtain ⟨y', e1, e2, e3, e4⟩ := (hL x hx).2 hw
      have hxy := (hf y h3).1 h4
      have hr : Rep es wo y := ⟨Conn.free hxy hw, fun t ht hs => by
        have h6 := h5 t (by omega) ht
        rw [(hf t (by omega)).2 (hxy.trans hs)] at h6
        cases h6⟩
      have : y = y' := hr.only e4 ((Conn.symm hxy).trans e3)
      rw [h1, e1, this]
theorem one_i (z : Int) : ∀ u ∈ [Value.int .i64 z], u.oneCell' = true := by
  intro u hu
  simp only [List.mem_singleton] at hu
  subst hu
  rfl
theorem mapL_snoc (L : Nat → Int) (k : Nat) : (List.range k).map L ++ [L k] = (List.range (k + 1)).map L := by
  rw [List.range_succ]
  simp

set_option maxHeartbeats 8000000 in
theorem refpart_any (w : World) (V : Nat) (a : Option Addr) (n cap : Nat) (es : List (Nat × Nat)) {B : Nat} (h : Es B w a n (toI es)) (hne : es.length = n) (hp : Plain V es) (wa : Option Addr) (wcap : Nat) (wo : Nat → Bool) (hW : Bs w wa V wo) (L : Nat → Int) (hL : IsL V es wo L) :
    Calls Tryd.prog 24 #[.agg #[.int .i64 V, .slice a n cap], .slice wa V wcap] w fun e w' => (∃ v, e = .returned v ∧ w'.ownsRow w.heap.size 3 1 v V (zcells ((List.range V).map L))) ∧ Below w.heap.size w w' := by
  have hv64 := hp.v64
  have hv1 := hp.v1
  have hn128 := hp.n128
  rw [hne] at hn128
  have HE := hide h
  have HP := hide hp
  have HN := hide hne
  have HW := hide hW
  have HL := hide hL
  have HB0 := hide (Bg.start w (.int .i64 V) (.slice a n cap))
  have HEV := hide (fun (u : World) => every_any u V a n cap (by omega))
  have HGO := hide (fun (u : World) (h : Es B u a n (toI es)) (x : Nat) (hx : x < V) (ca : Option Addr) (cc : Nat) (c : Nat → Bool) (hC : Bs u ca n c) => refgo_any u V a n cap es h hne hp x hx true ca cc c hC)
  obtain ⟨i0, hi0, hz0, hz1, hz2⟩ := info_parts info3
  have HI := hide hi0
  have HZ0 := hide hz0
  have HZ1 := hide hz1
  have HZ2 := hide hz2
  clear hi0 hz0 hz1 hz2 h hp hne hW hL
  go_enter Tryd.func24, Tryd.ntmps24
  go_wp2_with fail
  refine (unhide HEV _).mono ?_
  rintro e w1 ⟨⟨ge, rfl, hge, hre⟩, hb1⟩
  have HB1 := hide ((unhide HB0).step hb1)
  have HR1 := hide (show RowB w1 ge n (fun t => if t < 0 then cntE es wo t else true) from Row.congr hre fun t ht => by simp)
  have hgw : w.heap.size + 1 ≤ ge := by
    have : (w.alloc (.cells #[.int .i64 (V : Int), .slice a n cap] 24)).heap.size = w.heap.size + 1 := by simp
    omega
  clear hb1 hre HB0 HEV hge
  go_wp2_with fail
  go_loopw [6] (fun i wr => ∃ k : Nat, i = .int .i64 k ∧ k ≤ n ∧ Hid (RowB wr ge n (fun t => if t < k then cntE es wo t else true)) ∧ Hid (Bg w wr (.int .i64 V) (.slice a n cap))) (fun i wr => n - (intOf i).toNat)
  case atStart => exact ⟨0, rfl, by omega, HR1, HB1⟩
  case round =>
    clear HR1 HB1
    obtain ⟨k, rfl, hk, HR, HB⟩ := hrel
    obtain ⟨g0, g1⟩ := (unhide HB).cells
    by_cases hlt : k < n
    · obtain ⟨g, off, ha, hg, c0, c1⟩ := es_at (i := k) (by have := unhide HE; rw [← unhide HN] at this; exact this) (by rw [unhide HN]; exact hlt)
      subst ha
      have hends := (unhide HP).at (i := k) (by rw [unhide HN]; exact hlt)
      have hcnt : ∀ p q, es.getD k (0, 0) = (p, q) → cntE es wo k = (!wo p && !wo q) := fun p q he => by unfold cntE; rw [he]
      obtain ⟨⟨p, q⟩, hpq⟩ : ∃ e, es.getD k (0, 0) = e := ⟨_, rfl⟩
      rw [hpq] at c0 c1 hends
      have HCN := hide (hcnt p q hpq)
      clear hcnt hpq
      obtain ⟨hpV, hqV⟩ := hends
      simp only at c0 c1 hpV hqV
      obtain ⟨gw, ow, hwa, hgwl, cw⟩ := (unhide HW).2 p hpV
      subst hwa
      obtain ⟨gw', ow', hwa', _, cw'⟩ := (unhide HW).2 q hqV
      cases hwa'
      have d0 : wr.cell? ⟨g, off + k * 2, none⟩ = some (.int .i64 (p : Nat)) := by rw [(unhide HB).bel.cell (p := ⟨g, off + k * 2, none⟩) hg]; exact c0
      have d1 : wr.cell? ⟨g, off + k * 2 + 1, none⟩ = some (.int .i64 (q : Nat)) := by rw [(unhide HB).bel.cell (p := ⟨g, off + k * 2 + 1, none⟩) hg]; exact c1
      have d2 : wr.cell? ⟨gw, ow + p, none⟩ = some (.bool (wo p)) := by rw [(unhide HB).bel.cell (p := ⟨gw, ow + p, none⟩) hgwl]; exact cw
      have d3 : wr.cell? ⟨gw, ow + q, none⟩ = some (.bool (wo q)) := by rw [(unhide HB).bel.cell (p := ⟨gw, ow + q, none⟩) hgwl]; exact cw'
      have r0 := (unhide HR).cell hlt
      have r1 := (unhide HR).fz k
      have hlt2 : (k : Int) < (n : Int) := by omega
      have hp2 : (p : Int) < (V : Int) := by omega
      have hq2 : (q : Int) < (V : Int) := by omega
      clear c0 c1 cw cw'
      have HSET := hide (fun (b : Bool) (hb : cntE es wo k = b) => show RowB (wr.setCell ⟨ge, k, none⟩ (.bool b)) ge n (fun t => if t < k + 1 then cntE es wo t else true) from by
        refine Row.congr (RowB.set (unhide HR) k b) fun t ht => ?_
        unfold upd
        by_cases h1 : t = k
        · subst h1; simp [hb]
        · rw [if_neg h1]
          dsimp only
          by_cases h2 : t < k
          · rw [if_pos h2, if_pos (by omega)]
          · rw [if_neg h2, if_neg (by omega)])
      have HBS := hide (fun (b : Bool) => (unhide HB).stepB (B := w.heap.size + 1) (wk' := wr.setCell ⟨ge, k, none⟩ (.bool b)) (by omega) ((Below.refl _ _).setCell (p := ⟨ge, k, none⟩) hgw _))
      cases hwp : wo p with
      | true =>
        rw [hwp] at d2
        have hcb : cntE es wo k = false := by rw [unhide HCN, hwp]; rfl
        have HC2 := hide hcb
        clear hcb hwp
        go_wp2_with fail
        go_roundw
        case rel => exact ⟨k + 1, by go_num, by omega, unhide HSET false (unhide HC2), unhide HBS false⟩
        case measure => simp [intOf]; omega
      | false =>
        rw [hwp] at d2
        have hcb : cntE es wo k = !wo q := by rw [unhide HCN, hwp]; rfl
        have HC2 := hide hcb
        clear hcb hwp
        go_wp2_with fail
        go_roundw
        case rel => exact ⟨k + 1, by go_num, by omega, unhide HSET _ (unhide HC2), unhide HBS _⟩
        case measure => simp [intOf]; omega
    · obtain rfl : k = n := by omega
      have HRF := hide (show RowB wr ge k (cntE es wo) from Row.congr (unhide HR) fun t ht => by simp [ht])
      clear HR
      go_wp2_with fail
      clear g0 g1
      obtain ⟨wo0, rfl⟩ : ∃ wo0, wo0 = wr := ⟨_, rfl⟩
      have hsz0 := (unhide HB).lt
      have HO1 := hide (owns_lit_empty wo0 3 1 wo0.heap.size (Nat.le_refl _))
      have HX1 := hide (b_al (w := wo0) (.cells #[] 3))
      go_loopw [7, 8] (fun v i wr => ∃ x : Nat, i = .int .i64 x ∧ x ≤ V ∧ Hid (wr.ownsRow wo0.heap.size 3 1 v x (zcells ((List.range x).map L))) ∧ Hid (Below wo0.heap.size wo0 wr)) (fun v i wr => V - (intOf i).toNat)
      case atStart => exact ⟨0, rfl, by omega, HO1, HX1⟩
      case round =>
        clear HO1 HX1
        obtain ⟨x, rfl, hx, HO, HX⟩ := hrel
        have HBX := hide ((unhide HB).step (unhide HX))
        obtain ⟨g0, g1⟩ := (unhide HBX).cells
        by_cases hxV : x < V
        · have hxV2 : (x : Int) < (V : Int) := by omega
          go_wp2_with fail
          refine (unhide HGO _ ((unhide HE).below (unhide HBX).bel) x hxV _ _ _ (RowB.read (Row.below (unhide HRF) (unhide HX)) (by omega))).mono ?_
          rintro e w5 ⟨⟨gf, f, rfl, hgf, hrf, hf⟩, hb5⟩
          have HX5 := hide (bto (unhide HX) hb5)
          have HB5 := hide ((unhide HBX).step hb5)
          have HO5 := hide (owns_below (unhide HO) hb5)
          have RF := hide hrf
          have HF := hide (fun j hj => (show f j = true ↔ Star (Bd es wo) x j by rw [hf j hj]; exact ⟨Star.mono fun u v => (cs_bd es wo _ (fun t ht => rfl) u v).1, Star.mono fun u v => (cs_bd es wo _ (fun t ht => rfl) u v).2⟩))
          clear hb5 hrf hf hgf g0 g1
          obtain ⟨g0, g1⟩ := (unhide HB5).cells
          obtain ⟨gw, ow, hwa, hgwl, cw⟩ := (unhide HW).2 x hxV
          subst hwa
          have d2 : w5.cell? ⟨gw, ow + x, none⟩ = some (.bool (wo x)) := by rw [(unhide HB5).bel.cell (p := ⟨gw, ow + x, none⟩) hgwl]; exact cw
          clear cw
          go_wp2_with fail
          clear g0 g1
          have HLM := hide (IsLm.start V f (wo x))
          go_loop [9, 11] (fun z i => ∃ (j : Nat) (zz : Int), i = .int .i64 ((j : Int) - 1) ∧ z = .int .i64 zz ∧ j ≤ V ∧ Hid (IsLm V f (wo x) j zz)) (fun z i => (intOf i + 1).toNat)
          case atStart => exact ⟨V, -1, rfl, rfl, Nat.le_refl _, HLM⟩
          case round =>
            clear HLM
            obtain ⟨j, zz, rfl, rfl, hj, HLM⟩ := hrel
            by_cases hj0 : j = 0
            · subst hj0
              have hz := (unhide HLM).done (unhide HP) hxV (unhide HF) (unhide HL)
              have hneg : ¬ (0 : Int) ≤ ((0 : Nat) : Int) - 1 := by omega
              subst hz
              go_wp2_with (at_builtin; refine wpList_append_own _ rfl (.tmp 76) (.tmp 78) 37 rfl wo0.heap.size 3 i0 (.int .i64 0) 1 8 Tryd.underlying37 (unhide HI) (unhide HZ0) (unhide HZ1) (unhide HZ2) rfl (by decide) u7 x (zcells ((List.range x).map L)) rfl ((unhide HO5).alloc _) ⟨w5.heap.size, 0, none⟩ 1 1 [.int .i64 (L x)] rfl rfl (cell_one_new _ _ _) (one_i (L x)) ?a3 ?a4 ?a5 ?_)
              case a3 => unfold maxLen; omega
              case a4 => omega
              case a5 => have := (unhide HX5).size; first | omega | (simp; omega)
              intro v2 w7 hown7 hg7 _
              rw [zcells_snoc, mapL_snoc] at hown7
              have HX7 := hide (((unhide HX5).alloc (unhide HX5).size _).grown hg7 (by have := (unhide HX5).size; simp; omega) fun t ht => ((unhide HO5).lt t ht).1)
              have HO7 := hide hown7
              clear hown7 hg7
              go_wp2_with fail
              go_roundw
              case rel => exact ⟨x + 1, by go_num, by omega, HO7, HX7⟩
              case measure => simp [intOf]; omega
            · obtain ⟨j1, rfl⟩ : ∃ j1, j = j1 + 1 := ⟨j - 1, by omega⟩
              have hji : ((j1 + 1 : Nat) : Int) - 1 = (j1 : Int) := by omega
              rw [hji]
              have hj1 : j1 < V := by omega
              have hj2 : (j1 : Int) < (V : Int) := by omega
              have hge0 : (0 : Int) ≤ (j1 : Int) := by omega
              have r0 := (unhide RF).cell hj1
              have hwj : IntKind.i64.wrap ((j1 : Int) - 1) = (j1 : Int) - 1 := by rw [IntKind.wrap_i64]; omega
              cases hfj : f j1 with
              | false =>
                rw [hfj] at r0
                have HL2 := hide ((unhide HLM).no (.inl hfj))
                clear hfj
                go_wp2_with fail
                refine ⟨⟨j1, zz, by go_num, rfl, by omega, HL2⟩, by simp [intOf] <;> omega⟩
              | true =>
                rw [hfj] at r0
                cases hwx : wo x with
                | true =>
                  have HL2 := hide ((unhide HLM).no (.inr hwx))
                  rw [hwx] at d2 HL2
                  clear hfj
                  go_wp2_with fail
                  refine ⟨⟨j1, zz, by go_num, rfl, by omega, HL2⟩, by simp [intOf] <;> omega⟩
                | false =>
                  have HL2 := hide ((unhide HLM).yes hj1 hfj hwx)
                  rw [hwx] at d2 HL2
                  clear hfj
                  go_wp2_with fail
                  refine ⟨⟨j1, (j1 : Int), by go_num, rfl, by omega, HL2⟩, by simp [intOf] <;> omega⟩
        · obtain rfl : x = V := by omega
          go_wp2_with fail
          go_ret
          exact ⟨⟨_, rfl, owns_mono (unhide HO) (by omega)⟩, (unhide HBX).bel⟩
end Go.Proofs.YtefagplbpbkpgaaDoor.pt
/-
  The contract of the document's Genus. Conditions: the graph and the lists lie in memory as told, and the lists are a rotation.
-/
namespace Go.Proofs.YtefagplbpbkpgaaDoor
open Go.RowKit
set_option linter.unusedVariables false
set_option maxRecDepth 20000

theorem step_make_full {P : Program} {w : World} {ops : Array Oper} {o : Oper} {a : Act} {K : Act → World → Prop} {Q : Exit → Act → World → Prop} {E : Prop} (hgd : o.guard = none) (l c : Operand) (t : TypeId) (hop : o.op = Op.makeSlice t l c)
    (base : Nat) (e : TypeId) (i : TypeInfo) (z : Value) (size : Nat) (h1 : P.underlying t = some (.slice e)) (h2 : P.info? e = some i) (h3 : i.zero = some z) (h4 : i.size = size)
    (kl kc : IntKind) (L C : Int) (n : Nat) (hl : a.eval l = .int kl L) (hc : a.eval c = .int kc C) (hL : L = (n : Int)) (hC : C = (n : Int)) (b2 : i.bytes * n ≤ 281474976710656) (b3 : n ≤ maxLen) (b4 : base ≤ w.heap.size)
    (hK : ∀ w', w'.ownsRow base e size (.slice (some ⟨w.heap.size, 0, none⟩) n n) n (madeCells z.cells (n * size)).toList → w.grownBy w' none → K (a.put o.dst (.slice (some ⟨w.heap.size, 0, none⟩) n n)) w') :
    if Region.wanted o (yielded ops a.tmps) = true then Oper.wp P o a w K Q else E := by
  have hw : Region.wanted o (yielded ops a.tmps) = true := by simp [Region.wanted, hgd]
  rw [if_pos hw]
  obtain ⟨w', hrun, r1, r2⟩ := run_make_full (P := P) w base t e i z size h1 h2 h3 h4 kl kc n b2 b3 b4
  subst hL
  subst hC
  unfold Oper.wp
  simp [execOp, hop, hl, hc, hrun, Result.andThen]
  exact hK w' r1 r2

/-- the least ones, of the first k -/
def lsC (L : Nat → Int) (k : Nat) : Nat := ((List.range k).filter fun x => decide (L x = (x : Int))).length
theorem lsC_succ (L : Nat → Int) (k : Nat) : lsC L (k + 1) = lsC L k + if L k = (k : Int) then 1 else 0 := by
  unfold lsC
  rw [List.range_succ, List.filter_append, List.length_append]
  congr 1
  by_cases h : L k = (k : Int)
  · rw [if_pos h, List.filter_cons, if_pos (decide_eq_true h)]
    rfl
  · rw [if_neg h, List.filter_cons, if_neg (by rw [decide_eq_true_iff]; exact h)]
    rfl
theorem lsC_le (L : Nat → Int) (k : Nat) : lsC L k ≤ k := by
  unfold lsC
  exact Nat.le_trans (List.length_filter_le _ _) (by simp)
theorem lsC_cnt {V : Nat} {es : List (Nat × Nat)} {L : Nat → Int} (h : pt.IsL V es (fun _ => false) L) : pt.IsCnt V es (lsC L V) := by
  refine ⟨fun x => decide (L x = (x : Int)), fun x hx => ?_, rfl⟩
  obtain ⟨y, h1, h2, h3, h4⟩ := (h x hx).2 rfl
  rw [decide_eq_true_iff, h1]
  constructor
  · intro e
    have : y = x := by omega
    subst this
    exact h4
  · intro hr
    have := pt.Rep.only hr h4 h3
    omega

set_option maxHeartbeats 8000000 in
theorem refgenus_any (w : World) (V : Nat) (a : Option Addr) (n cap : Nat) (es : List (Nat × Nat)) {B : Nat} (h : Es B w a n (toI es)) (hne : es.length = n) (hp : pt.Plain V es) (ra : Option Addr) (m rc : Nat) (q : List (List Nat)) (hr : Rr w ra m (rowsI q)) (ro : pt.Ro V es q) (N : Nat → Nat) (hN : Behind q N) (c g : Nat) (hc : pt.IsCnt V es c) (hg : 2 * c + n = V + cyc N (2 * n) + emp q V + 2 * g) :
    Calls Tryd.prog 23 #[.agg #[.int .i64 V, .slice a n cap], .slice ra m rc] w fun e w' => e = .returned (.int .i64 (g : Nat)) ∧ Below w.heap.size w w' := by
  have hn : n ≤ 128 := by rw [← hne]; exact hp.n128
  have hv64 := hp.v64
  have hmV : m = V := by have := hr.1; rw [rowsI_length] at this; rw [← this, ro.len]
  have HB0 := hide (Bg.start w (.int .i64 V) (.slice a n cap))
  have HF := hide (fun (u : World) (hu : Below w.heap.size w u) => show Calls Tryd.prog 28 #[.agg #[.int .i64 V, .slice a n cap], .slice ra m rc] u fun e w' => (∃ va vc, e = .returned (.slice va (cyc N (2 * n)) vc)) ∧ Below u.heap.size u w' from by
    refine (reffaces_any u V a n cap es (h.below hu) hne hn ra m rc q (hr.below hu) ro N hN).mono ?_
    rintro e w' ⟨⟨va, vc, rfl, _, _⟩, hb⟩
    rw [cyc_faces]
    exact ⟨⟨va, vc, rfl⟩, hb⟩)
  obtain ⟨L, hL⟩ := pt.isL_ex V es (fun _ => false)
  have hcL : c = lsC L V := hc.only (lsC_cnt hL)
  have HP := hide (fun (u : World) (hu : Below w.heap.size w u) (wa : Option Addr) (wc : Nat) (hW : pt.Bs u wa V (fun _ => false)) => show Calls Tryd.prog 24 #[.agg #[.int .i64 V, .slice a n cap], .slice wa V wc] u fun e w' => (∃ pa pc, e = .returned (.slice pa V pc) ∧ Ns w' pa V ((List.range V).map L)) ∧ Below u.heap.size u w' from by
    refine (pt.refpart_any u V a n cap es (h.below hu) hne hp wa wc _ hW L hL).mono ?_
    rintro e w' ⟨⟨v, rfl, ho⟩, hb⟩
    obtain ⟨pa, pc, rfl, _, hns⟩ := ns_of_owns ho (by omega)
    exact ⟨⟨pa, pc, rfl, hns⟩, hb⟩)
  subst hcL
  have HRr := hide hr
  have hcyc : cyc N (2 * n) ≤ 2 * n := by
    unfold cyc
    exact Nat.le_trans (List.length_filter_le _ _) (by simp)
  generalize cyc N (2 * n) = F at *
  have HGG := hide hg
  obtain ⟨i0, hi0, hz0, hz1, hz2⟩ := info_parts info4
  have HI := hide hi0
  have HZ0 := hide hz0
  have HZ1 := hide hz1
  have hzb : i0.bytes * V ≤ 281474976710656 := by rw [hz2]; omega
  have hml : V ≤ maxLen := by unfold maxLen; omega
  clear hi0 hz0 hz1 hz2 h hr ro hN hc hg hp hne hL
  subst hmV
  obtain ⟨g0, g1⟩ := (unhide HB0).cells
  go_enter Tryd.func23, Tryd.ntmps23
  go_wp2_with fail
  refine (unhide HF _ (unhide HB0).bel).mono ?_
  rintro e w2 ⟨⟨va, vc, rfl⟩, hb2⟩
  have HB2 := hide ((unhide HB0).step hb2)
  clear hb2 HB0 g0 g1 HF
  go_upto_region 3 with fail
  go_cut [7] from 13 to 18 (fun v wx => ∃ pa pc, v = .slice pa m pc ∧ Hid (Ns wx pa m ((List.range m).map L)) ∧ Hid (Bg w wx (.int .i64 (m : Int)) (.slice a n cap)))
  case first =>
    have XD := hide ((unhide HB2).step b_dr)
    refine wp_region_held_drew (S := fun u => u.cell? ⟨w.heap.size, 0, none⟩ = some (.int .i64 (m : Int)) ∧ u.cell? ⟨w.heap.size, 1, none⟩ = some (.slice a n cap)) (by kernel_rfl) (unhide XD).cells (fun hS => ?_)
    generalize w2.drew = wd at XD hS ⊢
    refine wpAnyH_take (i := 0) (v := ?_) rfl (by kernel_rfl) (by kernel_rfl) (by kernel_rfl) (fun _ _ _ h => h) (Or.inl ⟨by rfl, ?_⟩) hS ?_
    rotate_left
    · intro u hu; (try dsimp only at hu); go_simp; try with_reducible rfl
    simp only [Act.put, List.getElem_toArray, List.getElem_cons_zero, List.setIfInBounds_toArray, List.set_cons_zero, List.set_cons_succ]
    refine wpAnyH_take (i := 1) (v := ?_) rfl (by kernel_rfl) (by kernel_rfl) (by kernel_rfl) (fun _ _ _ h => h) (Or.inl ⟨by rfl, ?_⟩) hS ?_
    rotate_left
    · intro u hu; (try dsimp only at hu); go_simp; try with_reducible rfl
    simp only [Act.put, List.getElem_toArray, List.getElem_cons_zero, List.getElem_cons_succ, List.setIfInBounds_toArray, List.set_cons_zero, List.set_cons_succ]
    refine wpAnyH_take (i := 2) (v := ?_) rfl (by kernel_rfl) (by kernel_rfl) (by kernel_rfl) (fun _ _ _ h => h) (Or.inl ⟨by rfl, ?_⟩) hS ?_
    rotate_left
    · intro u hu; (try dsimp only at hu); go_simp; try with_reducible rfl
    simp only [Act.put, List.getElem_toArray, List.getElem_cons_zero, List.getElem_cons_succ, List.setIfInBounds_toArray, List.set_cons_zero, List.set_cons_succ]
    refine wpAnyH_ready (rs := [3]) (by kernel_rfl) (by simp) ?_
    refine AllReadyH.cons rfl (fun K hK => ?_) AllReadyH.nil
    refine step_make_full (P := Tryd.prog) rfl (.tmp 15) (.tmp 15) 42 rfl wd.heap.size 4 i0 (.bool false) 1 Tryd.underlying42 (unhide HI) (unhide HZ0) (unhide HZ1) .i64 .i64 _ _ m rfl rfl rfl rfl hzb hml (Nat.le_refl _) ?_
    intro wm hown hgr
    change World.ownsRow _ _ _ _ _ _ (madeCells #[Value.bool false] (m * 1)).toList at hown
    rw [toList_madeCells_one, Nat.mul_one] at hown
    have hbm : Below wd.heap.size wd wm := ⟨hgr.os, hgr.tape, hgr.output, hgr.size, fun k hk => hgr.block k hk (by simp)⟩
    have XM := hide ((unhide XD).step hbm)
    have HRW := hide (pt.RowB.read (f := fun _ => false) (pt.Row.of_owns hown) (by omega))
    clear hown hgr hbm
    refine hK.out _ _ (unhide XM).cells (fun hS2 => ?_)
    clear hK K hS
    refine wpAnyH_ready (rs := [4]) (by kernel_rfl) (by simp) ?_
    refine AllReadyH.cons rfl (fun K hK => ?_) AllReadyH.nil
    go_simp
    go_wp2_with (go_at_call 24; refine (unhide HP _ (unhide XM).bel _ _ (unhide HRW)).mono ?_; rintro e w7 ⟨⟨pa, pc, rfl, hns⟩, hb7⟩; have HNS := hide hns; have X7 := hide ((unhide XM).step hb7); clear hns hb7)
    refine hK.out _ _ (unhide X7).cells (fun hS3 => ?_)
    clear hK K hS2
    refine wpAnyH_take (i := 5) (v := ?_) rfl (by kernel_rfl) (by kernel_rfl) (by kernel_rfl) (fun _ _ _ h => h) (Or.inl ⟨by rfl, ?_⟩) hS3 ?_
    rotate_left
    · intro u hu; (try dsimp only at hu); go_simp; try with_reducible rfl
    simp only [Act.put, List.getElem_toArray, List.getElem_cons_zero, List.getElem_cons_succ, List.setIfInBounds_toArray, List.set_cons_zero, List.set_cons_succ]
    refine wpAnyH_done (by kernel_rfl) ?_ _
    go_wp2_with fail
    go_meet
    exact ⟨pa, pc, rfl, HNS, X7⟩
  case rest =>
    obtain ⟨pa, pc, rfl, HNS, HB3⟩ := hcut
    obtain ⟨w3, rfl⟩ : ∃ w3, w3 = wc := ⟨_, rfl⟩
    clear HB2 HP
    go_wp2_with fail
    go_loopw [5, 6, 8] (fun v5 v6 i wr => ∃ k : Nat, i = .int .i64 k ∧ k ≤ m ∧ v5 = .int .i64 ((F + emp q k : Nat) : Int) ∧ v6 = .int .i64 ((lsC L k : Nat) : Int) ∧ wr = w3) (fun v5 v6 i wr => m - (intOf i).toNat)
    case atStart => exact ⟨0, rfl, by omega, rfl, rfl, rfl⟩
    case round =>
      obtain ⟨k, rfl, hk, rfl, rfl, hwe⟩ := hrel
      subst hwe
      have hek := emp_le q k
      have hlk := lsC_le L k
      obtain ⟨g0, g1⟩ := (unhide HB3).cells
      by_cases hkm : k < m
      · have hkm2 : (k : Int) < (m : Int) := by omega
        obtain ⟨gr, or, la, lc, ha, hgr, d0, hlc, hls⟩ := ((unhide HRr).below (unhide HB3).bel).2.2 k hkm
        subst ha
        rw [rowsI_getD, toIs_length] at d0
        obtain ⟨gp, op, hpa, hgp, d1⟩ := (unhide HNS).2.2 k hkm
        subst hpa
        have hLk : ((List.range m).map L).getD k 0 = L k := by simp [List.getD, hkm]
        rw [hLk] at d1
        have hse := emp_succ q k
        have hsl := lsC_succ L k
        obtain ⟨ln, hln⟩ : ∃ ln, (q.getD k []).length = ln := ⟨_, rfl⟩
        rw [hln] at d0
        have hiff : q.getD k [] = [] ↔ ln = 0 := by rw [← hln]; exact List.length_eq_zero_iff.symm
        clear hln hls hlc hLk
        by_cases h1 : L k = (k : Int)
        · rw [if_pos h1] at hsl
          rw [h1] at d1
          have t1 : ((k : Int) == (k : Int)) = true := by simp
          by_cases h2 : ln = 0
          · rw [if_pos (hiff.2 h2)] at hse
            have t2 : ((ln : Int) == 0) = true := by simp [h2]
            have HSE := hide hse
            have HSL := hide hsl
            clear hse hsl hiff h1 h2
            generalize emp q k = ek at *
            generalize lsC L k = lk at *
            go_wp2_with fail
            go_roundw
            case rel => exact ⟨k + 1, by go_num, by omega, (by rw [unhide HSE]; first | rfl | go_num | simp), (by rw [unhide HSL]; first | rfl | go_num | simp), (by first | rfl | trivial)⟩
            case measure => simp [intOf]; omega
          · rw [if_neg (fun e => h2 (hiff.1 e)), Nat.add_zero] at hse
            have t2 : ((ln : Int) == 0) = false := by rw [beq_eq_false_iff_ne]; omega
            have HSE := hide hse
            have HSL := hide hsl
            clear hse hsl hiff h1 h2
            generalize emp q k = ek at *
            generalize lsC L k = lk at *
            go_wp2_with fail
            go_roundw
            case rel => exact ⟨k + 1, by go_num, by omega, (by rw [unhide HSE]; first | rfl | go_num | simp), (by rw [unhide HSL]; first | rfl | go_num | simp), (by first | rfl | trivial)⟩
            case measure => simp [intOf]; omega
        · rw [if_neg h1, Nat.add_zero] at hsl
          obtain ⟨z, hz⟩ : ∃ z, L k = z := ⟨_, rfl⟩
          rw [hz] at d1 h1
          have t1 : (z == (k : Int)) = false := by rw [beq_eq_false_iff_ne]; exact h1
          by_cases h2 : ln = 0
          · rw [if_pos (hiff.2 h2)] at hse
            have t2 : ((ln : Int) == 0) = true := by simp [h2]
            have HSE := hide hse
            have HSL := hide hsl
            clear hse hsl hiff h1 h2 hz
            generalize emp q k = ek at *
            generalize lsC L k = lk at *
            go_wp2_with fail
            go_roundw
            case rel => exact ⟨k + 1, by go_num, by omega, (by rw [unhide HSE]; first | rfl | go_num | simp), (by rw [unhide HSL]; first | rfl | go_num | simp), (by first | rfl | trivial)⟩
            case measure => simp [intOf]; omega
          · rw [if_neg (fun e => h2 (hiff.1 e)), Nat.add_zero] at hse
            have t2 : ((ln : Int) == 0) = false := by rw [beq_eq_false_iff_ne]; omega
            have HSE := hide hse
            have HSL := hide hsl
            clear hse hsl hiff h1 h2 hz
            generalize emp q k = ek at *
            generalize lsC L k = lk at *
            go_wp2_with fail
            go_roundw
            case rel => exact ⟨k + 1, by go_num, by omega, (by rw [unhide HSE]; first | rfl | go_num | simp), (by rw [unhide HSL]; first | rfl | go_num | simp), (by first | rfl | trivial)⟩
            case measure => simp [intOf]; omega
      · obtain rfl : k = m := by omega
        have hgg := unhide HGG
        generalize emp q k = ek at *
        generalize lsC L k = c at *
        have hw1 : IntKind.i64.wrap (2 * (c : Int)) = 2 * (c : Int) := by rw [IntKind.wrap_i64]; omega
        have hw2 : IntKind.i64.wrap (2 * (c : Int) - (k : Int)) = 2 * (c : Int) - (k : Int) := by rw [IntKind.wrap_i64]; omega
        have hw3 : IntKind.i64.wrap (2 * (c : Int) - (k : Int) + (n : Int)) = 2 * (c : Int) - (k : Int) + (n : Int) := by rw [IntKind.wrap_i64]; omega
        have hw4 : IntKind.i64.wrap (2 * (c : Int) - (k : Int) + (n : Int) - ((F : Int) + (ek : Int))) = 2 * (g : Int) := by rw [IntKind.wrap_i64]; omega
        have hq : (2 * (g : Int)).tdiv 2 = (g : Int) := by rw [Int.mul_tdiv_cancel_left _ (by decide)]
        have hw5 : IntKind.i64.wrap (g : Int) = (g : Int) := by rw [IntKind.wrap_i64]; omega
        go_wp2_with fail
        go_ret
        exact ⟨by first | rfl | simp, (unhide HB3).bel⟩
end Go.Proofs.YtefagplbpbkpgaaDoor
/-
  The contract of the document's SameInts, where both are one. Conditions: what it is asked of lies in memory as told.
-/
namespace Go.Proofs.YtefagplbpbkpgaaDoor
open Go.RowKit
set_option linter.unusedVariables false
set_option maxRecDepth 20000

set_option maxHeartbeats 1000000 in
theorem same_yes (w : World) (a1 a2 : Option Addr) (n c1 c2 : Nat) (xs : List Int) (h1 : Ns w a1 n xs) (h2 : Ns w a2 n xs) :
    Calls Tryd.prog 20 #[.slice a1 n c1, .slice a2 n c2] w fun e w' => e = .returned (.bool true) ∧ ∃ m, w' = w.drewN m := by
  obtain ⟨hl, hn, hc1⟩ := h1
  obtain ⟨_, _, hc2⟩ := h2
  have HC1 := hide hc1
  have HC2 := hide hc2
  have HL := hide hl
  clear hc1 hc2 hl
  go_enter Tryd.func20, Tryd.ntmps20
  go_wp2
  go_loopw [5] (fun i wr => ∃ k m : Nat, i = .int .i64 k ∧ k ≤ n ∧ wr = w.drewN m) (fun i wr => n - (intOf i).toNat)
  case atStart => exact ⟨0, 0, rfl, by omega, rfl⟩
  case round =>
    obtain ⟨k, m, rfl, hk, rfl⟩ := hrel
    by_cases hlt : k < n
    · obtain ⟨g, off, ha, hg, d0⟩ := unhide HC1 k hlt
      obtain ⟨g2, off2, ha2, hg2, d2⟩ := unhide HC2 k hlt
      subst ha
      subst ha2
      generalize xs.getD k 0 = x at *
      have hlt2 : (k : Int) < (n : Int) := by omega
      go_wp2
      go_quiet (fail)
      go_wp2
      go_roundw
      case rel => exact ⟨k + 1, _, by go_num, by omega, rfl⟩
      case measure => simp [intOf]; omega
    · go_wp2
      go_ret
      exact ⟨rfl, _, rfl⟩

end Go.Proofs.YtefagplbpbkpgaaDoor

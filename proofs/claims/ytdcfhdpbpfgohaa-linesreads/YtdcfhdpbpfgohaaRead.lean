/-
  The contract of lines.Read. Conditions: the bytes that are handed in lie in memory as told.
-/
import Derived.Test.YtdcfhdpbpfgohaaGraph
import Derived.Laws.BytesArg
import Derived.Laws.IdiomStrings
namespace Go.Proofs.Ytdcfhdpbpfgohaa
open Go.RowKit
set_option linter.unusedVariables false

/-- a slice of bytes: its address, its length, its bytes -/
def Bs (w : World) (a : Option Addr) (n : Nat) (l : List UInt8) : Prop :=
  l.length = n ∧ ∀ k, k < n → ∃ g off, a = some ⟨g, off, none⟩ ∧ g < w.heap.size ∧ w.cell? ⟨g, off + k, none⟩ = some (.int .u8 (l.getD k 0).toNat)

theorem Bs.below {w w' : World} {a : Option Addr} {n : Nat} {l : List UInt8} (h : Bs w a n l) (hb : Below w.heap.size w w') : Bs w' a n l := by
  obtain ⟨h1, h3⟩ := h
  refine ⟨h1, fun k hk => ?_⟩
  obtain ⟨g, off, ha, hg, c0⟩ := h3 k hk
  exact ⟨g, off, ha, Nat.lt_of_lt_of_le hg hb.size, by rw [hb.cell (p := ⟨g, off + k, none⟩) hg]; exact c0⟩

theorem run_conv {w : World} {a : Option Addr} {n : Nat} {l : List UInt8} (h : Bs w a n l) (cap : Nat) :
    (convert 22 9 (.slice a n cap)).run Try.prog w = .ok (.string ⟨l.toArray⟩) w := by
  obtain ⟨h1, h2⟩ := h
  cases a with
  | none =>
    have hn : n = 0 := by
      cases n with
      | zero => rfl
      | succ n => obtain ⟨g, off, ha, _⟩ := h2 0 (by omega); cases ha
    subst hn
    obtain rfl : l = [] := List.eq_nil_of_length_eq_zero h1
    exact run_convert_bytes_nil w 22 5 Try.underlying22 Try.underlying5 0 cap 9 Try.underlying9
  | some x =>
    subst h1
    refine run_convert_bytes_back w 22 9 5 x cap l Try.underlying22 Try.underlying5 Try.underlying9 ?_
    intro j hj
    obtain ⟨g, off, ha, hg, hc⟩ := h2 j hj
    cases ha
    rw [Addr.add_lit, hc]
    simp [hj]

/-- the two result variables, still as they were laid; nothing older has turned -/
structure RF (w wk : World) : Prop where
  bel : Below w.heap.size w wk
  sz : w.heap.size + 2 ≤ wk.heap.size
  r : wk.heap[w.heap.size]? = some (.cells #[.int .i64 0, .slice none 0 0] 26)
  f : wk.heap[w.heap.size + 1]? = some (.cells #[.int .i64 0, .int .i64 0, .slice none 0 0] 30)
theorem RF.start (w : World) : RF w ((w.alloc (.cells #[.int .i64 0, .slice none 0 0] 26)).alloc (.cells #[.int .i64 0, .int .i64 0, .slice none 0 0] 30)) := by
  refine ⟨((Below.refl _ _).alloc (Nat.le_refl _) _).alloc (by simp) _, by simp, ?_, ?_⟩
  · rw [Below.heap_alloc _ _ _ (by simp)]
    exact (MapKept.heap_alloc w _).1
  · have := (MapKept.heap_alloc (w.alloc (.cells #[.int .i64 0, .slice none 0 0] 26)) (.cells #[.int .i64 0, .int .i64 0, .slice none 0 0] 30)).1
    rw [World.size_alloc] at this
    exact this
theorem RF.below {w wk w' : World} {B : Nat} (h : RF w wk) (hb : Below B wk w') (hB : w.heap.size + 2 ≤ B) : RF w w' :=
  ⟨h.bel.trans (hb.mono (by omega)), Nat.le_trans h.sz hb.size, by rw [hb.block _ (by omega)]; exact h.r, by rw [hb.block _ (by omega)]; exact h.f⟩
theorem RF.alloc {w wk : World} (h : RF w wk) (o : Obj) : RF w (wk.alloc o) := h.below ((Below.refl wk.heap.size wk).alloc (Nat.le_refl _) o) h.sz
theorem RF.nb {w wk w' : World} {b B : Nat} (h : RF w wk) (hb : Nb b B wk w') (hB : w.heap.size + 2 ≤ B) (hbb : w.heap.size + 2 ≤ b) : RF w w' :=
  h.below (hb.below hB hbb) (Nat.le_refl _)
theorem RF.cells {w wk : World} (h : RF w wk) :
    wk.cell? ⟨w.heap.size, 0, none⟩ = some (.int .i64 0) ∧ wk.cell? ⟨w.heap.size, 1, none⟩ = some (.slice none 0 0) ∧
    wk.cell? ⟨w.heap.size + 1, 0, none⟩ = some (.int .i64 0) ∧ wk.cell? ⟨w.heap.size + 1, 1, none⟩ = some (.int .i64 0) ∧ wk.cell? ⟨w.heap.size + 1, 2, none⟩ = some (.slice none 0 0) := by
  have h1 := h.r
  have h2 := h.f
  simp [World.cell?, h1, h2]
theorem RF.fz {w wk : World} (h : RF w wk) :
    wk.frozen? ⟨w.heap.size, 0, none⟩ = false ∧ wk.frozen? ⟨w.heap.size, 1, none⟩ = false ∧
    wk.frozen? ⟨w.heap.size + 1, 0, none⟩ = false ∧ wk.frozen? ⟨w.heap.size + 1, 1, none⟩ = false ∧ wk.frozen? ⟨w.heap.size + 1, 2, none⟩ = false := by
  have h1 := h.r
  have h2 := h.f
  simp [World.frozen?, h1, h2]
theorem RF.done {w wk : World} (h : RF w wk) (a b c d e : Value) :
    Below w.heap.size w (((((wk.setCell ⟨w.heap.size, 0, none⟩ a).setCell ⟨w.heap.size, 1, none⟩ b).setCell ⟨w.heap.size + 1, 0, none⟩ c).setCell ⟨w.heap.size + 1, 1, none⟩ d).setCell ⟨w.heap.size + 1, 2, none⟩ e) :=
  ((((h.bel.setCell (p := ⟨w.heap.size, 0, none⟩) (Nat.le_refl _) _).setCell (p := ⟨w.heap.size, 1, none⟩) (Nat.le_refl _) _).setCell (p := ⟨w.heap.size + 1, 0, none⟩) (Nat.le_succ _) _).setCell (p := ⟨w.heap.size + 1, 1, none⟩) (Nat.le_succ _) _).setCell (p := ⟨w.heap.size + 1, 2, none⟩) (Nat.le_succ _) _

theorem rd_new (w : World) (o1 o2 : Obj) (s : ByteArray) : Rd (((w.alloc o1).alloc o2).alloc (.cells #[.string s, .int .i64 0] 47)) (w.heap.size + 1 + 1) s 0 := by
  have := (MapKept.heap_alloc ((w.alloc o1).alloc o2) (.cells #[.string s, .int .i64 0] 47)).1
  simp only [World.size_alloc] at this
  exact this
theorem rd_lt {w : World} {b : Nat} {s : ByteArray} {i : Nat} (h : Rd w b s i) : b < w.heap.size := (Array.getElem?_eq_some_iff.1 h).1

set_option maxHeartbeats 1000000 in
theorem read_large (w : World) (a : Option Addr) (n cap : Nat) (hn : 4096 < n) :
    Calls Try.prog 7 #[.slice a n cap] w fun e w' => e = .returned (.tuple #[.agg #[.int .i64 0, .slice none 0 0], .agg #[.int .i64 10, .int .i64 4096, .slice none 0 0]]) ∧ Below w.heap.size w w' := by
  have h0 := RF.start w
  have H0 := hide h0
  clear h0
  go_enter Try.func7, Try.ntmps7
  go_wp2_with fail
  refine (refuse_any _ 10 4096).mono ?_
  rintro e w1 ⟨rfl, hb1⟩
  have R1 := (unhide H0).below hb1 (by simp)
  obtain ⟨c0, c1, c2, c3, c4⟩ := R1.cells
  obtain ⟨f0, f1, f2, f3, f4⟩ := R1.fz
  have HR := hide R1
  clear R1 hb1
  go_wp2_with fail
  refine bodyPost_ret (v := .tuple #[.agg #[.int .i64 0, .slice none 0 0], .agg #[.int .i64 10, .int .i64 4096, .slice none 0 0]]) (by simp [results, Try.results7, go_sem, c0, c1, c2, c3, c4]) rfl ⟨rfl, ?_⟩
  exact (unhide HR).done _ _ _ _ _

set_option maxHeartbeats 1000000 in
theorem read_wrong (w : World) (a : Option Addr) (n cap : Nat) (l : List UInt8) (hl : Bs w a n l) (hn : n ≤ 4096) (c : Nat) (hg : Pl.graph l = (c, none)) :
    Calls Try.prog 7 #[.slice a n cap] w fun e w' => e = .returned (.tuple #[.agg #[.int .i64 0, .slice none 0 0], .agg #[.int .i64 11, .int .i64 c, .slice none 0 0]]) ∧ Below w.heap.size w w' := by
  have h0 := RF.start w
  have kc : (convert 22 9 (.slice a n cap)).run Try.prog ((w.alloc (.cells #[.int .i64 0, .slice none 0 0] 26)).alloc (.cells #[.int .i64 0, .int .i64 0, .slice none 0 0] 30)) = .ok (.string ⟨l.toArray⟩) _ := run_conv (hl.below h0.bel) cap
  have hll := hl.1
  have HG := hide hg
  have H0 := hide h0
  have hsz : (ByteArray.mk l.toArray).size ≤ maxLen := by
    show l.toArray.size ≤ _
    simp [maxLen]
    omega
  have HN := hide hsz
  clear h0 hl hg hll hsz
  go_enter Try.func7, Try.ntmps7
  go_wp2_with fail
  refine (graph_any _ (w.heap.size + 1 + 1) ⟨l.toArray⟩ (rd_new _ _ _ _) (by simp) (unhide HN) c none (by simpa using unhide HG)).mono ?_
  rintro e w4 ⟨q, ae, ne, ce, rfl, hes, hr, hnb⟩
  have R4 := ((unhide H0).alloc (.cells #[.string ⟨l.toArray⟩, .int .i64 0] 47)).nb hnb (by simp) (by omega)
  have hz4 := R4.sz
  have d1 := hr.c1
  have hbk : w.heap.size + 1 + 1 < w4.heap.size := rd_lt hr
  have H4 := hide R4
  clear R4 hr hes hnb kc
  go_wp2_with fail
  refine (refuse_any _ 11 c).mono ?_
  rintro e w5 ⟨rfl, hb5⟩
  have R5 := ((unhide H4).alloc _).below hb5 (by simp; omega)
  obtain ⟨c0, c1, c2, c3, c4⟩ := R5.cells
  obtain ⟨f0, f1, f2, f3, f4⟩ := R5.fz
  have HR := hide R5
  clear R5 hb5
  go_wp2_with fail
  refine bodyPost_ret (v := .tuple #[.agg #[.int .i64 0, .slice none 0 0], .agg #[.int .i64 11, .int .i64 c, .slice none 0 0]]) (by simp [results, Try.results7, go_sem, c0, c1, c2, c3, c4]) rfl ⟨rfl, ?_⟩
  exact (unhide HR).done _ _ _ _ _

set_option maxHeartbeats 1000000 in
theorem read_limits (w : World) (a : Option Addr) (n cap : Nat) (l : List UInt8) (hl : Bs w a n l) (hn : n ≤ 4096) (c V : Nat) (es : List (Nat × Nat)) (hg : Pl.graph l = (c, some (V, es))) (hf : fitsB V es.length = false) :
    Calls Try.prog 7 #[.slice a n cap] w fun e w' => e = .returned (.tuple #[.agg #[.int .i64 0, .slice none 0 0], .agg #[.int .i64 10, .int .i64 0, .slice none 0 0]]) ∧ Below w.heap.size w w' := by
  have HF := hide hf
  clear hf
  have h0 := RF.start w
  have kc : (convert 22 9 (.slice a n cap)).run Try.prog ((w.alloc (.cells #[.int .i64 0, .slice none 0 0] 26)).alloc (.cells #[.int .i64 0, .int .i64 0, .slice none 0 0] 30)) = .ok (.string ⟨l.toArray⟩) _ := run_conv (hl.below h0.bel) cap
  have hll := hl.1
  have HG := hide hg
  have H0 := hide h0
  have hsz : (ByteArray.mk l.toArray).size ≤ maxLen := by
    show l.toArray.size ≤ _
    simp [maxLen]
    omega
  have HN := hide hsz
  clear h0 hl hg hll hsz
  go_enter Try.func7, Try.ntmps7
  go_wp2_with fail
  refine (graph_any _ (w.heap.size + 1 + 1) ⟨l.toArray⟩ (rd_new _ _ _ _) (by simp) (unhide HN) c (some (V, es)) (by simpa using unhide HG)).mono ?_
  rintro e w4 ⟨q, ae, ne, ce, rfl, hes, hr, hnb⟩
  have R4 := ((unhide H0).alloc (.cells #[.string ⟨l.toArray⟩, .int .i64 0] 47)).nb hnb (by simp) (by omega)
  have hz4 := R4.sz
  obtain ⟨rfl, rfl, hE⟩ := hes V es rfl
  simp only [World.size_alloc] at hE
  have H4 := hide R4
  clear R4 hr hnb kc hE
  go_wp2_with fail
  refine (fits_any _ V ae es.length ce false (unhide HF)).mono ?_
  rintro e w5 ⟨rfl, hb5⟩
  have R5 := ((unhide H4).alloc _).below hb5 (by simp; omega)
  have H5 := hide R5
  have hz5 := R5.sz
  clear R5 hb5
  go_wp2_with fail
  refine (refuse_any _ 10 0).mono ?_
  rintro e w6 ⟨rfl, hb6⟩
  have R6 := (unhide H5).below hb6 (by omega)
  obtain ⟨c0, c1, c2, c3, c4⟩ := R6.cells
  obtain ⟨f0, f1, f2, f3, f4⟩ := R6.fz
  have HR := hide R6
  clear R6 hb6
  go_wp2_with fail
  refine bodyPost_ret (v := .tuple #[.agg #[.int .i64 0, .slice none 0 0], .agg #[.int .i64 10, .int .i64 0, .slice none 0 0]]) (by simp [results, Try.results7, go_sem, c0, c1, c2, c3, c4]) rfl ⟨rfl, ?_⟩
  exact (unhide HR).done _ _ _ _ _

set_option maxHeartbeats 1000000 in
theorem read_vertex (w : World) (a : Option Addr) (n cap : Nat) (l : List UInt8) (hl : Bs w a n l) (hn : n ≤ 4096) (c V : Nat) (es : List (Nat × Nat)) (hg : Pl.graph l = (c, some (V, es))) (hf : fitsB V es.length = true)
    (m : Nat) (hm : m < es.length) (hb : ∀ k, k < m → badB V ((toI es).getD k (0, 0)) = false) (hbm : badB V ((toI es).getD m (0, 0)) = true) :
    Calls Try.prog 7 #[.slice a n cap] w fun e w' => e = .returned (.tuple #[.agg #[.int .i64 0, .slice none 0 0], .agg #[.int .i64 12, .int .i64 m, .slice none 0 0]]) ∧ Below w.heap.size w w' := by
  have HF := hide hf
  have HB := hide hb
  have HBM := hide hbm
  clear hf hb hbm
  have h0 := RF.start w
  have kc : (convert 22 9 (.slice a n cap)).run Try.prog ((w.alloc (.cells #[.int .i64 0, .slice none 0 0] 26)).alloc (.cells #[.int .i64 0, .int .i64 0, .slice none 0 0] 30)) = .ok (.string ⟨l.toArray⟩) _ := run_conv (hl.below h0.bel) cap
  have hll := hl.1
  have HG := hide hg
  have H0 := hide h0
  have hsz : (ByteArray.mk l.toArray).size ≤ maxLen := by
    show l.toArray.size ≤ _
    simp [maxLen]
    omega
  have HN := hide hsz
  clear h0 hl hg hll hsz
  go_enter Try.func7, Try.ntmps7
  go_wp2_with fail
  refine (graph_any _ (w.heap.size + 1 + 1) ⟨l.toArray⟩ (rd_new _ _ _ _) (by simp) (unhide HN) c (some (V, es)) (by simpa using unhide HG)).mono ?_
  rintro e w4 ⟨q, ae, ne, ce, rfl, hes, hr, hnb⟩
  have R4 := ((unhide H0).alloc (.cells #[.string ⟨l.toArray⟩, .int .i64 0] 47)).nb hnb (by simp) (by omega)
  have hz4 := R4.sz
  obtain ⟨rfl, rfl, hE⟩ := hes V es rfl
  simp only [World.size_alloc] at hE
  have H4 := hide R4
  have HE := hide hE
  clear R4 hr hnb kc hE
  go_wp2_with fail
  refine (fits_any _ V ae es.length ce true (unhide HF)).mono ?_
  rintro e w5 ⟨rfl, hb5⟩
  have R5 := ((unhide H4).alloc _).below hb5 (by simp; omega)
  have hE5 := ((unhide HE).below ((Below.refl _ w4).alloc (Nat.le_refl _) _)).below hb5
  have gb5 : w5.heap[w4.heap.size]? = some (.cells #[.int .i64 V, .slice ae es.length ce] 26) := by
    rw [hb5.block _ (by simp)]
    exact (MapKept.heap_alloc w4 _).1
  have g0 : w5.cell? ⟨w4.heap.size, 0, none⟩ = some (.int .i64 V) := by simp [World.cell?, gb5]
  have g1 : w5.cell? ⟨w4.heap.size, 1, none⟩ = some (.slice ae es.length ce) := by simp [World.cell?, gb5]
  have hz45 : w4.heap.size < w5.heap.size := by have := hb5.size; simp at this; omega
  have H5 := hide R5
  have HE5 := hide hE5
  have HG5 := hide gb5
  have hz5 := R5.sz
  clear R5 hb5 hE5 gb5
  go_wp2_with fail
  refine (stray_yes _ V ae es.length ce (toI es) (unhide HE5) m hm (unhide HB) (unhide HBM)).mono ?_
  rintro e w6 ⟨rfl, hb6⟩
  have R6 := (unhide H5).below hb6 (by omega)
  have H6 := hide R6
  have hz6 := R6.sz
  clear R6 hb6
  go_wp2_with fail
  refine (refuse_any _ 12 m).mono ?_
  rintro e w7 ⟨rfl, hb7⟩
  have R7 := (unhide H6).below hb7 (by omega)
  obtain ⟨c0, c1, c2, c3, c4⟩ := R7.cells
  obtain ⟨f0, f1, f2, f3, f4⟩ := R7.fz
  have HR := hide R7
  clear R7 hb7
  go_wp2_with fail
  refine bodyPost_ret (v := .tuple #[.agg #[.int .i64 0, .slice none 0 0], .agg #[.int .i64 12, .int .i64 m, .slice none 0 0]]) (by simp [results, Try.results7, go_sem, c0, c1, c2, c3, c4]) rfl ⟨rfl, ?_⟩
  exact (unhide HR).done _ _ _ _ _

set_option maxHeartbeats 1000000 in
theorem read_ok (w : World) (a : Option Addr) (n cap : Nat) (l : List UInt8) (hl : Bs w a n l) (hn : n ≤ 4096) (c V : Nat) (es : List (Nat × Nat)) (hg : Pl.graph l = (c, some (V, es))) (hf : fitsB V es.length = true)
    (hb : ∀ k, k < es.length → badB V ((toI es).getD k (0, 0)) = false) :
    Calls Try.prog 7 #[.slice a n cap] w fun e w' => ∃ ae ce, e = .returned (.tuple #[.agg #[.int .i64 V, .slice ae es.length ce], .agg #[.int .i64 0, .int .i64 0, .slice none 0 0]]) ∧ Es (w.heap.size + 2) w' ae es.length (toI es) ∧ Below w.heap.size w w' := by
  have HF := hide hf
  have HB := hide hb
  clear hf hb
  have h0 := RF.start w
  have kc : (convert 22 9 (.slice a n cap)).run Try.prog ((w.alloc (.cells #[.int .i64 0, .slice none 0 0] 26)).alloc (.cells #[.int .i64 0, .int .i64 0, .slice none 0 0] 30)) = .ok (.string ⟨l.toArray⟩) _ := run_conv (hl.below h0.bel) cap
  have hll := hl.1
  have HG := hide hg
  have H0 := hide h0
  have hsz : (ByteArray.mk l.toArray).size ≤ maxLen := by
    show l.toArray.size ≤ _
    simp [maxLen]
    omega
  have HN := hide hsz
  clear h0 hl hg hll hsz
  go_enter Try.func7, Try.ntmps7
  go_wp2_with fail
  refine (graph_any _ (w.heap.size + 1 + 1) ⟨l.toArray⟩ (rd_new _ _ _ _) (by simp) (unhide HN) c (some (V, es)) (by simpa using unhide HG)).mono ?_
  rintro e w4 ⟨q, ae, ne, ce, rfl, hes, hr, hnb⟩
  have R4 := ((unhide H0).alloc (.cells #[.string ⟨l.toArray⟩, .int .i64 0] 47)).nb hnb (by simp) (by omega)
  have hz4 := R4.sz
  obtain ⟨rfl, rfl, hE⟩ := hes V es rfl
  simp only [World.size_alloc] at hE
  have H4 := hide R4
  have HE := hide hE
  clear R4 hr hnb kc hE
  go_wp2_with fail
  refine (fits_any _ V ae es.length ce true (unhide HF)).mono ?_
  rintro e w5 ⟨rfl, hb5⟩
  have R5 := ((unhide H4).alloc _).below hb5 (by simp; omega)
  have hE5 := ((unhide HE).below ((Below.refl _ w4).alloc (Nat.le_refl _) _)).below hb5
  have gb5 : w5.heap[w4.heap.size]? = some (.cells #[.int .i64 V, .slice ae es.length ce] 26) := by
    rw [hb5.block _ (by simp)]
    exact (MapKept.heap_alloc w4 _).1
  have g0 : w5.cell? ⟨w4.heap.size, 0, none⟩ = some (.int .i64 V) := by simp [World.cell?, gb5]
  have g1 : w5.cell? ⟨w4.heap.size, 1, none⟩ = some (.slice ae es.length ce) := by simp [World.cell?, gb5]
  have hz45 : w4.heap.size < w5.heap.size := by have := hb5.size; simp at this; omega
  have H5 := hide R5
  have HE5 := hide hE5
  have HG5 := hide gb5
  have hz5 := R5.sz
  clear R5 hb5 hE5 gb5
  go_wp2_with fail
  refine (stray_no _ V ae es.length ce (toI es) (unhide HE5) (unhide HB)).mono ?_
  rintro e w6 ⟨rfl, hb6⟩
  have R6 := (unhide H5).below hb6 (by omega)
  have g06 : w6.cell? ⟨w4.heap.size, 0, none⟩ = some (.int .i64 V) := by rw [hb6.cell (p := ⟨w4.heap.size, 0, none⟩) hz45]; exact g0
  have g16 : w6.cell? ⟨w4.heap.size, 1, none⟩ = some (.slice ae es.length ce) := by rw [hb6.cell (p := ⟨w4.heap.size, 1, none⟩) hz45]; exact g1
  obtain ⟨c0, c1, c2, c3, c4⟩ := R6.cells
  obtain ⟨f0, f1, f2, f3, f4⟩ := R6.fz
  have HR := hide R6
  have HE6 := hide ((unhide HE5).below hb6)
  clear R6 hb6 g0 g1
  go_wp2_with fail
  refine bodyPost_ret (v := .tuple #[.agg #[.int .i64 V, .slice ae es.length ce], .agg #[.int .i64 0, .int .i64 0, .slice none 0 0]]) (by simp [results, Try.results7, go_sem, c0, c1, c2, c3, c4]) rfl ⟨ae, ce, rfl, ?_, ?_⟩
  · exact (((((unhide HE6).mono (B' := w.heap.size + 2) (by omega)).setCell (p := ⟨w.heap.size, 0, none⟩) (by simp) _).setCell (p := ⟨w.heap.size, 1, none⟩) (by simp) _).setCell (p := ⟨w.heap.size + 1, 0, none⟩) (by simp) _).setCell (p := ⟨w.heap.size + 1, 1, none⟩) (by simp) _ |>.setCell (p := ⟨w.heap.size + 1, 2, none⟩) (by simp) _
  · exact (unhide HR).done _ _ _ _ _
end Go.Proofs.Ytdcfhdpbpfgohaa

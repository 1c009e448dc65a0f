/-
  A walk in memory: its box, when each vertex was come to, the open edges, the blocks, each row in a block of its own; what steps leave of it. No conditions beyond each theorem's own.
-/
import Derived.Test.YtbecmaandhadhaaDm
import Derived.Test.YtbecmaandhadhaaDz
import Derived.Test.YtbecmaandhadhaaWo
import Derived.Test.YtbecmaandhadhaaCa
namespace Go.Proofs.Ytbecmaandhadhaa
open Go.RowKit
set_option linter.unusedVariables false
set_option maxRecDepth 20000

def rowsOf (S : Df.St) : Nat → List Nat
  | 0 => S.opn
  | j + 1 => S.bks.getD j []
theorem rowsOf_zero (S : Df.St) : rowsOf S 0 = S.opn := rfl
theorem rowsOf_succ (S : Df.St) (j : Nat) : rowsOf S (j + 1) = S.bks.getD j [] := rfl

structure Wk (A B : Nat) (w : World) (q gc vb V : Nat) (S : Df.St) (R : Nat → Value) (bv : Value) : Prop where
  box : w.heap[q]? = some (.cells #[.pointer (some ⟨vb, 0, none⟩), .int .i64 S.time, .slice (some ⟨gc, 0, none⟩) V V, R 0, bv] 48 (0, 0))
  qB : q < A ∨ B ≤ q
  cB : gc < A ∨ B ≤ gc
  sz : B ≤ w.heap.size
  come : RowAt w gc 0 V (fun v => (S.come v : Int))
  bks : w.ownsRow B 29 1 bv S.bks.length ((List.range S.bks.length).map fun j => R (j + 1))
  rows : Rows w B (S.bks.length + 1) R (rowsOf S)
  cne : ∀ j, j < S.bks.length + 1 → (R j).ownBlock ≠ some gc

theorem heap_lt {w : World} {i : Nat} {o : Obj} (h : w.heap[i]? = some o) : i < w.heap.size := (Array.getElem?_eq_some_iff.1 h).1

section
variable {A B : Nat} {w : World} {q gc vb V : Nat} {S : Df.St} {R : Nat → Value} {bv : Value}
theorem Wk.q_lt (h : Wk A B w q gc vb V S R bv) : q < w.heap.size := heap_lt h.box
theorem Wk.c_lt (h : Wk A B w q gc vb V S R bv) : gc < w.heap.size := h.come.lt
theorem Wk.qc (h : Wk A B w q gc vb V S R bv) : q ≠ gc := by
  intro e
  obtain ⟨cur, h1, _⟩ := h.come
  have h2 := h.box
  rw [e, h1] at h2
  simp at h2
theorem Wk.row_lt (h : Wk A B w q gc vb V S R bv) {j g : Nat} (hj : j < S.bks.length + 1) (hg : (R j).ownBlock = some g) : B ≤ g ∧ g < w.heap.size := (h.rows.own j hj).lt g hg
theorem Wk.bv_lt (h : Wk A B w q gc vb V S R bv) {g : Nat} (hg : bv.ownBlock = some g) : B ≤ g ∧ g < w.heap.size := h.bks.lt g hg
theorem Wk.row_q (h : Wk A B w q gc vb V S R bv) {j : Nat} (hj : j < S.bks.length + 1) : (R j).ownBlock ≠ some q := owns_ne (h.rows.own j hj) h.box (by decide)
theorem Wk.bv_q (h : Wk A B w q gc vb V S R bv) : bv.ownBlock ≠ some q := owns_ne h.bks h.box (by decide)
theorem Wk.bv_c (h : Wk A B w q gc vb V S R bv) : bv.ownBlock ≠ some gc := by
  obtain ⟨cur, h1, _⟩ := h.come
  exact owns_ne h.bks h1 (by decide)
theorem Wk.row_bv (h : Wk A B w q gc vb V S R bv) {j g : Nat} (hj : j < S.bks.length + 1) (hg : (R j).ownBlock = some g) : bv.ownBlock ≠ some g := by
  obtain ⟨cur, h1⟩ := owns_block (h.rows.own j hj) hg
  exact owns_ne h.bks h1 (by decide)
theorem Wk.B_le (h : Wk A B w q gc vb V S R bv) : B ≤ w.heap.size := h.sz
theorem Wk.keep {w' : World} (h : Wk A B w q gc vb V S R bv) (hsz : w.heap.size ≤ w'.heap.size) (hq : w'.heap[q]? = w.heap[q]?) (hc : w'.heap[gc]? = w.heap[gc]?) (hb : ∀ g, bv.ownBlock = some g → w'.heap[g]? = w.heap[g]?)
    (hr : ∀ j g, j < S.bks.length + 1 → (R j).ownBlock = some g → w'.heap[g]? = w.heap[g]?) : Wk A B w' q gc vb V S R bv :=
  ⟨by rw [hq]; exact h.box, h.qB, h.cB, Nat.le_trans h.sz hsz, h.come.keep hc, owns_keep h.bks hb, h.rows.keep hr, h.cne⟩
theorem Wk.more {w' : World} (h : Wk A B w q gc vb V S R bv) (hb : Below w.heap.size w w') : Wk A B w' q gc vb V S R bv :=
  h.keep hb.size (hb.block q h.q_lt) (hb.block gc h.c_lt) (fun g hg => hb.block g (h.bv_lt hg).2) fun j g hj hg => hb.block g (h.row_lt hj hg).2
theorem Wk.ghost {S' : Df.St} (h : Wk A B w q gc vb V S R bv) (ht : S'.time = S.time) (hc : S'.come = S.come) (ho : S'.opn = S.opn) (hb : S'.bks = S.bks) : Wk A B w q gc vb V S' R bv := by
  have hr : rowsOf S' = rowsOf S := by
    funext j
    cases j with
    | zero => exact ho
    | succ j => simp [rowsOf, hb]
  exact ⟨by rw [ht]; exact h.box, h.qB, h.cB, h.sz, by rw [hc]; exact h.come, by rw [hb]; exact h.bks, by rw [hb, hr]; exact h.rows, by rw [hb]; exact h.cne⟩
theorem Wk.cells (h : Wk A B w q gc vb V S R bv) :
    w.cell? ⟨q, 0, none⟩ = some (.pointer (some ⟨vb, 0, none⟩)) ∧ w.cell? ⟨q, 1, none⟩ = some (.int .i64 S.time) ∧ w.cell? ⟨q, 2, none⟩ = some (.slice (some ⟨gc, 0, none⟩) V V) ∧ w.cell? ⟨q, 3, none⟩ = some (R 0) ∧ w.cell? ⟨q, 4, none⟩ = some bv := by
  have h1 := h.box
  simp [World.cell?, h1]
theorem Wk.fz (h : Wk A B w q gc vb V S R bv) (o : Nat) : w.frozen? ⟨q, o, none⟩ = false := by
  have h1 := h.box
  simp [World.frozen?, h1]
theorem Wk.ct (h : Wk A B w q gc vb V S R bv) {v : Nat} (hv : v < V) : w.cell? ⟨gc, v, none⟩ = some (.int .i64 (S.come v : Int)) := by
  have := h.come.cell hv
  simpa using this
theorem Wk.time (h : Wk A B w q gc vb V S R bv) (t : Nat) : Wk A B (w.setCell ⟨q, 1, none⟩ (.int .i64 t)) q gc vb V { S with time := t } R bv := by
  have hb := h.box
  refine ⟨by simp [World.setCell, Array.getElem?_modify, hb], h.qB, h.cB, by simpa [World.setCell] using h.sz, h.come.keep (heap_set_other _ _ _ (Ne.symm h.qc)), owns_keep h.bks fun g hg => heap_set_other _ _ _ fun e => h.bv_q (by rw [hg]; exact congrArg some e),
    h.rows.keep fun j g hj hg => heap_set_other _ _ _ fun e => h.row_q hj (by rw [hg]; exact congrArg some e), h.cne⟩
theorem Wk.come' (h : Wk A B w q gc vb V S R bv) (x t : Nat) : Wk A B (w.setCell ⟨gc, x, none⟩ (.int .i64 t)) q gc vb V { S with come := Df.upd S.come x t } R bv := by
  refine ⟨?_, h.qB, h.cB, by simpa [World.setCell] using h.sz, ?_, owns_keep h.bks fun g hg => heap_set_other _ _ _ fun e => h.bv_c (by rw [hg]; exact congrArg some e), h.rows.keep fun j g hj hg => heap_set_other _ _ _ fun e => h.cne j hj (by rw [hg]; exact congrArg some e), h.cne⟩
  · rw [heap_set_other _ _ _ h.qc]
    exact h.box
  · have := h.come.set x (t : Int)
    rw [Nat.zero_add] at this
    refine this.congr fun v hv => ?_
    show (if v = x then (t : Int) else (S.come v : Int)) = ((Df.upd S.come x t v : Nat) : Int)
    unfold Df.upd
    split <;> rfl
end

/-- what steps of a walk may turn: its box, its times, the rows of its open edges and of its blocks, and new memory -/
structure Fr (q gc : Nat) (ov bv : Value) (w : World) (ov' bv' : Value) (w' : World) : Prop where
  os : w'.os = w.os
  tape : w'.tape = w.tape
  output : w'.output = w.output
  size : w.heap.size ≤ w'.heap.size
  blk : ∀ i, i < w.heap.size → i ≠ q → i ≠ gc → ov.ownBlock ≠ some i → bv.ownBlock ≠ some i → w'.heap[i]? = w.heap[i]?
  on : ∀ g, ov'.ownBlock = some g → ov.ownBlock = some g ∨ w.heap.size ≤ g
  bn : ∀ g, bv'.ownBlock = some g → bv.ownBlock = some g ∨ w.heap.size ≤ g
theorem Fr.refl (q gc : Nat) (ov bv : Value) (w : World) : Fr q gc ov bv w ov bv w := ⟨rfl, rfl, rfl, Nat.le_refl _, fun _ _ _ _ _ _ => rfl, fun _ h => .inl h, fun _ h => .inl h⟩
theorem Fr.trans {q gc : Nat} {ov bv ov' bv' ov'' bv'' : Value} {w w' w'' : World} (h : Fr q gc ov bv w ov' bv' w') (k : Fr q gc ov' bv' w' ov'' bv'' w'') : Fr q gc ov bv w ov'' bv'' w'' := by
  refine ⟨k.os.trans h.os, k.tape.trans h.tape, k.output.trans h.output, Nat.le_trans h.size k.size, fun i hi h1 h2 h3 h4 => ?_, fun g hg => ?_, fun g hg => ?_⟩
  · rw [k.blk i (Nat.lt_of_lt_of_le hi h.size) h1 h2 (fun e => ?_) (fun e => ?_), h.blk i hi h1 h2 h3 h4]
    · rcases h.on i e with h5 | h5
      · exact h3 h5
      · omega
    · rcases h.bn i e with h5 | h5
      · exact h4 h5
      · omega
  · rcases k.on g hg with h5 | h5
    · exact h.on g h5
    · have := h.size; exact .inr (by omega)
  · rcases k.bn g hg with h5 | h5
    · exact h.bn g h5
    · have := h.size; exact .inr (by omega)
theorem Fr.of_below {q gc : Nat} {ov bv : Value} {w w' : World} (h : Below w.heap.size w w') : Fr q gc ov bv w ov bv w' := ⟨h.os, h.tape, h.output, h.size, fun i hi _ _ _ _ => h.block i hi, fun _ h => .inl h, fun _ h => .inl h⟩
theorem Fr.bel {A : Nat} {w w' wv : World} {q gc vb V : Nat} {S : Df.St} {R : Nat → Value} {bv ov' bv' : Value} (h : Fr q gc (R 0) bv w ov' bv' w') (hw : Wk A wv.heap.size w q gc vb V S R bv) (hb : Kp A wv w) : Kp A wv w' := by
  intro i hA hi
  have h1 := hw.qB
  have h2 := hw.cB
  have h3 := hw.sz
  rw [h.blk i (by omega) (by omega) (by omega) (fun e => ?_) (fun e => ?_)]
  · exact hb i hA hi
  · have := (hw.row_lt (j := 0) (by omega) e).1; omega
  · have := (hw.bv_lt e).1; omega
theorem Fr.low {B0 : Nat} {w w' wv : World} {A B q gc vb V : Nat} {S : Df.St} {R : Nat → Value} {bv ov' bv' : Value} (h : Fr q gc (R 0) bv w ov' bv' w') (hw : Wk A B w q gc vb V S R bv) (hq : B0 ≤ q) (hc : B0 ≤ gc) (hB : B0 ≤ B) (hb : Below B0 wv w) : Below B0 wv w' := by
  have h3 := hw.sz
  refine hb.trans ⟨h.os, h.tape, h.output, h.size, fun i hi => h.blk i (by omega) (by omega) (by omega) (fun e => ?_) (fun e => ?_)⟩
  · have := (hw.row_lt (j := 0) (by omega) e).1; omega
  · have := (hw.bv_lt e).1; omega
theorem Fr.setq {q gc : Nat} {ov bv ov' bv' : Value} {w : World} (o : Nat) (v : Value) (h1 : ∀ g, ov'.ownBlock = some g → ov.ownBlock = some g) (h2 : ∀ g, bv'.ownBlock = some g → bv.ownBlock = some g) : Fr q gc ov bv w ov' bv' (w.setCell ⟨q, o, none⟩ v) :=
  ⟨rfl, rfl, rfl, by simp [World.setCell], fun i _ hq _ _ _ => heap_set_other _ _ _ hq, fun g h => .inl (h1 g h), fun g h => .inl (h2 g h)⟩
theorem Fr.setc {q gc : Nat} {ov bv : Value} {w : World} (o : Nat) (v : Value) : Fr q gc ov bv w ov bv (w.setCell ⟨gc, o, none⟩ v) :=
  ⟨rfl, rfl, rfl, by simp [World.setCell], fun i _ _ hc _ _ => heap_set_other _ _ _ hc, fun g h => .inl h, fun g h => .inl h⟩

/-- a list in memory, apart from the walk -/
structure Ls (w : World) (q gc : Nat) (ov bv : Value) (a : Option Addr) (L : List Nat) : Prop where
  ns : Ns w a L.length (toIs L)
  far : ∀ p, a = some p → p.block ≠ q ∧ p.block ≠ gc ∧ ov.ownBlock ≠ some p.block ∧ bv.ownBlock ≠ some p.block ∧ p.block < w.heap.size
theorem Ls.step {w w' : World} {q gc : Nat} {ov bv ov' bv' : Value} {a : Option Addr} {L : List Nat} (h : Ls w q gc ov bv a L) (hf : Fr q gc ov bv w ov' bv' w') : Ls w' q gc ov' bv' a L := by
  refine ⟨⟨h.ns.1, h.ns.2.1, fun k hk => ?_⟩, fun p hp => ?_⟩
  · obtain ⟨g, off, ha, hg, c0⟩ := h.ns.2.2 k hk
    obtain ⟨f1, f2, f3, f4, f5⟩ := h.far _ ha
    refine ⟨g, off, ha, Nat.lt_of_lt_of_le hg hf.size, ?_⟩
    rw [World.cell?_of_block (w := w) (hf.blk g hg f1 f2 f3 f4)]
    exact c0
  · obtain ⟨f1, f2, f3, f4, f5⟩ := h.far _ hp
    refine ⟨f1, f2, fun e => ?_, fun e => ?_, Nat.lt_of_lt_of_le f5 hf.size⟩
    · rcases hf.on _ e with h5 | h5
      · exact f3 h5
      · omega
    · rcases hf.bn _ e with h5 | h5
      · exact f4 h5
      · omega

section
variable {A B : Nat} {w W w4 : World} {q gc vb V : Nat} {S : Df.St} {R : Nat → Value} {bv : Value}
/-- an edge more is open -/
theorem Wk.push {e m g2 cap2 : Nat} {cx : List Value} (h : Wk A B w q gc vb V S R bv) (hm : S.opn.length = m) (hcx : zcells (toIs S.opn) = cx) (hW : Below w.heap.size w W)
    (ho : w4.ownsRow B 3 1 (.slice (some ⟨g2, 0, none⟩) (m + 1) cap2) (m + 1) (cx ++ [.int .i64 e])) (hg : W.grownBy w4 (R 0).ownBlock) (hat : (R 0).ownBlock = some g2 ∨ g2 = W.heap.size) :
    w4.cell? ⟨q, 3, none⟩ = some (R 0) ∧ w4.frozen? ⟨q, 3, none⟩ = false ∧
      Wk A B (w4.setCell ⟨q, 3, none⟩ (.slice (some ⟨g2, 0, none⟩) (m + 1) cap2)) q gc vb V { S with opn := S.opn ++ [e] } (upd R 0 (.slice (some ⟨g2, 0, none⟩) (m + 1) cap2)) bv ∧
      Fr q gc (R 0) bv w (.slice (some ⟨g2, 0, none⟩) (m + 1) cap2) bv (w4.setCell ⟨q, 3, none⟩ (.slice (some ⟨g2, 0, none⟩) (m + 1) cap2)) := by
  subst hm
  subst hcx
  have ho' : w4.ownsRow B 3 1 (.slice (some ⟨g2, 0, none⟩) (S.opn.length + 1) cap2) (S.opn.length + 1) (zcells (toIs (S.opn ++ [e]))) := by
    rw [← toIs_snoc, ← zcells_snoc]
    exact ho
  have hat' : (Value.slice (some ⟨g2, 0, none⟩) (S.opn.length + 1) cap2).ownBlock = (R 0).ownBlock ∨ (Value.slice (some ⟨g2, 0, none⟩) (S.opn.length + 1) cap2).ownBlock = some W.heap.size := by
    rcases hat with h | h
    · exact .inl h.symm
    · exact .inr (by rw [h]; rfl)
  have hblk : ∀ i, i < w.heap.size → (R 0).ownBlock ≠ some i → w4.heap[i]? = w.heap[i]? := fun i hi hne => by
    rw [hg.block i (Nat.lt_of_lt_of_le hi hW.size) (fun he => hne he.symm), hW.block i hi]
  have hrows := h.rows.append (j := 0) (k := e) (by omega) (fun i hi => hW.block i hi) hW.size hg ho' hat'
  have hq4 : w4.heap[q]? = w.heap[q]? := hblk q h.q_lt (h.row_q (by omega))
  have hbox := h.box
  rw [← hq4] at hbox
  have hL : upd (rowsOf S) 0 (rowsOf S 0 ++ [e]) = rowsOf { S with opn := S.opn ++ [e] } := by
    funext j
    cases j with
    | zero => rfl
    | succ j => rfl
  rw [hL] at hrows
  have hgq : ∀ j g, j < S.bks.length + 1 → (upd R 0 (.slice (some ⟨g2, 0, none⟩) (S.opn.length + 1) cap2) j).ownBlock = some g → g ≠ q := by
    intro j g hj hgj e'
    subst e'
    exact owns_ne (hrows.own j hj) hbox (by decide) hgj
  have hg2 : g2 ≠ gc := by
    intro e'
    subst e'
    rcases hat with h1 | h1
    · exact h.cne 0 (by omega) h1
    · have := h.c_lt; have := hW.size; omega
  have hsz4 : w.heap.size ≤ w4.heap.size := Nat.le_trans hW.size hg.size
  refine ⟨by simp [World.cell?, hbox], by simp [World.frozen?, hbox], ?_, ?_⟩
  · refine ⟨by simp [World.setCell, Array.getElem?_modify, hbox]; exact (upd_same _ _ _).symm, h.qB, h.cB, by simpa [World.setCell] using Nat.le_trans h.sz hsz4, ?_, ?_, ?_, ?_⟩
    · refine h.come.keep ?_
      rw [heap_set_other _ _ _ (Ne.symm h.qc), hblk gc h.c_lt (h.cne 0 (by omega))]
    · have hl : ((List.range S.bks.length).map fun j => upd R 0 (.slice (some ⟨g2, 0, none⟩) (S.opn.length + 1) cap2) (j + 1)) = (List.range S.bks.length).map fun j => R (j + 1) := List.map_congr_left fun j _ => upd_other _ _ (by omega)
      show World.ownsRow _ B 29 1 bv S.bks.length _
      rw [hl]
      refine owns_keep h.bks fun g hgb => ?_
      rw [heap_set_other _ _ _ (fun e' => h.bv_q (by rw [hgb]; exact congrArg some e')), hblk g (h.bv_lt hgb).2 (fun e' => h.row_bv (by omega) e' hgb)]
    · exact hrows.keep fun j g hj hgj => heap_set_other _ _ _ (hgq j g hj hgj)
    · intro j hj
      by_cases hj0 : j = 0
      · subst hj0
        rw [upd_same]
        simp only [Value.ownBlock]
        intro e'
        exact hg2 (Option.some.inj e')
      · rw [upd_other _ _ hj0]
        exact h.cne j hj
  · refine ⟨hg.os.trans hW.os, hg.tape.trans hW.tape, hg.output.trans hW.output, by simpa [World.setCell] using hsz4, fun i hi h1 h2 h3 h4 => ?_, fun g hgg => ?_, fun g hgg => .inl hgg⟩
    · rw [heap_set_other _ _ _ h1, hblk i hi h3]
    · simp only [Value.ownBlock] at hgg
      have := Option.some.inj hgg
      subst this
      rcases hat with h1 | h1
      · exact .inl h1
      · exact .inr (by rw [h1]; exact hW.size)

/-- the edges that are open from some place on are a block -/
theorem Wk.cut {m : List Nat} {n g2 cap2 : Nat} {cv : Value} {wc : World} (h : Wk A B w q gc vb V S R bv) (hn : S.bks.length = n) (hwc : Below w.heap.size w wc) (hcv : wc.ownsRow w.heap.size 3 1 cv m.length (zcells (toIs m))) (hW : Below wc.heap.size wc W)
    (ho : w4.ownsRow B 29 1 (.slice (some ⟨g2, 0, none⟩) (n + 1) cap2) (n + 1) (((List.range n).map fun j => R (j + 1)) ++ [cv])) (hg : W.grownBy w4 bv.ownBlock) (hat : bv.ownBlock = some g2 ∨ g2 = W.heap.size) :
    w4.cell? ⟨q, 4, none⟩ = some bv ∧ w4.frozen? ⟨q, 4, none⟩ = false ∧ w4.cell? ⟨q, 3, none⟩ = some (R 0) ∧
      Wk A B (w4.setCell ⟨q, 4, none⟩ (.slice (some ⟨g2, 0, none⟩) (n + 1) cap2)) q gc vb V { S with bks := S.bks ++ [m] } (upd R (n + 1) cv) (.slice (some ⟨g2, 0, none⟩) (n + 1) cap2) ∧
      Fr q gc (R 0) bv w (R 0) (.slice (some ⟨g2, 0, none⟩) (n + 1) cap2) (w4.setCell ⟨q, 4, none⟩ (.slice (some ⟨g2, 0, none⟩) (n + 1) cap2)) := by
  subst hn
  have hB := h.B_le
  have hWw : Below w.heap.size w W := hwc.trans (hW.mono hwc.size)
  have hblk : ∀ i, i < w.heap.size → bv.ownBlock ≠ some i → w4.heap[i]? = w.heap[i]? := fun i hi hne => by
    rw [hg.block i (Nat.lt_of_lt_of_le hi hWw.size) (fun he => hne he.symm), hWw.block i hi]
  have hq4 : w4.heap[q]? = w.heap[q]? := hblk q h.q_lt h.bv_q
  have hbox := h.box
  rw [← hq4] at hbox
  have hcvb : ∀ g, cv.ownBlock = some g → w.heap.size ≤ g ∧ g < wc.heap.size := fun g hgc => hcv.lt g hgc
  have hcv4 : w4.ownsRow B 3 1 cv m.length (zcells (toIs m)) := by
    refine owns_mono (owns_keep hcv fun g hgc => ?_) hB
    obtain ⟨k1, k2⟩ := hcvb g hgc
    rw [hg.block g (Nat.lt_of_lt_of_le k2 hW.size) (fun e' => ?_), hW.block g k2]
    have := (h.bv_lt e'.symm).2
    omega
  have hR : ∀ j, j < S.bks.length + 1 → upd R (S.bks.length + 1) cv j = R j := fun j hj => upd_other _ _ (by omega)
  have hrows : Rows w4 B (S.bks.length + 1 + 1) (upd R (S.bks.length + 1) cv) (rowsOf { S with bks := S.bks ++ [m] }) := by
    refine ⟨fun j hj => ?_, fun i j hi hj hij g hgi => ?_⟩
    · by_cases hjl : j = S.bks.length + 1
      · subst hjl
        rw [upd_same, rowsOf_succ]
        have : (S.bks ++ [m]).getD S.bks.length [] = m := by simp [List.getD]
        rw [this]
        exact hcv4
      · rw [hR j (by omega)]
        have hrow : rowsOf { S with bks := S.bks ++ [m] } j = rowsOf S j := by
          cases j with
          | zero => rfl
          | succ j =>
            rw [rowsOf_succ, rowsOf_succ]
            simp [List.getD, List.getElem?_append, show j < S.bks.length by omega]
        rw [hrow]
        exact owns_keep (h.rows.own j (by omega)) fun g hgj => hblk g (h.row_lt (by omega) hgj).2 (h.row_bv (by omega) hgj)
    · by_cases hil : i = S.bks.length + 1
      · subst hil
        rw [upd_same] at hgi
        rw [hR j (by omega)]
        intro e'
        have := (h.row_lt (j := j) (by omega) e').2
        have := (hcvb g hgi).1
        omega
      · rw [hR i (by omega)] at hgi
        by_cases hjl : j = S.bks.length + 1
        · subst hjl
          rw [upd_same]
          intro e'
          have := (h.row_lt (j := i) (by omega) hgi).2
          have := (hcvb g e').1
          omega
        · rw [hR j (by omega)]
          exact h.rows.apart i j (by omega) (by omega) hij g hgi
  have hsz4 : w.heap.size ≤ w4.heap.size := Nat.le_trans hWw.size hg.size
  have hlen : ({ S with bks := S.bks ++ [m] } : Df.St).bks.length = S.bks.length + 1 := by simp
  refine ⟨by simp [World.cell?, hbox], by simp [World.frozen?, hbox], by simp [World.cell?, hbox], ?_, ?_⟩
  · refine ⟨by simp [World.setCell, Array.getElem?_modify, hbox]; exact (hR 0 (by omega)).symm, h.qB, h.cB, by simpa [World.setCell] using Nat.le_trans h.sz hsz4, ?_, ?_, ?_, ?_⟩
    · refine h.come.keep ?_
      rw [heap_set_other _ _ _ (Ne.symm h.qc), hblk gc h.c_lt h.bv_c]
    · have hl : ((List.range (S.bks.length + 1)).map fun j => upd R (S.bks.length + 1) cv (j + 1)) = ((List.range S.bks.length).map fun j => R (j + 1)) ++ [cv] := by
        rw [List.range_succ, List.map_append, List.map_singleton, upd_same]
        congr 1
        refine List.map_congr_left fun j hj => upd_other _ _ ?_
        have := List.mem_range.1 hj
        omega
      rw [hlen, hl]
      refine owns_keep ho fun g hgb => heap_set_other _ _ _ fun e' => owns_ne ho hbox (by decide) (by rw [hgb]; exact congrArg some e')
    · rw [hlen]
      exact hrows.keep fun j g hj hgj => heap_set_other _ _ _ fun e' => owns_ne (hrows.own j hj) hbox (by decide) (by rw [hgj]; exact congrArg some e')
    · intro j hj
      rw [hlen] at hj
      by_cases hjl : j = S.bks.length + 1
      · subst hjl
        rw [upd_same]
        intro e'
        have := (hcvb gc e').1
        have := h.c_lt
        omega
      · rw [hR j (by omega)]
        exact h.cne j (by omega)
  · refine ⟨hg.os.trans hWw.os, hg.tape.trans hWw.tape, hg.output.trans hWw.output, by simpa [World.setCell] using hsz4, fun i hi h1 h2 h3 h4 => ?_, fun g hgg => .inl hgg, fun g hgg => ?_⟩
    · rw [heap_set_other _ _ _ h1, hblk i hi h4]
    · simp only [Value.ownBlock] at hgg
      have := Option.some.inj hgg
      subst this
      rcases hat with h1 | h1
      · exact .inl h1
      · exact .inr (by rw [h1]; exact hWw.size)

/-- the open edges are cut short -/
theorem Wk.short {k g n c : Nat} (h : Wk A B w q gc vb V S R bv) (hk : k ≤ S.opn.length) (h0 : R 0 = .slice (some ⟨g, 0, none⟩) n c) :
    Wk A B (w.setCell ⟨q, 3, none⟩ (.slice (some ⟨g, 0, none⟩) k c)) q gc vb V { S with opn := S.opn.take k } (upd R 0 (.slice (some ⟨g, 0, none⟩) k c)) bv ∧
      Fr q gc (R 0) bv w (.slice (some ⟨g, 0, none⟩) k c) bv (w.setCell ⟨q, 3, none⟩ (.slice (some ⟨g, 0, none⟩) k c)) := by
  have hbox := h.box
  have hown := h.rows.own 0 (by omega)
  rw [h0, rowsOf_zero] at hown
  have hno : w.ownsRow B 3 1 (.slice (some ⟨g, 0, none⟩) k c) k (zcells (toIs (S.opn.take k))) := by
    rcases hown.2 with ⟨hv, _⟩ | ⟨g', cap, cur, hv, hb, hg, h1, h2, h3, h4⟩
    · simp at hv
    · simp only [Value.slice.injEq, Option.some.injEq, Addr.mk.injEq, and_true] at hv
      obtain ⟨rfl, hn, rfl⟩ := hv
      refine ⟨by simp [zcells, toIs]; omega, .inr ⟨g, c, cur, rfl, hb, hg, by omega, h2, h3, ?_⟩⟩
      have hz : zcells (toIs (S.opn.take k)) = (zcells (toIs S.opn)).take k := by simp [zcells, toIs, List.map_take]
      rw [hz, ← h4, List.take_take]
      congr 1
      omega
  have hob : (Value.slice (some ⟨g, 0, none⟩) k c).ownBlock = (R 0).ownBlock := by rw [h0]; rfl
  have hoth : ∀ j g', j < S.bks.length + 1 → (R j).ownBlock = some g' → (w.setCell ⟨q, 3, none⟩ (.slice (some ⟨g, 0, none⟩) k c)).heap[g']? = w.heap[g']? := fun j g' hj hg' => heap_set_other _ _ _ fun e' => h.row_q hj (by rw [hg']; exact congrArg some e')
  refine ⟨⟨by simp [World.setCell, Array.getElem?_modify, hbox]; exact (upd_same _ _ _).symm, h.qB, h.cB, by simpa [World.setCell] using h.sz, h.come.keep (heap_set_other _ _ _ (Ne.symm h.qc)), ?_, ⟨fun j hj => ?_, fun i j hi hj hij g' hgi => ?_⟩, fun j hj => ?_⟩, Fr.setq _ _ (fun g' hg' => by rw [← hob]; exact hg') fun g' hg' => hg'⟩
  · have hl : ((List.range S.bks.length).map fun j => upd R 0 (.slice (some ⟨g, 0, none⟩) k c) (j + 1)) = (List.range S.bks.length).map fun j => R (j + 1) := List.map_congr_left fun j _ => upd_other _ _ (by omega)
    show World.ownsRow _ B 29 1 bv S.bks.length _
    rw [hl]
    exact owns_keep h.bks fun g' hg' => heap_set_other _ _ _ fun e' => h.bv_q (by rw [hg']; exact congrArg some e')
  · by_cases hj0 : j = 0
    · subst hj0
      rw [upd_same, rowsOf_zero]
      show World.ownsRow _ B 3 1 _ (S.opn.take k).length _
      rw [show (S.opn.take k).length = k by simp; omega]
      exact owns_keep hno fun g' hg' => hoth 0 g' (by omega) (by rw [← hob]; exact hg')
    · rw [upd_other _ _ hj0]
      have hrow : rowsOf { S with opn := S.opn.take k } j = rowsOf S j := by
        cases j with
        | zero => omega
        | succ j => rfl
      rw [hrow]
      exact owns_keep (h.rows.own j hj) fun g' hg' => hoth j g' hj hg'
  · have hb : ∀ t, (upd R 0 (.slice (some ⟨g, 0, none⟩) k c) t).ownBlock = (R t).ownBlock := fun t => by
      by_cases ht : t = 0
      · subst ht; rw [upd_same]; exact hob
      · rw [upd_other _ _ ht]
    rw [hb] at hgi ⊢
    exact h.rows.apart i j hi hj hij g' hgi
  · by_cases hj0 : j = 0
    · subst hj0
      rw [upd_same, hob]
      exact h.cne 0 hj
    · rw [upd_other _ _ hj0]
      exact h.cne j hj
end
end Go.Proofs.Ytbecmaandhadhaa


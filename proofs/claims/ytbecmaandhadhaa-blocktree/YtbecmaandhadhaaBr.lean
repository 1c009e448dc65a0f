/-
  A walk's blocks in memory while they are sorted; the plain walk's sizes at its outer loop. No conditions beyond each theorem's own.
-/
import Derived.Test.YtbecmaandhadhaaWk
import Derived.Test.YtbecmaandhadhaaBs
namespace Go.Proofs.Ytbecmaandhadhaa
open Go.RowKit
set_option linter.unusedVariables false
set_option maxRecDepth 20000

theorem Df.out_sz {V : Nat} {es : Pl.Ed} (hg : Df.Gr V es) : ∀ k, k ≤ V → Df.Sz V es (Df.outF es V k) := by
  intro k
  induction k with
  | zero => exact fun _ => Df.sz_start V es _ rfl rfl rfl
  | succ k ih =>
    intro hk
    have h := ih (by omega)
    have ho := (Df.out_ou hg k (by omega)).1
    unfold Df.outF
    by_cases h0 : (Df.outF es V k).come k = 0
    · rw [if_pos h0]
      obtain ⟨p1, p2⟩ := ho.pre h0
      exact Df.from_sz hg (by omega) p1 p2 (Df.unv_bound V _) h
    · rw [if_neg h0]
      exact h
theorem Df.outF_pos {V : Nat} {es : Pl.Ed} {k : Nat} (h : (Df.outF es V k).come k = 0) : Df.outF es V (k + 1) = (Df.fromF es V k 0 (Df.outF es V k)).2 := by
  conv => lhs; unfold Df.outF
  rw [if_pos h]
theorem Df.outF_neg {V : Nat} {es : Pl.Ed} {k : Nat} (h : ¬ (Df.outF es V k).come k = 0) : Df.outF es V (k + 1) = Df.outF es V k := by
  conv => lhs; unfold Df.outF
  rw [if_neg h]

/-- the first k blocks are sorted -/
def bkK (L : List (List Nat)) (k : Nat) : List (List Nat) := (L.take k).map srt ++ L.drop k
theorem bkK_zero (L : List (List Nat)) : bkK L 0 = L := by simp [bkK]
theorem bkK_all (L : List (List Nat)) : bkK L L.length = L.map srt := by simp [bkK]
theorem bkK_length (L : List (List Nat)) (k : Nat) (hk : k ≤ L.length) : (bkK L k).length = L.length := by simp [bkK]; omega
theorem bkK_at {L : List (List Nat)} {k : Nat} (hk : k < L.length) : (bkK L k).getD k [] = L.getD k [] := by
  unfold bkK
  rw [List.getD_eq_getElem?_getD, List.getD_eq_getElem?_getD, List.getElem?_append_right (by simp; omega)]
  simp [List.length_take, Nat.min_eq_left (Nat.le_of_lt hk)]
theorem bkK_succ {L : List (List Nat)} {k : Nat} (hk : k < L.length) : bkK L (k + 1) = (bkK L k).set k (srt (L.getD k [])) := by
  unfold bkK
  rw [List.take_add_one, List.map_append, List.set_append_right _ _ (by simp; omega)]
  have h1 : k - ((L.take k).map srt).length = 0 := by simp; omega
  rw [h1, List.append_assoc]
  congr 1
  have h2 : L.drop k = L[k] :: L.drop (k + 1) := List.drop_eq_getElem_cons hk
  have h3 : L[k]?.toList.map srt = [srt L[k]] := by simp [hk]
  rw [h2, h3, List.set_cons_zero]
  simp [List.getD, hk]

theorem Wk.sortRow {A B : Nat} {w w' : World} {q gc vb V : Nat} {S : Df.St} {R : Nat → Value} {bv : Value} (h : Wk A B w q gc vb V S R bv) {k : Nat} (hk : k < S.bks.length) {ys : List Nat} (ho : w'.ownsRow B 3 1 (R (k + 1)) ys.length (zcells (toIs ys))) (hg : w.grownBy w' (R (k + 1)).ownBlock) :
    Wk A B w' q gc vb V { S with bks := S.bks.set k ys } R bv := by
  have hblk : ∀ i, i < w.heap.size → (R (k + 1)).ownBlock ≠ some i → w'.heap[i]? = w.heap[i]? := fun i hi hne => hg.block i hi fun e => hne e.symm
  have hlen : ({ S with bks := S.bks.set k ys } : Df.St).bks.length = S.bks.length := by simp
  refine ⟨?_, h.qB, h.cB, Nat.le_trans h.sz hg.size, h.come.keep (hblk gc h.c_lt (h.cne _ (by omega))), ?_, ?_, ?_⟩
  · rw [hblk q h.q_lt (h.row_q (by omega))]
    exact h.box
  · rw [hlen]
    exact owns_keep h.bks fun g hg' => hblk g (h.bv_lt hg').2 fun e => h.row_bv (by omega) e hg'
  · rw [hlen]
    refine ⟨fun j hj => ?_, h.rows.apart⟩
    by_cases hjk : j = k + 1
    · subst hjk
      have : rowsOf { S with bks := S.bks.set k ys } (k + 1) = ys := by
        rw [rowsOf_succ]
        simp [List.getD, hk]
      rw [this]
      exact ho
    · have : rowsOf { S with bks := S.bks.set k ys } j = rowsOf S j := by
        cases j with
        | zero => rfl
        | succ j =>
          rw [rowsOf_succ, rowsOf_succ]
          simp only [List.getD_eq_getElem?_getD]
          rw [List.getElem?_set_ne (by omega)]
      rw [this]
      exact owns_keep (h.rows.own j hj) fun g hg' => hblk g (h.row_lt hj hg').2 fun e => h.rows.apart (k + 1) j (by omega) hj (by omega) g e hg'
  · rw [hlen]
    exact h.cne
/-- a slice of slices of ints: the k-th holds L k, and lies at AK k -/
def RsU (w : World) (a : Option Addr) (n : Nat) (L : Nat → List Nat) (AK : Nat → Option Addr) (CK : Nat → Nat) : Prop :=
  ∀ k, k < n → ∃ g off, a = some ⟨g, off, none⟩ ∧ g < w.heap.size ∧ w.cell? ⟨g, off + k, none⟩ = some (.slice (AK k) (L k).length (CK k)) ∧ (L k).length ≤ CK k ∧ (AK k = none → CK k = 0) ∧ Ns w (AK k) (L k).length (toIs (L k))
theorem RsU.rs {w : World} {a : Option Addr} {n : Nat} {L : Nat → List Nat} {AK : Nat → Option Addr} {CK : Nat → Nat} (h : RsU w a n L AK CK) : Rs w a n L := fun k hk => by
  obtain ⟨g, off, h1, h2, h3, h4, h5, h6⟩ := h k hk
  exact ⟨g, off, AK k, CK k, h1, h2, h3, h4, h5, h6⟩
def addrOf : Value → Option Addr
  | .slice a _ _ => a
  | _ => none
def capOf : Value → Nat
  | .slice _ _ c => c
  | _ => 0
/-- the blocks' own row, in another order -/
theorem Wk.lists {A B : Nat} {w w' : World} {q gc vb V : Nat} {S : Df.St} {R : Nat → Value} {bv : Value} (h : Wk A B w q gc vb V S R bv) {p : List Nat} (hp : p.Perm (List.range S.bks.length)) (ho : w'.ownsRow B 29 1 bv S.bks.length (p.map fun j => R (j + 1))) (hg : w.grownBy w' bv.ownBlock)
    (hb : S.bks.length ≤ 1000) (hl : ∀ C ∈ S.bks, C.length ≤ 1000) : ∃ a c, bv = .slice a S.bks.length c ∧ (a = none → S.bks.length = 0 ∧ c = 0) ∧ S.bks.length ≤ c ∧ ∃ AK CK, ∀ W, w'.heap.size ≤ W.heap.size → Kp B w' W → RsU W a S.bks.length (fun k => (p.map fun j => S.bks.getD j []).getD k []) AK CK := by
  have hpl : p.length = S.bks.length := by rw [hp.length_eq]; simp
  rcases ho.2 with ⟨h1, h2⟩ | ⟨g, cap, cur, h1, h2, h3, h4, h5, h6, h7⟩
  · refine ⟨none, 0, by rw [h1, h2], fun _ => ⟨h2, rfl⟩, by omega, fun _ => none, fun _ => 0, fun W _ _ k hk => by omega⟩
  · refine ⟨_, cap, h1, (fun e => by cases e), h4, fun k => addrOf (R (p.getD k 0 + 1)), fun k => capOf (R (p.getD k 0 + 1)), fun W hsW hKW k hk => ?_⟩
    have hkp : k < p.length := by omega
    have hj : p[k] < S.bks.length := List.mem_range.1 (hp.mem_iff.1 (List.getElem_mem hkp))
    have hrow := h.rows.own (p[k] + 1) (by omega)
    rw [rowsOf_succ] at hrow
    have hcl : (S.bks.getD p[k] []).length ≤ 1000 := hl _ (by simp [List.getD, hj])
    have hrow1 : w'.ownsRow B 3 1 (R (p[k] + 1)) (S.bks.getD p[k] []).length (zcells (toIs (S.bks.getD p[k] []))) :=
      owns_keep hrow fun g' hg' => hg.block g' (h.row_lt (by omega) hg').2 fun e => h.row_bv (by omega) hg' e.symm
    have hrow' : W.ownsRow B 3 1 (R (p[k] + 1)) (S.bks.getD p[k] []).length (zcells (toIs (S.bks.getD p[k] []))) :=
      owns_keep hrow1 fun g' hg' => hKW g' (hrow1.lt g' hg').1 (hrow1.lt g' hg').2
    replace ho : W.ownsRow B 29 1 bv S.bks.length (p.map fun j => R (j + 1)) := owns_keep ho fun g' hg' => hKW g' (ho.lt g' hg').1 (ho.lt g' hg').2
    obtain ⟨a', c', hv, hc', hN⟩ := ns_of_owns hrow' (by omega)
    have hL : (p.map fun j => S.bks.getD j []).getD k [] = S.bks.getD p[k] [] := by simp [List.getD, hkp]
    rw [h1] at ho
    have hpk : p.getD k 0 = p[k] := by simp [List.getD, hkp]
    simp only [hpk, hv, addrOf, capOf]
    refine ⟨g, 0, rfl, Nat.lt_of_lt_of_le (heap_lt h3) hsW, ?_, ?_, ?_, ?_⟩
    · rw [Nat.zero_add, ho.cellAt k (by omega), hL, ← hv]
      simp [hkp]
    · rw [hL]; exact hc'
    · intro e
      subst e
      rw [hv] at hrow'
      exact none_cap hrow'
    · rw [hL]; exact hN
end Go.Proofs.Ytbecmaandhadhaa


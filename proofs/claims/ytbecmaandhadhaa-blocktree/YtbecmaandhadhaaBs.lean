/-
  Plain mathematics: the blocks, each rising, by their least edges: they are one list, whichever way they were found. No conditions beyond each theorem's own.
-/
import Derived.Test.YtbecmaandhadhaaDm
import Derived.Test.YtbecmaandhadhaaBase
namespace Go.Proofs.Ytbecmaandhadhaa
open Go.Proofs.Ytbecmaandhadhaa.Pl Go.Proofs.Ytbecmaandhadhaa.Df
set_option linter.unusedVariables false

/-- numbers, rising -/
def srt (B : List Nat) : List Nat := ((toIs B).mergeSort fun x y => decide (x ≤ y)).map Int.toNat
theorem toIs_srt (B : List Nat) : toIs (srt B) = (toIs B).mergeSort fun x y => decide (x ≤ y) := by
  unfold srt
  have h : ∀ x ∈ (toIs B).mergeSort fun x y => decide (x ≤ y), 0 ≤ x := by
    intro x hx
    have hx2 := (List.mergeSort_perm _ _).mem_iff.1 hx
    simp [toIs] at hx2
    obtain ⟨a, _, rfl⟩ := hx2
    omega
  generalize (toIs B).mergeSort (fun x y => decide (x ≤ y)) = l at h
  unfold toIs
  rw [List.map_map]
  conv => rhs; rw [← List.map_id l]
  refine List.map_congr_left fun x hx => ?_
  have := h x hx
  simp
  omega
theorem srt_perm (B : List Nat) : (srt B).Perm B := by
  have h := (List.mergeSort_perm (toIs B) fun x y => decide (x ≤ y)).map Int.toNat
  have e : (toIs B).map Int.toNat = B := by
    unfold toIs
    rw [List.map_map]
    conv => rhs; rw [← List.map_id B]
    refine List.map_congr_left fun x _ => ?_
    simp
  rw [e] at h
  exact h
theorem srt_le (B : List Nat) : (srt B).Pairwise (· ≤ ·) := by
  have h := List.pairwise_mergeSort (le := fun x y : Int => decide (x ≤ y)) (fun a b c h1 h2 => by simp at *; omega) (fun a b => by simp; omega) (toIs B)
  unfold srt
  rw [List.pairwise_map]
  refine h.imp fun {a b} hab => ?_
  simp at hab
  omega
theorem srt_lt {B : List Nat} (h : B.Nodup) : (srt B).Pairwise (· < ·) := by
  have h1 := srt_le B
  have h2 : (srt B).Nodup := (srt_perm B).nodup_iff.2 h
  have h3 := h1.and h2
  exact h3.imp fun {a b} ⟨x, y⟩ => by omega

/-- the blocks, each rising, by their least edges -/
structure IsBl (es : Ed) (L : List (List Nat)) : Prop where
  cls : Cls es.length (Bk es) L
  srt : ∀ B ∈ L, B.Pairwise (· < ·)
  ord : L.Pairwise fun A B => A.getD 0 0 < B.getD 0 0
theorem IsBl.sub {es : Ed} {L L' : List (List Nat)} (h : IsBl es L) (h' : IsBl es L') {B : List Nat} (hB : B ∈ L) : B ∈ L' := by
  obtain ⟨i, hi⟩ := List.exists_mem_of_ne_nil B (h.cls.ne B hB)
  have him : i < es.length := (h.cls.mem i).1 (List.mem_flatten.2 ⟨B, hB, hi⟩)
  obtain ⟨C, hC, hiC⟩ := List.mem_flatten.1 ((h'.cls.mem i).2 him)
  have hmem : ∀ j, j ∈ B ↔ j ∈ C := by
    intro j
    constructor
    · intro hj
      have hjm : j < es.length := (h.cls.mem j).1 (List.mem_flatten.2 ⟨B, hB, hj⟩)
      exact (h'.cls.cls C hC i hiC j hjm).2 ((h.cls.cls B hB i hi j hjm).1 hj)
    · intro hj
      have hjm : j < es.length := (h'.cls.mem j).1 (List.mem_flatten.2 ⟨C, hC, hj⟩)
      exact (h.cls.cls B hB i hi j hjm).2 ((h'.cls.cls C hC i hiC j hjm).1 hj)
  have nd : ∀ {l : List Nat}, l.Pairwise (· < ·) → l.Nodup := fun hl => hl.imp fun {a b} hab => by omega
  have hp : B.Perm C := (List.perm_ext_iff_of_nodup (nd (h.srt B hB)) (nd (h'.srt C hC))).2 hmem
  have : B = C := List.Perm.eq_of_pairwise (le := (· < ·)) (fun a b _ _ h1 h2 => by omega) (h.srt B hB) (h'.srt C hC) hp
  rw [this]
  exact hC
theorem IsBl.one {es : Ed} {L L' : List (List Nat)} (h : IsBl es L) (h' : IsBl es L') : L = L' := by
  have nd : ∀ {L : List (List Nat)}, IsBl es L → L.Nodup := fun {L} hl => hl.ord.imp fun {a b} hab e => by subst e; omega
  have hp : L.Perm L' := (List.perm_ext_iff_of_nodup (nd h) (nd h')).2 fun B => ⟨fun hB => h.sub h' hB, fun hB => h'.sub h hB⟩
  exact List.Perm.eq_of_pairwise (le := fun A B => A.getD 0 0 < B.getD 0 0) (fun a b _ _ h1 h2 => by omega) h.ord h'.ord hp
theorem head_mem {B : List Nat} (h : B ≠ []) : B.getD 0 0 ∈ B := by
  cases B with
  | nil => exact absurd rfl h
  | cons a l => simp
theorem isBl_of_perm {es : Ed} {L0 L : List (List Nat)} (h : Cls es.length (Bk es) L0) (hp : L.Perm (L0.map srt)) (ho : L.Pairwise fun A B => A.getD 0 0 ≤ B.getD 0 0) : IsBl es L := by
  have hf0 : ∀ (M : List (List Nat)), (M.map srt).flatten.Perm M.flatten := by
    intro M
    induction M with
    | nil => exact List.Perm.refl _
    | cons A M ih =>
      rw [List.map_cons, List.flatten_cons, List.flatten_cons]
      exact (srt_perm A).append ih
  have hfl : L.flatten.Perm L0.flatten := hp.flatten.trans (hf0 L0)
  have hnd : L.flatten.Nodup := hfl.nodup_iff.2 h.nd
  have hof : ∀ B ∈ L, ∃ C ∈ L0, B = srt C := fun B hB => by
    obtain ⟨C, hC, e⟩ := List.mem_map.1 (hp.mem_iff.1 hB)
    exact ⟨C, hC, e.symm⟩
  have hcls : Cls es.length (Bk es) L := by
    refine ⟨hnd, fun e => by rw [hfl.mem_iff]; exact h.mem e, fun B hB => ?_, fun B hB i hi j hj => ?_⟩
    · obtain ⟨C, hC, rfl⟩ := hof B hB
      intro e
      have := (srt_perm C).length_eq
      rw [e] at this
      exact h.ne C hC (List.length_eq_zero_iff.1 this.symm)
    · obtain ⟨C, hC, rfl⟩ := hof B hB
      rw [(srt_perm C).mem_iff]
      exact h.cls C hC i ((srt_perm C).mem_iff.1 hi) j hj
  have hsrt : ∀ B ∈ L, B.Pairwise (· < ·) := by
    intro B hB
    obtain ⟨C, hC, rfl⟩ := hof B hB
    refine srt_lt ?_
    have := List.pairwise_flatten.1 h.nd
    exact this.1 C hC
  refine ⟨hcls, hsrt, ?_⟩
  have hpw := (List.pairwise_flatten.1 hnd).2
  have hmm : L.Pairwise fun A B => A ∈ L ∧ B ∈ L := by
    rw [List.pairwise_iff_getElem]
    intro i j hi hj _
    exact ⟨List.getElem_mem hi, List.getElem_mem hj⟩
  refine ((ho.and hpw).and hmm).imp fun {A B} ⟨⟨h1, h2⟩, h3, h4⟩ => ?_
  have := h2 _ (head_mem (hcls.ne A h3)) _ (head_mem (hcls.ne B h4))
  omega
theorem isBl_ex {V : Nat} {es : Ed} (hg : Gr V es) : ∃ L, IsBl es L := by
  refine ⟨(((outF es V V).bks.map srt).mergeSort fun A B => decide (A.getD 0 0 ≤ B.getD 0 0)), isBl_of_perm (out_cls hg) (List.mergeSort_perm _ _) ?_⟩
  have h := List.pairwise_mergeSort (le := fun A B : List Nat => decide (A.getD 0 0 ≤ B.getD 0 0)) (fun a b c h1 h2 => by simp only [decide_eq_true_eq] at *; omega) (fun a b => by simp only [Bool.or_eq_true, decide_eq_true_eq]; omega) ((outF es V V).bks.map srt)
  exact h.imp fun {a b} hab => by simpa using hab
end Go.Proofs.Ytbecmaandhadhaa

